/-
  A list, an object or a text that is cut off ends too early, at its end (or with a number that may not be, so far): ReaderShort's pure half. No program.
  A decimal that a text tells may be. Pure, no program.
-/
import Derived.Test.YtpjllcengnolkaaGreatDoorSRcutv
import Derived.Test.YtpjllcengnolkaaGreatDoorSDpar
import Derived.Test.YtpjllcengnolkaaGreatDoorSVcm
set_option linter.unusedVariables false
set_option linter.unusedSimpArgs false
namespace Go.Proofs.YtpjllcengnolkaaGreatDoor
open Go.Lib

/-- Reading that ends with an octet that is no white space, behind another. -/
def Ends {α : Type} (F : Rd1 α) : Prop := ∀ b p a q, p < b.length → F b p = .ok a q → p + 2 ≤ q ∧ ∃ c, b[q - 1]? = some c ∧ isWs c = false
/-- A list, an object or a text, if it is one, ends with no white space, and too early when cut off within. -/
structure S4 (F : Rd1 VT) : Prop where
  ends : ∀ b p v q, p < b.length → F b p = .ok v q → 4 ≤ v.kind → p + 2 ≤ q ∧ q ≤ b.length ∧ ∃ c, b[q - 1]? = some c ∧ isWs c = false
  cut : ∀ b p v q n, p < n → n ≤ b.length → F b p = .ok v q → 4 ≤ v.kind → n < q → Early n (F (b.take n) p)
theorem S4.low {F : Rd1 VT} (h : ∀ b p v q, F b p = .ok v q → v.kind < 4) : S4 F :=
  ⟨fun b p v q hp hf hk => by have := h b p v q hf; omega, fun b p v q n hp hn hf hk => by have := h b p v q hf; omega⟩
theorem S4.of {F : Rd1 VT} (h : E2 F) (he : Ends F) : S4 F :=
  ⟨fun b p v q hp hf _ => ⟨(he b p v q hp hf).1, (h.up b p v q hp hf).2, (he b p v q hp hf).2⟩, fun b p v q n hp hn hf _ hq => h.cut b p v q n hp hn hf hq⟩
theorem S4.ite {c : Prop} [Decidable c] {F G : Rd1 VT} (hF : S4 F) (hG : S4 G) : S4 (if c then F else G) := by
  by_cases h : c
  · rw [if_pos h]; exact hF
  · rw [if_neg h]; exact hG
theorem S4.stay {α : Type} {F : Rd1 α} {G : α → Rd1 VT} (hF : Stay F) (hG : ∀ a, S4 (G a)) : S4 (rAt F G) := by
  refine ⟨fun b p v q hp h hk => ?_, fun b p v q n hp hn h hk hq => ?_⟩ <;> obtain ⟨a, r, hf, hg⟩ := bind_ok h <;> obtain rfl := hF.still b p a r hf
  · exact (hG a).ends b r v q hp hg hk
  · have h2 := (hG a).cut b r v q n hp hn hg hk hq
    unfold rAt
    rw [hF.same b r n hp hn, hf]
    exact h2
theorem chars_end : ∀ (n : Nat) (acc : List UInt8) (b : List UInt8) (p : Nat) (t : List UInt8) (q : Nat), rChars n acc b p = .ok t q → 1 ≤ q ∧ b[q - 1]? = some 34
  | 0, acc, b, p, t, q, h => by unfold rChars rFail at h; cases h
  | n + 1, acc, b, p, t, q, h => by
    unfold rChars at h
    obtain ⟨c, r, h1, h2⟩ := bind_ok h
    obtain rfl := Stay.peek.still b p c r h1
    split at h2
    · rename_i hc
      injection h2 with _ h3
      subst h3
      refine ⟨by omega, ?_⟩
      unfold rPeek at h1
      cases hb : b[r]? with
      | none => rw [hb] at h1; cases h1
      | some d =>
        rw [hb] at h1
        injection h1 with h4 _
        subst h4
        rw [Nat.add_sub_cancel, hb]
        simpa using hc
    · obtain ⟨x, s, h3, h4⟩ := bind_ok h2
      exact chars_end n _ b s t q h4
theorem Ends.text : Ends (rAt rText fun t => rPure (.mk 4 false [] 0 t [] [] : VT)) := fun b p v q hp h => by
  obtain ⟨t, r, h1, h2⟩ := bind_ok h
  unfold rPure at h2
  injection h2 with _ h3
  subst h3
  unfold rText at h1
  cases hf : rChars fuelR [] b (p + 1) with
  | bad q1 e => rw [hf] at h1; cases h1
  | ok t1 q1 =>
    rw [hf] at h1
    simp only [RR.bind] at h1
    split at h1
    · cases h1
    · injection h1 with _ h3
      subst h3
      have h4 := chars_end _ _ _ _ _ _ hf
      have h5 : p + 1 < q1 := by
        rcases Nat.lt_or_ge (p + 1) b.length with hl | hl
        · have hE : E2 (rChars fuelR []) := by
            unfold fuelR
            rw [show (70000 : Nat) = 69999 + 1 from rfl]
            unfold rChars
            exact E2.see fun c => E2.ite (E2.step _) (E2.at' E2.char fun x => C2.chars _ _)
          exact (hE.up b (p + 1) t1 q1 hl hf).1
        · have e : p + 1 = b.length := by omega
          have hN : Needs (rChars fuelR []) := by
            unfold fuelR
            rw [show (70000 : Nat) = 69999 + 1 from rfl]
            unfold rChars
            exact Needs.see
          rw [e, hN b] at hf
          cases hf
      exact ⟨by omega, 34, h4.2, by decide⟩
theorem items_end {α : Type} {end_ : UInt8} {item : Nat → Rd1 α} : ∀ (n nth : Nat) (b : List UInt8) (p : Nat) (l : List α) (q : Nat), rItemsF end_ item n nth b p = .ok l q → 1 ≤ q ∧ b[q - 1]? = some end_
  | 0, nth, b, p, l, q, h => by unfold rItemsF rFail at h; cases h
  | n + 1, nth, b, p, l, q, h => by
    unfold rItemsF at h
    obtain ⟨c, r, h1, h2⟩ := bind_ok h
    obtain rfl := Stay.peek.still b p c r h1
    split at h2
    · rename_i hc
      injection h2 with _ h3
      subst h3
      refine ⟨by omega, ?_⟩
      unfold rPeek at h1
      cases hb : b[r]? with
      | none => rw [hb] at h1; cases h1
      | some d =>
        rw [hb] at h1
        injection h1 with h4 _
        subst h4
        rw [Nat.add_sub_cancel, hb]
        simpa using hc
    · obtain ⟨x1, s1, -, h2⟩ := bind_ok h2
      obtain ⟨x2, s2, -, h2⟩ := bind_ok h2
      obtain ⟨x3, s3, -, h2⟩ := bind_ok h2
      obtain ⟨x4, s4, h3, h2⟩ := bind_ok h2
      unfold rPure at h2
      injection h2 with _ h5
      subst h5
      exact items_end n _ b s3 x4 s4 h3
theorem Ends.items {α : Type} {end_ : UInt8} {item : Nat → Rd1 α} (hi : ∀ nth, E3 (item nth)) (hn : ∀ nth, Needs (item nth)) (he : isWs end_ = false) (g : List α → VT) : Ends (fun b p => (rItems end_ item b p).bind fun l q => rHeld p (g l) b q) := fun b p v q hp h => by
  simp only at h
  cases hf : rItems end_ item b p with
  | bad q1 e => rw [hf] at h; cases h
  | ok l q1 =>
    rw [hf] at h
    have hq : q = q1 := by
      simp only [RR.bind] at h
      unfold rHeld at h
      split at h
      · cases h
      · injection h with _ h3; exact h3.symm
    subst hq
    unfold rItems at hf
    obtain ⟨u, r, h1, h2⟩ := bind_ok hf
    have h4 := items_end _ _ _ _ _ _ h2
    have h6 := (C3.skips isWs).up b (p + 1) u r (by omega) h1
    have h5 : r < q := by
      rcases Nat.lt_or_ge r b.length with hl | hl
      · have hE : E2 (rItemsF end_ item fuelR 1) := by
          refine E2.of (C2.items hi hn fuelR 1) fun b p a q hp h => ?_
          have hk : p ≤ q := ((C2.items (end_ := end_) hi hn fuelR 1).up b p a q (by omega) h).1
          rcases Nat.lt_or_ge p q with hl | hl
          · exact hl
          · exfalso
            obtain rfl : q = p := by omega
            have hcut := (C2.items (end_ := end_) hi hn fuelR 1).back b q a q q (Nat.le_refl _) (by omega) h (Nat.le_refl _)
            have hnn := items_needs end_ item fuelR 1 (b.take q)
            rw [take_len (by omega), hcut] at hnn
            cases hnn
        exact (hE.up b r l q hl h2).1
      · obtain rfl : r = b.length := by omega
        rw [items_needs end_ item fuelR 1 b] at h2
        cases h2
    exact ⟨by omega, end_, h4.2, he⟩
theorem low_kind {c : UInt8} : S4 (if c == 110 then rAt (rWord [110, 117, 108, 108]) fun _ => rPure (numT0 0) else if c == 102 then rAt (rWord [102, 97, 108, 115, 101]) fun _ => rPure (numT0 1) else if c == 116 then rAt (rWord [116, 114, 117, 101]) fun _ => rPure (numT0 2) else rNumber) := by
  have hw : ∀ (w : List UInt8) (k : Int), k < 4 → S4 (rAt (rWord w) fun _ => rPure (numT0 k)) := fun w k hk => S4.low fun b p v q h => by
    obtain ⟨u, r, -, h2⟩ := bind_ok h
    unfold rPure at h2
    injection h2 with h3 _
    rw [← h3]
    exact hk
  refine S4.ite (hw _ 0 (by decide)) (S4.ite (hw _ 1 (by decide)) (S4.ite (hw _ 2 (by decide)) (S4.low fun b p v q h => ?_)))
  rw [(number_got h).2.2.2]
  show (3 : Int) < 4
  decide
theorem S4.value (mk : List (ByteArray × VT) → VT) (k nth : Nat) : S4 (rValue mk k nth) := by
  cases k with
  | zero =>
    unfold rValue
    exact S4.stay (Stay.begin 0 nth) fun _ => S4.stay Stay.peek fun c => S4.ite (S4.of E2.texts Ends.text) low_kind
  | succ k =>
    have ih := E3.value mk k
    have hn := value_needs mk k
    unfold rValue
    exact S4.stay (Stay.begin (k + 1) nth) fun _ => S4.stay Stay.peek fun c =>
      S4.ite (S4.of (E2.held (E2.items ih hn) _) (Ends.items ih hn (by decide) _))
        (S4.ite (S4.of (E2.held (E2.items (E2.pair mk k ih) fun n => Needs.see.at) _) (Ends.items (E2.pair mk k ih) (fun n => Needs.see.at) (by decide) _))
          (S4.ite (S4.of E2.texts Ends.text) low_kind))
/-- A list, an object or a text that was read whole, cut off behind its first octet and ahead of its last. -/
theorem rRead_short (mk : List (ByteArray × VT) → VT) {b : List UInt8} {v : VT} {k : Nat} (h : rRead mk b = (v, k, 0)) (hk : 4 ≤ v.kind) :
    ∃ to_, (b.takeWhile isWs).length + 2 ≤ to_ ∧ to_ ≤ b.length ∧ (∃ c, b[to_ - 1]? = some c ∧ isWs c = false) ∧ (∀ c ∈ b.drop to_, isWs c = true) ∧
      ∀ n, (b.takeWhile isWs).length < n → n < to_ → rRead mk (b.take n) = (noV, n, 8) ∨ ∃ q e, rRead mk (b.take n) = (noV, q, e) ∧ NumE e := by
  have hno : ¬ 4 ≤ noV.kind := by show ¬ (4 : Int) ≤ 0; decide
  have htw := twB_le (f := isWs) b
  unfold rRead at h
  by_cases hL : 65536 < b.length
  · rw [if_pos hL] at h
    injection h with h1 _
    rw [← h1] at hk; exact absurd hk hno
  · rw [if_neg hL] at h
    cases hx : rNext mk b 0 with
    | bad q e =>
      rw [hx] at h
      injection h with h1 _
      rw [← h1] at hk; exact absurd hk hno
    | ok o q =>
      cases o with
      | none =>
        rw [hx] at h
        injection h with h1 _
        rw [← h1] at hk; exact absurd hk hno
      | some w =>
        rw [hx] at h
        simp only at h
        split at h
        · injection h with h1 _
          rw [← h1] at hk; exact absurd hk hno
        · rename_i hq
          injection h with h1 _
          subst h1
          unfold rNext at hx
          rw [List.drop_zero] at hx
          split at hx
          · cases hx
          · rename_i hne
            cases hv : rValue mk 64 1 b (0 + (b.takeWhile isWs).length) with
            | bad q1 e => rw [hv] at hx; cases hx
            | ok w1 q1 =>
              rw [hv] at hx
              simp only [RR.bind] at hx
              injection hx with h2 h3
              injection h2 with h2
              subst h2 h3
              have h4 := (S4.value mk 64 1).ends b _ w1 q1 (by omega) hv hk
              refine ⟨q1, by omega, h4.2.1, h4.2.2, ?_, fun n hn hnq => ?_⟩
              · have hall : ((b.drop q1).takeWhile isWs).length = (b.drop q1).length := by
                  have := twB_le (f := isWs) (b.drop q1)
                  rw [List.length_drop] at this ⊢
                  omega
                have heq : (b.drop q1).takeWhile isWs = b.drop q1 := (List.takeWhile_sublist isWs).eq_of_length hall
                intro c hc
                rw [← heq] at hc
                exact List.all_eq_true.1 List.all_takeWhile c hc
              · have h5 := (S4.value mk 64 1).cut b _ w1 q1 n (by omega) (by omega) hv hk hnq
                have hN : rNext mk (b.take n) 0 = (rValue mk 64 1 (b.take n) (0 + (b.takeWhile isWs).length)).bind fun v q => .ok (some v) q := by
                  unfold rNext
                  rw [List.drop_zero, tw_take, take_len (by omega), Nat.min_eq_right (by omega), if_neg (by omega)]
                unfold rRead
                rw [if_neg (by rw [take_len (by omega)]; omega), hN]
                rcases h5 with h5 | ⟨q2, e, h5, he⟩
                · left; rw [h5]; rfl
                · right; exact ⟨q2, e, by rw [h5]; rfl, he⟩
end Go.Proofs.YtpjllcengnolkaaGreatDoor

namespace Go.Proofs.YtpjllcengnolkaaGreatDoor
open Go.RowKit

theorem allDig_app2 {a b : List Nat} (ha : allDig a = true) (hb : allDig b = true) : allDig (a ++ b) = true := by
  unfold allDig at ha hb ⊢
  rw [List.all_append, ha, hb]; rfl
theorem lz_le3 (ds : List Nat) : lz ds ≤ ds.length := lz_le ds
theorem f_may2 {T : List Nat} (h : fE T = 0) : okB (fN T) (fZ T) (fX T) = true := by
  unfold fE at h
  by_cases hg : fGood T
  · unfold fN fZ fX
    rw [if_pos hg] at h ⊢
    rw [if_pos hg, if_pos hg]
    by_cases hb : 1000000 ≤ (tPow T).2
    · obtain ⟨g1, _⟩ := g_big hb
      rw [g1] at h
      exact absurd h (by omega)
    · obtain ⟨g1, g2, g3, g4⟩ := g_small (xs := T) (by omega)
      rw [g1] at h
      rw [g2, g3, g4]
      obtain ⟨sg, wh, fr, pw, hP⟩ := form_parts hg.1
      obtain ⟨f, hfa, hf2, hm1, hm2⟩ := mfold_parts hP
      have hcut : cutE T = sg ++ (wh ++ fr) := by
        have he := hP.eq
        rcases hP.pw with e | ⟨x, s, p, e1, he2, _⟩
        · rw [e] at he
          rw [he]
          have := cutE_plain (mant_octs hP)
          simpa using this
        · rw [e1] at he
          have := cutE_at (mant_octs hP) he2 (s ++ p)
          rw [he]
          simpa using this
      have hl : wh.length + f.length ≤ T.length := by
        have := congrArg List.length hP.eq
        simp only [List.length_append] at this
        rcases hf2 with ⟨_, e⟩ | e
        · rw [e]; simp; omega
        · rw [e, List.length_cons] at this; omega
      obtain ⟨K, hK⟩ : ∃ K : Nat, K = 2000 := ⟨_, rfl⟩
      have hv : tVal T < 10 ^ K := by
        have e : tVal T = pnum (wh ++ f) := by
          unfold tVal tMan
          rw [hcut, hm1]
          exact dval_pnum _
        rw [e]
        have h1 := pnum_lt (allDig_app2 hP.wh.1 hfa)
        have h2 : 10 ^ (wh ++ f).length ≤ 10 ^ K := Nat.pow_le_pow_right (by omega) (by rw [List.length_append, hK]; have := hg.2; omega)
        omega
      by_cases hz : tVal T = 0
      · obtain ⟨z1, z2, z3, z4⟩ := st_zero (tNeg T) (tExp T)
        rw [hz, z2, z3, z4]; decide
      · have hlo : -5000 ≤ tExp T := by
          have hd : (dOf (tVal T)).length ≤ K := by
            obtain ⟨d1, d2⟩ := dgOf_ok (tVal T) (tVal T) (Nat.le_refl _)
            refine DCan.len_le (ds := dOf (tVal T)) d1 ?_
            have e : dval (dOf (tVal T)) = tVal T := d2
            rw [e]; exact hv
          have hz2 : lz (dOf (tVal T)) ≤ (dOf (tVal T)).length := lz_le3 _
          unfold stE at h
          rw [if_neg hz] at h
          by_cases c1 : 300 < (cf (tVal T)).length
          · rw [if_pos c1] at h; omega
          · rw [if_neg c1] at h
            by_cases c2 : -1000 ≤ tExp T + (lz (dOf (tVal T)) : Int) ∧ tExp T + (lz (dOf (tVal T)) : Int) ≤ 1000
            · omega
            · rw [if_neg c2] at h; omega
        exact (settle_may hlo h).1
  · rw [if_neg hg] at h
    split at h <;> exact absurd h (by omega)
end Go.Proofs.YtpjllcengnolkaaGreatDoor
