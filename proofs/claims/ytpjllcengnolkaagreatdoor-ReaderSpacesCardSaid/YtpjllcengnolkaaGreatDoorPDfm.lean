/-
  A numeral's octets have a number's form, so that what is told of it is no 32. Pure, no program.
  What is cut off within: numbers, values; a text that is cut off. Pure, no program.
  A decimal that a text tells may be. Pure, no program.
-/
import Derived.Test.YtpjllcengnolkaaGreatDoorPRcutc
import Derived.Test.YtpjllcengnolkaaGreatDoorPRspaces
import Derived.Test.YtpjllcengnolkaaGreatDoorPDpar
import Derived.Test.YtpjllcengnolkaaGreatDoorPVcpy
set_option linter.unusedVariables false
set_option linter.unusedSimpArgs false
namespace Go.Proofs.YtpjllcengnolkaaGreatDoor
open Go.Lib

theorem dg_N (c : UInt8) : isDig c.toNat = isDg c := by
  have h1 : (48 ≤ c) ↔ 48 ≤ c.toNat := by rw [UInt8.le_iff_toNat_le]; rfl
  have h2 : (c ≤ 57) ↔ c.toNat ≤ 57 := by rw [UInt8.le_iff_toNat_le]; rfl
  unfold isDig isDg
  rw [Bool.eq_iff_iff]
  simp only [decide_eq_true_eq, Bool.and_eq_true, h1, h2]
theorem nth_in {b : List UInt8} {p q i : Nat} {c : UInt8} (h : b[p + i]? = some c) (hq : p + i < q) : nth (cutN b p q) i = c.toNat := by
  unfold nth cutN
  rw [List.getD_eq_getElem?_getD, List.getElem?_map, List.getElem?_take, if_pos (by omega), List.getElem?_drop, h]
  rfl
theorem nth_out {b : List UInt8} {p q i : Nat} (hq : q ≤ p + i) : nth (cutN b p q) i = 0 := by
  refine nth_none ?_
  unfold cutN
  rw [List.length_map, List.length_take]
  omega
/-- An octet that is not of a kind is none of the kind in the numeral. -/
theorem nth_not {b : List UInt8} {p q i : Nat} {f : UInt8 → Bool} (h : ∀ c, b[p + i]? = some c → f c = false) (hq : q ≤ b.length) : nth (cutN b p q) i = 0 ∨ ∃ c : UInt8, f c = false ∧ nth (cutN b p q) i = c.toNat := by
  rcases Nat.lt_or_ge (p + i) q with hl | hl
  · have hb : b[p + i]? = some b[p + i] := List.getElem?_eq_getElem (by omega)
    exact .inr ⟨_, h _ hb, nth_in hb hl⟩
  · exact .inl (nth_out hl)
theorem dEnd_cut {b : List UInt8} {p q r s : Nat} (hp : p ≤ r) (hs : s = r + ((b.drop r).takeWhile isDg).length) (hq : s ≤ q) : dEnd (cutN b p q) (r - p) = s - p := by
  unfold dEnd cutN
  rw [← List.map_drop, List.drop_take, List.drop_drop, show p + (r - p) = r by omega, List.takeWhile_map, List.length_map]
  rw [show ((isDig ∘ fun x : UInt8 => x.toNat) : UInt8 → Bool) = isDg by funext c; exact dg_N c, tw_take]
  omega
theorem cut_len {b : List UInt8} {p q : Nat} (hp : p ≤ q) (hq : q ≤ b.length) : (cutN b p q).length = q - p := by
  unfold cutN
  rw [List.length_map, List.length_take, List.length_drop]
  omega
theorem skip_got {f : UInt8 → Bool} {b : List UInt8} {p q : Nat} {z : Bool} (h : rSkip f b p = .ok z q) : (z = true ∧ q = p + 1 ∧ ∃ c, b[p]? = some c ∧ f c = true) ∨ (z = false ∧ q = p ∧ ∀ c, b[p]? = some c → f c = false) := by
  unfold rSkip at h
  cases hb : b[p]? with
  | none =>
    rw [hb] at h
    injection h with h1 h2
    exact .inr ⟨h1.symm, h2.symm, fun c e => by cases e⟩
  | some c =>
    rw [hb] at h
    simp only at h
    split at h
    · rename_i hf
      injection h with h1 h2
      exact .inl ⟨h1.symm, h2.symm, c, rfl, hf⟩
    · rename_i hf
      injection h with h1 h2
      exact .inr ⟨h1.symm, h2.symm, fun d e => by injection e with e; subst e; simpa using hf⟩
theorem digits_got {b : List UInt8} {p q : Nat} (h : rDigits b p = .ok () q) : ∃ c, b[p]? = some c ∧ isDg c = true ∧ q = p + ((b.drop p).takeWhile isDg).length ∧ p < q := by
  unfold rDigits rAt rNeed at h
  cases hb : b[p]? with
  | none => rw [hb] at h; cases h
  | some c =>
    rw [hb] at h
    simp only at h
    split at h
    · rename_i hf
      simp only [RR.bind] at h
      unfold rSkips at h
      injection h with _ h2
      refine ⟨c, rfl, hf, ?_, by omega⟩
      have hl : p < b.length := by
        rcases Nat.lt_or_ge p b.length with hl | hl
        · exact hl
        · rw [List.getElem?_eq_none hl] at hb; cases hb
      have hc : b[p] = c := by rw [List.getElem?_eq_getElem hl] at hb; injection hb
      rw [List.drop_eq_getElem_cons hl, hc, List.takeWhile_cons_of_pos hf, List.length_cons]
      omega
    · cases h
theorem bind_ok {α β : Type} {F : Rd1 α} {G : α → Rd1 β} {b : List UInt8} {p q : Nat} {a : β} (h : rAt F G b p = .ok a q) : ∃ x r, F b p = .ok x r ∧ G x b r = .ok a q := by
  unfold rAt at h
  cases hf : F b p with
  | bad q1 e => rw [hf] at h; cases h
  | ok x r => rw [hf] at h; exact ⟨x, r, rfl, h⟩
theorem numeral_form {b : List UInt8} {p q : Nat} (hp : p ≤ b.length) (h : rNumeral b p = .ok () q) : form (cutN b p q) = some (cutN b p q).length := by
  have hup := Good.numeral.up b p () q hp h
  rw [cut_len hup.1 hup.2]
  obtain ⟨z0, p1, h1, h⟩ := bind_ok h
  obtain ⟨z1, p2, h2, h⟩ := bind_ok h
  obtain ⟨u3, p3, h3, h⟩ := bind_ok h
  obtain ⟨z4, p4, h4, h⟩ := bind_ok h
  obtain ⟨u5, p5, h5, h⟩ := bind_ok h
  obtain ⟨z6, p6, h6, h7⟩ := bind_ok h
  clear h
  -- the last part
  have s1 := skip_got h1
  have s2 := skip_got h2
  have s4 := skip_got h4
  have s6 := skip_got h6
  clear h1 h2 h4 h6
  have w3 : (z1 = true ∧ p3 = p2) ∨ (z1 = false ∧ ∃ c, b[p2]? = some c ∧ isDg c = true ∧ p3 = p2 + ((b.drop p2).takeWhile isDg).length ∧ p2 < p3) := by
    cases z1 with
    | true => unfold rPure at h3; rw [if_pos rfl] at h3; injection h3 with _ h3; exact .inl ⟨rfl, h3.symm⟩
    | false => rw [if_neg (by decide)] at h3; exact .inr ⟨rfl, digits_got h3⟩
  have w5 : (z4 = false ∧ p5 = p4) ∨ (z4 = true ∧ ∃ c, b[p4]? = some c ∧ isDg c = true ∧ p5 = p4 + ((b.drop p4).takeWhile isDg).length ∧ p4 < p5) := by
    cases z4 with
    | false => unfold rPure at h5; rw [if_neg (by decide)] at h5; injection h5 with _ h5; exact .inl ⟨rfl, h5.symm⟩
    | true => rw [if_pos rfl] at h5; exact .inr ⟨rfl, digits_got h5⟩
  have w7 : (z6 = false ∧ q = p6) ∨ (z6 = true ∧ ∃ s p7, rSkip (fun c => c == 43 || c == 45) b p6 = .ok s p7 ∧ ∃ c, b[p7]? = some c ∧ isDg c = true ∧ q = p7 + ((b.drop p7).takeWhile isDg).length ∧ p7 < q) := by
    cases z6 with
    | false => unfold rPure at h7; rw [if_neg (by decide)] at h7; injection h7 with _ h7; exact .inl ⟨rfl, h7.symm⟩
    | true =>
      rw [if_pos rfl] at h7
      obtain ⟨s, p7, h8, h9⟩ := bind_ok h7
      exact .inr ⟨rfl, s, p7, h8, digits_got h9⟩
  clear h3 h5 h7
  have m1 : p ≤ p1 ∧ p1 ≤ p2 ∧ p2 ≤ p3 ∧ p3 ≤ p4 ∧ p4 ≤ p5 ∧ p5 ≤ p6 ∧ p6 ≤ q := by
    have a7 : p6 ≤ q := by
      rcases w7 with ⟨-, e⟩ | ⟨-, s, p7, h8, c, -, -, -, h9⟩
      · omega
      · rcases skip_got h8 with ⟨-, e, -⟩ | ⟨-, e, -⟩ <;> omega
    refine ⟨?_, ?_, ?_, ?_, ?_, ?_, a7⟩
    · rcases s1 with ⟨-, e, -⟩ | ⟨-, e, -⟩ <;> omega
    · rcases s2 with ⟨-, e, -⟩ | ⟨-, e, -⟩ <;> omega
    · rcases w3 with ⟨-, e⟩ | ⟨-, c, -, -, -, e⟩ <;> omega
    · rcases s4 with ⟨-, e, -⟩ | ⟨-, e, -⟩ <;> omega
    · rcases w5 with ⟨-, e⟩ | ⟨-, c, -, -, -, e⟩ <;> omega
    · rcases s6 with ⟨-, e, -⟩ | ⟨-, e, -⟩ <;> omega
  obtain ⟨m1, m2, m3, m4, m5, m6, m7⟩ := m1
  have at_ : ∀ {r : Nat} {c : UInt8}, p ≤ r → b[r]? = some c → r < q → nth (cutN b p q) (r - p) = c.toNat := fun {r c} hr hb hl => nth_in (i := r - p) (by rw [show p + (r - p) = r by omega]; exact hb) (by omega)
  have no_ : ∀ {r : Nat} {f : UInt8 → Bool}, p ≤ r → (∀ c, b[r]? = some c → f c = false) → nth (cutN b p q) (r - p) = 0 ∨ ∃ c : UInt8, f c = false ∧ nth (cutN b p q) (r - p) = c.toNat := fun {r f} hr hb => nth_not (i := r - p) (by rw [show p + (r - p) = r by omega]; exact hb) hup.2
  have eq8 : ∀ {c : UInt8} {k : Nat}, k < 256 → (c == UInt8.ofNat k) = true → c.toNat = k := fun {c k} hk h => (u8_eq c k hk).1 (by simpa using h)
  have ne8 : ∀ {c : UInt8} {k : Nat}, k < 256 → (c == UInt8.ofNat k) = false → c.toNat ≠ k := fun {c k} hk h e => by
    have := (u8_eq c k hk).2 e
    rw [this] at h
    simp at h
  have dgE : ∀ {c : UInt8}, isDg c = true → isDig c.toNat = true ∧ 48 ≤ c.toNat ∧ c.toNat ≤ 57 := fun {c} h => by
    have h2 : isDig c.toNat = true := by rw [dg_N]; exact h
    have h3 := h2
    unfold isDig at h3
    rw [decide_eq_true_eq] at h3
    exact ⟨h2, h3⟩
  -- the sign
  have g1 : fSgn (cutN b p q) = p1 - p := by
    unfold fSgn
    rcases s1 with ⟨-, e, c, hb, hc⟩ | ⟨-, e, hb⟩
    · have hl : p < q := by
        omega
      have := at_ (Nat.le_refl p) hb hl
      rw [Nat.sub_self] at this
      rw [this, if_pos (eq8 (k := 45) (by omega) hc)]; omega
    · have h0 : nth (cutN b p q) 0 ≠ 45 := by
        have := no_ (Nat.le_refl p) hb
        rw [Nat.sub_self] at this
        rcases this with e0 | ⟨c, hc, e0⟩
        · rw [e0]; omega
        · rw [e0]; exact ne8 (k := 45) (by omega) hc
      rw [if_neg h0]; omega
  have g2 : fWhole (cutN b p q) (p1 - p) = some (p3 - p) := by
    unfold fWhole
    rcases s2 with ⟨e1, e2, c, hb, hc⟩ | ⟨e1, e2, hb⟩
    · rcases w3 with ⟨-, e3⟩ | ⟨e3, _⟩
      · have h0 := at_ m1 hb (by omega)
        have h48 := eq8 (k := 48) (by omega) hc
        rw [h0, h48, if_pos (by decide), if_pos rfl]
        congr 1; omega
      · rw [e1] at e3; cases e3
    · rcases w3 with ⟨e3, _⟩ | ⟨-, c, hb2, hc, e3, e4⟩
      · rw [e1] at e3; cases e3
      · rw [e2] at hb2 e3 e4
        have h0 := at_ m1 hb2 (by omega)
        have hn : c.toNat ≠ 48 := ne8 (k := 48) (by omega) (hb c hb2)
        rw [h0, if_pos (dgE hc).1, if_neg hn, dEnd_cut m1 e3 (by omega)]
  have g3 : fFrac (cutN b p q) (p3 - p) = some (p5 - p) := by
    unfold fFrac
    have m13 : p ≤ p3 := by omega
    rcases s4 with ⟨e1, e2, c, hb, hc⟩ | ⟨e1, e2, hb⟩
    · rcases w5 with ⟨e3, _⟩ | ⟨-, d, hd, hdd, e3, e4⟩
      · rw [e1] at e3; cases e3
      · have h0 := at_ m13 hb (by omega)
        have h1 := at_ (r := p4) (by omega) hd (by omega)
        have hk : p3 - p + 1 = p4 - p := by omega
        rw [h0, if_pos (eq8 (k := 46) (by omega) hc), hk, h1, if_pos (dgE hdd).1, dEnd_cut (by omega) e3 (by omega)]
    · rcases w5 with ⟨-, e3⟩ | ⟨e3, _⟩
      · have h0 : nth (cutN b p q) (p3 - p) ≠ 46 := by
          rcases no_ m13 hb with e0 | ⟨c, hc, e0⟩
          · rw [e0]; omega
          · rw [e0]; exact ne8 (k := 46) (by omega) hc
        rw [if_neg h0]
        congr 1; omega
      · rw [e1] at e3; cases e3
  have g4 : fPow (cutN b p q) (p5 - p) = some (q - p) := by
    unfold fPow
    have m15 : p ≤ p5 := by omega
    rcases s6 with ⟨e1, e2, c, hb, hc⟩ | ⟨e1, e2, hb⟩
    · rcases w7 with ⟨e3, _⟩ | ⟨-, s, p7, h8, d, hd, hdd, e3, e4⟩
      · rw [e1] at e3; cases e3
      · have s8 := skip_got h8
        have m7' : p6 ≤ p7 := by rcases s8 with ⟨-, e, -⟩ | ⟨-, e, -⟩ <;> omega
        have h0 := at_ m15 hb (by omega)
        have hcc : c.toNat = 101 ∨ c.toNat = 69 := by
          rw [Bool.or_eq_true] at hc
          rcases hc with hc | hc
          · exact .inl (eq8 (k := 101) (by omega) hc)
          · exact .inr (eq8 (k := 69) (by omega) hc)
        have hsg : fSg (cutN b p q) (p5 - p + 1) = p7 - p := by
          unfold fSg
          rw [show p5 - p + 1 = p6 - p by omega]
          rcases s8 with ⟨-, e, c2, hb2, hc2⟩ | ⟨-, e, hb2⟩
          · have h2 := at_ (r := p6) (by omega) hb2 (by omega)
            have hx : c2.toNat = 43 ∨ c2.toNat = 45 := by
              rw [Bool.or_eq_true] at hc2
              rcases hc2 with hc2 | hc2
              · exact .inl (eq8 (k := 43) (by omega) hc2)
              · exact .inr (eq8 (k := 45) (by omega) hc2)
            rw [h2, if_pos hx]; omega
          · have hx : ¬ (nth (cutN b p q) (p6 - p) = 43 ∨ nth (cutN b p q) (p6 - p) = 45) := by
              rcases no_ (r := p6) (by omega) hb2 with e0 | ⟨c2, hc2, e0⟩
              · rw [e0]; omega
              · rw [e0]
                rw [Bool.or_eq_false_iff] at hc2
                have x1 := ne8 (k := 43) (by omega) hc2.1
                have x2 := ne8 (k := 45) (by omega) hc2.2
                omega
            rw [if_neg hx]; omega
        have h1 := at_ (r := p7) (by omega) hd (by omega)
        rw [h0, if_pos hcc, hsg, h1, if_pos (dgE hdd).1, dEnd_cut (by omega) e3 (Nat.le_refl _)]
    · rcases w7 with ⟨-, e3⟩ | ⟨e3, _⟩
      · have h0 : ¬ (nth (cutN b p q) (p5 - p) = 101 ∨ nth (cutN b p q) (p5 - p) = 69) := by
          rcases no_ m15 hb with e0 | ⟨c, hc, e0⟩
          · rw [e0]; omega
          · rw [e0]
            rw [Bool.or_eq_false_iff] at hc
            have x1 := ne8 (k := 101) (by omega) hc.1
            have x2 := ne8 (k := 69) (by omega) hc.2
            omega
        rw [if_neg h0]
        congr 1; omega
      · rw [e1] at e3; cases e3
  unfold form
  rw [g1, g2]
  show (fFrac _ _).bind _ = _
  rw [g3]
  exact g4
/-- What a numeral comes to: nothing, or a number's error. -/
theorem numeral_err {b : List UInt8} {p q : Nat} (hp : p ≤ b.length) (h : rNumeral b p = .ok () q) : fE (cutN b p q) = 0 ∨ NumE (fE (cutN b p q)) := by
  have hf := numeral_form hp h
  have h32 : fE (cutN b p q) ≠ 32 := by
    unfold fE
    by_cases hg : fGood (cutN b p q)
    · rw [if_pos hg]
      intro e
      unfold gE stE at e
      repeat' split at e
      all_goals omega
    · rw [if_neg hg, if_pos hf]; omega
  unfold NumE
  rcases fE_val (cutN b p q) with h | h | h | h | h <;> omega
end Go.Proofs.YtpjllcengnolkaaGreatDoor

namespace Go.Proofs.YtpjllcengnolkaaGreatDoor
open Go.Lib

theorem AtEnd.at {α β : Type} {F : Rd1 α} {G : α → Rd1 β} (hF : AtEnd F) (hG : ∀ a, AtEnd (G a)) : AtEnd (rAt F G) := fun b => by
  unfold rAt
  rcases hF b with h | ⟨a, h⟩
  · rw [h]; exact .inl rfl
  · rw [h]; exact hG a b
theorem AtEnd.pure {α : Type} (a : α) : AtEnd (rPure a) := fun b => .inr ⟨a, rfl⟩
theorem AtEnd.skip (f : UInt8 → Bool) : AtEnd (rSkip f) := fun b => by
  unfold rSkip
  rw [List.getElem?_eq_none (Nat.le_refl _)]
  exact .inr ⟨false, rfl⟩
theorem AtEnd.ite {α : Type} {c : Prop} [Decidable c] {F G : Rd1 α} (hF : AtEnd F) (hG : AtEnd G) : AtEnd (if c then F else G) := by
  by_cases h : c
  · rw [if_pos h]; exact hF
  · rw [if_neg h]; exact hG
theorem Needs.digits : Needs rDigits := (Needs.need _).at
theorem AtEnd.digits : AtEnd rDigits := fun b => .inl (Needs.digits b)
theorem C3.digits : C3 rDigits := C3.at2 (C2.need _) fun _ => C3.skips _
theorem C3.numeral : C3 rNumeral := by
  have e6 : AtEnd (rAt (rSkip fun c => c == 101 || c == 69) fun e => if e then rAt (rSkip fun c => c == 43 || c == 45) fun _ => rDigits else rPure ()) :=
    (AtEnd.skip _).at fun e => AtEnd.ite ((AtEnd.skip _).at fun _ => AtEnd.digits) (AtEnd.pure ())
  have c6 : C3 (rAt (rSkip fun c => c == 101 || c == 69) fun e => if e then rAt (rSkip fun c => c == 43 || c == 45) fun _ => rDigits else rPure ()) :=
    (C3.skip _).at (fun e => C3.ite ((C3.skip _).at (fun _ => C3.digits) fun _ => AtEnd.digits) (C2.pure ()).c3) fun e => AtEnd.ite ((AtEnd.skip _).at fun _ => AtEnd.digits) (AtEnd.pure ())
  have e5 : ∀ f : Bool, AtEnd (rAt (if f then rDigits else rPure ()) fun _ => rAt (rSkip fun c => c == 101 || c == 69) fun e => if e then rAt (rSkip fun c => c == 43 || c == 45) fun _ => rDigits else rPure ()) :=
    fun f => (AtEnd.ite AtEnd.digits (AtEnd.pure ())).at fun _ => e6
  have c5 : ∀ f : Bool, C3 (rAt (if f then rDigits else rPure ()) fun _ => rAt (rSkip fun c => c == 101 || c == 69) fun e => if e then rAt (rSkip fun c => c == 43 || c == 45) fun _ => rDigits else rPure ()) :=
    fun f => (C3.ite C3.digits (C2.pure ()).c3).at (fun _ => c6) fun _ => e6
  have e3 : ∀ z : Bool, AtEnd (rAt (if z then rPure () else rDigits) fun _ => rAt (rSkip (· == 46)) fun f => rAt (if f then rDigits else rPure ()) fun _ => rAt (rSkip fun c => c == 101 || c == 69) fun e => if e then rAt (rSkip fun c => c == 43 || c == 45) fun _ => rDigits else rPure ()) :=
    fun z => (AtEnd.ite (AtEnd.pure ()) AtEnd.digits).at fun _ => (AtEnd.skip _).at e5
  have c3 : ∀ z : Bool, C3 (rAt (if z then rPure () else rDigits) fun _ => rAt (rSkip (· == 46)) fun f => rAt (if f then rDigits else rPure ()) fun _ => rAt (rSkip fun c => c == 101 || c == 69) fun e => if e then rAt (rSkip fun c => c == 43 || c == 45) fun _ => rDigits else rPure ()) :=
    fun z => (C3.ite (C2.pure ()).c3 C3.digits).at (fun _ => (C3.skip _).at c5 e5) fun _ => (AtEnd.skip _).at e5
  unfold rNumeral
  exact (C3.skip _).at (fun _ => (C3.skip _).at c3 e3) fun _ => (AtEnd.skip _).at e3
theorem Needs.numeral : Needs rNumeral := fun b => by
  have hs : ∀ f, rSkip f b b.length = .ok false b.length := fun f => by
    unfold rSkip
    rw [List.getElem?_eq_none (Nat.le_refl _)]
  unfold rNumeral rAt
  rw [hs]
  simp only [RR.bind]
  rw [hs]
  simp only
  rw [if_neg (by decide), Needs.digits b]
theorem Needs.number : Needs rNumber := fun b => by
  unfold rNumber
  rw [Needs.numeral b]
  rfl
theorem numeral_eats {b : List UInt8} {p q : Nat} (hp : p < b.length) (h : rNumeral b p = .ok () q) : p < q := by
  have hup := Good.numeral.up b p () q (by omega) h
  have hf := numeral_form (by omega) h
  rcases Nat.lt_or_ge p q with hl | hl
  · exact hl
  · exfalso
    obtain rfl : q = p := by omega
    have : cutN b q q = [] := by unfold cutN; rw [Nat.sub_self]; rfl
    rw [this] at hf
    exact absurd hf (by decide)
theorem cut_take {b : List UInt8} {p q n : Nat} (hq : q ≤ n) : cutN (b.take n) p q = cutN b p q := by
  unfold cutN
  rw [take_drop2, List.take_take, Nat.min_eq_left (by omega)]
theorem number_got {b : List UInt8} {p q : Nat} {v : VT} (h : rNumber b p = .ok v q) : rNumeral b p = .ok () q ∧ fE (cutN b p q) = 0 ∧ rApart b q = .ok () q ∧ v = numV (cutN b p q) := by
  unfold rNumber at h
  cases hf : rNumeral b p with
  | bad q1 e => rw [hf] at h; cases h
  | ok u q1 =>
    rw [hf] at h
    simp only [RR.bind] at h
    split at h
    · rename_i h0
      cases ha : rApart b q1 with
      | bad q2 e => rw [ha] at h; cases h
      | ok u2 q2 =>
        rw [ha] at h
        injection h with h1 h2
        have e2 : q2 = q1 := by
          unfold rApart at ha
          split at ha
          · split at ha
            · cases ha
            · injection ha with _ h3; exact h3.symm
          · injection ha with _ h3; exact h3.symm
        subst e2
        subst h2
        exact ⟨rfl, h0, ha, h1.symm⟩
    · cases h
theorem E3.number : E3 rNumber := by
  refine ⟨fun b p a q hp h => ?_, fun b p a q n hp hn h hq => ?_, fun b p a q n hp hn h hq => ?_⟩ <;> obtain ⟨h1, h2, h3, h4⟩ := number_got h
  · exact ⟨numeral_eats (by omega) h1, (Good.numeral.up b p () q (by omega) h1).2⟩
  · have b1 := C3.numeral.back b p () q n (by omega) hn h1 hq
    have b3 := C3.apart.back b q () q n hq hn h3 hq
    unfold rNumber
    rw [b1]
    simp only [RR.bind]
    rw [cut_take hq, if_pos h2, b3, h4]
  · rcases C3.numeral.cut b p () q n (by omega) hn h1 hq with h5 | ⟨u, h5⟩
    · exact .inl h5.bind
    · have hl : p ≤ (b.take n).length := by rw [take_len hn]; omega
      have he := numeral_err hl h5
      unfold rNumber
      rw [h5]
      simp only [RR.bind]
      rcases he with he | he
      · rw [if_pos he]
        have : rApart (b.take n) n = .ok () n := by unfold rApart; rw [take_end]
        rw [this]
        exact .inr ⟨_, rfl⟩
      · have h0 : fE (cutN (b.take n) p n) ≠ 0 := by unfold NumE at he; omega
        rw [if_neg h0]
        exact .inl (.inr ⟨_, _, rfl, he⟩)
theorem E3.low {c : UInt8} : E3 (if c == 110 then rAt (rWord [110, 117, 108, 108]) fun _ => rPure (numT0 0) else if c == 102 then rAt (rWord [102, 97, 108, 115, 101]) fun _ => rPure (numT0 1) else if c == 116 then rAt (rWord [116, 114, 117, 101]) fun _ => rPure (numT0 2) else rNumber) :=
  E3.ite (E3.map (g := fun _ => numT0 0) (E3.word _ _)) (E3.ite (E3.map (g := fun _ => numT0 1) (E3.word _ _)) (E3.ite (E3.map (g := fun _ => numT0 2) (E3.word _ _)) E3.number))
theorem E2.texts : E2 (rAt rText fun t => rPure (.mk 4 false [] 0 t [] [] : VT)) := E2.at' E2.text fun t => C2.pure _
theorem E2.pair (mk : List (ByteArray × VT) → VT) (k : Nat) (ih : ∀ n, E3 (rValue mk k n)) (n : Nat) : E3 (rAt (rKey n) fun key => rAt (rSkips isWs) fun _ => rAt (rNeed (· == 58)) fun _ => rAt (rSkips isWs) fun _ => rAt (rValue mk k n) fun v => rPure (key, v)) := by
  refine E3.at2 (E2.key n) fun key => ?_
  have hv : C3 (rAt (rValue mk k n) fun v => rPure (key, v)) := (E3.map (g := fun v => (key, v)) (ih n)).c3 (value_needs mk k n).at
  have hvn : Needs (rAt (rValue mk k n) fun v => rPure (key, v)) := (value_needs mk k n).at
  have e : AtEnd (rAt (rValue mk k n) fun v => rPure (key, v)) := fun b => .inl (hvn b)
  have c4 : C3 (rAt (rSkips isWs) fun _ => rAt (rValue mk k n) fun v => rPure (key, v)) := (C3.skips _).at (fun _ => hv) fun _ => e
  have c5 : C3 (rAt (rNeed (· == 58)) fun _ => rAt (rSkips isWs) fun _ => rAt (rValue mk k n) fun v => rPure (key, v)) := C3.at2 (C2.need _) fun _ => c4
  exact (C3.skips _).at (fun _ => c5) fun _ b => .inl (((Needs.need _).at : Needs (rAt (rNeed (· == 58)) fun _ => rAt (rSkips isWs) fun _ => rAt (rValue mk k n) fun v => rPure (key, v))) b)
theorem E3.value (mk : List (ByteArray × VT) → VT) : ∀ k nth, E3 (rValue mk k nth)
  | 0, nth => by
    unfold rValue
    exact E3.stay (Stay.begin 0 nth) fun _ => E3.stay Stay.peek fun c => E3.ite E2.texts.e3 E3.low
  | k + 1, nth => by
    have ih := E3.value mk k
    have hn := value_needs mk k
    unfold rValue
    exact E3.stay (Stay.begin (k + 1) nth) fun _ => E3.stay Stay.peek fun c => E3.ite (E2.held (E2.items ih hn) _).e3 (E3.ite (E2.held (E2.items (E2.pair mk k ih) fun n => Needs.see.at) _).e3 (E3.ite E2.texts.e3 E3.low))
end Go.Proofs.YtpjllcengnolkaaGreatDoor

namespace Go.Proofs.YtpjllcengnolkaaGreatDoor
open Go.RowKit

theorem allDig_app2 {a b : List Nat} (ha : allDig a = true) (hb : allDig b = true) : allDig (a ++ b) = true := by
  unfold allDig at ha hb ⊢
  rw [List.all_append, ha, hb]; rfl
theorem lz_le3 (ds : List Nat) : lz ds ≤ ds.length := lz_le ds
theorem f_may2 {T : List Nat} (h : fE T = 0) : okB (fN T) (fZ T) (fX T) = true := by
  unfold fE at h
  by_cases hg : fGood T
  · unfold fN fZ fX
    rw [if_pos hg] at h ⊢
    rw [if_pos hg, if_pos hg]
    by_cases hb : 1000000 ≤ (tPow T).2
    · obtain ⟨g1, _⟩ := g_big hb
      rw [g1] at h
      exact absurd h (by omega)
    · obtain ⟨g1, g2, g3, g4⟩ := g_small (xs := T) (by omega)
      rw [g1] at h
      rw [g2, g3, g4]
      obtain ⟨sg, wh, fr, pw, hP⟩ := form_parts hg.1
      obtain ⟨f, hfa, hf2, hm1, hm2⟩ := mfold_parts hP
      have hcut : cutE T = sg ++ (wh ++ fr) := by
        have he := hP.eq
        rcases hP.pw with e | ⟨x, s, p, e1, he2, _⟩
        · rw [e] at he
          rw [he]
          have := cutE_plain (mant_octs hP)
          simpa using this
        · rw [e1] at he
          have := cutE_at (mant_octs hP) he2 (s ++ p)
          rw [he]
          simpa using this
      have hl : wh.length + f.length ≤ T.length := by
        have := congrArg List.length hP.eq
        simp only [List.length_append] at this
        rcases hf2 with ⟨_, e⟩ | e
        · rw [e]; simp; omega
        · rw [e, List.length_cons] at this; omega
      obtain ⟨K, hK⟩ : ∃ K : Nat, K = 2000 := ⟨_, rfl⟩
      have hv : tVal T < 10 ^ K := by
        have e : tVal T = pnum (wh ++ f) := by
          unfold tVal tMan
          rw [hcut, hm1]
          exact dval_pnum _
        rw [e]
        have h1 := pnum_lt (allDig_app2 hP.wh.1 hfa)
        have h2 : 10 ^ (wh ++ f).length ≤ 10 ^ K := Nat.pow_le_pow_right (by omega) (by rw [List.length_append, hK]; have := hg.2; omega)
        omega
      by_cases hz : tVal T = 0
      · obtain ⟨z1, z2, z3, z4⟩ := st_zero (tNeg T) (tExp T)
        rw [hz, z2, z3, z4]; decide
      · have hlo : -5000 ≤ tExp T := by
          have hd : (dOf (tVal T)).length ≤ K := by
            obtain ⟨d1, d2⟩ := dgOf_ok (tVal T) (tVal T) (Nat.le_refl _)
            refine DCan.len_le (ds := dOf (tVal T)) d1 ?_
            have e : dval (dOf (tVal T)) = tVal T := d2
            rw [e]; exact hv
          have hz2 : lz (dOf (tVal T)) ≤ (dOf (tVal T)).length := lz_le3 _
          unfold stE at h
          rw [if_neg hz] at h
          by_cases c1 : 300 < (cf (tVal T)).length
          · rw [if_pos c1] at h; omega
          · rw [if_neg c1] at h
            by_cases c2 : -1000 ≤ tExp T + (lz (dOf (tVal T)) : Int) ∧ tExp T + (lz (dOf (tVal T)) : Int) ≤ 1000
            · omega
            · rw [if_neg c2] at h; omega
        exact (settle_may hlo h).1
  · rw [if_neg hg] at h
    split at h <;> exact absurd h (by omega)
end Go.Proofs.YtpjllcengnolkaaGreatDoor
