/-
  What is cut off within: words, items, values; an octet form of numbers. Pure, no program.
  A numeral's octets have a number's form, so that what is told of it is no 32. Pure, no program.
-/
import Derived.Test.YtpmdcahomkdfmaaGreatDoorBRcutb
set_option linter.unusedVariables false
set_option linter.unusedSimpArgs false
namespace Go.Proofs.YtpmdcahomkdfmaaGreatDoor
open Go.Lib

theorem C3.at2 {α β : Type} {F : Rd1 α} {G : α → Rd1 β} (hF : C2 F) (hG : ∀ a, C3 (G a)) : C3 (rAt F G) := by
  refine ⟨fun b p a2 q hp h => ?_, fun b p a2 q n hp hn h hq => ?_, fun b p a2 q n hp hn h hq => ?_⟩ <;> (first | unfold rAt at h ⊢ | unfold rAt at h) <;> cases hf : F b p with
    | bad q1 e => rw [hf] at h; cases h
    | ok a q1 =>
      rw [hf] at h
      have h1 := hF.up b p a q1 (by omega) hf
      have h2 := (hG a).up b q1 a2 q h1.2 h
      first
        | (exact ⟨by omega, h2.2⟩)
        | (rw [hF.back b p a q1 n hp hn hf (by omega)]
           exact (hG a).back b q1 a2 q n (by omega) hn h hq)
        | (rcases Nat.lt_or_ge n q1 with hl | hl
           · exact .inl (hF.cut b p a q1 n hp hn hf hl).bind
           · rw [hF.back b p a q1 n hp hn hf hl]
             exact (hG a).cut b q1 a2 q n hl hn h hq)
theorem E3.at2 {α β : Type} {F : Rd1 α} {G : α → Rd1 β} (hF : E2 F) (hG : ∀ a, C3 (G a)) : E3 (rAt F G) := by
  refine ⟨fun b p a2 q hp h => ?_, fun b p a2 q n hp hn h hq => ?_, fun b p a2 q n hp hn h hq => ?_⟩ <;> (first | unfold rAt at h ⊢ | unfold rAt at h) <;> cases hf : F b p with
    | bad q1 e => rw [hf] at h; cases h
    | ok a q1 =>
      rw [hf] at h
      have h1 := hF.up b p a q1 (by omega) hf
      have h2 := (hG a).up b q1 a2 q h1.2 h
      first
        | (exact ⟨by omega, h2.2⟩)
        | (rw [hF.back b p a q1 n hp hn hf (by omega)]
           exact (hG a).back b q1 a2 q n (by omega) hn h hq)
        | (rcases Nat.lt_or_ge n q1 with hl | hl
           · exact .inl (hF.cut b p a q1 n hp hn hf hl).bind
           · rw [hF.back b p a q1 n hp hn hf hl]
             exact (hG a).cut b q1 a2 q n hl hn h hq)
theorem E3.map {α β : Type} {F : Rd1 α} {g : α → β} (hF : E3 F) : E3 (rAt F fun a => rPure (g a)) := by
  refine ⟨fun b p a2 q hp h => ?_, fun b p a2 q n hp hn h hq => ?_, fun b p a2 q n hp hn h hq => ?_⟩ <;> (first | unfold rAt at h ⊢ | unfold rAt at h) <;> cases hf : F b p with
    | bad q1 e => rw [hf] at h; cases h
    | ok a q1 =>
      rw [hf] at h
      unfold rPure at h
      simp only [RR.bind] at h
      injection h with h3 h4
      subst h4
      first
        | (exact hF.up b p a q1 hp hf)
        | (rw [hF.back b p a q1 n hp hn hf hq, ← h3]; rfl)
        | (rcases hF.cut b p a q1 n hp hn hf hq with h5 | ⟨a', h5⟩
           · exact .inl h5.bind
           · exact .inr ⟨g a', by rw [h5]; rfl⟩)
theorem E2.need (f : UInt8 → Bool) : E2 (rNeed f) := by
  refine ⟨fun b p a q hp h => ?_, fun b p a q n hp => (C2.need f).back b p a q n (by omega), fun b p a q n hp => (C2.need f).cut b p a q n (by omega)⟩
  have h1 := (C2.need f).up b p a q (by omega) h
  unfold rNeed at h
  split at h
  · split at h
    · injection h with h2 h3; omega
    · cases h
  · cases h
theorem C3.word : ∀ w, C3 (rWord w)
  | [] => C3.apart
  | c :: r => C3.at2 (C2.need _) fun _ => C3.word r
theorem E3.word (c : UInt8) (w : List UInt8) : E3 (rWord (c :: w)) := E3.at2 (E2.need _) fun _ => C3.word w
/-- What eats of what may end anywhere and then needs an octet. -/
theorem E2.of {α : Type} {F : Rd1 α} (h : C2 F) (he : ∀ b p a q, p < b.length → F b p = .ok a q → p < q) : E2 F :=
  ⟨fun b p a q hp hf => ⟨he b p a q hp hf, (h.up b p a q (by omega) hf).2⟩, fun b p a q n hp => h.back b p a q n (by omega), fun b p a q n hp => h.cut b p a q n (by omega)⟩
theorem E2.mid {α β : Type} {F : Rd1 α} {G : α → Rd1 β} (hF : C3 F) (hG : ∀ a, E2 (G a)) (hn : ∀ a, Needs (G a)) : E2 (rAt F G) := by
  refine E2.of (C2.mid hF (fun a => (hG a).c2 (hn a)) hn) fun b p a2 q hp h => ?_
  unfold rAt at h
  cases hf : F b p with
  | bad q1 e => rw [hf] at h; cases h
  | ok a q1 =>
    rw [hf] at h
    have h1 := hF.up b p a q1 (by omega) hf
    rcases Nat.lt_or_ge q1 b.length with hl | hl
    · have := (hG a).up b q1 a2 q hl h; omega
    · obtain rfl : q1 = b.length := by omega
      simp only [RR.bind] at h
      rw [hn a b] at h; cases h
/-- What may end anywhere but eats, and then needs an octet. -/
theorem E2.mid3 {α β : Type} {F : Rd1 α} {G : α → Rd1 β} (hF : E3 F) (hN : Needs F) (hG : ∀ a, C2 (G a)) (hn : ∀ a, Needs (G a)) : E2 (rAt F G) := by
  refine E2.of (C2.mid (hF.c3 hN) hG hn) fun b p a2 q hp h => ?_
  unfold rAt at h
  cases hf : F b p with
  | bad q1 e => rw [hf] at h; cases h
  | ok a q1 =>
    rw [hf] at h
    have h1 := hF.up b p a q1 (by omega) hf
    have := (hG a).up b q1 a2 q h1.2 h
    omega
theorem C2.items {α : Type} {end_ : UInt8} {item : Nat → Rd1 α} (hi : ∀ nth, E3 (item nth)) (hn : ∀ nth, Needs (item nth)) : ∀ n nth, C2 (rItemsF end_ item n nth)
  | 0, nth => C2.fail
  | n + 1, nth => by
    unfold rItemsF
    have ih := C2.items (end_ := end_) hi hn n (nth + 1)
    have hin := items_needs end_ item n (nth + 1)
    refine C2.see fun c => E2.ite (E2.step []) ?_
    refine E2.mid (C3.ite (C3.at2 (C2.need _) fun _ => C3.skips _) (C2.pure ()).c3) (fun _ => ?_) (fun _ => (hn nth).at)
    refine E2.mid3 (hi nth) (hn nth) (fun a => ?_) (fun a => Needs.skips hin.at)
    exact C2.mid (C3.skips _) (fun _ => ih.at fun l => C2.pure _) (fun _ => hin.at)
theorem E2.items {α : Type} {end_ : UInt8} {item : Nat → Rd1 α} (hi : ∀ nth, E3 (item nth)) (hn : ∀ nth, Needs (item nth)) : E2 (rItems end_ item) :=
  E2.over (G := fun _ => _) fun _ => C2.mid (C3.skips _) (fun _ => C2.items hi hn fuelR 1) (fun _ => items_needs end_ item fuelR 1)
theorem C2.held (m : Nat) (v : VT) : C2 (rHeld m v) := by
  have hs : rHeld m v = if 16384 < (seen v).length then (fun _ _ => .bad m 3) else rPure v := by
    funext b p
    unfold rHeld
    by_cases h : 16384 < (seen v).length
    · rw [if_pos h, if_pos h]
    · rw [if_neg h, if_neg h]; rfl
  rw [hs]
  refine C2.ite ?_ (C2.pure v)
  refine ⟨fun b p a2 q hp h => ?_, fun b p a2 q n hp hn h hq => ?_, fun b p a2 q n hp hn h hq => ?_⟩ <;> cases h
theorem E2.held {α : Type} {F : Rd1 α} (hF : E2 F) (mk : α → VT) : E2 (fun b p => (F b p).bind fun l q => rHeld p (mk l) b q) :=
  E2.at (G := fun m l => rHeld m (mk l)) hF fun m l => C2.held m _
theorem Stay.begin (k nth : Nat) : Stay (rBegin k nth) := by
  unfold rBegin
  exact Stay.at Stay.peek fun c => Stay.ite (Stay.fail _) (Stay.ite (Stay.fail _) (Stay.ite (Stay.fail _) (Stay.pure _)))
theorem E2.key (nth : Nat) : E2 (rKey nth) := by
  unfold rKey
  exact E2.see fun c => E2.ite (E2.ite (E2.fail (m := fun p => p)) E2.text) (E2.fail (m := fun p => p))
end Go.Proofs.YtpmdcahomkdfmaaGreatDoor

namespace Go.Proofs.YtpmdcahomkdfmaaGreatDoor
open Go.Lib

theorem dg_N (c : UInt8) : isDig c.toNat = isDg c := by
  have h1 : (48 ≤ c) ↔ 48 ≤ c.toNat := by rw [UInt8.le_iff_toNat_le]; rfl
  have h2 : (c ≤ 57) ↔ c.toNat ≤ 57 := by rw [UInt8.le_iff_toNat_le]; rfl
  unfold isDig isDg
  rw [Bool.eq_iff_iff]
  simp only [decide_eq_true_eq, Bool.and_eq_true, h1, h2]
theorem nth_in {b : List UInt8} {p q i : Nat} {c : UInt8} (h : b[p + i]? = some c) (hq : p + i < q) : nth (cutN b p q) i = c.toNat := by
  unfold nth cutN
  rw [List.getD_eq_getElem?_getD, List.getElem?_map, List.getElem?_take, if_pos (by omega), List.getElem?_drop, h]
  rfl
theorem nth_out {b : List UInt8} {p q i : Nat} (hq : q ≤ p + i) : nth (cutN b p q) i = 0 := by
  refine nth_none ?_
  unfold cutN
  rw [List.length_map, List.length_take]
  omega
/-- An octet that is not of a kind is none of the kind in the numeral. -/
theorem nth_not {b : List UInt8} {p q i : Nat} {f : UInt8 → Bool} (h : ∀ c, b[p + i]? = some c → f c = false) (hq : q ≤ b.length) : nth (cutN b p q) i = 0 ∨ ∃ c : UInt8, f c = false ∧ nth (cutN b p q) i = c.toNat := by
  rcases Nat.lt_or_ge (p + i) q with hl | hl
  · have hb : b[p + i]? = some b[p + i] := List.getElem?_eq_getElem (by omega)
    exact .inr ⟨_, h _ hb, nth_in hb hl⟩
  · exact .inl (nth_out hl)
theorem dEnd_cut {b : List UInt8} {p q r s : Nat} (hp : p ≤ r) (hs : s = r + ((b.drop r).takeWhile isDg).length) (hq : s ≤ q) : dEnd (cutN b p q) (r - p) = s - p := by
  unfold dEnd cutN
  rw [← List.map_drop, List.drop_take, List.drop_drop, show p + (r - p) = r by omega, List.takeWhile_map, List.length_map]
  rw [show ((isDig ∘ fun x : UInt8 => x.toNat) : UInt8 → Bool) = isDg by funext c; exact dg_N c, tw_take]
  omega
theorem cut_len {b : List UInt8} {p q : Nat} (hp : p ≤ q) (hq : q ≤ b.length) : (cutN b p q).length = q - p := by
  unfold cutN
  rw [List.length_map, List.length_take, List.length_drop]
  omega
theorem skip_got {f : UInt8 → Bool} {b : List UInt8} {p q : Nat} {z : Bool} (h : rSkip f b p = .ok z q) : (z = true ∧ q = p + 1 ∧ ∃ c, b[p]? = some c ∧ f c = true) ∨ (z = false ∧ q = p ∧ ∀ c, b[p]? = some c → f c = false) := by
  unfold rSkip at h
  cases hb : b[p]? with
  | none =>
    rw [hb] at h
    injection h with h1 h2
    exact .inr ⟨h1.symm, h2.symm, fun c e => by cases e⟩
  | some c =>
    rw [hb] at h
    simp only at h
    split at h
    · rename_i hf
      injection h with h1 h2
      exact .inl ⟨h1.symm, h2.symm, c, rfl, hf⟩
    · rename_i hf
      injection h with h1 h2
      exact .inr ⟨h1.symm, h2.symm, fun d e => by injection e with e; subst e; simpa using hf⟩
theorem digits_got {b : List UInt8} {p q : Nat} (h : rDigits b p = .ok () q) : ∃ c, b[p]? = some c ∧ isDg c = true ∧ q = p + ((b.drop p).takeWhile isDg).length ∧ p < q := by
  unfold rDigits rAt rNeed at h
  cases hb : b[p]? with
  | none => rw [hb] at h; cases h
  | some c =>
    rw [hb] at h
    simp only at h
    split at h
    · rename_i hf
      simp only [RR.bind] at h
      unfold rSkips at h
      injection h with _ h2
      refine ⟨c, rfl, hf, ?_, by omega⟩
      have hl : p < b.length := by
        rcases Nat.lt_or_ge p b.length with hl | hl
        · exact hl
        · rw [List.getElem?_eq_none hl] at hb; cases hb
      have hc : b[p] = c := by rw [List.getElem?_eq_getElem hl] at hb; injection hb
      rw [List.drop_eq_getElem_cons hl, hc, List.takeWhile_cons_of_pos hf, List.length_cons]
      omega
    · cases h
theorem bind_ok {α β : Type} {F : Rd1 α} {G : α → Rd1 β} {b : List UInt8} {p q : Nat} {a : β} (h : rAt F G b p = .ok a q) : ∃ x r, F b p = .ok x r ∧ G x b r = .ok a q := by
  unfold rAt at h
  cases hf : F b p with
  | bad q1 e => rw [hf] at h; cases h
  | ok x r => rw [hf] at h; exact ⟨x, r, rfl, h⟩
theorem numeral_form {b : List UInt8} {p q : Nat} (hp : p ≤ b.length) (h : rNumeral b p = .ok () q) : form (cutN b p q) = some (cutN b p q).length := by
  have hup := Good.numeral.up b p () q hp h
  rw [cut_len hup.1 hup.2]
  obtain ⟨z0, p1, h1, h⟩ := bind_ok h
  obtain ⟨z1, p2, h2, h⟩ := bind_ok h
  obtain ⟨u3, p3, h3, h⟩ := bind_ok h
  obtain ⟨z4, p4, h4, h⟩ := bind_ok h
  obtain ⟨u5, p5, h5, h⟩ := bind_ok h
  obtain ⟨z6, p6, h6, h7⟩ := bind_ok h
  clear h
  -- the last part
  have s1 := skip_got h1
  have s2 := skip_got h2
  have s4 := skip_got h4
  have s6 := skip_got h6
  clear h1 h2 h4 h6
  have w3 : (z1 = true ∧ p3 = p2) ∨ (z1 = false ∧ ∃ c, b[p2]? = some c ∧ isDg c = true ∧ p3 = p2 + ((b.drop p2).takeWhile isDg).length ∧ p2 < p3) := by
    cases z1 with
    | true => unfold rPure at h3; rw [if_pos rfl] at h3; injection h3 with _ h3; exact .inl ⟨rfl, h3.symm⟩
    | false => rw [if_neg (by decide)] at h3; exact .inr ⟨rfl, digits_got h3⟩
  have w5 : (z4 = false ∧ p5 = p4) ∨ (z4 = true ∧ ∃ c, b[p4]? = some c ∧ isDg c = true ∧ p5 = p4 + ((b.drop p4).takeWhile isDg).length ∧ p4 < p5) := by
    cases z4 with
    | false => unfold rPure at h5; rw [if_neg (by decide)] at h5; injection h5 with _ h5; exact .inl ⟨rfl, h5.symm⟩
    | true => rw [if_pos rfl] at h5; exact .inr ⟨rfl, digits_got h5⟩
  have w7 : (z6 = false ∧ q = p6) ∨ (z6 = true ∧ ∃ s p7, rSkip (fun c => c == 43 || c == 45) b p6 = .ok s p7 ∧ ∃ c, b[p7]? = some c ∧ isDg c = true ∧ q = p7 + ((b.drop p7).takeWhile isDg).length ∧ p7 < q) := by
    cases z6 with
    | false => unfold rPure at h7; rw [if_neg (by decide)] at h7; injection h7 with _ h7; exact .inl ⟨rfl, h7.symm⟩
    | true =>
      rw [if_pos rfl] at h7
      obtain ⟨s, p7, h8, h9⟩ := bind_ok h7
      exact .inr ⟨rfl, s, p7, h8, digits_got h9⟩
  clear h3 h5 h7
  have m1 : p ≤ p1 ∧ p1 ≤ p2 ∧ p2 ≤ p3 ∧ p3 ≤ p4 ∧ p4 ≤ p5 ∧ p5 ≤ p6 ∧ p6 ≤ q := by
    have a7 : p6 ≤ q := by
      rcases w7 with ⟨-, e⟩ | ⟨-, s, p7, h8, c, -, -, -, h9⟩
      · omega
      · rcases skip_got h8 with ⟨-, e, -⟩ | ⟨-, e, -⟩ <;> omega
    refine ⟨?_, ?_, ?_, ?_, ?_, ?_, a7⟩
    · rcases s1 with ⟨-, e, -⟩ | ⟨-, e, -⟩ <;> omega
    · rcases s2 with ⟨-, e, -⟩ | ⟨-, e, -⟩ <;> omega
    · rcases w3 with ⟨-, e⟩ | ⟨-, c, -, -, -, e⟩ <;> omega
    · rcases s4 with ⟨-, e, -⟩ | ⟨-, e, -⟩ <;> omega
    · rcases w5 with ⟨-, e⟩ | ⟨-, c, -, -, -, e⟩ <;> omega
    · rcases s6 with ⟨-, e, -⟩ | ⟨-, e, -⟩ <;> omega
  obtain ⟨m1, m2, m3, m4, m5, m6, m7⟩ := m1
  have at_ : ∀ {r : Nat} {c : UInt8}, p ≤ r → b[r]? = some c → r < q → nth (cutN b p q) (r - p) = c.toNat := fun {r c} hr hb hl => nth_in (i := r - p) (by rw [show p + (r - p) = r by omega]; exact hb) (by omega)
  have no_ : ∀ {r : Nat} {f : UInt8 → Bool}, p ≤ r → (∀ c, b[r]? = some c → f c = false) → nth (cutN b p q) (r - p) = 0 ∨ ∃ c : UInt8, f c = false ∧ nth (cutN b p q) (r - p) = c.toNat := fun {r f} hr hb => nth_not (i := r - p) (by rw [show p + (r - p) = r by omega]; exact hb) hup.2
  have eq8 : ∀ {c : UInt8} {k : Nat}, k < 256 → (c == UInt8.ofNat k) = true → c.toNat = k := fun {c k} hk h => (u8_eq c k hk).1 (by simpa using h)
  have ne8 : ∀ {c : UInt8} {k : Nat}, k < 256 → (c == UInt8.ofNat k) = false → c.toNat ≠ k := fun {c k} hk h e => by
    have := (u8_eq c k hk).2 e
    rw [this] at h
    simp at h
  have dgE : ∀ {c : UInt8}, isDg c = true → isDig c.toNat = true ∧ 48 ≤ c.toNat ∧ c.toNat ≤ 57 := fun {c} h => by
    have h2 : isDig c.toNat = true := by rw [dg_N]; exact h
    have h3 := h2
    unfold isDig at h3
    rw [decide_eq_true_eq] at h3
    exact ⟨h2, h3⟩
  -- the sign
  have g1 : fSgn (cutN b p q) = p1 - p := by
    unfold fSgn
    rcases s1 with ⟨-, e, c, hb, hc⟩ | ⟨-, e, hb⟩
    · have hl : p < q := by
        omega
      have := at_ (Nat.le_refl p) hb hl
      rw [Nat.sub_self] at this
      rw [this, if_pos (eq8 (k := 45) (by omega) hc)]; omega
    · have h0 : nth (cutN b p q) 0 ≠ 45 := by
        have := no_ (Nat.le_refl p) hb
        rw [Nat.sub_self] at this
        rcases this with e0 | ⟨c, hc, e0⟩
        · rw [e0]; omega
        · rw [e0]; exact ne8 (k := 45) (by omega) hc
      rw [if_neg h0]; omega
  have g2 : fWhole (cutN b p q) (p1 - p) = some (p3 - p) := by
    unfold fWhole
    rcases s2 with ⟨e1, e2, c, hb, hc⟩ | ⟨e1, e2, hb⟩
    · rcases w3 with ⟨-, e3⟩ | ⟨e3, _⟩
      · have h0 := at_ m1 hb (by omega)
        have h48 := eq8 (k := 48) (by omega) hc
        rw [h0, h48, if_pos (by decide), if_pos rfl]
        congr 1; omega
      · rw [e1] at e3; cases e3
    · rcases w3 with ⟨e3, _⟩ | ⟨-, c, hb2, hc, e3, e4⟩
      · rw [e1] at e3; cases e3
      · rw [e2] at hb2 e3 e4
        have h0 := at_ m1 hb2 (by omega)
        have hn : c.toNat ≠ 48 := ne8 (k := 48) (by omega) (hb c hb2)
        rw [h0, if_pos (dgE hc).1, if_neg hn, dEnd_cut m1 e3 (by omega)]
  have g3 : fFrac (cutN b p q) (p3 - p) = some (p5 - p) := by
    unfold fFrac
    have m13 : p ≤ p3 := by omega
    rcases s4 with ⟨e1, e2, c, hb, hc⟩ | ⟨e1, e2, hb⟩
    · rcases w5 with ⟨e3, _⟩ | ⟨-, d, hd, hdd, e3, e4⟩
      · rw [e1] at e3; cases e3
      · have h0 := at_ m13 hb (by omega)
        have h1 := at_ (r := p4) (by omega) hd (by omega)
        have hk : p3 - p + 1 = p4 - p := by omega
        rw [h0, if_pos (eq8 (k := 46) (by omega) hc), hk, h1, if_pos (dgE hdd).1, dEnd_cut (by omega) e3 (by omega)]
    · rcases w5 with ⟨-, e3⟩ | ⟨e3, _⟩
      · have h0 : nth (cutN b p q) (p3 - p) ≠ 46 := by
          rcases no_ m13 hb with e0 | ⟨c, hc, e0⟩
          · rw [e0]; omega
          · rw [e0]; exact ne8 (k := 46) (by omega) hc
        rw [if_neg h0]
        congr 1; omega
      · rw [e1] at e3; cases e3
  have g4 : fPow (cutN b p q) (p5 - p) = some (q - p) := by
    unfold fPow
    have m15 : p ≤ p5 := by omega
    rcases s6 with ⟨e1, e2, c, hb, hc⟩ | ⟨e1, e2, hb⟩
    · rcases w7 with ⟨e3, _⟩ | ⟨-, s, p7, h8, d, hd, hdd, e3, e4⟩
      · rw [e1] at e3; cases e3
      · have s8 := skip_got h8
        have m7' : p6 ≤ p7 := by rcases s8 with ⟨-, e, -⟩ | ⟨-, e, -⟩ <;> omega
        have h0 := at_ m15 hb (by omega)
        have hcc : c.toNat = 101 ∨ c.toNat = 69 := by
          rw [Bool.or_eq_true] at hc
          rcases hc with hc | hc
          · exact .inl (eq8 (k := 101) (by omega) hc)
          · exact .inr (eq8 (k := 69) (by omega) hc)
        have hsg : fSg (cutN b p q) (p5 - p + 1) = p7 - p := by
          unfold fSg
          rw [show p5 - p + 1 = p6 - p by omega]
          rcases s8 with ⟨-, e, c2, hb2, hc2⟩ | ⟨-, e, hb2⟩
          · have h2 := at_ (r := p6) (by omega) hb2 (by omega)
            have hx : c2.toNat = 43 ∨ c2.toNat = 45 := by
              rw [Bool.or_eq_true] at hc2
              rcases hc2 with hc2 | hc2
              · exact .inl (eq8 (k := 43) (by omega) hc2)
              · exact .inr (eq8 (k := 45) (by omega) hc2)
            rw [h2, if_pos hx]; omega
          · have hx : ¬ (nth (cutN b p q) (p6 - p) = 43 ∨ nth (cutN b p q) (p6 - p) = 45) := by
              rcases no_ (r := p6) (by omega) hb2 with e0 | ⟨c2, hc2, e0⟩
              · rw [e0]; omega
              · rw [e0]
                rw [Bool.or_eq_false_iff] at hc2
                have x1 := ne8 (k := 43) (by omega) hc2.1
                have x2 := ne8 (k := 45) (by omega) hc2.2
                omega
            rw [if_neg hx]; omega
        have h1 := at_ (r := p7) (by omega) hd (by omega)
        rw [h0, if_pos hcc, hsg, h1, if_pos (dgE hdd).1, dEnd_cut (by omega) e3 (Nat.le_refl _)]
    · rcases w7 with ⟨-, e3⟩ | ⟨e3, _⟩
      · have h0 : ¬ (nth (cutN b p q) (p5 - p) = 101 ∨ nth (cutN b p q) (p5 - p) = 69) := by
          rcases no_ m15 hb with e0 | ⟨c, hc, e0⟩
          · rw [e0]; omega
          · rw [e0]
            rw [Bool.or_eq_false_iff] at hc
            have x1 := ne8 (k := 101) (by omega) hc.1
            have x2 := ne8 (k := 69) (by omega) hc.2
            omega
        rw [if_neg h0]
        congr 1; omega
      · rw [e1] at e3; cases e3
  unfold form
  rw [g1, g2]
  show (fFrac _ _).bind _ = _
  rw [g3]
  exact g4
/-- What a numeral comes to: nothing, or a number's error. -/
theorem numeral_err {b : List UInt8} {p q : Nat} (hp : p ≤ b.length) (h : rNumeral b p = .ok () q) : fE (cutN b p q) = 0 ∨ NumE (fE (cutN b p q)) := by
  have hf := numeral_form hp h
  have h32 : fE (cutN b p q) ≠ 32 := by
    unfold fE
    by_cases hg : fGood (cutN b p q)
    · rw [if_pos hg]
      intro e
      unfold gE stE at e
      repeat' split at e
      all_goals omega
    · rw [if_neg hg, if_pos hf]; omega
  unfold NumE
  rcases fE_val (cutN b p q) with h | h | h | h | h <;> omega
end Go.Proofs.YtpmdcahomkdfmaaGreatDoor
