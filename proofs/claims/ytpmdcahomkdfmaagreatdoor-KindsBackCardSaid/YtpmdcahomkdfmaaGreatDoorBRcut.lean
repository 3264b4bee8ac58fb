/-
  What is cut off ends too early, at its end (or with a number that may not be, so far). Pure, no program.
-/
import Derived.Test.YtpmdcahomkdfmaaGreatDoorBRtail
set_option linter.unusedVariables false
set_option linter.unusedSimpArgs false
namespace Go.Proofs.YtpmdcahomkdfmaaGreatDoor
open Go.Lib

/-- A number's error. -/
def NumE (e : Nat) : Prop := e = 5 ∨ e = 51 ∨ e = 52
/-- Too early, or a number that may not be. -/
def Early {α : Type} (n : Nat) (r : RR α) : Prop := r = .bad n 8 ∨ ∃ q e, r = .bad q e ∧ NumE e
theorem Early.bind {α β : Type} {n : Nat} {r : RR α} {f : α → Nat → RR β} (h : Early n r) : Early n (r.bind f) := by
  rcases h with h | ⟨q, e, h, he⟩
  · left; rw [h]; rfl
  · right; exact ⟨q, e, by rw [h]; rfl, he⟩
theorem take_get {b : List UInt8} {p n : Nat} (h : p < n) : (b.take n)[p]? = b[p]? := by rw [List.getElem?_take, if_pos h]
theorem take_end {b : List UInt8} {n : Nat} : (b.take n)[n]? = none := by rw [List.getElem?_take, if_neg (by omega)]
theorem take_len {b : List UInt8} {n : Nat} (h : n ≤ b.length) : (b.take n).length = n := by rw [List.length_take]; omega
theorem take_drop2 (b : List UInt8) (p n : Nat) : (b.take n).drop p = (b.drop p).take (n - p) := List.drop_take ..

/-- Reading that ends where it ends in what is cut off behind it, and too early in what is cut off within. -/
structure C2 {α : Type} (F : Rd1 α) : Prop where
  up : ∀ b p a q, p ≤ b.length → F b p = .ok a q → p ≤ q ∧ q ≤ b.length
  back : ∀ b p a q n, p ≤ n → n ≤ b.length → F b p = .ok a q → q ≤ n → F (b.take n) p = .ok a q
  cut : ∀ b p a q n, p ≤ n → n ≤ b.length → F b p = .ok a q → n < q → Early n (F (b.take n) p)
/-- The same, of what may end anywhere. -/
structure C3 {α : Type} (F : Rd1 α) : Prop where
  up : ∀ b p a q, p ≤ b.length → F b p = .ok a q → p ≤ q ∧ q ≤ b.length
  back : ∀ b p a q n, p ≤ n → n ≤ b.length → F b p = .ok a q → q ≤ n → F (b.take n) p = .ok a q
  cut : ∀ b p a q n, p ≤ n → n ≤ b.length → F b p = .ok a q → n < q → Early n (F (b.take n) p) ∨ ∃ a', F (b.take n) p = .ok a' n
theorem C2.c3 {α : Type} {F : Rd1 α} (h : C2 F) : C3 F := ⟨h.up, h.back, fun b p a q n h1 h2 h3 h4 => .inl (h.cut b p a q n h1 h2 h3 h4)⟩
/-- At the end: too early, or nothing more. -/
def AtEnd {α : Type} (F : Rd1 α) : Prop := ∀ b : List UInt8, F b b.length = .bad b.length 8 ∨ ∃ a, F b b.length = .ok a b.length
theorem C2.pure {α : Type} (a : α) : C2 (rPure a) := by
  refine ⟨fun b p a2 q hp h => ?_, fun b p a2 q n hp hn h hq => h, fun b p a2 q n hp hn h hq => ?_⟩ <;> unfold rPure at h <;> injection h with h1 h2 <;> omega
theorem C2.fail {α : Type} {e : Nat} : C2 (rFail e : Rd1 α) := by
  refine ⟨fun b p a2 q hp h => ?_, fun b p a2 q n hp hn h hq => ?_, fun b p a2 q n hp hn h hq => ?_⟩ <;> unfold rFail at h <;> cases h
theorem C2.stop {α : Type} (m : Nat) : C2 (fun _ _ => .bad m 33 : Rd1 α) := by
  refine ⟨fun b p a2 q hp h => ?_, fun b p a2 q n hp hn h hq => ?_, fun b p a2 q n hp hn h hq => ?_⟩ <;> cases h
theorem C2.must (m : Nat) (is : Bool) : C2 (rMust m is) := by
  cases is
  · exact C2.stop m
  · exact C2.pure ()
theorem C2.at {α β : Type} {F : Rd1 α} {G : α → Rd1 β} (hF : C2 F) (hG : ∀ a, C2 (G a)) : C2 (rAt F G) := by
  refine ⟨fun b p a2 q hp h => ?_, fun b p a2 q n hp hn h hq => ?_, fun b p a2 q n hp hn h hq => ?_⟩ <;> (first | unfold rAt at h ⊢ | unfold rAt at h) <;> cases hf : F b p with
    | bad q1 e => rw [hf] at h; cases h
    | ok a q1 =>
      rw [hf] at h
      have h1 := hF.up b p a q1 (by omega) hf
      have h2 := (hG a).up b q1 a2 q h1.2 h
      first
        | (exact ⟨by omega, h2.2⟩)
        | (rw [hF.back b p a q1 n hp hn hf (by omega)]
           exact (hG a).back b q1 a2 q n (by omega) hn h hq)
        | (rcases Nat.lt_or_ge n q1 with hl | hl
           · exact (hF.cut b p a q1 n hp hn hf hl).bind
           · rw [hF.back b p a q1 n hp hn hf hl]
             exact (hG a).cut b q1 a2 q n hl hn h hq)
theorem C3.at {α β : Type} {F : Rd1 α} {G : α → Rd1 β} (hF : C3 F) (hG : ∀ a, C3 (G a)) (he : ∀ a, AtEnd (G a)) : C3 (rAt F G) := by
  refine ⟨fun b p a2 q hp h => ?_, fun b p a2 q n hp hn h hq => ?_, fun b p a2 q n hp hn h hq => ?_⟩ <;> (first | unfold rAt at h ⊢ | unfold rAt at h) <;> cases hf : F b p with
    | bad q1 e => rw [hf] at h; cases h
    | ok a q1 =>
      rw [hf] at h
      have h1 := hF.up b p a q1 (by omega) hf
      have h2 := (hG a).up b q1 a2 q h1.2 h
      first
        | (exact ⟨by omega, h2.2⟩)
        | (rw [hF.back b p a q1 n hp hn hf (by omega)]
           exact (hG a).back b q1 a2 q n (by omega) hn h hq)
        | (rcases Nat.lt_or_ge n q1 with hl | hl
           · rcases hF.cut b p a q1 n hp hn hf hl with h3 | ⟨a', h3⟩
             · exact .inl h3.bind
             · rw [h3]
               have h4 := he a' (b.take n)
               rw [take_len hn] at h4
               rcases h4 with h4 | ⟨a'', h4⟩
               · exact .inl (.inl h4)
               · exact .inr ⟨a'', h4⟩
           · rw [hF.back b p a q1 n hp hn hf hl]
             exact (hG a).cut b q1 a2 q n hl hn h hq)
theorem C2.mid {α β : Type} {F : Rd1 α} {G : α → Rd1 β} (hF : C3 F) (hG : ∀ a, C2 (G a)) (hn : ∀ a, Needs (G a)) : C2 (rAt F G) := by
  refine ⟨fun b p a2 q hp h => ?_, fun b p a2 q n hp hnn h hq => ?_, fun b p a2 q n hp hnn h hq => ?_⟩ <;> (first | unfold rAt at h ⊢ | unfold rAt at h) <;> cases hf : F b p with
    | bad q1 e => rw [hf] at h; cases h
    | ok a q1 =>
      rw [hf] at h
      have h1 := hF.up b p a q1 (by omega) hf
      have h2 := (hG a).up b q1 a2 q h1.2 h
      first
        | (exact ⟨by omega, h2.2⟩)
        | (rw [hF.back b p a q1 n hp hnn hf (by omega)]
           exact (hG a).back b q1 a2 q n (by omega) hnn h hq)
        | (rcases Nat.lt_or_ge n q1 with hl | hl
           · rcases hF.cut b p a q1 n hp hnn hf hl with h3 | ⟨a', h3⟩
             · exact h3.bind
             · rw [h3]
               have h4 := hn a' (b.take n)
               rw [take_len hnn] at h4
               exact .inl h4
           · rw [hF.back b p a q1 n hp hnn hf hl]
             exact (hG a).cut b q1 a2 q n hl hnn h hq)
theorem C2.ite {α : Type} {c : Prop} [Decidable c] {F G : Rd1 α} (hF : C2 F) (hG : C2 G) : C2 (if c then F else G) := by
  by_cases h : c
  · rw [if_pos h]; exact hF
  · rw [if_neg h]; exact hG
theorem C3.ite {α : Type} {c : Prop} [Decidable c] {F G : Rd1 α} (hF : C3 F) (hG : C3 G) : C3 (if c then F else G) := by
  by_cases h : c
  · rw [if_pos h]; exact hF
  · rw [if_neg h]; exact hG
theorem C2.need (f : UInt8 → Bool) : C2 (rNeed f) := by
  refine ⟨fun b p a q hp h => (Good.need f).up b p a q hp h, fun b p a q n hp hn h hq => ?_, fun b p a q n hp hn h hq => ?_⟩ <;> unfold rNeed at h ⊢ <;> cases hb : b[p]? with
    | none => rw [hb] at h; cases h
    | some c =>
      rw [hb] at h
      simp only at h
      split at h
      · rename_i hf
        injection h with h1 h2
        first
          | (rw [take_get (by omega), hb]
             simp only
             rw [if_pos hf, ← h1, h2])
          | (obtain rfl : n = p := by omega
             rw [take_end]
             exact .inl rfl)
      · cases h
theorem C3.skip (f : UInt8 → Bool) : C3 (rSkip f) := by
  refine ⟨fun b p a q hp h => (Good.skip f).up b p a q hp h, fun b p a q n hp hn h hq => ?_, fun b p a q n hp hn h hq => ?_⟩
  · have hup := (Good.skip f).up b p a q (by omega) h
    rcases Nat.lt_or_ge p n with hl | hl
    · unfold rSkip at h ⊢
      rw [take_get hl]
      exact h
    · obtain rfl : p = n := by omega
      unfold rSkip at h ⊢
      rw [take_end]
      cases hb : b[p]? with
      | none => rw [hb] at h; exact h
      | some c =>
        rw [hb] at h
        simp only at h
        split at h
        · injection h with h1 h2; omega
        · exact h
  · unfold rSkip at h ⊢
    cases hb : b[p]? with
    | none => rw [hb] at h; injection h with h1 h2; omega
    | some c =>
      rw [hb] at h
      simp only at h
      split at h
      · injection h with h1 h2
        obtain rfl : n = p := by omega
        rw [take_end]
        exact .inr ⟨false, rfl⟩
      · injection h with h1 h2; omega
theorem tw_take {f : UInt8 → Bool} : ∀ (l : List UInt8) (k : Nat), ((l.take k).takeWhile f).length = min k (l.takeWhile f).length
  | [], k => by simp
  | c :: t, 0 => by simp
  | c :: t, k + 1 => by
    have := tw_take (f := f) t k
    by_cases hc : f c = true
    · simp only [List.take_succ_cons, List.takeWhile_cons, hc, if_true, List.length_cons, this]
      omega
    · simp only [List.take_succ_cons, List.takeWhile_cons, hc, Bool.false_eq_true, if_false, List.length_nil]
      omega
theorem C3.skips (f : UInt8 → Bool) : C3 (rSkips f) := by
  refine ⟨fun b p a q hp h => (Good.skips f).up b p a q hp h, fun b p a q n hp hn h hq => ?_, fun b p a q n hp hn h hq => ?_⟩ <;> unfold rSkips at h ⊢ <;> injection h with h1 h2 <;> rw [take_drop2, tw_take]
  · rw [Nat.min_eq_right (by omega), h2]
  · rw [Nat.min_eq_left (by omega)]
    exact .inr ⟨(), by rw [show p + (n - p) = n by omega]⟩
theorem C3.apart : C3 rApart := by
  have hq0 : ∀ b p a q, rApart b p = .ok a q → q = p := fun b p a q h => by
    unfold rApart at h
    split at h
    · split at h
      · cases h
      · injection h with h1 h2; exact h2.symm
    · injection h with h1 h2; exact h2.symm
  refine ⟨fun b p a q hp h => Good.apart.up b p a q hp h, fun b p a q n hp hn h hq => ?_, fun b p a q n hp hn h hq => ?_⟩
  · obtain rfl := hq0 b p a q h
    rcases Nat.lt_or_ge q n with hl | hl
    · unfold rApart at h ⊢
      rw [take_get hl]
      exact h
    · obtain rfl : q = n := by omega
      unfold rApart
      rw [take_end]
  · have := hq0 b p a q h
    omega
end Go.Proofs.YtpmdcahomkdfmaaGreatDoor
