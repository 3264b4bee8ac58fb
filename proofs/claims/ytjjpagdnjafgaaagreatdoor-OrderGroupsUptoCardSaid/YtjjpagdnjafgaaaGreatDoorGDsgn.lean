/-
  Signed numbers: a decimal as a whole number; a decimal is told by its number. Plain mathematics.
-/
import Derived.Test.YtjjpagdnjafgaaaGreatDoorGDop
import Derived.Test.YtjjpagdnjafgaaaGreatDoorGDref
set_option linter.unusedVariables false
set_option linter.unusedSimpArgs false
namespace Go.Proofs.YtjjpagdnjafgaaaGreatDoor

def dcN (na nb : Bool) (X Y : Nat) : Int := if na = true then (if nb = true then cmpN Y X else -1) else if nb = true then 1 else cmpN X Y

/-- A signed size as a number. -/
def sg (neg : Bool) (v : Nat) : Int := if neg = true then -(v : Int) else (v : Int)
/-- The power of ten by which a decimal of this exponent is made whole. -/
def sp (e : Int) : Nat := 10 ^ (e + 5000).toNat
/-- A decimal as a whole number. -/
def sv (neg : Bool) (v : Nat) (e : Int) : Int := sg neg (v * sp e)
def cmpI (x y : Int) : Int := if x < y then -1 else if y < x then 1 else 0

theorem sp_pos (e : Int) : 0 < sp e := Nat.pow_pos (by omega)
theorem sp_add {e : Int} {p : Nat} (h : -5000 ≤ e) : sp (e + (p : Int)) = 10 ^ p * sp e := by
  unfold sp
  rw [show (e + (p : Int) + 5000).toNat = p + (e + 5000).toNat by omega, Nat.pow_add]
theorem sg_mul (neg : Bool) (v k : Nat) : sg neg (v * k) = sg neg v * (k : Int) := by
  cases neg
  · show ((v * k : Nat) : Int) = (v : Int) * (k : Int); simp
  · show -((v * k : Nat) : Int) = -(v : Int) * (k : Int); simp [Int.neg_mul]
theorem cmpI_mul {x y : Int} {k : Nat} (hk : 0 < k) : cmpI (x * (k : Int)) (y * (k : Int)) = cmpI x y := by
  have hk2 : (0 : Int) < (k : Int) := by omega
  have e1 : x * (k : Int) < y * (k : Int) ↔ x < y := Int.mul_lt_mul_right hk2
  have e2 : y * (k : Int) < x * (k : Int) ↔ y < x := Int.mul_lt_mul_right hk2
  unfold cmpI
  simp only [e1, e2]
theorem cmpI_sg {na nb : Bool} {X Y : Nat} (h1 : na = true → 0 < X) (h2 : nb = true → 0 < Y) : dcN na nb X Y = cmpI (sg na X) (sg nb Y) := by
  cases na <;> cases nb
  · simp [dcN, cmpI, cmpN, sg]
  · have := h2 rfl
    show (1 : Int) = if (X : Int) < -(Y : Int) then -1 else if -(Y : Int) < (X : Int) then 1 else 0
    rw [if_neg (by omega), if_pos (by omega)]
  · have := h1 rfl
    show (-1 : Int) = if -(X : Int) < (Y : Int) then -1 else if (Y : Int) < -(X : Int) then 1 else 0
    rw [if_pos (by omega)]
  · show (if Y < X then (-1 : Int) else if X < Y then 1 else 0) = if -(X : Int) < -(Y : Int) then -1 else if -(Y : Int) < -(X : Int) then 1 else 0
    have q1 : -(X : Int) < -(Y : Int) ↔ Y < X := by omega
    have q2 : -(Y : Int) < -(X : Int) ↔ X < Y := by omega
    simp only [q1, q2]
/-- The order of two decimals is that of their numbers. -/
theorem dcN_sv {na nb : Bool} {v1 v2 P1 P2 : Nat} {e1 e2 lo : Int} (h1 : na = true → 0 < v1) (h2 : nb = true → 0 < v2) (hlo : -5000 ≤ lo) (hp1 : e1 - lo = (P1 : Int)) (hp2 : e2 - lo = (P2 : Int)) :
    dcN na nb (v1 * 10 ^ P1) (v2 * 10 ^ P2) = cmpI (sv na v1 e1) (sv nb v2 e2) := by
  have q1 : sv na v1 e1 = sg na (v1 * 10 ^ P1) * (sp lo : Int) := by
    unfold sv
    rw [show e1 = lo + (P1 : Int) by omega, sp_add hlo, ← Nat.mul_assoc, sg_mul]
  have q2 : sv nb v2 e2 = sg nb (v2 * 10 ^ P2) * (sp lo : Int) := by
    unfold sv
    rw [show e2 = lo + (P2 : Int) by omega, sp_add hlo, ← Nat.mul_assoc, sg_mul]
  rw [q1, q2, cmpI_mul (sp_pos lo)]
  exact cmpI_sg (fun h => Nat.mul_pos (h1 h) (Nat.pow_pos (by omega))) (fun h => Nat.mul_pos (h2 h) (Nat.pow_pos (by omega)))
theorem dOf_low (v : Nat) : nth (dOf v) 0 = v % 10 := by
  rcases Nat.eq_zero_or_pos v with h | h
  · subst h; rfl
  · obtain ⟨f, rfl⟩ : ∃ f, v = f + 1 := ⟨v - 1, by omega⟩
    unfold dOf dgOf
    rw [if_neg (by omega), nth_cons_zero]
/-- What a decimal that may be is: 0, or with a last digit that is not 0. -/
theorem okB_cases {neg : Bool} {xs : List Nat} {exp : Int} (hl : L32 xs) (h : okB neg xs exp = true) :
    (xs = [] ∧ neg = false ∧ exp = 0) ∨ (0 < val xs ∧ val xs % 10 ≠ 0) := by
  obtain ⟨a1, _, _, _, a5, a6⟩ := okB_true hl h
  by_cases h0 : xs.length = 0
  · exact .inl ⟨List.eq_nil_of_length_eq_zero h0, a5 h0⟩
  · have h2 := a6 h0
    rw [dOf_low] at h2
    exact .inr ⟨by omega, h2⟩
theorem okB_pos {neg : Bool} {xs : List Nat} {exp : Int} (hl : L32 xs) (h : okB neg xs exp = true) : neg = true → 0 < val xs := by
  intro hn
  rcases okB_cases hl h with ⟨_, h2, _⟩ | ⟨h2, _⟩
  · rw [h2] at hn; cases hn
  · exact h2
end Go.Proofs.YtjjpagdnjafgaaaGreatDoor
