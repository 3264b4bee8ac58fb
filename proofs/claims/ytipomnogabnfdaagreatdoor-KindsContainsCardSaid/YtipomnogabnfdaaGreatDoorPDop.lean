/-
  What an operation of decimals answers, in numbers; what a decimal that may be is; numbers of so many digits. Plain words and lemmas.
-/
import Derived.Test.YtipomnogabnfdaaGreatDoorPDset
import Derived.PlainAid
set_option linter.unusedVariables false
set_option linter.unusedSimpArgs false
namespace Go.Proofs.YtipomnogabnfdaaGreatDoor
open Go.RowKit

theorem ten_two (m : Nat) : (10 : Nat) ^ (3 * m) ≤ 2 ^ (10 * m) := by
  rw [Nat.pow_mul, Nat.pow_mul]
  exact Nat.pow_le_pow_left (by decide) m
theorem bp_two (n : Nat) : bp n = 2 ^ (32 * n) := by unfold bp; rw [Nat.pow_mul]
/-- Numbers of so many digits have so many limbs. -/
theorem lt_bp {v p m n : Nat} (h : v < 10 ^ p) (hp : p ≤ 3 * m) (hm : 10 * m ≤ 32 * n) : v < bp n := by
  have h1 : (10 : Nat) ^ p ≤ 10 ^ (3 * m) := Nat.pow_le_pow_right (by omega) hp
  have h2 := ten_two m
  have h3 : (2 : Nat) ^ (10 * m) ≤ 2 ^ (32 * n) := Nat.pow_le_pow_right (by omega) hm
  rw [bp_two]
  exact Nat.lt_of_lt_of_le h (Nat.le_trans h1 (Nat.le_trans h2 h3))
theorem isDec_dig {v : Nat} {s : ByteArray} (h : IsDec v s) : allDig (octs s) = true ∧ pnum (octs s) = v := ⟨(isDec_octs h).1, (isDec_octs h).2.1⟩
theorem pow_le10 {p q : Nat} (h : p ≤ q) : dp p ≤ 10 ^ q := Nat.pow_le_pow_right (by omega) h
/-- What a decimal that may be is, in numbers. -/
theorem okB_true {neg : Bool} {xs : List Nat} {exp : Int} (hl : L32 xs) (h : okB neg xs exp = true) : Can xs ∧ xs.length ≤ 256 ∧ val xs < 10 ^ 300 ∧ (-1000 ≤ exp ∧ exp ≤ 1000) ∧ (xs.length = 0 → neg = false ∧ exp = 0) ∧ (xs.length ≠ 0 → nth (dOf (val xs)) 0 ≠ 0) := by
  unfold okB at h
  rw [Bool.and_eq_true, Bool.and_eq_true, decide_eq_true_eq, decide_eq_true_eq] at h
  obtain ⟨h1, h2, h3⟩ := h
  obtain ⟨c1, c2⟩ := can_of_chk hl h1
  have hv : val xs < 10 ^ 300 := by
    have h4 := dval_lt (dOf_can (val xs)).1
    rw [dOf_val] at h4
    obtain ⟨T, hT⟩ : ∃ T, T = 300 := ⟨_, rfl⟩
    rw [← hT] at h2 ⊢
    exact Nat.lt_of_lt_of_le h4 (pow_le10 h2)
  by_cases h0 : xs.length = 0
  · rw [if_pos h0, Bool.and_eq_true] at h3
    obtain ⟨h5, h6⟩ := h3
    have h7 : exp = 0 := by simpa using h6
    have h8 : neg = false := by simpa using h5
    exact ⟨c1, c2, hv, by omega, fun _ => ⟨h8, h7⟩, fun h => absurd h0 h⟩
  · rw [if_neg h0, Bool.and_eq_true, Bool.and_eq_true, decide_eq_true_eq, decide_eq_true_eq, decide_eq_true_eq] at h3
    exact ⟨c1, c2, hv, h3.2, fun h => absurd h h0, fun _ => h3.1⟩
/-- What is answered: the error of the check, else the number settled. -/
def opE (E Z : Nat) (lo : Int) : Nat := if E = 0 then stE Z lo else E
def opN (E : Nat) (s : Bool) (Z : Nat) (lo : Int) : Bool := if E = 0 then stN s Z lo else false
def opX (E Z : Nat) (lo : Int) : Int := if E = 0 then stX Z lo else 0
def opZ (E Z : Nat) (lo : Int) : List Nat := if E = 0 then stZ Z lo else []
/-- The answer of an operation in the one form. -/
def Told (e : Ending) (w' : World) (base E : Nat) (s : Bool) (Z : Nat) (lo : Int) : Prop :=
  ∃ A' n' c', e = .returned (.tuple #[dv (opN E s Z lo) A' n' c' (opX E Z lo), .int .i64 (opE E Z lo : Int)]) ∧ Res w' base A' n' c' (opZ E Z lo)
theorem told_of {e : Ending} {w' : World} {base E : Nat} {s : Bool} {Z : Nat} {lo : Int}
    (hbad : E ≠ 0 → e = .returned (.tuple #[dv false none 0 0 0, .int .i64 (E : Int)]))
    (hgood : E = 0 → ∃ A' n' c', e = .returned (.tuple #[dv (stN s Z lo) A' n' c' (stX Z lo), .int .i64 (stE Z lo : Int)]) ∧ Res w' base A' n' c' (stZ Z lo)) : Told e w' base E s Z lo := by
  unfold Told opE opN opX opZ
  by_cases h : E = 0
  · rw [if_pos h, if_pos h, if_pos h, if_pos h]; exact hgood h
  · rw [if_neg h, if_neg h, if_neg h, if_neg h]; exact ⟨none, 0, 0, hbad h, Res.nil _ _⟩
theorem box3_of {w : World} {b : Nat} {v0 v1 v2 : Value} {t : TypeId} (h : w.heap[b]? = some (.cells #[v0, v1, v2] t)) : w.cell? ⟨b, 0, none⟩ = some v0 ∧ w.cell? ⟨b, 1, none⟩ = some v1 ∧ w.cell? ⟨b, 2, none⟩ = some v2 :=
  ⟨cell_of h rfl, cell_of h rfl, cell_of h rfl⟩
theorem heldz {w w' : World} {b : Nat} {vs : Array Value} {t : TypeId} (hb : Below w.heap.size w w') (h : w.heap[b]? = some (.cells vs t)) : w'.heap[b]? = some (.cells vs t) := held hb (Array.getElem?_eq_some_iff.1 h).1 h
theorem heldA {w : World} {b : Nat} {vs : Array Value} {t : TypeId} (o : Obj) (h : w.heap[b]? = some (.cells vs t)) : (w.alloc o).heap[b]? = some (.cells vs t) := (Below.heap_alloc _ _ _ (Array.getElem?_eq_some_iff.1 h).1).trans h
end Go.Proofs.YtipomnogabnfdaaGreatDoor
