/-
  Numbers as values, and lists of one value and of two: pure facts for ValueKinds.
-/
import Derived.Test.YtklpfgjnlheikaaGreatDoorValv
import Derived.Test.YtklpfgjnlheikaaGreatDoorDsgn
set_option linter.unusedVariables false
set_option linter.unusedSimpArgs false
namespace Go.Proofs.YtklpfgjnlheikaaGreatDoor
open Go.RowKit

def numT (z : Int) : VT := .mk 3 (stN (decide (z < 0)) z.natAbs 0) (stZ z.natAbs 0) (stX z.natAbs 0) ⟨#[]⟩ [] []
theorem abs_sg (z : Int) : sg (decide (z < 0)) z.natAbs = z := by
  by_cases h : z < 0
  · rw [decide_eq_true h]; show -((z.natAbs : Nat) : Int) = z; omega
  · rw [decide_eq_false h]; show ((z.natAbs : Nat) : Int) = z; omega
theorem num_may {z : Int} (h1 : -9223372036854775808 ≤ z) (h2 : z ≤ 9223372036854775807) :
    okB (stN (decide (z < 0)) z.natAbs 0) (stZ z.natAbs 0) (stX z.natAbs 0) = true ∧ L32 (stZ z.natAbs 0) ∧ sv (stN (decide (z < 0)) z.natAbs 0) (val (stZ z.natAbs 0)) (stX z.natAbs 0) = z * (sp 0 : Int) := by
  have hb : z.natAbs < 10 ^ 40 := by have := ten19; omega
  obtain ⟨q1, q2, q3, q4⟩ := settle_may (s := decide (z < 0)) (lo := 0) (Z := z.natAbs) (by omega) (stE_small hb)
  refine ⟨q1, q2, ?_⟩
  refine Eq.trans q3 ?_
  rw [abs_sg]
theorem num_len {z : Int} (h1 : -9223372036854775808 ≤ z) (h2 : z ≤ 9223372036854775807) : (stZ z.natAbs 0).length ≤ 35184372088832 := by
  obtain ⟨q1, q2, _⟩ := num_may h1 h2
  have := (okB_true q2 q1).2.1
  omega
theorem num_ok {z : Int} (h1 : -9223372036854775808 ≤ z) (h2 : z ≤ 9223372036854775807) : okV (numT z) := by
  obtain ⟨q1, q2, _⟩ := num_may h1 h2
  have hin : (numT z).inner = [] := by unfold numT; rw [inner_mk]; rfl
  have hp : partsV (numT z) = [numT z] := by
    unfold partsV
    rw [pre_eq, hin]; rfl
  refine okV_of (fun y hy => ?_) ?_ ?_
  · rw [hp, List.mem_singleton] at hy
    subst hy
    unfold alone
    rw [hin]
    have ho : ownT (numT z) = [] := rfl
    have hk : (numT z).kind = 3 := rfl
    have hf : fitV (numT z) = true := by
      unfold numT
      rw [fitV_mk, if_pos rfl, q1]; rfl
    rw [ho, hk, hf]; rfl
  · rw [hp]; show 1 ≤ 16384; omega
  · rw [pre_eq, hin]
    show max (if hold 3 then 0 + 1 else 0) (deepL []) ≤ 64
    decide
theorem num_ord {n m : Int} (h1 : -9223372036854775808 ≤ n ∧ n ≤ 9223372036854775807) (h2 : -9223372036854775808 ≤ m ∧ m ≤ 9223372036854775807) : decide (ordV (numT n) (numT m) < 0) = decide (n < m) := by
  obtain ⟨_, _, a⟩ := num_may h1.1 h1.2
  obtain ⟨_, _, b⟩ := num_may h2.1 h2.2
  have h : ordV (numT n) (numT m) = cmpI (n * (sp 0 : Int)) (m * (sp 0 : Int)) := by
    unfold numT
    rw [ordV, if_pos rfl, if_pos rfl, a, b]
  have hp : (0 : Int) < (sp 0 : Int) := by have := sp_pos 0; omega
  rw [h]
  unfold cmpI
  by_cases hnm : n < m
  · rw [if_pos (Int.mul_lt_mul_of_pos_right hnm hp)]
    simp [hnm]
  · have h3 : ¬ n * (sp 0 : Int) < m * (sp 0 : Int) := by
      have := Int.mul_le_mul_of_nonneg_right (Int.not_lt.1 hnm) (Int.le_of_lt hp)
      omega
    rw [if_neg h3]
    simp only [hnm, decide_false]
    split <;> decide
def list1 (a : VT) : VT := .mk 5 false [] 0 ⟨#[]⟩ [a] []
def list2 (a b : VT) : VT := .mk 5 false [] 0 ⟨#[]⟩ [a, b] []
theorem list_ord (a b : VT) : ordV (list1 a) (list2 a b) = -1 := by
  unfold list1 list2
  rw [ordV, if_pos rfl, if_neg (by decide), if_neg (by decide)]
  rw [show lexC cmpB [] [] = 0 from by simp [lexC], if_pos rfl, ordL, ordV_self, if_pos rfl]
  simp [ordL]
theorem ordV_kind {a b : VT} (h : ¬ a.kind = b.kind) : decide (ordV a b < 0) = decide (a.kind < b.kind) := by
  obtain ⟨k, n, x, e, t, l, ks⟩ := a
  obtain ⟨k', n', x', e', t', l', ks'⟩ := b
  have h' : ¬ k = k' := h
  rw [ordV, if_neg h']
  show decide (cmpI k k' < 0) = decide (k < k')
  unfold cmpI
  by_cases hl : k < k'
  · rw [if_pos hl]; simp [hl]
  · rw [if_neg hl]
    simp only [hl, decide_false]
    split <;> decide
theorem rdl1 {w : World} {S : Nat → Prop} {x : VT} {b : Nat} {a0 a1 a2 a3 a4 a5 a6 : Value} {t : TypeId} (hx : VIn w S x [a0, a1, a2, a3, a4, a5, a6]) (hb : w.heap[b]? = some (.cells #[a0, a1, a2, a3, a4, a5, a6] t)) (hS : S b) : RdL w S (some ⟨b, 0, none⟩) 1 [x] :=
  ⟨rfl, by omega, fun _ => [a0, a1, a2, a3, a4, a5, a6], fun _ => ⟨b, 0, rfl, hS, fun i hi => ⟨rfl, fun j hj => by
    obtain rfl : i = 0 := by omega
    rw [Nat.zero_add, Nat.zero_mul, Nat.zero_add]
    match j, hj with
    | 0, _ => exact cell_at hb rfl
    | 1, _ => exact cell_at hb rfl
    | 2, _ => exact cell_at hb rfl
    | 3, _ => exact cell_at hb rfl
    | 4, _ => exact cell_at hb rfl
    | 5, _ => exact cell_at hb rfl
    | 6, _ => exact cell_at hb rfl⟩⟩, fun i y hi => by
    match i, hi with
    | 0, hi => injection hi with hi; subst hi; exact hx⟩
theorem rdl2 {w : World} {S : Nat → Prop} {x y : VT} {b : Nat} {a0 a1 a2 a3 a4 a5 a6 c0 c1 c2 c3 c4 c5 c6 : Value} {t : TypeId} (hx : VIn w S x [a0, a1, a2, a3, a4, a5, a6]) (hy : VIn w S y [c0, c1, c2, c3, c4, c5, c6]) (hb : w.heap[b]? = some (.cells #[a0, a1, a2, a3, a4, a5, a6, c0, c1, c2, c3, c4, c5, c6] t)) (hS : S b) : RdL w S (some ⟨b, 0, none⟩) 2 [x, y] :=
  ⟨rfl, by omega, fun i => if i = 0 then [a0, a1, a2, a3, a4, a5, a6] else [c0, c1, c2, c3, c4, c5, c6], fun _ => ⟨b, 0, rfl, hS, fun i hi => by
    match i, hi with
    | 0, _ => exact ⟨rfl, fun j hj => by
        rw [Nat.zero_add, Nat.zero_mul, Nat.zero_add]
        match j, hj with
        | 0, _ => exact cell_at hb rfl
        | 1, _ => exact cell_at hb rfl
        | 2, _ => exact cell_at hb rfl
        | 3, _ => exact cell_at hb rfl
        | 4, _ => exact cell_at hb rfl
        | 5, _ => exact cell_at hb rfl
        | 6, _ => exact cell_at hb rfl⟩
    | 1, _ => exact ⟨rfl, fun j hj => by
        rw [Nat.zero_add, Nat.one_mul]
        match j, hj with
        | 0, _ => exact cell_at hb rfl
        | 1, _ => exact cell_at hb rfl
        | 2, _ => exact cell_at hb rfl
        | 3, _ => exact cell_at hb rfl
        | 4, _ => exact cell_at hb rfl
        | 5, _ => exact cell_at hb rfl
        | 6, _ => exact cell_at hb rfl⟩⟩, fun i z hi => by
    match i, hi with
    | 0, hi => injection hi with hi; subst hi; exact hx
    | 1, hi => injection hi with hi; subst hi; exact hy⟩
end Go.Proofs.YtklpfgjnlheikaaGreatDoor
