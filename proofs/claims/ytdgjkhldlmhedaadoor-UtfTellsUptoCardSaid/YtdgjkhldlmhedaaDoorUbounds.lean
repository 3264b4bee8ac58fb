/-
  Contracts of utf.Bounds and of the reference's Bounds.
-/
import Derived.Test.YtdgjkhldlmhedaaDoorUcount
set_option linter.unusedVariables false
set_option linter.unusedSimpArgs false
namespace Go.Proofs.YtdgjkhldlmhedaaDoor
open Go.RowKit Go.Lib

/-- A place put into bounds. -/
def wi (n p : Int) : Int := min (max (if p < 0 then p + n else p) 0) n
theorem wi_bound {n p : Int} (h : 0 ≤ n) : 0 ≤ wi n p ∧ wi n p ≤ n := by unfold wi; omega
def bnd2 (n a b : Int) : Int := max (wi n a) (wi n b)
theorem bnd2_bound {n a b : Int} (h : 0 ≤ n) : wi n a ≤ bnd2 n a b ∧ bnd2 n a b ≤ n := by
  have := wi_bound (p := a) h
  have := wi_bound (p := b) h
  unfold bnd2; omega

theorem within_c (B : Nat) (n p : Int) (w : World) (hc : w.cell? ⟨B, 0, none⟩ = some (.int .i64 n)) (h0 : 0 ≤ n) (h1 : n ≤ 140737488355328) (hp : -9223372036854775808 ≤ p ∧ p ≤ 9223372036854775807) :
    Calls Tryd.prog 43 #[.int .i64 p, .pointer (some ⟨B, 0, none⟩)] w fun e w' => e = .returned (.int .i64 (wi n p)) ∧ w' = w := by
  obtain ⟨hp1, hp2⟩ := hp
  by_cases h : p < 0
  · have e : wi n p = min (max (p + n) 0) n := by unfold wi; rw [if_pos h]
    rw [e]
    have hw : IntKind.i64.wrap (p + n) = p + n := IntWalk.i64_in _ (by omega)
    clear e
    go_enter Tryd.func43, Tryd.ntmps43
    go_wp2
    go_ret
    exact ⟨by simp, rfl⟩
  · have e : wi n p = min (max p 0) n := by unfold wi; rw [if_neg h]
    rw [e]
    have h2 : 0 ≤ p := by omega
    clear e h
    go_enter Tryd.func43, Tryd.ntmps43
    go_wp2
    go_ret
    exact ⟨by simp, rfl⟩

set_option maxRecDepth 100000 in
theorem Bounds_c (n a b : Int) (w : World) (h0 : 0 ≤ n) (h1 : n ≤ 140737488355328) (ha : -9223372036854775808 ≤ a ∧ a ≤ 9223372036854775807) (hb : -9223372036854775808 ≤ b ∧ b ≤ 9223372036854775807) :
    Calls Tryd.prog 27 #[.int .i64 n, .int .i64 a, .int .i64 b] w fun e w' => e = .returned (.tuple #[.int .i64 (wi n a), .int .i64 (bnd2 n a b)]) ∧ Below w.heap.size w w' := by
  have hW := ((Below.refl _ w).alloc (Nat.le_refl _) (.cells #[.int .i64 n] 3))
  have b0 := Boxed.new w 3 (.int .i64 n)
  have hw1 := fun V (h : Boxed V w.heap.size 3 (.int .i64 n)) => within_c w.heap.size n a V h.cell h0 h1 ha
  have hw2 := fun V (h : Boxed V w.heap.size 3 (.int .i64 n)) => within_c w.heap.size n b V h.cell h0 h1 hb
  unfold bnd2
  generalize wi n a = x at hw1 ⊢
  generalize wi n b = y at hw2 ⊢
  have hmx : max n 0 = n := by omega
  have HW := Lib.hid hW
  have HB := Lib.hid b0
  have H1 := Lib.hid hw1
  have H2 := Lib.hid hw2
  clear hW b0 hw1 hw2 ha hb
  go_enter Tryd.func27, Tryd.ntmps27
  have c0 := HB.out.cell
  have f0 := HB.out.frozen
  go_wp2_with fail
  have hB1 := HW.out
  have hx1 := HB.out
  clear c0 f0 HW HB
  generalize (w.alloc (.cells #[.int .i64 n] 3)) = W1 at *
  refine (H1.out W1 hx1).mono ?_
  rintro e w1 ⟨rfl, hw1⟩
  subst hw1
  go_wp2_with fail
  refine (H2.out _ hx1).mono ?_
  rintro e w2 ⟨rfl, hw2⟩
  subst hw2
  go_wp2
  go_ret2
  exact ⟨rfl, hB1⟩
end Go.Proofs.YtdgjkhldlmhedaaDoor
