/-
  Contract of the reference's Bounds.
-/
import Derived.Test.YtdgjkhldlmhedaaDoorUbounds
set_option linter.unusedVariables false
set_option linter.unusedSimpArgs false
namespace Go.Proofs.YtdgjkhldlmhedaaDoor
open Go.RowKit Go.Lib

theorem wi_neg {n p : Int} (h0 : 0 ≤ n) (h : p < 0) : wi n p = min (max p (-n) + n) n := by unfold wi; rw [if_pos h]; omega
theorem wi_pos {n p : Int} (h0 : 0 ≤ n) (h : 0 ≤ p) : wi n p = min p n := by unfold wi; rw [if_neg (by omega)]; omega

set_option maxRecDepth 100000 in
theorem RBounds_c (n a b : Int) (w : World) (h0 : 0 ≤ n) (h1 : n ≤ 140737488355328) (ha : -9223372036854775808 ≤ a ∧ a ≤ 9223372036854775807) (hb : -9223372036854775808 ≤ b ∧ b ≤ 9223372036854775807) :
    Calls Tryd.prog 28 #[.int .i64 n, .int .i64 a, .int .i64 b] w fun e w' => e = .returned (.tuple #[.int .i64 (wi n a), .int .i64 (bnd2 n a b)]) ∧ w' = w := by
  obtain ⟨ha1, ha2⟩ := ha
  obtain ⟨hb1, hb2⟩ := hb
  unfold bnd2
  have hwn : IntKind.i64.wrap (-n) = -n := IntWalk.i64_in _ (by omega)
  by_cases han : a < 0
  · have ea := wi_neg (n := n) h0 han
    have hwa : IntKind.i64.wrap (max a (-n) + n) = max a (-n) + n := IntWalk.i64_in _ (by omega)
    rw [ea]
    clear ea
    by_cases hbn : b < 0
    · have eb := wi_neg (n := n) h0 hbn
      have hwb : IntKind.i64.wrap (max b (-n) + n) = max b (-n) + n := IntWalk.i64_in _ (by omega)
      rw [eb]
      clear eb
      by_cases hg : min (max b (-n) + n) n < min (max a (-n) + n) n
      · have em : max (min (max a (-n) + n) n) (min (max b (-n) + n) n) = min (max a (-n) + n) n := by omega
        rw [em]
        clear em
        go_enter Tryd.func28, Tryd.ntmps28
        go_wp2
        go_ret2
        exact ⟨rfl, rfl⟩
      · have hg2 : min (max a (-n) + n) n ≤ min (max b (-n) + n) n := by omega
        clear hg
        have em : max (min (max a (-n) + n) n) (min (max b (-n) + n) n) = min (max b (-n) + n) n := by omega
        rw [em]
        clear em
        go_enter Tryd.func28, Tryd.ntmps28
        go_wp2
        go_ret2
        exact ⟨rfl, rfl⟩
    · have hb0 : 0 ≤ b := by omega
      have eb := wi_pos (n := n) h0 hb0
      clear hbn
      rw [eb]
      clear eb
      by_cases hg : min b n < min (max a (-n) + n) n
      · have em : max (min (max a (-n) + n) n) (min b n) = min (max a (-n) + n) n := by omega
        rw [em]
        clear em
        go_enter Tryd.func28, Tryd.ntmps28
        go_wp2
        go_ret2
        exact ⟨rfl, rfl⟩
      · have hg2 : min (max a (-n) + n) n ≤ min b n := by omega
        clear hg
        have em : max (min (max a (-n) + n) n) (min b n) = min b n := by omega
        rw [em]
        clear em
        go_enter Tryd.func28, Tryd.ntmps28
        go_wp2
        go_ret2
        exact ⟨rfl, rfl⟩
  · have ha0 : 0 ≤ a := by omega
    have ea := wi_pos (n := n) h0 ha0
    clear han
    rw [ea]
    clear ea
    by_cases hbn : b < 0
    · have eb := wi_neg (n := n) h0 hbn
      have hwb : IntKind.i64.wrap (max b (-n) + n) = max b (-n) + n := IntWalk.i64_in _ (by omega)
      rw [eb]
      clear eb
      by_cases hg : min (max b (-n) + n) n < min a n
      · have em : max (min a n) (min (max b (-n) + n) n) = min a n := by omega
        rw [em]
        clear em
        go_enter Tryd.func28, Tryd.ntmps28
        go_wp2
        go_ret2
        exact ⟨rfl, rfl⟩
      · have hg2 : min a n ≤ min (max b (-n) + n) n := by omega
        clear hg
        have em : max (min a n) (min (max b (-n) + n) n) = min (max b (-n) + n) n := by omega
        rw [em]
        clear em
        go_enter Tryd.func28, Tryd.ntmps28
        go_wp2
        go_ret2
        exact ⟨rfl, rfl⟩
    · have hb0 : 0 ≤ b := by omega
      have eb := wi_pos (n := n) h0 hb0
      clear hbn
      rw [eb]
      clear eb
      by_cases hg : min b n < min a n
      · have em : max (min a n) (min b n) = min a n := by omega
        rw [em]
        clear em
        go_enter Tryd.func28, Tryd.ntmps28
        go_wp2
        go_ret2
        exact ⟨rfl, rfl⟩
      · have hg2 : min a n ≤ min b n := by omega
        clear hg
        have em : max (min a n) (min b n) = min b n := by omega
        rw [em]
        clear em
        go_enter Tryd.func28, Tryd.ntmps28
        go_wp2
        go_ret2
        exact ⟨rfl, rfl⟩
end Go.Proofs.YtdgjkhldlmhedaaDoor
