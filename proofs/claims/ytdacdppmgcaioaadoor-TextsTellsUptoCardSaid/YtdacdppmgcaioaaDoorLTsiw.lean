/-
  The walk of the law TextsSides.
-/
import Derived.Test.YtdacdppmgcaioaaDoorLTal
import Derived.Test.YtdacdppmgcaioaaDoorLUrchk
import Derived.Laws.Concat
set_option linter.unusedVariables false
set_option linter.unusedSimpArgs false
namespace Go.Proofs.YtdacdppmgcaioaaDoor
open Go.RowKit Go.Lib

theorem rcheck_s (s : ByteArray) (w : World) (hs : s.size ≤ 140737488355328) : Calls Tryd.prog 36 #[.string s] w fun e w' => e = .returned (.tuple #[.int .i64 (badAt s.data.toList : Int), .int .i64 (errT s.data.toList : Int)]) ∧ Below w.heap.size w w' := by
  have h := URCheck_c s.data.toList w (by rw [← sizeT_list]; exact hs)
  rwa [mk8_of] at h
theorem errT_cases (L : List UInt8) : (errT L = 0 ∧ isT L = true) ∨ (errT L = 61 ∧ isT L = false) := by
  unfold errT
  cases isT L <;> simp
end Go.Proofs.YtdacdppmgcaioaaDoor
