/-
  Contract of utf.Slice.
-/
import Derived.Test.YtnfeifafocemaaaDoorCUrunes
set_option linter.unusedVariables false
set_option linter.unusedSimpArgs false
namespace Go.Proofs.YtnfeifafocemaaaDoor
open Go.RowKit Go.Lib

/-- A text of octets. -/
def mk8 (l : List UInt8) : ByteArray := ⟨l.toArray⟩
theorem mk8_L (l : List UInt8) : (mk8 l).data.toList = l := rfl
theorem mk8_size (l : List UInt8) : (mk8 l).size = l.length := by show l.toArray.size = _; simp
theorem mk8_of (s : ByteArray) : mk8 s.data.toList = s := by cases s; simp [mk8]
end Go.Proofs.YtnfeifafocemaaaDoor
