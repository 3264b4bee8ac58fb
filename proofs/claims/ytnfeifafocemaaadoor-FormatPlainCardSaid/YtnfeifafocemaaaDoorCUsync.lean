/-
  A text of characters stands in another one just at its characters; two rising lists of the same numbers are one. On plain lists. No condition.
-/
import Derived.Test.YtnfeifafocemaaaDoorCUpure
set_option linter.unusedVariables false
set_option linter.unusedSimpArgs false
namespace Go.Proofs.YtnfeifafocemaaaDoor
open Go.Lib

theorem toU8_toNat {z : Int} (h0 : 0 ≤ z) (h1 : z < 256) : (z.toNat.toUInt8).toNat = z.toNat := by
  rw [Nat.toUInt8_eq, UInt8.toNat_ofNat']
  omega
end Go.Proofs.YtnfeifafocemaaaDoor
