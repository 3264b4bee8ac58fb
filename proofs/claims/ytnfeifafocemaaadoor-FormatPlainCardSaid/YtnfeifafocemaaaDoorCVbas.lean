/-
  A value as a tree: what seven cells of the memory read as, part by part.
  Contracts of value's holds and inside.
  Contract of value's rise: whether each of the texts is above the one ahead of it.
-/
import Derived.Test.YtnfeifafocemaaaDoorCArgs
import Derived.Lib.SmallJoins
import Derived.Deep.Slices
import Derived.Deep.Strs
import Derived.Below
import Derived.RangeFuncRecord
import Derived.Deep.QuietTactic
import Derived.Outline
import Derived.Maps.AppendAt
import Derived.RangeFuncBox
set_option linter.unusedVariables false
set_option linter.unusedSimpArgs false
namespace Go.Proofs.YtnfeifafocemaaaDoor
open Go.ChangeShapes Go.WideShapes Go.ChangeAt Go.RowKit Go.Joins Go.Deep

/-- A value: kind, number (sign, limbs, exponent), text, list, keys. -/
inductive VT where
  | mk (kind : Int) (neg : Bool) (num : List Nat) (exp : Int) (text : ByteArray) (list : List VT) (keys : List ByteArray)
end Go.Proofs.YtnfeifafocemaaaDoor

namespace Go.Proofs.YtnfeifafocemaaaDoor
open Go.RowKit

/-- Whether a kind holds values. -/
def hold (k : Int) : Bool := k == 5 || k == 6

end Go.Proofs.YtnfeifafocemaaaDoor

namespace Go.Proofs.YtnfeifafocemaaaDoor
open Go.RowKit

/-- Each is above the one ahead of it, by octets. -/
def rises : List ByteArray → Bool
  | a :: b :: r => Go.Op.bytesLess a.toList b.toList && rises (b :: r)
  | _ => true
end Go.Proofs.YtnfeifafocemaaaDoor
