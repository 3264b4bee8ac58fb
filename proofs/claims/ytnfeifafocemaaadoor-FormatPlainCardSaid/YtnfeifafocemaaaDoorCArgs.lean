/-
  JSON's form of a number over octets; contracts of the reference's digit and Ends.
  Plain mathematics: a number's text in its parts, what its mantissa and its exponent tell. No Go.
  A law for the walk: 'append(a, b...)' of ints, a the call's own, b any slice that reads as numbers, nil or not.
  Contract of the reference's Parse.
  Contract of the reference's Parse, of texts that have the form.
  Contract of the reference's Parse, of any text.
  Contracts of the law's num and Of (of a text).
  An argument of type []uint32, opened once, nil or not: it reads as limbs, below the heap's size.
-/
import Derived.Test.YtnfeifafocemaaaDoorCDa
import Derived.Lib.TrimByte
import Derived.Test.YtnfeifafocemaaaDoorShelf
import Derived.Deep.Cut
import Derived.Deep.CutRange
import Derived.Deep.CutBlock
import Derived.Outline
import Derived.Maps.AppendAt
import Derived.RangeFuncBox
import Derived.Laws.AppendOwnNone
import Derived.Test.YtnfeifafocemaaaDoorRows
import Derived.ProofKit
import Derived.OpenShut
import Derived.SizedLaws
set_option linter.unusedVariables false
set_option linter.unusedSimpArgs false
namespace Go.Proofs.YtnfeifafocemaaaDoor
open Go.RowKit

/-- Where the digits that begin at a place end. -/
def dEnd (xs : List Nat) (k : Nat) : Nat := k + ((xs.drop k).takeWhile isDig).length
/-- The parts of the form: where each ends, if it may stand there. -/
def fSgn (xs : List Nat) : Nat := if nth xs 0 = 45 then 1 else 0
def fWhole (xs : List Nat) (k : Nat) : Option Nat := if isDig (nth xs k) = true then some (if nth xs k = 48 then k + 1 else dEnd xs k) else none
def fFrac (xs : List Nat) (k : Nat) : Option Nat := if nth xs k = 46 then (if isDig (nth xs (k + 1)) = true then some (dEnd xs (k + 1)) else none) else some k
def fSg (xs : List Nat) (k : Nat) : Nat := if nth xs k = 43 ∨ nth xs k = 45 then k + 1 else k
def fPow (xs : List Nat) (k : Nat) : Option Nat := if nth xs k = 101 ∨ nth xs k = 69 then (if isDig (nth xs (fSg xs (k + 1))) = true then some (dEnd xs (fSg xs (k + 1))) else none) else some k
def form (xs : List Nat) : Option Nat := (fWhole xs (fSgn xs)).bind fun k => (fFrac xs k).bind (fPow xs)

end Go.Proofs.YtnfeifafocemaaaDoor





namespace Go.Proofs.YtnfeifafocemaaaDoor
open Go.RowKit

/-- What any text tells. -/
def fGood (xs : List Nat) : Prop := form xs = some xs.length ∧ xs.length ≤ 2000
instance (xs : List Nat) : Decidable (fGood xs) := inferInstanceAs (Decidable (_ ∧ _))
end Go.Proofs.YtnfeifafocemaaaDoor

namespace Go.Proofs.YtnfeifafocemaaaDoor
open Go.ChangeShapes Go.WideShapes Go.ChangeAt Go.RowKit

theorem own : ownKnob Tryd.prog.godebug = none := by kernel_rfl
theorem laidOut : laidOutB Tryd.prog = true := by kernel_rfl
end Go.Proofs.YtnfeifafocemaaaDoor
