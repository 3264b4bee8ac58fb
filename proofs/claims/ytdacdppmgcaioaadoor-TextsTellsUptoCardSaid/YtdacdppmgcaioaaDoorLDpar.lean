/-
  Plain mathematics of limbs of 32 bits: the number that a list of limbs tells, lists without 0 at their end, and that such a list is told by its number. No Go, no condition.
  Words for memory over this seat's program: a slice of 32-bit limbs that is read, kept over what a call does elsewhere. Plain definitions and lemmas; no condition.
  A region that draws its order, in a round of a range over a function: one walk in the order of the text serves where all but the last operations only read. Over any program.
  Contracts of nat.allDigits, nat.smallNumber and nat.Parse: the number that decimal digits tell.
  Texts of digits there and back, and nat.Print in all its cases. Plain lemmas and one contract; no condition.
  JSON's form of a number over octets; contracts of the reference's digit and Ends.
  Plain mathematics: a number's text in its parts, what its mantissa and its exponent tell. No Go.
  A law for the walk: 'append(a, b...)' of ints, a the call's own, b any slice that reads as numbers, nil or not.
  Contract of the reference's Parse.
  Contract of the reference's Parse, of texts that have the form.
  Contract of the reference's Parse, of any text.
  Contracts of the law's num and Of (of a text).
-/
import Derived.Test.YtdacdppmgcaioaaDoorProg
import Derived.WalkKit
import Derived.ProofKit
import Derived.WalkSpells
import Derived.WalkLawsBesides
import Derived.Deep.Draws
import Derived.Lib.Hide
import Derived.RangeFuncNested
import Derived.RangeFuncBound
import Derived.RangeFuncCalls
import Derived.RangeFuncLeaves
import Derived.RangeFuncBox
import Derived.Shelf.Abstract
import Derived.OwnWalkIn
import Derived.TacticsInMore
import Derived.LoopNIn
import Derived.LoopIn
import Derived.Deep.QuietTactic
import Derived.BigQuiet
import Derived.Outline
import Derived.Maps.AppendAt
import Derived.Sort.QuietTacIn
import Derived.Shelf.RegionOpen
import Derived.Lib.MinMax
import Derived.Sort.LoopGhostIn
import Derived.StillTailTactics
import Derived.OrdersIn
import Derived.BigRegion
import Derived.Deep.RegionWith
import Derived.Maps.OwnIn
import Derived.Laws.BytesArg
import Derived.Lib.IndexBytes
import Derived.Lib.TrimByte
import Derived.Test.YtdacdppmgcaioaaDoorShelf
import Derived.Deep.Cut
import Derived.Deep.CutRange
import Derived.Deep.CutBlock
import Derived.Laws.AppendOwnNone
set_option linter.unusedVariables false
set_option linter.unusedSimpArgs false
namespace Go.Proofs.YtdacdppmgcaioaaDoor

/-- The element at a place, 0 behind the end. -/
def nth (xs : List Nat) (k : Nat) : Nat := xs.getD k 0
end Go.Proofs.YtdacdppmgcaioaaDoor

namespace Go.Proofs.YtdacdppmgcaioaaDoor
open Go.RowKit

section
variable {w w' : World} {S S' : Nat → Prop} {n : Nat} {A : Option Addr} {xs : List Nat}
end

section
variable {w w' : World} {base n c : Nat} {A : Option Addr} {zs : List Nat}
end

end Go.Proofs.YtdacdppmgcaioaaDoor


namespace Go.Proofs.YtdacdppmgcaioaaDoor
open Go.RowKit
attribute [local go_sem] Oper.semAt_some

def isDig (x : Nat) : Bool := decide (48 ≤ x ∧ x ≤ 57)
end Go.Proofs.YtdacdppmgcaioaaDoor

namespace Go.Proofs.YtdacdppmgcaioaaDoor
open Go.RowKit

/-- Where the digits that begin at a place end. -/
def dEnd (xs : List Nat) (k : Nat) : Nat := k + ((xs.drop k).takeWhile isDig).length
/-- The parts of the form: where each ends, if it may stand there. -/
def fSgn (xs : List Nat) : Nat := if nth xs 0 = 45 then 1 else 0
def fWhole (xs : List Nat) (k : Nat) : Option Nat := if isDig (nth xs k) = true then some (if nth xs k = 48 then k + 1 else dEnd xs k) else none
def fFrac (xs : List Nat) (k : Nat) : Option Nat := if nth xs k = 46 then (if isDig (nth xs (k + 1)) = true then some (dEnd xs (k + 1)) else none) else some k
def fSg (xs : List Nat) (k : Nat) : Nat := if nth xs k = 43 ∨ nth xs k = 45 then k + 1 else k
def fPow (xs : List Nat) (k : Nat) : Option Nat := if nth xs k = 101 ∨ nth xs k = 69 then (if isDig (nth xs (fSg xs (k + 1))) = true then some (dEnd xs (fSg xs (k + 1))) else none) else some k
def form (xs : List Nat) : Option Nat := (fWhole xs (fSgn xs)).bind fun k => (fFrac xs k).bind (fPow xs)

end Go.Proofs.YtdacdppmgcaioaaDoor





namespace Go.Proofs.YtdacdppmgcaioaaDoor
open Go.RowKit

/-- What any text tells. -/
def fGood (xs : List Nat) : Prop := form xs = some xs.length ∧ xs.length ≤ 2000
instance (xs : List Nat) : Decidable (fGood xs) := inferInstanceAs (Decidable (_ ∧ _))
end Go.Proofs.YtdacdppmgcaioaaDoor
