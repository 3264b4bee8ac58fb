/-
  Plain mathematics of limbs of 32 bits: the number that a list of limbs tells, lists without 0 at their end, and that such a list is told by its number. No Go, no condition.
  Words for memory over this seat's program: a slice of 32-bit limbs that is read, kept over what a call does elsewhere. Plain definitions and lemmas; no condition.
  Contracts of nat's small functions (sign, limbAt, Check). Each says what the call returns; the world is as it was.
  A region that draws its order, in a round of a range over a function: one walk in the order of the text serves where all but the last operations only read. Over any program.
  Contracts of nat.allDigits, nat.smallNumber and nat.Parse: the number that decimal digits tell.
  Texts of digits there and back, and nat.Print in all its cases. Plain lemmas and one contract; no condition.
  Decimals as values; when one may be, in numbers. Plain words and lemmas, and the contracts of dec's mayStand, mayBe and Check.
-/
import Derived.Test.YtnfeifafocemaaaDoorProg
import Derived.WalkKit
import Derived.ProofKit
import Derived.WalkSpells
import Derived.WalkLawsBesides
import Derived.Deep.Draws
import Derived.Lib.Hide
import Derived.RangeFuncNested
import Derived.RangeFuncBound
import Derived.RangeFuncCalls
import Derived.RangeFuncLeaves
import Derived.RangeFuncBox
import Derived.Shelf.Abstract
import Derived.OwnWalkIn
import Derived.TacticsInMore
import Derived.LoopNIn
import Derived.LoopIn
import Derived.Deep.QuietTactic
import Derived.BigQuiet
import Derived.Outline
import Derived.Maps.AppendAt
import Derived.Sort.QuietTacIn
import Derived.Shelf.RegionOpen
import Derived.Lib.MinMax
import Derived.Sort.LoopGhostIn
import Derived.StillTailTactics
import Derived.OrdersIn
import Derived.BigRegion
import Derived.Deep.RegionWith
import Derived.Maps.OwnIn
import Derived.Laws.BytesArg
import Derived.Lib.IndexBytes
set_option linter.unusedVariables false
set_option linter.unusedSimpArgs false
namespace Go.Proofs.YtnfeifafocemaaaDoor

/-- The element at a place, 0 behind the end. -/
def nth (xs : List Nat) (k : Nat) : Nat := xs.getD k 0
/-- The number that limbs tell, the lowest first. -/
def val : List Nat → Nat
  | [] => 0
  | x :: r => x + 4294967296 * val r
end Go.Proofs.YtnfeifafocemaaaDoor

namespace Go.Proofs.YtnfeifafocemaaaDoor
open Go.RowKit

section
variable {w w' : World} {S S' : Nat → Prop} {n : Nat} {A : Option Addr} {xs : List Nat}
end

section
variable {w w' : World} {base n c : Nat} {A : Option Addr} {zs : List Nat}
end

end Go.Proofs.YtnfeifafocemaaaDoor

namespace Go.Proofs.YtnfeifafocemaaaDoor
open Go.RowKit

/-- What Check answers. -/
def chk (xs : List Nat) : Nat := if 256 < xs.length then 5 else if 0 < xs.length ∧ nth xs (xs.length - 1) = 0 then 9 else 0

end Go.Proofs.YtnfeifafocemaaaDoor


namespace Go.Proofs.YtnfeifafocemaaaDoor
open Go.RowKit
attribute [local go_sem] Oper.semAt_some

def isDig (x : Nat) : Bool := decide (48 ≤ x ∧ x ≤ 57)
end Go.Proofs.YtnfeifafocemaaaDoor

namespace Go.Proofs.YtnfeifafocemaaaDoor
open Go.RowKit

/-- The digits of a number, the lowest first. -/
def dgOf : Nat → Nat → List Nat
  | 0, _ => []
  | f + 1, v => if v = 0 then [] else v % 10 :: dgOf f (v / 10)
def dOf (v : Nat) : List Nat := dgOf v v
/-- May a decimal be? -/
def okB (neg : Bool) (xs : List Nat) (exp : Int) : Bool :=
  decide (chk xs = 0) && (decide ((dOf (val xs)).length ≤ 300) && (if xs.length = 0 then (!neg && exp == 0) else (decide (nth (dOf (val xs)) 0 ≠ 0) && (decide (-1000 ≤ exp) && decide (exp ≤ 1000)))))

end Go.Proofs.YtnfeifafocemaaaDoor
