/-
  What the functions of value say of trees: the parts of a value one behind the other, which value may be, and how two stand to each other. Pure, no program.
  A law for 'for x := range f' over a function whose rounds may leave early: a round keeps all blocks but a set that the caller names, so the iterator may make blocks as it goes; how an element is handed over is a relation. Over any program, no condition beyond what the law names.
  Contract of value.parts: the iterator that it hands back hands out a value and all its parts, each ahead of its own, with its level.
  Contracts of value's size and deep: how many parts a value has, and how deep they stand, counted up to a number.
  Contract of value's deep: how deep a value's lists and objects stand, counted up to a number.
-/
import Derived.Test.YtnfeifafocemaaaDoorCVbas
import Derived.Test.YtnfeifafocemaaaDoorCDa
import Derived.Test.YtnfeifafocemaaaDoorCUpure
import Derived.RangeFuncNested
import Derived.RangeFuncBound
import Derived.RangeFuncCalls
import Derived.RangeFuncLeaves
import Derived.RangeFuncBox
import Derived.Shelf.Abstract
import Derived.WalkKit
import Derived.OwnWalkIn
import Derived.TacticsInMore
import Derived.LoopNIn
import Derived.LoopIn
import Derived.Test.YtnfeifafocemaaaDoorProg
import Derived.Sort.QuietTacIn
import Derived.Shelf.RegionOpen
import Derived.Outline
import Derived.Sort.LoopGhostIn
import Derived.Sort.CutIn
import Derived.Maps.OwnIn
import Derived.Maps.AppendAt
import Derived.Laws.AppendOwnNone
import Derived.Deep.Cut
set_option linter.unusedVariables false
set_option linter.unusedSimpArgs false
namespace Go.Proofs.YtnfeifafocemaaaDoor
open Go.RowKit Go.Deep

namespace VT
def kind : VT → Int | mk k _ _ _ _ _ _ => k
def neg : VT → Bool | mk _ n _ _ _ _ _ => n
def num : VT → List Nat | mk _ _ x _ _ _ _ => x
def exp : VT → Int | mk _ _ _ e _ _ _ => e
def text : VT → ByteArray | mk _ _ _ _ t _ _ => t
def list : VT → List VT | mk _ _ _ _ _ l _ => l
def keys : VT → List ByteArray | mk _ _ _ _ _ _ k => k
/-- What a value holds. -/
def inner (x : VT) : List VT := if hold x.kind then x.list else []
end VT

mutual
/-- A value and all its parts, each ahead of its own, with its level. -/
def pre (lv : Nat) : VT → List (Nat × VT)
  | .mk k n x e t l ks => (lv, .mk k n x e t l ks) :: (if hold k then preL (lv + 1) l else [])
def preL (lv : Nat) : List VT → List (Nat × VT)
  | [] => []
  | v :: r => pre lv v ++ preL lv r
end
/-- The texts that a value uses itself. -/
def ownT (x : VT) : List ByteArray := if x.kind = 4 then [x.text] else if x.kind = 6 then x.keys else []
/-- Whether number and keys are what the kind asks for, and the rest is zero. -/
def fitV (x : VT) : Bool :=
  if x.kind = 3 then okB x.neg x.num x.exp && decide (x.text.size + x.list.length + x.keys.length = 0)
  else if x.kind = 4 then decide (x.num.length + x.list.length + x.keys.length = 0) && !x.neg && decide (x.exp = 0)
  else if x.kind = 5 then decide (x.num.length + x.text.size + x.keys.length = 0) && !x.neg && decide (x.exp = 0)
  else if x.kind = 6 then decide (x.keys.length = x.list.length) && rises x.keys && decide (x.num.length + x.text.size = 0) && !x.neg && decide (x.exp = 0)
  else decide (x.num.length + x.text.size + x.list.length + x.keys.length = 0) && !x.neg && decide (x.exp = 0)
/-- The error of a value, but of its parts. -/
def alone (x : VT) : Nat :=
  if x.kind < 0 ∨ 6 < x.kind then 23
  else if (ownT x).any (fun s => !isT s.data.toList) then 61
  else if (ownT x).any (fun s => decide (16384 < s.size)) then 5
  else if 4096 < (ownT x).length ∨ 4096 < x.inner.length then 5
  else if fitV x then 0 else 9
end Go.Proofs.YtnfeifafocemaaaDoor
