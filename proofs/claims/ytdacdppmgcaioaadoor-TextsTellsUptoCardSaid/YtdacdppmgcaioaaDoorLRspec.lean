/-
  An argument of type []uint32, opened once, nil or not: it reads as limbs, below the heap's size.
  A value as a tree: what seven cells of the memory read as, part by part.
  Contracts of value's holds and inside.
  Contract of value's rise: whether each of the texts is above the one ahead of it.
  What the functions of value say of trees: the parts of a value one behind the other, which value may be, and how two stand to each other. Pure, no program.
  A law for 'for x := range f' over a function whose rounds may leave early: a round keeps all blocks but a set that the caller names, so the iterator may make blocks as it goes; how an element is handed over is a relation. Over any program, no condition beyond what the law names.
  Contract of value.parts: the iterator that it hands back hands out a value and all its parts, each ahead of its own, with its level.
  Contracts of value's size and deep: how many parts a value has, and how deep they stand, counted up to a number.
  Contract of value's deep: how deep a value's lists and objects stand, counted up to a number.
  What is read of octets, as the program reads it: a value and the place behind it, or a fault and its place. Pure, no program.
-/
import Derived.Test.YtdacdppmgcaioaaDoorRows
import Derived.Test.YtdacdppmgcaioaaDoorLDpar
import Derived.ProofKit
import Derived.OpenShut
import Derived.SizedLaws
import Derived.Lib.SmallJoins
import Derived.Deep.Slices
import Derived.Deep.Strs
import Derived.Below
import Derived.RangeFuncRecord
import Derived.Deep.QuietTactic
import Derived.Outline
import Derived.Maps.AppendAt
import Derived.RangeFuncBox
import Derived.BigRegion
import Derived.Test.YtdacdppmgcaioaaDoorLUpure
import Derived.RangeFuncNested
import Derived.RangeFuncBound
import Derived.RangeFuncCalls
import Derived.RangeFuncLeaves
import Derived.Shelf.Abstract
import Derived.WalkKit
import Derived.OwnWalkIn
import Derived.TacticsInMore
import Derived.LoopNIn
import Derived.LoopIn
import Derived.Test.YtdacdppmgcaioaaDoorProg
import Derived.Sort.QuietTacIn
import Derived.Shelf.RegionOpen
import Derived.Sort.LoopGhostIn
import Derived.Sort.CutIn
import Derived.Maps.OwnIn
import Derived.Laws.AppendOwnNone
import Derived.Deep.Cut
set_option linter.unusedVariables false
set_option linter.unusedSimpArgs false
namespace Go.Proofs.YtdacdppmgcaioaaDoor
open Go.ChangeShapes Go.WideShapes Go.ChangeAt Go.RowKit

theorem own : ownKnob Tryd.prog.godebug = none := by kernel_rfl
theorem laidOut : laidOutB Tryd.prog = true := by kernel_rfl
end Go.Proofs.YtdacdppmgcaioaaDoor

namespace Go.Proofs.YtdacdppmgcaioaaDoor
open Go.ChangeShapes Go.WideShapes Go.ChangeAt Go.RowKit Go.Joins Go.Deep

/-- A value: kind, number (sign, limbs, exponent), text, list, keys. -/
inductive VT where
  | mk (kind : Int) (neg : Bool) (num : List Nat) (exp : Int) (text : ByteArray) (list : List VT) (keys : List ByteArray)
end Go.Proofs.YtdacdppmgcaioaaDoor

namespace Go.Proofs.YtdacdppmgcaioaaDoor
open Go.RowKit

/-- Whether a kind holds values. -/
def hold (k : Int) : Bool := k == 5 || k == 6

end Go.Proofs.YtdacdppmgcaioaaDoor

namespace Go.Proofs.YtdacdppmgcaioaaDoor
open Go.RowKit Go.Deep

namespace VT
def kind : VT → Int | mk k _ _ _ _ _ _ => k
def neg : VT → Bool | mk _ n _ _ _ _ _ => n
def num : VT → List Nat | mk _ _ x _ _ _ _ => x
def exp : VT → Int | mk _ _ _ e _ _ _ => e
def text : VT → ByteArray | mk _ _ _ _ t _ _ => t
def list : VT → List VT | mk _ _ _ _ _ l _ => l
def keys : VT → List ByteArray | mk _ _ _ _ _ _ k => k
end VT

mutual
/-- A value and all its parts, each ahead of its own, with its level. -/
def pre (lv : Nat) : VT → List (Nat × VT)
  | .mk k n x e t l ks => (lv, .mk k n x e t l ks) :: (if hold k then preL (lv + 1) l else [])
def preL (lv : Nat) : List VT → List (Nat × VT)
  | [] => []
  | v :: r => pre lv v ++ preL lv r
end
end Go.Proofs.YtdacdppmgcaioaaDoor

namespace Go.Proofs.YtdacdppmgcaioaaDoor
open Go.Lib

/-- What reading comes to: something, and the place behind it; or a fault's place and error. -/
inductive RR (α : Type) where
  | ok (a : α) (at_ : Nat)
  | bad (at_ : Nat) (e : Nat)
def RR.bind {α β : Type} (r : RR α) (f : α → Nat → RR β) : RR β :=
  match r with
  | .ok a q => f a q
  | .bad q e => .bad q e
end Go.Proofs.YtdacdppmgcaioaaDoor
