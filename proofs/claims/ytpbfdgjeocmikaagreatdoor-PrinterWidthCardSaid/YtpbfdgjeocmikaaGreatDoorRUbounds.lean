/-
  Contract of dec.opposite: a decimal with the other sign, in memory of its own.
  Contracts of dec's compare and Compare: the order of two decimals.
  Decimals as whole numbers (times a power of ten): their order, their sums, and that each number has one decimal. Plain lemmas, no Go.
  Contracts of dec.Sub, of the function that it hands on, and of workOut with it.
  Contracts of dec.Mul, of the function that it hands on, and of workOut with it.
  Contract of the reference's Same: are two decimals one?
  What the walks of several laws share: words and lemmas (Dordb).
  The answers of dec's Add, Sub and Mul, in numbers, in one form each. Contracts in that form.
  What the walks of several laws share: words and lemmas (Dsumb).
  Contracts of the library's cmp.Compare and slices.Compare at this program: numbers, texts, rows of texts.
  Contract of value's compare: how two values that may be stand, as ordV tells of their trees.
  Contract of value's compare, by induction on the tree.
  Contract of value's Compare: the error of the first value that has one, else how they stand.
  A slice appended to nil: a copy in memory of the call's own, of whatever elements. Contract of value's fresh.
  Contract of value's fresh: a value in memory of its own, but for the values that it holds.
  Words for a tree that is copied row by row: what a row awaits, and what stays while rows are filled in. No function's contract.
  What holds between the rounds of value.copiedWithin, and how a round keeps it. No function's contract.
  Contract of value's copiedWithin: a value in memory of its own, whole where there is room.
  Contracts of value's copied, Text, Number and List: values in memory of their own.
  The map of the last places at which a key stands, as a datum. Pure.
  A value that may be has no more under it than Check counts. Pure.
  The keys of an object that is made, each once, and the value that stands last with each. Pure.
  Contract of value's Object: each key once, rising, with the last value that stands with it.
  What is read of octets, as the program reads it: a value and the place behind it, or a fault and its place. Pure, no program.
  What is read of the beginning of octets does not hang on what follows: an answer that ends ahead of the end, and a fault ahead of the end. Pure, no program.
  Contracts of the reference's zeros and plain.
  Rows of values of one cell each: one of the call's own, and a slice that reads as one; how both abide what happens beside them. No condition.
  Contracts of utf.Bounds and of the reference's Bounds.
-/
import Derived.Test.YtpbfdgjeocmikaaGreatDoorRDop
import Derived.Test.YtpbfdgjeocmikaaGreatDoorRNparse
import Derived.PlainAid
import Derived.Test.YtpbfdgjeocmikaaGreatDoorRNrefe
import Derived.Test.YtpbfdgjeocmikaaGreatDoorRNaddm
import Derived.Deep.AppendLies
import Derived.Deep.RegionHeld3
import Derived.Test.YtpbfdgjeocmikaaGreatDoorRDref
import Derived.Test.YtpbfdgjeocmikaaGreatDoorRDbm
import Derived.Deep.Cut
import Derived.Test.YtpbfdgjeocmikaaGreatDoorRDprt
import Derived.Test.YtpbfdgjeocmikaaGreatDoorRVchk
import Derived.Test.YtpbfdgjeocmikaaGreatDoorRVprt
import Derived.Sort.Walk0
import Derived.Deep.QuietTactic
import Derived.Maps.OwnIn
import Derived.Laws.AppendOwnNone
import Derived.Maps.AppendAt
import Derived.Deep.RegionWith
import Derived.BigQuiet
import Derived.Deep.LoopGhost
import Derived.Maps.OwnOps
import Derived.Maps.OwnSet
import Derived.Sort.KeysCollected
import Derived.Test.YtpbfdgjeocmikaaGreatDoorRUpure
import Derived.Lib.ItoaLen
import Derived.Test.YtpbfdgjeocmikaaGreatDoorRUcheck
import Derived.Laws.BytesArg
import Derived.WalkSpells
import Derived.WalkLawsBesides
import Derived.Deep.Draws
import Derived.BigRegion
set_option linter.unusedVariables false
set_option linter.unusedSimpArgs false
namespace Go.Proofs.YtpbfdgjeocmikaaGreatDoor
open Go.RowKit

/-- The sign of the opposite. -/
def ops (nb : Bool) (ys : List Nat) : Bool := !nb && decide (ys ≠ [])

end Go.Proofs.YtpbfdgjeocmikaaGreatDoor



namespace Go.Proofs.YtpbfdgjeocmikaaGreatDoor
open Go.RowKit

def p1 (e1 e2 : Int) : Nat := (e1 - min e1 e2).toNat
section
variable {S : Nat → Prop} {n m c d : Nat} {A B : Option Addr} {xs ys : List Nat}
end
end Go.Proofs.YtpbfdgjeocmikaaGreatDoor




namespace Go.Proofs.YtpbfdgjeocmikaaGreatDoor
open Go.RowKit

theorem VIn.l32 {w : World} {S : Nat → Prop} {x : VT} {cs : List Value} (h : VIn w S x cs) : ∀ y ∈ partsV x, L32 y.num := by
  induction h with
  | @mk k neg xs e t l ks A LA KA n c ln lc kn kc cs hr hn ht hks hkn hl hln hlc hrow hall ih =>
    intro y hy
    rcases mem_parts.1 hy with rfl | ⟨z, hz, hyz⟩
    · exact hr.l32
    · rw [inner_mk] at hz
      split at hz
      · obtain ⟨i, hi⟩ := List.mem_iff_getElem?.1 hz
        exact ih i z hi y hyz
      · simp at hz
end Go.Proofs.YtpbfdgjeocmikaaGreatDoor


namespace Go.Proofs.YtpbfdgjeocmikaaGreatDoor
open Go.RowKit Go.Lib

/-- Texts as cells. -/
def strs (ks : List ByteArray) : List Value := ks.map .string
theorem RdT.cells {w : World} {S : Nat → Prop} {A : Option Addr} {n : Nat} {ks : List ByteArray} (h : RdT w S A n ks) : 0 < n → ∃ b off, A = some ⟨b, off, none⟩ ∧ ∀ j u, (strs ks)[j]? = some u → w.cell? ⟨b, off + j, none⟩ = some u := fun h0 => by
  obtain ⟨b, off, e, _, h2⟩ := h.2 h0
  refine ⟨b, off, e, fun j u hj => ?_⟩
  unfold strs at hj
  rw [List.getElem?_map, Option.map_eq_some_iff] at hj
  obtain ⟨s, hs, rfl⟩ := hj
  exact (h2 j s hs).1
theorem below_seven {a w : World} {B b : Nat} (h : Below B a w) (hb : B ≤ b) (v0 v1 v2 v3 v4 v5 v6 : Value) : Below B a (((((((w.setCell ⟨b, 0, none⟩ v0).setCell ⟨b, 1, none⟩ v1).setCell ⟨b, 2, none⟩ v2).setCell ⟨b, 3, none⟩ v3).setCell ⟨b, 4, none⟩ v4).setCell ⟨b, 5, none⟩ v5).setCell ⟨b, 6, none⟩ v6) :=
  ((((((h.setCell hb v0).setCell hb v1).setCell hb v2).setCell hb v3).setCell hb v4).setCell hb v5).setCell hb v6
end Go.Proofs.YtpbfdgjeocmikaaGreatDoor

namespace Go.Proofs.YtpbfdgjeocmikaaGreatDoor
open Go.RowKit

/-- The blocks of the call's own. -/
def Own' (base : Nat) (w : World) : Nat → Prop := fun b => base ≤ b ∧ b < w.heap.size
theorem VIn.one {w : World} {S : Nat → Prop} {x : VT} {cs : List Value} (h : VIn w S x cs) : cs.length = 7 ∧ ∀ u ∈ cs, u.oneCell' = true := by
  cases h with
  | mk => exact ⟨rfl, by intro u hu; simp only [List.mem_cons, List.not_mem_nil, or_false] at hu; rcases hu with rfl | rfl | rfl | rfl | rfl | rfl | rfl <;> rfl⟩
/-- A row's cells, one behind the other. -/
theorem RdL.flat {w : World} {S : Nat → Prop} {A : Option Addr} {n : Nat} {l : List VT} (h : RdL w S A n l) :
    ∃ (cv : List Value) (cs : Nat → List Value), cv.length = n * 7 ∧ (∀ i, i < n → (cs i).length = 7 ∧ ∀ j, j < 7 → cv[i * 7 + j]? = (cs i)[j]?) ∧ (0 < n → ∃ b off, A = some ⟨b, off, none⟩ ∧ S b ∧ ∀ j u, cv[j]? = some u → w.cell? ⟨b, off + j, none⟩ = some u) ∧ (∀ u ∈ cv, u.oneCell' = true) ∧ ∀ i x, l[i]? = some x → VIn w S x (cs i) := by
  obtain ⟨h1, _, cs, h3, h4⟩ := h
  have hlen : ∀ i, i < n → (cs i).length = 7 := fun i hi => (h4 i _ (List.getElem?_eq_getElem (by omega))).one.1
  have hcv : ∀ i j, i < n → j < 7 → ((List.range (n * 7)).map fun q => ((cs (q / 7))[q % 7]?).getD undef)[i * 7 + j]? = (cs i)[j]? := fun i j hi hj => by
    have hl := hlen i hi
    rw [List.getElem?_map, List.getElem?_range (by omega)]
    have e1 : (i * 7 + j) / 7 = i := by omega
    have e2 : (i * 7 + j) % 7 = j := by omega
    simp only [Option.map_some, e1, e2]
    rw [List.getElem?_eq_getElem (by omega)]; rfl
  have hat : ∀ q u, ((List.range (n * 7)).map fun q => ((cs (q / 7))[q % 7]?).getD undef)[q]? = some u → q / 7 < n ∧ q % 7 < 7 ∧ (cs (q / 7))[q % 7]? = some u := fun q u hq => by
    have hlt : q < n * 7 := by have := (List.getElem?_eq_some_iff.1 hq).1; simpa using this
    have e0 : q / 7 * 7 + q % 7 = q := by omega
    have h5 := hcv (q / 7) (q % 7) (by omega) (by omega)
    rw [e0, hq] at h5
    exact ⟨by omega, by omega, h5.symm⟩
  refine ⟨_, cs, by simp, fun i hi => ⟨hlen i hi, fun j hj => hcv i j hi hj⟩, fun h0 => ?_, fun u hu => ?_, h4⟩
  · obtain ⟨b, off, e, hS, h5⟩ := h3 h0
    refine ⟨b, off, e, hS, fun q u hq => ?_⟩
    obtain ⟨a1, a2, a3⟩ := hat q u hq
    have := (h5 (q / 7) a1).2 (q % 7) a2
    rw [show q / 7 * 7 + q % 7 = q by omega] at this
    rw [this, a3]
  · obtain ⟨q, hq⟩ := List.mem_iff_getElem?.1 hu
    obtain ⟨a1, a2, a3⟩ := hat q u hq
    exact (h4 (q / 7) _ (List.getElem?_eq_getElem (by omega))).one.2 u (List.mem_of_getElem? a3)
end Go.Proofs.YtpbfdgjeocmikaaGreatDoor

namespace Go.Proofs.YtpbfdgjeocmikaaGreatDoor
open Go.RowKit

theorem cell_seven {w : World} {b : Nat} {p : Addr} (h : p.block ≠ b) (v0 v1 v2 v3 v4 v5 v6 : Value) : (((((((w.setCell ⟨b, 0, none⟩ v0).setCell ⟨b, 1, none⟩ v1).setCell ⟨b, 2, none⟩ v2).setCell ⟨b, 3, none⟩ v3).setCell ⟨b, 4, none⟩ v4).setCell ⟨b, 5, none⟩ v5).setCell ⟨b, 6, none⟩ v6).cell? p = w.cell? p :=
  World.cell?_of_block ((Below.heap_setCell _ _ _ _ h).trans ((Below.heap_setCell _ _ _ _ h).trans ((Below.heap_setCell _ _ _ _ h).trans ((Below.heap_setCell _ _ _ _ h).trans ((Below.heap_setCell _ _ _ _ h).trans ((Below.heap_setCell _ _ _ _ h).trans (Below.heap_setCell _ _ _ _ h)))))))
end Go.Proofs.YtpbfdgjeocmikaaGreatDoor




namespace Go.Proofs.YtpbfdgjeocmikaaGreatDoor
open Go.RowKit Go.Maps

theorem RdT.getD {w : World} {S : Nat → Prop} {K : Option Addr} {n k : Nat} {ks : List ByteArray} (h : RdT w S K n ks) (hk : k < n) : ∃ b off, K = some ⟨b, off, none⟩ ∧ S b ∧ w.cell? ⟨b, off + k, none⟩ = some (.string (ks.getD k ⟨#[]⟩)) ∧ (ks.getD k ⟨#[]⟩).size ≤ 140737488355328 := by
  obtain ⟨b, off, s, e, hS, hs, hc⟩ := h.at_ hk
  have hd : ks.getD k ⟨#[]⟩ = s := by rw [List.getD_eq_getElem?_getD, hs]; rfl
  exact ⟨b, off, e, hS, by rw [hd]; exact hc, by rw [hd]; exact h.size hs⟩
end Go.Proofs.YtpbfdgjeocmikaaGreatDoor

namespace Go.Proofs.YtpbfdgjeocmikaaGreatDoor
open Go.Lib

def isWs (c : UInt8) : Bool := c == 32 || c == 9 || c == 10 || c == 13
def isDg (c : UInt8) : Bool := 48 ≤ c && c ≤ 57
def isWd (c : UInt8) : Bool := isDg c || (97 ≤ c && c ≤ 122) || (65 ≤ c && c ≤ 90) || c == 43 || c == 45 || c == 46 || c == 95

end Go.Proofs.YtpbfdgjeocmikaaGreatDoor

namespace Go.Proofs.YtpbfdgjeocmikaaGreatDoor
open Go.Lib

theorem drop_left {b r : List UInt8} {p : Nat} (h : p ≤ b.length) : (b ++ r).drop p = b.drop p ++ r := List.drop_append_of_le_length h
end Go.Proofs.YtpbfdgjeocmikaaGreatDoor

namespace Go.Proofs.YtpbfdgjeocmikaaGreatDoor
open Go.RowKit

theorem ResB.one (w : World) (x : Nat) (hx : x < 256) : ResB (w.alloc (.cells #[.int .u8 (x : Int)] 5)) w.heap.size (some ⟨w.heap.size, 0, none⟩) 1 1 [x] := by
  refine ⟨rfl, L8.one hx, ?_⟩
  have h := World.ownsRow_lit (base := w.heap.size) (e := 5) (size := 1) w #[.int .u8 (x : Int)] 1 (Nat.le_refl _) (by unfold maxLen; omega) (by simp)
  show World.ownsRow _ _ _ _ _ _ [Value.int .u8 (x : Int)]
  simpa using h
end Go.Proofs.YtpbfdgjeocmikaaGreatDoor

namespace Go.Proofs.YtpbfdgjeocmikaaGreatDoor
open Go.RowKit Go.Lib

section
variable {w w' : World} {base n c : Nat} {t : TypeId} {A : Option Addr} {vs : List Value} {S S' : Nat → Prop}
end

def bs8 (l : List UInt8) : List Value := l.map fun b => Value.int .u8 (b.toNat : Int)
end Go.Proofs.YtpbfdgjeocmikaaGreatDoor

namespace Go.Proofs.YtpbfdgjeocmikaaGreatDoor
open Go.RowKit Go.Lib

/-- A place put into bounds. -/
def wi (n p : Int) : Int := min (max (if p < 0 then p + n else p) 0) n
end Go.Proofs.YtpbfdgjeocmikaaGreatDoor
