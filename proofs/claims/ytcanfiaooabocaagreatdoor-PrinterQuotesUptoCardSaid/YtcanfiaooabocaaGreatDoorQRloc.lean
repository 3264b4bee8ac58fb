/-
  Contract of dec.opposite: a decimal with the other sign, in memory of its own.
  Contracts of dec's compare and Compare: the order of two decimals.
  Decimals as whole numbers (times a power of ten): their order, their sums, and that each number has one decimal. Plain lemmas, no Go.
  Contracts of dec.Sub, of the function that it hands on, and of workOut with it.
  Contracts of dec.Mul, of the function that it hands on, and of workOut with it.
  Contract of the reference's Same: are two decimals one?
  What the walks of several laws share: words and lemmas (Dordb).
  The answers of dec's Add, Sub and Mul, in numbers, in one form each. Contracts in that form.
  What the walks of several laws share: words and lemmas (Dsumb).
  Contracts of the library's cmp.Compare and slices.Compare at this program: numbers, texts, rows of texts.
  Contract of value's compare: how two values that may be stand, as ordV tells of their trees.
  Contract of value's compare, by induction on the tree.
  Contract of value's Compare: the error of the first value that has one, else how they stand.
  A slice appended to nil: a copy in memory of the call's own, of whatever elements. Contract of value's fresh.
  Contract of value's fresh: a value in memory of its own, but for the values that it holds.
  Words for a tree that is copied row by row: what a row awaits, and what stays while rows are filled in. No function's contract.
  What holds between the rounds of value.copiedWithin, and how a round keeps it. No function's contract.
  Contract of value's copiedWithin: a value in memory of its own, whole where there is room.
  Contracts of value's copied, Text, Number and List: values in memory of their own.
  The map of the last places at which a key stands, as a datum. Pure.
  A value that may be has no more under it than Check counts. Pure.
  The keys of an object that is made, each once, and the value that stands last with each. Pure.
  Contract of value's Object: each key once, rising, with the last value that stands with it.
  What is read of octets, as the program reads it: a value and the place behind it, or a fault and its place. Pure, no program.
  Whole characters at the beginning of octets: over octets. Pure, no program.
  What is read of the beginning of octets does not hang on what follows: an answer that ends ahead of the end, and a fault ahead of the end. Pure, no program.
-/
import Derived.Test.YtcanfiaooabocaaGreatDoorQDop
import Derived.Test.YtcanfiaooabocaaGreatDoorQNparse
import Derived.PlainAid
import Derived.Test.YtcanfiaooabocaaGreatDoorQNrefe
import Derived.Test.YtcanfiaooabocaaGreatDoorQNaddm
import Derived.Deep.AppendLies
import Derived.Deep.RegionHeld3
import Derived.Test.YtcanfiaooabocaaGreatDoorQDref
import Derived.Test.YtcanfiaooabocaaGreatDoorQDbn
import Derived.Deep.Cut
import Derived.Test.YtcanfiaooabocaaGreatDoorQDprt
import Derived.Test.YtcanfiaooabocaaGreatDoorQVchk
import Derived.Test.YtcanfiaooabocaaGreatDoorQVprt
import Derived.Sort.Walk0
import Derived.Deep.QuietTactic
import Derived.Maps.OwnIn
import Derived.Laws.AppendOwnNone
import Derived.Maps.AppendAt
import Derived.Deep.RegionWith
import Derived.BigQuiet
import Derived.Deep.LoopGhost
import Derived.Maps.OwnOps
import Derived.Maps.OwnSet
import Derived.Sort.KeysCollected
import Derived.Test.YtcanfiaooabocaaGreatDoorQUsync
set_option linter.unusedVariables false
set_option linter.unusedSimpArgs false
namespace Go.Proofs.YtcanfiaooabocaaGreatDoor
open Go.RowKit

/-- The sign of the opposite. -/
def ops (nb : Bool) (ys : List Nat) : Bool := !nb && decide (ys ≠ [])

end Go.Proofs.YtcanfiaooabocaaGreatDoor



namespace Go.Proofs.YtcanfiaooabocaaGreatDoor
open Go.RowKit

def p1 (e1 e2 : Int) : Nat := (e1 - min e1 e2).toNat
section
variable {S : Nat → Prop} {n m c d : Nat} {A B : Option Addr} {xs ys : List Nat}
end
end Go.Proofs.YtcanfiaooabocaaGreatDoor




namespace Go.Proofs.YtcanfiaooabocaaGreatDoor
open Go.RowKit

theorem VIn.l32 {w : World} {S : Nat → Prop} {x : VT} {cs : List Value} (h : VIn w S x cs) : ∀ y ∈ partsV x, L32 y.num := by
  induction h with
  | @mk k neg xs e t l ks A LA KA n c ln lc kn kc cs hr hn ht hks hkn hl hln hlc hrow hall ih =>
    intro y hy
    rcases mem_parts.1 hy with rfl | ⟨z, hz, hyz⟩
    · exact hr.l32
    · rw [inner_mk] at hz
      split at hz
      · obtain ⟨i, hi⟩ := List.mem_iff_getElem?.1 hz
        exact ih i z hi y hyz
      · simp at hz
end Go.Proofs.YtcanfiaooabocaaGreatDoor


namespace Go.Proofs.YtcanfiaooabocaaGreatDoor
open Go.RowKit Go.Lib

/-- Texts as cells. -/
def strs (ks : List ByteArray) : List Value := ks.map .string
theorem RdT.cells {w : World} {S : Nat → Prop} {A : Option Addr} {n : Nat} {ks : List ByteArray} (h : RdT w S A n ks) : 0 < n → ∃ b off, A = some ⟨b, off, none⟩ ∧ ∀ j u, (strs ks)[j]? = some u → w.cell? ⟨b, off + j, none⟩ = some u := fun h0 => by
  obtain ⟨b, off, e, _, h2⟩ := h.2 h0
  refine ⟨b, off, e, fun j u hj => ?_⟩
  unfold strs at hj
  rw [List.getElem?_map, Option.map_eq_some_iff] at hj
  obtain ⟨s, hs, rfl⟩ := hj
  exact (h2 j s hs).1
theorem below_seven {a w : World} {B b : Nat} (h : Below B a w) (hb : B ≤ b) (v0 v1 v2 v3 v4 v5 v6 : Value) : Below B a (((((((w.setCell ⟨b, 0, none⟩ v0).setCell ⟨b, 1, none⟩ v1).setCell ⟨b, 2, none⟩ v2).setCell ⟨b, 3, none⟩ v3).setCell ⟨b, 4, none⟩ v4).setCell ⟨b, 5, none⟩ v5).setCell ⟨b, 6, none⟩ v6) :=
  ((((((h.setCell hb v0).setCell hb v1).setCell hb v2).setCell hb v3).setCell hb v4).setCell hb v5).setCell hb v6
end Go.Proofs.YtcanfiaooabocaaGreatDoor

namespace Go.Proofs.YtcanfiaooabocaaGreatDoor
open Go.RowKit

mutual
/-- How many values stand in a value, whatever its kind. -/
def under : VT → Nat
  | .mk _ _ _ _ _ l _ => underL l
def underL : List VT → Nat
  | [] => 0
  | a :: r => 1 + under a + underL r
end
/-- The blocks of the call's own. -/
def Own' (base : Nat) (w : World) : Nat → Prop := fun b => base ≤ b ∧ b < w.heap.size
/-- A row of values that is to be filled in: its slice, and the trees that it holds. -/
structure Row where
  A : Option Addr
  n : Nat
  c : Nat
  l : List VT
def Row.val (r : Row) : Value := .slice r.A r.n r.c
/-- The block of a row that holds something. -/
def Row.at (r : Row) (b : Nat) : Prop := 0 < r.n ∧ r.A = some ⟨b, 0, none⟩
/-- What stands under the values of a row. -/
def unL : List VT → Nat
  | [] => 0
  | a :: r => under a + unL r
def need (st : List Row) : Nat := (st.map fun r => unL r.l).sum
theorem VIn.one {w : World} {S : Nat → Prop} {x : VT} {cs : List Value} (h : VIn w S x cs) : cs.length = 7 ∧ ∀ u ∈ cs, u.oneCell' = true := by
  cases h with
  | mk => exact ⟨rfl, by intro u hu; simp only [List.mem_cons, List.not_mem_nil, or_false] at hu; rcases hu with rfl | rfl | rfl | rfl | rfl | rfl | rfl <;> rfl⟩
/-- A row's cells, one behind the other. -/
theorem RdL.flat {w : World} {S : Nat → Prop} {A : Option Addr} {n : Nat} {l : List VT} (h : RdL w S A n l) :
    ∃ (cv : List Value) (cs : Nat → List Value), cv.length = n * 7 ∧ (∀ i, i < n → (cs i).length = 7 ∧ ∀ j, j < 7 → cv[i * 7 + j]? = (cs i)[j]?) ∧ (0 < n → ∃ b off, A = some ⟨b, off, none⟩ ∧ S b ∧ ∀ j u, cv[j]? = some u → w.cell? ⟨b, off + j, none⟩ = some u) ∧ (∀ u ∈ cv, u.oneCell' = true) ∧ ∀ i x, l[i]? = some x → VIn w S x (cs i) := by
  obtain ⟨h1, _, cs, h3, h4⟩ := h
  have hlen : ∀ i, i < n → (cs i).length = 7 := fun i hi => (h4 i _ (List.getElem?_eq_getElem (by omega))).one.1
  have hcv : ∀ i j, i < n → j < 7 → ((List.range (n * 7)).map fun q => ((cs (q / 7))[q % 7]?).getD undef)[i * 7 + j]? = (cs i)[j]? := fun i j hi hj => by
    have hl := hlen i hi
    rw [List.getElem?_map, List.getElem?_range (by omega)]
    have e1 : (i * 7 + j) / 7 = i := by omega
    have e2 : (i * 7 + j) % 7 = j := by omega
    simp only [Option.map_some, e1, e2]
    rw [List.getElem?_eq_getElem (by omega)]; rfl
  have hat : ∀ q u, ((List.range (n * 7)).map fun q => ((cs (q / 7))[q % 7]?).getD undef)[q]? = some u → q / 7 < n ∧ q % 7 < 7 ∧ (cs (q / 7))[q % 7]? = some u := fun q u hq => by
    have hlt : q < n * 7 := by have := (List.getElem?_eq_some_iff.1 hq).1; simpa using this
    have e0 : q / 7 * 7 + q % 7 = q := by omega
    have h5 := hcv (q / 7) (q % 7) (by omega) (by omega)
    rw [e0, hq] at h5
    exact ⟨by omega, by omega, h5.symm⟩
  refine ⟨_, cs, by simp, fun i hi => ⟨hlen i hi, fun j hj => hcv i j hi hj⟩, fun h0 => ?_, fun u hu => ?_, h4⟩
  · obtain ⟨b, off, e, hS, h5⟩ := h3 h0
    refine ⟨b, off, e, hS, fun q u hq => ?_⟩
    obtain ⟨a1, a2, a3⟩ := hat q u hq
    have := (h5 (q / 7) a1).2 (q % 7) a2
    rw [show q / 7 * 7 + q % 7 = q by omega] at this
    rw [this, a3]
  · obtain ⟨q, hq⟩ := List.mem_iff_getElem?.1 hu
    obtain ⟨a1, a2, a3⟩ := hat q u hq
    exact (h4 (q / 7) _ (List.getElem?_eq_getElem (by omega))).one.2 u (List.mem_of_getElem? a3)
end Go.Proofs.YtcanfiaooabocaaGreatDoor

namespace Go.Proofs.YtcanfiaooabocaaGreatDoor
open Go.RowKit

theorem cell_seven {w : World} {b : Nat} {p : Addr} (h : p.block ≠ b) (v0 v1 v2 v3 v4 v5 v6 : Value) : (((((((w.setCell ⟨b, 0, none⟩ v0).setCell ⟨b, 1, none⟩ v1).setCell ⟨b, 2, none⟩ v2).setCell ⟨b, 3, none⟩ v3).setCell ⟨b, 4, none⟩ v4).setCell ⟨b, 5, none⟩ v5).setCell ⟨b, 6, none⟩ v6).cell? p = w.cell? p :=
  World.cell?_of_block ((Below.heap_setCell _ _ _ _ h).trans ((Below.heap_setCell _ _ _ _ h).trans ((Below.heap_setCell _ _ _ _ h).trans ((Below.heap_setCell _ _ _ _ h).trans ((Below.heap_setCell _ _ _ _ h).trans ((Below.heap_setCell _ _ _ _ h).trans (Below.heap_setCell _ _ _ _ h)))))))
end Go.Proofs.YtcanfiaooabocaaGreatDoor




namespace Go.Proofs.YtcanfiaooabocaaGreatDoor
open Go.RowKit Go.Maps

theorem RdT.getD {w : World} {S : Nat → Prop} {K : Option Addr} {n k : Nat} {ks : List ByteArray} (h : RdT w S K n ks) (hk : k < n) : ∃ b off, K = some ⟨b, off, none⟩ ∧ S b ∧ w.cell? ⟨b, off + k, none⟩ = some (.string (ks.getD k ⟨#[]⟩)) ∧ (ks.getD k ⟨#[]⟩).size ≤ 140737488355328 := by
  obtain ⟨b, off, s, e, hS, hs, hc⟩ := h.at_ hk
  have hd : ks.getD k ⟨#[]⟩ = s := by rw [List.getD_eq_getElem?_getD, hs]; rfl
  exact ⟨b, off, e, hS, by rw [hd]; exact hc, by rw [hd]; exact h.size hs⟩
end Go.Proofs.YtcanfiaooabocaaGreatDoor

namespace Go.Proofs.YtcanfiaooabocaaGreatDoor
open Go.Lib

/-- What reading comes to: something, and the place behind it; or a fault's place and error. -/
inductive RR (α : Type) where
  | ok (a : α) (at_ : Nat)
  | bad (at_ : Nat) (e : Nat)
def RR.bind {α β : Type} (r : RR α) (f : α → Nat → RR β) : RR β :=
  match r with
  | .ok a q => f a q
  | .bad q e => .bad q e
/-- Reading of some kind: octets and a place. -/
abbrev Rd1 (α : Type) := List UInt8 → Nat → RR α
def rPure {α : Type} (a : α) : Rd1 α := fun _ p => .ok a p
def rFail {α : Type} (e : Nat) : Rd1 α := fun _ p => .bad p e
def rAt {α β : Type} (F : Rd1 α) (G : α → Rd1 β) : Rd1 β := fun b p => (F b p).bind fun a q => G a b q

def isWs (c : UInt8) : Bool := c == 32 || c == 9 || c == 10 || c == 13
def isDg (c : UInt8) : Bool := 48 ≤ c && c ≤ 57
def isWd (c : UInt8) : Bool := isDg c || (97 ≤ c && c ≤ 122) || (65 ≤ c && c ≤ 90) || c == 43 || c == 45 || c == 46 || c == 95

/-- The next octet, which stays. -/
def rPeek : Rd1 UInt8 := fun b p => match b[p]? with | some c => .ok c p | none => .bad p 8
/-- One octet, which must fit. -/
def rNeed (f : UInt8 → Bool) : Rd1 Unit := fun b p => match b[p]? with | some c => if f c then .ok () (p + 1) else .bad p 33 | none => .bad p 8
/-- One octet, if it fits. -/
def rSkip (f : UInt8 → Bool) : Rd1 Bool := fun b p => match b[p]? with | some c => if f c then .ok true (p + 1) else .ok false p | none => .ok false p
/-- All that fit. -/
def rSkips (f : UInt8 → Bool) : Rd1 Unit := fun b p => .ok () (p + ((b.drop p).takeWhile f).length)
/-- Nothing that would go on. -/
def rApart : Rd1 Unit := fun b p => match b[p]? with | some c => if isWd c then .bad p 33 else .ok () p | none => .ok () p

/-- How many values a text's loop may go round: more than there are octets. -/
def fuelR : Nat := 70000

/-- A word behind its first octets. -/
def rWord : List UInt8 → Rd1 Unit
  | [] => rApart
  | c :: r => rAt (rNeed (· == c)) fun _ => rWord r

def rDigits : Rd1 Unit := rAt (rNeed isDg) fun _ => rSkips isDg
/-- A number's octets. -/
def rNumeral : Rd1 Unit :=
  rAt (rSkip (· == 45)) fun _ =>
  rAt (rSkip (· == 48)) fun z =>
  rAt (if z then rPure () else rDigits) fun _ =>
  rAt (rSkip (· == 46)) fun f =>
  rAt (if f then rDigits else rPure ()) fun _ =>
  rAt (rSkip fun c => c == 101 || c == 69) fun e =>
  if e then rAt (rSkip fun c => c == 43 || c == 45) fun _ => rDigits else rPure ()
/-- The octets between two places, as numbers. -/
def cutN (b : List UInt8) (p q : Nat) : List Nat := ((b.drop p).take (q - p)).map (·.toNat)
def numV (s : List Nat) : VT := .mk 3 (fN s) (fZ s) (fX s) ⟨#[]⟩ [] []
def rNumber : Rd1 VT := fun b p => (rNumeral b p).bind fun _ q =>
  if fE (cutN b p q) = 0 then (rApart b q).bind fun _ r => .ok (numV (cutN b p q)) r else .bad p (fE (cutN b p q))

def hexOf (c : UInt8) : Option Nat :=
  if 48 ≤ c && c ≤ 57 then some (c.toNat - 48) else if 97 ≤ c && c ≤ 102 then some (c.toNat - 87) else if 65 ≤ c && c ≤ 70 then some (c.toNat - 55) else none
/-- So many hexadecimal digits. -/
def rHex : Nat → Nat → Rd1 Nat
  | 0, n => rPure n
  | k + 1, n => rAt rPeek fun c => match hexOf c with
    | some d => fun b p => rHex k (n * 16 + d) b (p + 1)
    | none => rFail 33
/-- What must hold, or else the escape is none, which began at a place. -/
def rMust (from_ : Nat) (is : Bool) : Rd1 Unit := fun _ p => if is then .ok () p else .bad from_ 33
/-- The low half behind a high half whose escape began at a place. -/
def rLow (from_ : Nat) : Rd1 Nat :=
  rAt rPeek fun c => rAt (rMust from_ (c == 92)) fun _ => fun b p => (rAt rPeek fun d => rAt (rMust from_ (d == 117)) fun _ => fun b p =>
    (rAt (rHex 1 0) fun x => rAt (rMust from_ (x == 13)) fun _ => rAt (rHex 1 0) fun y => rAt (rMust from_ (decide (220 ≤ x * 16 + y))) fun _ =>
      rAt (rHex 2 0) fun z => rPure ((x * 16 + y) * 256 + z)) b (p + 1)) b (p + 1)
/-- A character that is told by digits. -/
def rCoded (from_ : Nat) : Rd1 Int := rAt (rHex 4 0) fun n =>
  if n < 55296 ∨ 57343 < n then rPure (n : Int)
  else if 56320 ≤ n then fun _ _ => .bad from_ 33
  else rAt (rLow from_) fun z => rPure (65536 + ((n : Int) - 55296) * 1024 + ((z : Int) - 56320))
/-- What one octet behind a backslash stands for. -/
def escOf (c : UInt8) : Option Int :=
  if c == 34 then some 34 else if c == 92 then some 92 else if c == 47 then some 47 else if c == 98 then some 8 else if c == 102 then some 12 else if c == 110 then some 10 else if c == 114 then some 13 else if c == 116 then some 9 else none
def rEscape : Rd1 Int := fun b p => (rAt rPeek fun c => if c == 117 then fun b q => rCoded p b (q + 1) else match escOf c with
  | some x => fun _ q => .ok x (q + 1)
  | none => fun _ _ => .bad p 33) b (p + 1)
/-- Whether octets begin with a whole character, or with none at all. -/
def fullL : List UInt8 → Bool
  | [] => false
  | a :: t =>
    if a < 194 ∨ 244 < a then true
    else if (if a < 224 then 1 else if a < 240 then 2 else 3) ≤ t.length then true
    else match t with
      | [] => false
      | c :: u =>
        if c < (if a = 224 then 160 else if a = 240 then 144 else 128) ∨ (if a = 237 then 159 else if a = 244 then 143 else 191) < c then true
        else match u with
          | [] => false
          | d :: _ => decide (d < 128 ∨ 191 < d)
/-- A character of a text, as it stands or as an escape. -/
def rChar : Rd1 Int := rAt rPeek fun c =>
  if c == 92 then rEscape
  else if c < 32 then rFail 33
  else fun b p =>
    if fullL (b.drop p) then (if partOf (b.drop p) = -1 then .bad p 61 else .ok (partOf (b.drop p)) (p + wid (b.drop p))) else .bad b.length 8
/-- Characters, up to the octet that ends a text. -/
def rChars : Nat → List UInt8 → Rd1 (List UInt8)
  | 0, _ => rFail 8
  | n + 1, acc => rAt rPeek fun c => if c == 34 then fun _ p => .ok acc (p + 1) else rAt rChar fun x => rChars n (acc ++ encodeRune x)
def rText : Rd1 ByteArray := fun b p => (rChars fuelR [] b (p + 1)).bind fun t q => if 16384 < t.length then .bad p 5 else .ok ⟨t.toArray⟩ q

/-- The items of a list or an object, from where one may stand. -/
def rItemsF {α : Type} (end_ : UInt8) (item : Nat → Rd1 α) : Nat → Nat → Rd1 (List α)
  | 0, _ => rFail 8
  | n + 1, nth => rAt rPeek fun c => if c == end_ then fun _ p => .ok [] (p + 1)
    else rAt (if 1 < nth then rAt (rNeed (· == 44)) fun _ => rSkips isWs else rPure ()) fun _ =>
      rAt (item nth) fun a => rAt (rSkips isWs) fun _ => rAt (rItemsF end_ item n (nth + 1)) fun l => rPure (a :: l)
/-- .. behind the octet that opens it. -/
def rItems {α : Type} (end_ : UInt8) (item : Nat → Rd1 α) : Rd1 (List α) := fun b p => (rAt (rSkips isWs) fun _ => rItemsF end_ item fuelR 1) b (p + 1)
/-- A value begins here, and may. -/
def rBegin (k nth : Nat) : Rd1 Unit := rAt rPeek fun c =>
  if !(c == 91 || c == 123) && !isDg c && !(c == 34 || c == 45 || c == 110 || c == 102 || c == 116) then rFail 33
  else if (c == 91 || c == 123) && k == 0 then rFail 42
  else if 4096 < nth then rFail 3
  else rPure ()
def rKey (nth : Nat) : Rd1 ByteArray := rAt rPeek fun c => if c == 34 then (if 4096 < nth then rFail 3 else rText) else rFail 33
/-- A value of not too many parts, which began at a place. -/
def rHeld (from_ : Nat) (v : VT) : Rd1 VT := fun _ q => if 16384 < (seen v).length then .bad from_ 3 else .ok v q
def numT0 (k : Int) : VT := .mk k false [] 0 ⟨#[]⟩ [] []
/-- A value, the nth of its list or object, with so many levels left; an object is made of its keys and values by a given way. -/
def rValue (mk : List (ByteArray × VT) → VT) : Nat → Nat → Rd1 VT
  | 0, nth => rAt (rBegin 0 nth) fun _ => rAt rPeek fun c =>
    if c == 34 then rAt rText fun t => rPure (.mk 4 false [] 0 t [] [])
    else if c == 110 then rAt (rWord [110, 117, 108, 108]) fun _ => rPure (numT0 0)
    else if c == 102 then rAt (rWord [102, 97, 108, 115, 101]) fun _ => rPure (numT0 1)
    else if c == 116 then rAt (rWord [116, 114, 117, 101]) fun _ => rPure (numT0 2)
    else rNumber
  | k + 1, nth => rAt (rBegin (k + 1) nth) fun _ => rAt rPeek fun c =>
    if c == 91 then fun b p => (rItems 93 (rValue mk k) b p).bind fun l q => rHeld p (.mk 5 false [] 0 ⟨#[]⟩ l []) b q
    else if c == 123 then fun b p => (rItems 125 (fun n => rAt (rKey n) fun key => rAt (rSkips isWs) fun _ => rAt (rNeed (· == 58)) fun _ => rAt (rSkips isWs) fun _ => rAt (rValue mk k n) fun v => rPure (key, v)) b p).bind fun l q => rHeld p (mk l) b q
    else if c == 34 then rAt rText fun t => rPure (.mk 4 false [] 0 t [] [])
    else if c == 110 then rAt (rWord [110, 117, 108, 108]) fun _ => rPure (numT0 0)
    else if c == 102 then rAt (rWord [102, 97, 108, 115, 101]) fun _ => rPure (numT0 1)
    else if c == 116 then rAt (rWord [116, 114, 117, 101]) fun _ => rPure (numT0 2)
    else rNumber

end Go.Proofs.YtcanfiaooabocaaGreatDoor

namespace Go.Proofs.YtcanfiaooabocaaGreatDoor
open Go.Lib

theorem u8_lt (a : UInt8) (n : Nat) (h : n < 256) : (a < UInt8.ofNat n) ↔ a.toNat < n := by
  rw [UInt8.lt_iff_toNat_lt]
  simp [UInt8.toNat_ofNat, Nat.mod_eq_of_lt h]
theorem u8_gt (a : UInt8) (n : Nat) (h : n < 256) : (UInt8.ofNat n < a) ↔ n < a.toNat := by
  rw [UInt8.lt_iff_toNat_lt]
  simp [UInt8.toNat_ofNat, Nat.mod_eq_of_lt h]
theorem u8_eq (a : UInt8) (n : Nat) (h : n < 256) : (a = UInt8.ofNat n) ↔ a.toNat = n := by
  constructor
  · rintro rfl
    simp [UInt8.toNat_ofNat, Nat.mod_eq_of_lt h]
  · intro e
    apply UInt8.toNat.inj
    simp [UInt8.toNat_ofNat, Nat.mod_eq_of_lt h, e]
end Go.Proofs.YtcanfiaooabocaaGreatDoor

namespace Go.Proofs.YtcanfiaooabocaaGreatDoor
open Go.Lib

theorem drop_left {b r : List UInt8} {p : Nat} (h : p ≤ b.length) : (b ++ r).drop p = b.drop p ++ r := List.drop_append_of_le_length h
end Go.Proofs.YtcanfiaooabocaaGreatDoor
