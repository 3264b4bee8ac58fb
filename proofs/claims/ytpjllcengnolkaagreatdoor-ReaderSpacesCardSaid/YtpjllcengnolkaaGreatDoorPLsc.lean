/-
  What is read of octets, as the program reads it: a value and the place behind it, or a fault and its place. Pure, no program.
  A text of characters stands in another one just at its characters; two rising lists of the same numbers are one. On plain lists. No condition.
  What the package utf takes of Go's library, at this program: a character decoded, and the two tables that this reads; a copy of a text. What each asks stands in its premises.
  The scan: where it stands in memory, what a step of it tells. Contracts of peek, isDigit, one, need and skip.
-/
import Derived.Test.YtpjllcengnolkaaGreatDoorPDpar
import Derived.Test.YtpjllcengnolkaaGreatDoorPVprt
import Derived.Test.YtpjllcengnolkaaGreatDoorPUpure
import Derived.RangeFuncNested
import Derived.RangeFuncBound
import Derived.RangeFuncCalls
import Derived.RangeFuncLeaves
import Derived.RangeFuncBox
import Derived.Shelf.Abstract
import Derived.WalkKit
import Derived.OwnWalkIn
import Derived.TacticsInMore
import Derived.LoopNIn
import Derived.LoopIn
import Derived.Test.YtpjllcengnolkaaGreatDoorProg
import Derived.Sort.QuietTacIn
import Derived.Shelf.RegionOpen
import Derived.Outline
import Derived.Sort.LoopGhostIn
import Derived.Test.YtpjllcengnolkaaGreatDoorShelf
import Derived.Shelf.Pu.Clone
import Derived.Deep.QuietTactic
import Derived.BigQuiet
set_option linter.unusedVariables false
set_option linter.unusedSimpArgs false
namespace Go.Proofs.YtpjllcengnolkaaGreatDoor
open Go.Lib

/-- What reading comes to: something, and the place behind it; or a fault's place and error. -/
inductive RR (α : Type) where
  | ok (a : α) (at_ : Nat)
  | bad (at_ : Nat) (e : Nat)
def RR.bind {α β : Type} (r : RR α) (f : α → Nat → RR β) : RR β :=
  match r with
  | .ok a q => f a q
  | .bad q e => .bad q e
/-- Reading of some kind: octets and a place. -/
abbrev Rd1 (α : Type) := List UInt8 → Nat → RR α
def rPure {α : Type} (a : α) : Rd1 α := fun _ p => .ok a p
def rFail {α : Type} (e : Nat) : Rd1 α := fun _ p => .bad p e
def rAt {α β : Type} (F : Rd1 α) (G : α → Rd1 β) : Rd1 β := fun b p => (F b p).bind fun a q => G a b q

def isWs (c : UInt8) : Bool := c == 32 || c == 9 || c == 10 || c == 13
def isDg (c : UInt8) : Bool := 48 ≤ c && c ≤ 57
def isWd (c : UInt8) : Bool := isDg c || (97 ≤ c && c ≤ 122) || (65 ≤ c && c ≤ 90) || c == 43 || c == 45 || c == 46 || c == 95

/-- The next octet, which stays. -/
def rPeek : Rd1 UInt8 := fun b p => match b[p]? with | some c => .ok c p | none => .bad p 8
/-- One octet, which must fit. -/
def rNeed (f : UInt8 → Bool) : Rd1 Unit := fun b p => match b[p]? with | some c => if f c then .ok () (p + 1) else .bad p 33 | none => .bad p 8
/-- One octet, if it fits. -/
def rSkip (f : UInt8 → Bool) : Rd1 Bool := fun b p => match b[p]? with | some c => if f c then .ok true (p + 1) else .ok false p | none => .ok false p
/-- All that fit. -/
def rSkips (f : UInt8 → Bool) : Rd1 Unit := fun b p => .ok () (p + ((b.drop p).takeWhile f).length)
/-- Nothing that would go on. -/
def rApart : Rd1 Unit := fun b p => match b[p]? with | some c => if isWd c then .bad p 33 else .ok () p | none => .ok () p

/-- How many values a text's loop may go round: more than there are octets. -/
def fuelR : Nat := 70000

/-- A word behind its first octets. -/
def rWord : List UInt8 → Rd1 Unit
  | [] => rApart
  | c :: r => rAt (rNeed (· == c)) fun _ => rWord r

def rDigits : Rd1 Unit := rAt (rNeed isDg) fun _ => rSkips isDg
/-- A number's octets. -/
def rNumeral : Rd1 Unit :=
  rAt (rSkip (· == 45)) fun _ =>
  rAt (rSkip (· == 48)) fun z =>
  rAt (if z then rPure () else rDigits) fun _ =>
  rAt (rSkip (· == 46)) fun f =>
  rAt (if f then rDigits else rPure ()) fun _ =>
  rAt (rSkip fun c => c == 101 || c == 69) fun e =>
  if e then rAt (rSkip fun c => c == 43 || c == 45) fun _ => rDigits else rPure ()
/-- The octets between two places, as numbers. -/
def cutN (b : List UInt8) (p q : Nat) : List Nat := ((b.drop p).take (q - p)).map (·.toNat)
def numV (s : List Nat) : VT := .mk 3 (fN s) (fZ s) (fX s) ⟨#[]⟩ [] []
def rNumber : Rd1 VT := fun b p => (rNumeral b p).bind fun _ q =>
  if fE (cutN b p q) = 0 then (rApart b q).bind fun _ r => .ok (numV (cutN b p q)) r else .bad p (fE (cutN b p q))

def hexOf (c : UInt8) : Option Nat :=
  if 48 ≤ c && c ≤ 57 then some (c.toNat - 48) else if 97 ≤ c && c ≤ 102 then some (c.toNat - 87) else if 65 ≤ c && c ≤ 70 then some (c.toNat - 55) else none
/-- So many hexadecimal digits. -/
def rHex : Nat → Nat → Rd1 Nat
  | 0, n => rPure n
  | k + 1, n => rAt rPeek fun c => match hexOf c with
    | some d => fun b p => rHex k (n * 16 + d) b (p + 1)
    | none => rFail 33
/-- What must hold, or else the escape is none, which began at a place. -/
def rMust (from_ : Nat) (is : Bool) : Rd1 Unit := fun _ p => if is then .ok () p else .bad from_ 33
/-- The low half behind a high half whose escape began at a place. -/
def rLow (from_ : Nat) : Rd1 Nat :=
  rAt rPeek fun c => rAt (rMust from_ (c == 92)) fun _ => fun b p => (rAt rPeek fun d => rAt (rMust from_ (d == 117)) fun _ => fun b p =>
    (rAt (rHex 1 0) fun x => rAt (rMust from_ (x == 13)) fun _ => rAt (rHex 1 0) fun y => rAt (rMust from_ (decide (220 ≤ x * 16 + y))) fun _ =>
      rAt (rHex 2 0) fun z => rPure ((x * 16 + y) * 256 + z)) b (p + 1)) b (p + 1)
/-- A character that is told by digits. -/
def rCoded (from_ : Nat) : Rd1 Int := rAt (rHex 4 0) fun n =>
  if n < 55296 ∨ 57343 < n then rPure (n : Int)
  else if 56320 ≤ n then fun _ _ => .bad from_ 33
  else rAt (rLow from_) fun z => rPure (65536 + ((n : Int) - 55296) * 1024 + ((z : Int) - 56320))
/-- What one octet behind a backslash stands for. -/
def escOf (c : UInt8) : Option Int :=
  if c == 34 then some 34 else if c == 92 then some 92 else if c == 47 then some 47 else if c == 98 then some 8 else if c == 102 then some 12 else if c == 110 then some 10 else if c == 114 then some 13 else if c == 116 then some 9 else none
def rEscape : Rd1 Int := fun b p => (rAt rPeek fun c => if c == 117 then fun b q => rCoded p b (q + 1) else match escOf c with
  | some x => fun _ q => .ok x (q + 1)
  | none => fun _ _ => .bad p 33) b (p + 1)
/-- Whether octets begin with a whole character, or with none at all. -/
def fullL : List UInt8 → Bool
  | [] => false
  | a :: t =>
    if a < 194 ∨ 244 < a then true
    else if (if a < 224 then 1 else if a < 240 then 2 else 3) ≤ t.length then true
    else match t with
      | [] => false
      | c :: u =>
        if c < (if a = 224 then 160 else if a = 240 then 144 else 128) ∨ (if a = 237 then 159 else if a = 244 then 143 else 191) < c then true
        else match u with
          | [] => false
          | d :: _ => decide (d < 128 ∨ 191 < d)
/-- A character of a text, as it stands or as an escape. -/
def rChar : Rd1 Int := rAt rPeek fun c =>
  if c == 92 then rEscape
  else if c < 32 then rFail 33
  else fun b p =>
    if fullL (b.drop p) then (if partOf (b.drop p) = -1 then .bad p 61 else .ok (partOf (b.drop p)) (p + wid (b.drop p))) else .bad b.length 8
/-- Characters, up to the octet that ends a text. -/
def rChars : Nat → List UInt8 → Rd1 (List UInt8)
  | 0, _ => rFail 8
  | n + 1, acc => rAt rPeek fun c => if c == 34 then fun _ p => .ok acc (p + 1) else rAt rChar fun x => rChars n (acc ++ encodeRune x)
def rText : Rd1 ByteArray := fun b p => (rChars fuelR [] b (p + 1)).bind fun t q => if 16384 < t.length then .bad p 5 else .ok ⟨t.toArray⟩ q

/-- The items of a list or an object, from where one may stand. -/
def rItemsF {α : Type} (end_ : UInt8) (item : Nat → Rd1 α) : Nat → Nat → Rd1 (List α)
  | 0, _ => rFail 8
  | n + 1, nth => rAt rPeek fun c => if c == end_ then fun _ p => .ok [] (p + 1)
    else rAt (if 1 < nth then rAt (rNeed (· == 44)) fun _ => rSkips isWs else rPure ()) fun _ =>
      rAt (item nth) fun a => rAt (rSkips isWs) fun _ => rAt (rItemsF end_ item n (nth + 1)) fun l => rPure (a :: l)
/-- .. behind the octet that opens it. -/
def rItems {α : Type} (end_ : UInt8) (item : Nat → Rd1 α) : Rd1 (List α) := fun b p => (rAt (rSkips isWs) fun _ => rItemsF end_ item fuelR 1) b (p + 1)
/-- A value begins here, and may. -/
def rBegin (k nth : Nat) : Rd1 Unit := rAt rPeek fun c =>
  if !(c == 91 || c == 123) && !isDg c && !(c == 34 || c == 45 || c == 110 || c == 102 || c == 116) then rFail 33
  else if (c == 91 || c == 123) && k == 0 then rFail 42
  else if 4096 < nth then rFail 3
  else rPure ()
def rKey (nth : Nat) : Rd1 ByteArray := rAt rPeek fun c => if c == 34 then (if 4096 < nth then rFail 3 else rText) else rFail 33
/-- A value of not too many parts, which began at a place. -/
def rHeld (from_ : Nat) (v : VT) : Rd1 VT := fun _ q => if 16384 < (seen v).length then .bad from_ 3 else .ok v q
def numT0 (k : Int) : VT := .mk k false [] 0 ⟨#[]⟩ [] []
/-- A value, the nth of its list or object, with so many levels left; an object is made of its keys and values by a given way. -/
def rValue (mk : List (ByteArray × VT) → VT) : Nat → Nat → Rd1 VT
  | 0, nth => rAt (rBegin 0 nth) fun _ => rAt rPeek fun c =>
    if c == 34 then rAt rText fun t => rPure (.mk 4 false [] 0 t [] [])
    else if c == 110 then rAt (rWord [110, 117, 108, 108]) fun _ => rPure (numT0 0)
    else if c == 102 then rAt (rWord [102, 97, 108, 115, 101]) fun _ => rPure (numT0 1)
    else if c == 116 then rAt (rWord [116, 114, 117, 101]) fun _ => rPure (numT0 2)
    else rNumber
  | k + 1, nth => rAt (rBegin (k + 1) nth) fun _ => rAt rPeek fun c =>
    if c == 91 then fun b p => (rItems 93 (rValue mk k) b p).bind fun l q => rHeld p (.mk 5 false [] 0 ⟨#[]⟩ l []) b q
    else if c == 123 then fun b p => (rItems 125 (fun n => rAt (rKey n) fun key => rAt (rSkips isWs) fun _ => rAt (rNeed (· == 58)) fun _ => rAt (rSkips isWs) fun _ => rAt (rValue mk k n) fun v => rPure (key, v)) b p).bind fun l q => rHeld p (mk l) b q
    else if c == 34 then rAt rText fun t => rPure (.mk 4 false [] 0 t [] [])
    else if c == 110 then rAt (rWord [110, 117, 108, 108]) fun _ => rPure (numT0 0)
    else if c == 102 then rAt (rWord [102, 97, 108, 115, 101]) fun _ => rPure (numT0 1)
    else if c == 116 then rAt (rWord [116, 114, 117, 101]) fun _ => rPure (numT0 2)
    else rNumber

/-- The value that begins behind white space, if one does. -/
def rNext (mk : List (ByteArray × VT) → VT) (b : List UInt8) (p : Nat) : RR (Option VT) :=
  if p + ((b.drop p).takeWhile isWs).length = b.length then .ok none b.length
  else (rValue mk 64 1 b (p + ((b.drop p).takeWhile isWs).length)).bind fun v q => .ok (some v) q
end Go.Proofs.YtpjllcengnolkaaGreatDoor

namespace Go.Proofs.YtpjllcengnolkaaGreatDoor
open Go.Lib

theorem toU8_toNat {z : Int} (h0 : 0 ≤ z) (h1 : z < 256) : (z.toNat.toUInt8).toNat = z.toNat := by
  rw [Nat.toUInt8_eq, UInt8.toNat_ofNat']
  omega
end Go.Proofs.YtpjllcengnolkaaGreatDoor

namespace Go.Proofs.YtpjllcengnolkaaGreatDoor
open Go.RowKit Go.Lib

/-- The two tables of the library as its text lays them. -/
def Tabs (w : World) : Prop := Lib.Utf8Tabs 1 2 w
theorem Tabs.same {w w' : World} (h : Tabs w) (h1 : w'.heap[(1 : Nat)]? = w.heap[(1 : Nat)]?) (h2 : w'.heap[(2 : Nat)]? = w.heap[(2 : Nat)]?) : Tabs w' :=
  ⟨fun c hc => (World.cell?_of_block h1).trans (h.1 c hc), fun i hi => ⟨(World.cell?_of_block h2).trans (h.2 i hi).1, (World.cell?_of_block h2).trans (h.2 i hi).2⟩⟩
theorem cell_lt {w : World} {b o : Nat} {v : Value} (h : w.cell? ⟨b, o, none⟩ = some v) : b < w.heap.size := by
  rcases Nat.lt_or_ge b w.heap.size with h1 | h1
  · exact h1
  · exfalso
    unfold World.cell? at h
    simp [Array.getElem?_eq_none h1] at h
theorem Tabs.lt0 {w : World} (h : Tabs w) : 1 < w.heap.size := cell_lt (h.1 0 (by omega))
theorem Tabs.lt1 {w : World} (h : Tabs w) : 2 < w.heap.size := cell_lt (h.2 0 (by omega)).1
theorem Tabs.below {w w' : World} (h : Tabs w) (hb : Below w.heap.size w w') : Tabs w' := h.same (hb.block _ h.lt0) (hb.block _ h.lt1)

theorem decodeGo_L (s : ByteArray) (h : s.data.toList ≠ []) : decodeGo s = decodeL s.data.toList := by
  unfold decodeGo decodeL
  have : s.size ≠ 0 := by
    intro e
    apply h
    exact List.eq_nil_of_length_eq_zero (by rw [Array.length_toList]; exact e)
  rw [if_neg this]
end Go.Proofs.YtpjllcengnolkaaGreatDoor

namespace Go.Proofs.YtpjllcengnolkaaGreatDoor
open Go.RowKit Go.Lib

abbrev scanO (A : Option Addr) (n c : Nat) (p o : Int) : Obj := .cells #[.slice A n c, .int .i64 p, .int .i64 o] 57
abbrev ptr (b : Nat) : Value := .pointer (some ⟨b, 0, none⟩)
/-- All blocks stay but those of C. -/
structure But (C : Nat → Prop) (w w' : World) : Prop where
  os : w'.os = w.os
  tape : w'.tape = w.tape
  output : w'.output = w.output
  size : w.heap.size ≤ w'.heap.size
  block : ∀ k, k < w.heap.size → ¬ C k → w'.heap[k]? = w.heap[k]?
theorem But.refl (C : Nat → Prop) (w : World) : But C w w := ⟨rfl, rfl, rfl, Nat.le_refl _, fun _ _ _ => rfl⟩
theorem But.trans {C : Nat → Prop} {a b c : World} (h : But C a b) (k : But C b c) : But C a c :=
  ⟨k.os.trans h.os, k.tape.trans h.tape, k.output.trans h.output, Nat.le_trans h.size k.size, fun i hi hc => (k.block i (Nat.lt_of_lt_of_le hi h.size) hc).trans (h.block i hi hc)⟩
theorem But.mono {C D : Nat → Prop} {a b : World} (h : But C a b) (hD : ∀ k, k < a.heap.size → C k → D k) : But D a b :=
  ⟨h.os, h.tape, h.output, h.size, fun i hi hc => h.block i hi fun h2 => hc (hD i hi h2)⟩
theorem But.of {C : Nat → Prop} {w w' : World} (h : Below w.heap.size w w') : But C w w' := ⟨h.os, h.tape, h.output, h.size, fun k hk _ => h.block k hk⟩
/-- A store into a block of C, or into a new one. -/
theorem But.setCell {C : Nat → Prop} {a w : World} (h : But C a w) {p : Addr} (hp : C p.block ∨ a.heap.size ≤ p.block) (u : Value) : But C a (w.setCell p u) :=
  ⟨h.os, h.tape, h.output, by simpa [World.setCell] using h.size, fun k hk hc => (Below.heap_setCell _ _ _ _ (by rintro rfl; rcases hp with hp | hp; exact hc hp; omega)).trans (h.block k hk hc)⟩
theorem But.drew {C : Nat → Prop} {a w : World} (h : But C a w) : But C a w.drew := ⟨h.os, h.tape, h.output, h.size, h.block⟩
theorem But.drewN {C : Nat → Prop} {a w : World} (h : But C a w) (k : Nat) : But C a (w.drewN k) := ⟨h.os, h.tape, h.output, h.size, h.block⟩
theorem But.alloc {C : Nat → Prop} {a w : World} (h : But C a w) (o : Obj) : But C a (w.alloc o) := h.trans (But.of ((Below.refl _ _).alloc (Nat.le_refl _) o))
theorem But.below {C : Nat → Prop} {B : Nat} {w w' : World} (h : But C w w') (hB : B ≤ w.heap.size) (hC : ∀ k, k < B → ¬ C k) : Below B w w' :=
  ⟨h.os, h.tape, h.output, h.size, fun k hk => h.block k (Nat.lt_of_lt_of_le hk hB) (hC k hk)⟩
theorem But.cell {C : Nat → Prop} {w w' : World} (h : But C w w') {p : Addr} (hp : p.block < w.heap.size) (hc : ¬ C p.block) : w'.cell? p = w.cell? p := World.cell?_of_block (h.block _ hp hc)
theorem But.cell_some {C : Nat → Prop} {w w' : World} (h : But C w w') {p : Addr} {v : Value} (hv : w.cell? p = some v) (hc : ¬ C p.block) : w'.cell? p = some v := by
  obtain ⟨b, o, s⟩ := p
  exact (h.cell (World.block_lt_of_cell? w _ hv) hc).trans hv

/-- A scan stands in block sb: of the octets L, at p, with o open; nothing of it but the scan itself is at B or behind. -/
structure Env (B : Nat) (L : List UInt8) (A : Option Addr) (c sb : Nat) (w : World) (p o : Nat) : Prop where
  box : w.heap[sb]? = some (scanO A L.length c p o)
  oct : ∀ k x, L[k]? = some x → ∃ g off, A = some ⟨g, off, none⟩ ∧ g < B ∧ w.cell? ⟨g, off + k, none⟩ = some (.int .u8 (x.toNat : Int))
  base : B ≤ sb
  fits : L.length ≤ 65536
  here : p ≤ L.length
  tabs : Tabs w
  glob : 1 < B ∧ 2 < B
theorem Env.lt {B : Nat} {L : List UInt8} {A : Option Addr} {c sb : Nat} {w : World} {p o : Nat} (h : Env B L A c sb w p o) : sb < w.heap.size := by
  rcases Nat.lt_or_ge sb w.heap.size with h1 | h1
  · exact h1
  · have := h.box; simp [Array.getElem?_eq_none h1] at this
theorem Env.to {B : Nat} {L : List UInt8} {A : Option Addr} {c sb : Nat} {w w' : World} {p o q o' : Nat} {C : Nat → Prop} (h : Env B L A c sb w p o) (hb : But C w w') (hC : ∀ k, k < B → ¬ C k)
    (hbox : w'.heap[sb]? = some (scanO A L.length c q o')) (hq : q ≤ L.length) : Env B L A c sb w' q o' := by
  have hlt := h.lt
  have hB := h.base
  exact ⟨hbox, fun k x hk => by
    obtain ⟨g, off, e, hg, hc⟩ := h.oct k x hk
    exact ⟨g, off, e, hg, (hb.cell (p := ⟨g, off + k, none⟩) (by show g < _; omega) (hC g hg)).trans hc⟩, h.base, h.fits, hq,
    h.tabs.same (hb.block _ (by have := h.glob.1; omega) (hC _ h.glob.1)) (hb.block _ (by have := h.glob.2; omega) (hC _ h.glob.2)), h.glob⟩
theorem Env.stay {B : Nat} {L : List UInt8} {A : Option Addr} {c sb : Nat} {w w' : World} {p o : Nat} {C : Nat → Prop} (h : Env B L A c sb w p o) (hb : But C w w') (hC : ∀ k, k < B → ¬ C k) (hs : ¬ C sb) : Env B L A c sb w' p o :=
  h.to hb hC ((hb.block _ h.lt hs).trans h.box) h.here
theorem cell_at3 {w : World} {b i : Nat} {vs : Array Value} {v : Value} {t : TypeId} (h : w.heap[b]? = some (.cells vs t)) (hi : vs[i]? = some v) : w.cell? ⟨b, i, none⟩ = some v := by
  simp [World.cell?, h, hi]
theorem Env.cells {B : Nat} {L : List UInt8} {A : Option Addr} {c sb : Nat} {w : World} {p o : Nat} (h : Env B L A c sb w p o) :
    w.cell? ⟨sb, 0, none⟩ = some (.slice A L.length c) ∧ w.cell? ⟨sb, 1, none⟩ = some (.int .i64 (p : Int)) ∧ w.cell? ⟨sb, 2, none⟩ = some (.int .i64 (o : Int)) :=
  ⟨cell_at3 h.box rfl, cell_at3 h.box rfl, cell_at3 h.box rfl⟩
theorem Env.frozen {B : Nat} {L : List UInt8} {A : Option Addr} {c sb : Nat} {w : World} {p o : Nat} (h : Env B L A c sb w p o) (i : Nat) (hi : i < 3) : w.frozen? ⟨sb, i, none⟩ = false := by
  simp [World.frozen?, h.box]
/-- The scan goes on to another place. -/
theorem Env.move {B : Nat} {L : List UInt8} {A : Option Addr} {c sb : Nat} {w : World} {p o q : Nat} (h : Env B L A c sb w p o) (hq : q ≤ L.length) : Env B L A c sb (w.setCell ⟨sb, 1, none⟩ (.int .i64 (q : Int))) q o := by
  have hlt := h.lt
  have hb := h.box
  rw [Array.getElem?_eq_getElem hlt] at hb
  injection hb with hb
  have hB : But (fun k => k = sb) w (w.setCell ⟨sb, 1, none⟩ (.int .i64 (q : Int))) := But.setCell (C := fun k => k = sb) (p := ⟨sb, 1, none⟩) (But.refl _ _) (.inl rfl) _
  exact h.to hB (fun k hk e => by have := h.base; omega) (by
    show (w.heap.modify sb _)[sb]? = _
    rw [Array.getElem?_modify, if_pos rfl, Array.getElem?_eq_getElem hlt, hb]
    rfl) hq

/-- A fault at a place. -/
abbrev Flt (q x : Nat) : Ending := .panicked [{ v := .iface 59 (.agg #[.int .i64 (q : Int), .int .i64 (x : Int)]), recovered := false }]
/-- What a step of the scan comes to, as r tells. -/
def Po (B : Nat) (L : List UInt8) (A : Option Addr) (c sb : Nat) (C : Nat → Prop) (o : Nat) {α : Type} (rep : α → World → Value → Prop) (w : World) (r : RR α) (e : Ending) (w' : World) : Prop :=
  match r with
  | .ok a q => (∃ v, e = .returned v ∧ rep a w' v) ∧ Env B L A c sb w' q o ∧ But C w w'
  | .bad q x => e = Flt q x ∧ But C w w'
abbrev rU : Unit → World → Value → Prop := fun _ _ v => v = .tuple #[]
abbrev rB : Bool → World → Value → Prop := fun b _ v => v = .bool b
abbrev rC : UInt8 → World → Value → Prop := fun x _ v => v = .int .u8 (x.toNat : Int)

variable {B : Nat} {L : List UInt8} {A : Option Addr} {c sb : Nat}

theorem peek_c {w : World} {p o : Nat} (E : Env B L A c sb w p o) :
    Calls Tryz.prog 36 #[ptr sb] w (Po B L A c sb (fun _ => False) o rC w (rPeek L p)) := by
  have hpn : ∀ (T : Nat) (v : Value) (w : World), (Instr.panic (.iface T v)).run Tryz.prog w = .halt (.panic (.iface T v)) w := fun _ _ _ => rfl
  obtain ⟨c0, c1, c2⟩ := E.cells
  have hf := E.fits
  have hh := E.here
  unfold rPeek
  cases hx : L[p]? with
  | none =>
    have hp : p = L.length := by have := List.getElem?_eq_none_iff.1 hx; omega
    have hE := Lib.hid E
    clear E hx hh
    subst hp
    go_enter Tryz.func36, Tryz.ntmps36
    go_wp2
    go_quiet (fail)
    go_wp2
    exact ⟨rfl, rfl, by first | exact But.refl _ _ | exact (But.refl _ _).drew | exact (But.refl _ _).drewN _⟩
  | some x =>
    have hp : p < L.length := (List.getElem?_eq_some_iff.1 hx).1
    obtain ⟨g, off, hA, hg, cx⟩ := E.oct p x hx
    have hE := Lib.hid E
    clear E hx hh
    subst hA
    go_enter Tryz.func36, Tryz.ntmps36
    go_wp2
    go_quiet (fail)
    go_wp2
    go_quiet (fail)
    go_wp2
    go_ret
    refine ⟨⟨_, rfl, rfl⟩, hE.out.stay (((But.refl (fun _ => False) _).drewN _).drewN _) (fun _ _ h => h) (fun h => h), ((But.refl _ _).drewN _).drewN _⟩
end Go.Proofs.YtpjllcengnolkaaGreatDoor
