/-
  Contract of value's Number.
  The page's example of Compare: a number stands ahead of a text. Pure.
  The page's example of Object: keys b, a, b. Pure.
  The page's example of value answers true.
  Contract of the reference's SameAll.
  What is read of octets, as the program reads it: a value and the place behind it, or a fault and its place. Pure, no program.
  A whole character at the beginning of octets is read the same, whatever follows. Pure, no program.
  Whole characters at the beginning of octets: over octets. Pure, no program.
-/
import Derived.Test.YtpmdcahomkdfmaaGreatDoorBVcpy
import Derived.Test.YtpmdcahomkdfmaaGreatDoorBDintc
import Derived.Test.YtpmdcahomkdfmaaGreatDoorBVcm
import Derived.Test.YtpmdcahomkdfmaaGreatDoorBVob
import Derived.Test.YtpmdcahomkdfmaaGreatDoorBVsame
import Derived.Deep.Cut
import Derived.Laws.EntriesVeiled
import Derived.Test.YtpmdcahomkdfmaaGreatDoorBVprt
import Derived.Test.YtpmdcahomkdfmaaGreatDoorBUsync
set_option linter.unusedVariables false
set_option linter.unusedSimpArgs false
namespace Go.Proofs.YtpmdcahomkdfmaaGreatDoor
open Go.RowKit

set_option maxRecDepth 100000 in
set_option maxHeartbeats 4000000 in
theorem number_c (w : World) (z : Int) (h1 : -9223372036854775808 ≤ z) (h2 : z ≤ 9223372036854775807) (hl : (stZ z.natAbs 0).length ≤ 35184372088832) :
    Calls Tryz.prog 29 #[.int .i64 z] w fun e' w' => ∃ cs', e' = .returned (.agg cs'.toArray) ∧ VIn w' (Own' w.heap.size w') (.mk 3 (stN (decide (z < 0)) z.natAbs 0) (stZ z.natAbs 0) (stX z.natAbs 0) ⟨#[]⟩ [] []) cs' ∧ Below w.heap.size w w' := by
  have hW : Below w.heap.size w (w.alloc (.cells #[.int .i64 0, .bool false, .slice none 0 0, .int .i64 0, .string ⟨#[]⟩, .slice none 0 0, .slice none 0 0] 28)) := (Below.refl _ w).alloc (Nat.le_refl _) _
  have hm2 := World.alloc_heap_new w (.cells #[.int .i64 0, .bool false, .slice none 0 0, .int .i64 0, .string ⟨#[]⟩, .slice none 0 0, .slice none 0 0] 28)
  have hz : (w.alloc (.cells #[.int .i64 0, .bool false, .slice none 0 0, .int .i64 0, .string ⟨#[]⟩, .slice none 0 0, .slice none 0 0] 28)).heap.size = w.heap.size + 1 := by simp
  go_enter Tryz.func29, Tryz.ntmps29
  go_upto_region 1 with fail
  generalize (w.alloc (.cells #[.int .i64 0, .bool false, .slice none 0 0, .int .i64 0, .string ⟨#[]⟩, .slice none 0 0, .slice none 0 0] 28)) = W0 at *
  have HC := DInt_c z W0 h1 h2
  have HM2 := Lib.hid hm2
  have HW := Lib.hid hW
  clear hm2 hW
  unfold dv at HC
  go_wp2_with fail
  refine HC.mono ?_
  rintro e' w1 ⟨A, n, c, rfl, hres, hb1⟩
  clear HC
  have hv : VIn w1 (Own' W0.heap.size w1) (.mk 3 (stN (decide (z < 0)) z.natAbs 0) (stZ z.natAbs 0) (stX z.natAbs 0) ⟨#[]⟩ [] []) [.int .i64 3, .bool (stN (decide (z < 0)) z.natAbs 0), .slice A n c, .int .i64 (stX z.natAbs 0), .string ⟨#[]⟩, .slice none 0 0, .slice none 0 0] :=
    .mk (cs := fun _ => []) hres.rd (by rw [← hres.len]; exact hl) (by decide) ⟨rfl, fun h0 => absurd h0 (by omega)⟩ (by omega) rfl (by omega) (Nat.le_refl _) (fun h0 => absurd h0 (by omega)) (fun i x hi => by simp at hi)
  have HRES := Lib.hid hres
  clear hres
  have hmz := (hb1.block _ (by omega)).trans HM2.out
  obtain ⟨z0, z1, z2, z3, z4, z5, z6⟩ := box7_of hmz
  have fz : ∀ j, w1.frozen? ⟨w.heap.size, j, none⟩ = false := fun j => frozen_of_row w1 _ j _ _ hmz
  have HV := Lib.hid hv
  clear hv hmz
  go_wp2_with fail
  refine bodyPost_ret (v := .agg #[.int .i64 3, .bool (stN (decide (z < 0)) z.natAbs 0), .slice A n c, .int .i64 (stX z.natAbs 0), .string ⟨#[]⟩, .slice none 0 0, .slice none 0 0]) (by simp [results, Tryz.results29, go_sem, z0, z1, z2, z3, z4, z5, z6]) rfl ?_
  refine ⟨[.int .i64 3, .bool (stN (decide (z < 0)) z.natAbs 0), .slice A n c, .int .i64 (stX z.natAbs 0), .string ⟨#[]⟩, .slice none 0 0, .slice none 0 0], rfl, ?_, below_seven (HW.out.trans (hb1.mono (by omega))) (by omega) _ _ _ _ _ _ _⟩
  refine (HV.out.keep fun p hp => ?_).more fun b hb => ⟨by have := hb.1; omega, ?_⟩
  · have h1 := hp.1
    exact cell_seven (by omega) _ _ _ _ _ _ _
  · have := hb.2
    simpa [World.setCell] using this
end Go.Proofs.YtpmdcahomkdfmaaGreatDoor


namespace Go.Proofs.YtpmdcahomkdfmaaGreatDoor
open Go.RowKit Go.Maps

def ks3 : List ByteArray := [⟨#[98]⟩, ⟨#[97]⟩, ⟨#[98]⟩]
def kindT (k : Int) : VT := .mk k false [] 0 ⟨#[]⟩ [] []
def l3 : List VT := [kindT 1, kindT 2, kindT 0]
end Go.Proofs.YtpmdcahomkdfmaaGreatDoor

namespace Go.Proofs.YtpmdcahomkdfmaaGreatDoor
open Go.RowKit

theorem Own'.lt {B : Nat} {w : World} {b : Nat} (h : Own' B w b) : b < w.heap.size := h.2

end Go.Proofs.YtpmdcahomkdfmaaGreatDoor

namespace Go.Proofs.YtpmdcahomkdfmaaGreatDoor
open Go.RowKit Go.Lib

/-- A list as a value. -/
def listV (l : List VT) : VT := .mk 5 false [] 0 ⟨#[]⟩ l []
theorem listV_in {w : World} {S : Nat → Prop} {A : Option Addr} {n c : Nat} {l : List VT} (h : RdL w S A n l) (hn : n ≤ 1256584717458) (hc : n ≤ c) : VIn w S (listV l) [.int .i64 5, .bool false, .slice none 0 0, .int .i64 0, .string ⟨#[]⟩, .slice A n c, .slice none 0 0] := by
  obtain ⟨h1, h2, cs, h3, h4⟩ := h
  exact .mk (cs := cs) (Rd.nil w S none) (by omega) (by decide) ⟨rfl, fun h0 => absurd h0 (by omega)⟩ (by omega) h1 hn hc h3 h4
end Go.Proofs.YtpmdcahomkdfmaaGreatDoor

namespace Go.Proofs.YtpmdcahomkdfmaaGreatDoor
open Go.Lib

/-- What reading comes to: something, and the place behind it; or a fault's place and error. -/
inductive RR (α : Type) where
  | ok (a : α) (at_ : Nat)
  | bad (at_ : Nat) (e : Nat)
def RR.bind {α β : Type} (r : RR α) (f : α → Nat → RR β) : RR β :=
  match r with
  | .ok a q => f a q
  | .bad q e => .bad q e
/-- Reading of some kind: octets and a place. -/
abbrev Rd1 (α : Type) := List UInt8 → Nat → RR α
def rPure {α : Type} (a : α) : Rd1 α := fun _ p => .ok a p
def rFail {α : Type} (e : Nat) : Rd1 α := fun _ p => .bad p e
def rAt {α β : Type} (F : Rd1 α) (G : α → Rd1 β) : Rd1 β := fun b p => (F b p).bind fun a q => G a b q

def isWs (c : UInt8) : Bool := c == 32 || c == 9 || c == 10 || c == 13
def isDg (c : UInt8) : Bool := 48 ≤ c && c ≤ 57
def isWd (c : UInt8) : Bool := isDg c || (97 ≤ c && c ≤ 122) || (65 ≤ c && c ≤ 90) || c == 43 || c == 45 || c == 46 || c == 95

/-- The next octet, which stays. -/
def rPeek : Rd1 UInt8 := fun b p => match b[p]? with | some c => .ok c p | none => .bad p 8
/-- One octet, which must fit. -/
def rNeed (f : UInt8 → Bool) : Rd1 Unit := fun b p => match b[p]? with | some c => if f c then .ok () (p + 1) else .bad p 33 | none => .bad p 8
/-- One octet, if it fits. -/
def rSkip (f : UInt8 → Bool) : Rd1 Bool := fun b p => match b[p]? with | some c => if f c then .ok true (p + 1) else .ok false p | none => .ok false p
/-- All that fit. -/
def rSkips (f : UInt8 → Bool) : Rd1 Unit := fun b p => .ok () (p + ((b.drop p).takeWhile f).length)
/-- Nothing that would go on. -/
def rApart : Rd1 Unit := fun b p => match b[p]? with | some c => if isWd c then .bad p 33 else .ok () p | none => .ok () p

/-- How many values a text's loop may go round: more than there are octets. -/
def fuelR : Nat := 70000

/-- A word behind its first octets. -/
def rWord : List UInt8 → Rd1 Unit
  | [] => rApart
  | c :: r => rAt (rNeed (· == c)) fun _ => rWord r

def rDigits : Rd1 Unit := rAt (rNeed isDg) fun _ => rSkips isDg
/-- A number's octets. -/
def rNumeral : Rd1 Unit :=
  rAt (rSkip (· == 45)) fun _ =>
  rAt (rSkip (· == 48)) fun z =>
  rAt (if z then rPure () else rDigits) fun _ =>
  rAt (rSkip (· == 46)) fun f =>
  rAt (if f then rDigits else rPure ()) fun _ =>
  rAt (rSkip fun c => c == 101 || c == 69) fun e =>
  if e then rAt (rSkip fun c => c == 43 || c == 45) fun _ => rDigits else rPure ()
/-- The octets between two places, as numbers. -/
def cutN (b : List UInt8) (p q : Nat) : List Nat := ((b.drop p).take (q - p)).map (·.toNat)
def numV (s : List Nat) : VT := .mk 3 (fN s) (fZ s) (fX s) ⟨#[]⟩ [] []
def rNumber : Rd1 VT := fun b p => (rNumeral b p).bind fun _ q =>
  if fE (cutN b p q) = 0 then (rApart b q).bind fun _ r => .ok (numV (cutN b p q)) r else .bad p (fE (cutN b p q))

def hexOf (c : UInt8) : Option Nat :=
  if 48 ≤ c && c ≤ 57 then some (c.toNat - 48) else if 97 ≤ c && c ≤ 102 then some (c.toNat - 87) else if 65 ≤ c && c ≤ 70 then some (c.toNat - 55) else none
/-- So many hexadecimal digits. -/
def rHex : Nat → Nat → Rd1 Nat
  | 0, n => rPure n
  | k + 1, n => rAt rPeek fun c => match hexOf c with
    | some d => fun b p => rHex k (n * 16 + d) b (p + 1)
    | none => rFail 33
/-- What must hold, or else the escape is none, which began at a place. -/
def rMust (from_ : Nat) (is : Bool) : Rd1 Unit := fun _ p => if is then .ok () p else .bad from_ 33
/-- The low half behind a high half whose escape began at a place. -/
def rLow (from_ : Nat) : Rd1 Nat :=
  rAt rPeek fun c => rAt (rMust from_ (c == 92)) fun _ => fun b p => (rAt rPeek fun d => rAt (rMust from_ (d == 117)) fun _ => fun b p =>
    (rAt (rHex 1 0) fun x => rAt (rMust from_ (x == 13)) fun _ => rAt (rHex 1 0) fun y => rAt (rMust from_ (decide (220 ≤ x * 16 + y))) fun _ =>
      rAt (rHex 2 0) fun z => rPure ((x * 16 + y) * 256 + z)) b (p + 1)) b (p + 1)
/-- A character that is told by digits. -/
def rCoded (from_ : Nat) : Rd1 Int := rAt (rHex 4 0) fun n =>
  if n < 55296 ∨ 57343 < n then rPure (n : Int)
  else if 56320 ≤ n then fun _ _ => .bad from_ 33
  else rAt (rLow from_) fun z => rPure (65536 + ((n : Int) - 55296) * 1024 + ((z : Int) - 56320))
/-- What one octet behind a backslash stands for. -/
def escOf (c : UInt8) : Option Int :=
  if c == 34 then some 34 else if c == 92 then some 92 else if c == 47 then some 47 else if c == 98 then some 8 else if c == 102 then some 12 else if c == 110 then some 10 else if c == 114 then some 13 else if c == 116 then some 9 else none
def rEscape : Rd1 Int := fun b p => (rAt rPeek fun c => if c == 117 then fun b q => rCoded p b (q + 1) else match escOf c with
  | some x => fun _ q => .ok x (q + 1)
  | none => fun _ _ => .bad p 33) b (p + 1)
/-- Whether octets begin with a whole character, or with none at all. -/
def fullL : List UInt8 → Bool
  | [] => false
  | a :: t =>
    if a < 194 ∨ 244 < a then true
    else if (if a < 224 then 1 else if a < 240 then 2 else 3) ≤ t.length then true
    else match t with
      | [] => false
      | c :: u =>
        if c < (if a = 224 then 160 else if a = 240 then 144 else 128) ∨ (if a = 237 then 159 else if a = 244 then 143 else 191) < c then true
        else match u with
          | [] => false
          | d :: _ => decide (d < 128 ∨ 191 < d)
/-- A character of a text, as it stands or as an escape. -/
def rChar : Rd1 Int := rAt rPeek fun c =>
  if c == 92 then rEscape
  else if c < 32 then rFail 33
  else fun b p =>
    if fullL (b.drop p) then (if partOf (b.drop p) = -1 then .bad p 61 else .ok (partOf (b.drop p)) (p + wid (b.drop p))) else .bad b.length 8
/-- Characters, up to the octet that ends a text. -/
def rChars : Nat → List UInt8 → Rd1 (List UInt8)
  | 0, _ => rFail 8
  | n + 1, acc => rAt rPeek fun c => if c == 34 then fun _ p => .ok acc (p + 1) else rAt rChar fun x => rChars n (acc ++ encodeRune x)
def rText : Rd1 ByteArray := fun b p => (rChars fuelR [] b (p + 1)).bind fun t q => if 16384 < t.length then .bad p 5 else .ok ⟨t.toArray⟩ q

/-- The items of a list or an object, from where one may stand. -/
def rItemsF {α : Type} (end_ : UInt8) (item : Nat → Rd1 α) : Nat → Nat → Rd1 (List α)
  | 0, _ => rFail 8
  | n + 1, nth => rAt rPeek fun c => if c == end_ then fun _ p => .ok [] (p + 1)
    else rAt (if 1 < nth then rAt (rNeed (· == 44)) fun _ => rSkips isWs else rPure ()) fun _ =>
      rAt (item nth) fun a => rAt (rSkips isWs) fun _ => rAt (rItemsF end_ item n (nth + 1)) fun l => rPure (a :: l)
/-- .. behind the octet that opens it. -/
def rItems {α : Type} (end_ : UInt8) (item : Nat → Rd1 α) : Rd1 (List α) := fun b p => (rAt (rSkips isWs) fun _ => rItemsF end_ item fuelR 1) b (p + 1)
/-- A value begins here, and may. -/
def rBegin (k nth : Nat) : Rd1 Unit := rAt rPeek fun c =>
  if !(c == 91 || c == 123) && !isDg c && !(c == 34 || c == 45 || c == 110 || c == 102 || c == 116) then rFail 33
  else if (c == 91 || c == 123) && k == 0 then rFail 42
  else if 4096 < nth then rFail 3
  else rPure ()
def rKey (nth : Nat) : Rd1 ByteArray := rAt rPeek fun c => if c == 34 then (if 4096 < nth then rFail 3 else rText) else rFail 33
/-- A value of not too many parts, which began at a place. -/
def rHeld (from_ : Nat) (v : VT) : Rd1 VT := fun _ q => if 16384 < (seen v).length then .bad from_ 3 else .ok v q
def numT0 (k : Int) : VT := .mk k false [] 0 ⟨#[]⟩ [] []
/-- A value, the nth of its list or object, with so many levels left; an object is made of its keys and values by a given way. -/
def rValue (mk : List (ByteArray × VT) → VT) : Nat → Nat → Rd1 VT
  | 0, nth => rAt (rBegin 0 nth) fun _ => rAt rPeek fun c =>
    if c == 34 then rAt rText fun t => rPure (.mk 4 false [] 0 t [] [])
    else if c == 110 then rAt (rWord [110, 117, 108, 108]) fun _ => rPure (numT0 0)
    else if c == 102 then rAt (rWord [102, 97, 108, 115, 101]) fun _ => rPure (numT0 1)
    else if c == 116 then rAt (rWord [116, 114, 117, 101]) fun _ => rPure (numT0 2)
    else rNumber
  | k + 1, nth => rAt (rBegin (k + 1) nth) fun _ => rAt rPeek fun c =>
    if c == 91 then fun b p => (rItems 93 (rValue mk k) b p).bind fun l q => rHeld p (.mk 5 false [] 0 ⟨#[]⟩ l []) b q
    else if c == 123 then fun b p => (rItems 125 (fun n => rAt (rKey n) fun key => rAt (rSkips isWs) fun _ => rAt (rNeed (· == 58)) fun _ => rAt (rSkips isWs) fun _ => rAt (rValue mk k n) fun v => rPure (key, v)) b p).bind fun l q => rHeld p (mk l) b q
    else if c == 34 then rAt rText fun t => rPure (.mk 4 false [] 0 t [] [])
    else if c == 110 then rAt (rWord [110, 117, 108, 108]) fun _ => rPure (numT0 0)
    else if c == 102 then rAt (rWord [102, 97, 108, 115, 101]) fun _ => rPure (numT0 1)
    else if c == 116 then rAt (rWord [116, 114, 117, 101]) fun _ => rPure (numT0 2)
    else rNumber

end Go.Proofs.YtpmdcahomkdfmaaGreatDoor

namespace Go.Proofs.YtpmdcahomkdfmaaGreatDoor
open Go.Lib

/-- Whether octets begin with a whole character, or with none, over numbers. -/
def fullN (n b0 b1 b2 : Nat) : Prop := b0 < 194 ∨ 244 < b0 ∨ (if b0 < 224 then 2 else if b0 < 240 then 3 else 4) ≤ n ∨ (1 < n ∧ (b1 < (if b0 = 224 then 160 else if b0 = 240 then 144 else 128) ∨ (if b0 = 237 then 159 else if b0 = 244 then 143 else 191) < b1)) ∨ (2 < n ∧ (b2 < 128 ∨ 191 < b2))
theorem sec (b0 c1 : Nat) (h : c1 < (if b0 = 224 then 160 else if b0 = 240 then 144 else 128) ∨ (if b0 = 237 then 159 else if b0 = 244 then 143 else 191) < c1) : c1 < 128 ∨ 191 < c1 ∨ (b0 = 224 ∧ c1 < 160) ∨ (b0 = 240 ∧ c1 < 144) ∨ (b0 = 237 ∧ 159 < c1) ∨ (b0 = 244 ∧ 143 < c1) := by
  rcases h with h | h
  all_goals
    split at h
    · omega
    · split at h <;> omega
set_option maxRecDepth 100000 in
set_option maxHeartbeats 8000000 in
theorem decodeN_full {n n' b0 b1 b2 b3 c1 c2 c3 : Nat} (hn : 1 ≤ n) (hnn : n ≤ n') (h1 : 1 < n → c1 = b1) (h2 : 2 < n → c2 = b2) (h3 : 3 < n → c3 = b3) (k0 : b0 < 256) (k1 : b1 < 256) (k2 : b2 < 256) (l1 : c1 < 256) (l2 : c2 < 256) (hf : fullN n b0 b1 b2) :
    decodeN n' b0 c1 c2 c3 = decodeN n b0 b1 b2 b3 := by
  unfold fullN at hf
  have hc : n = 1 ∨ n = 2 ∨ n = 3 ∨ 4 ≤ n := by omega
  rcases hc with rfl | rfl | rfl | h4
  · have hb : b0 < 194 ∨ 244 < b0 := by
      rcases hf with h | h | h | h | h
      · exact .inl h
      · exact .inr h
      · exfalso; split at h
        · omega
        · split at h <;> omega
      · omega
      · omega
    unfold decodeN
    by_cases a1 : b0 < 128
    · rw [if_pos a1, if_pos a1]
    · repeat' split
      all_goals first | rfl | (exfalso; omega)
  · obtain rfl := h1 (by omega)
    have hb : b0 < 224 ∨ 244 < b0 ∨ c1 < 128 ∨ 191 < c1 ∨ (b0 = 224 ∧ c1 < 160) ∨ (b0 = 240 ∧ c1 < 144) ∨ (b0 = 237 ∧ 159 < c1) ∨ (b0 = 244 ∧ 143 < c1) := by
      rcases hf with h | h | h | h | h
      · left; omega
      · right; left; exact h
      · left
        split at h
        · assumption
        · split at h <;> omega
      · right; right
        exact sec _ _ h.2
      · omega
    clear hf
    unfold decodeN
    repeat' split
    all_goals first | rfl | (exfalso; omega)
  · obtain rfl := h1 (by omega)
    obtain rfl := h2 (by omega)
    have hb : b0 < 240 ∨ 244 < b0 ∨ (c1 < 128 ∨ 191 < c1 ∨ (b0 = 224 ∧ c1 < 160) ∨ (b0 = 240 ∧ c1 < 144) ∨ (b0 = 237 ∧ 159 < c1) ∨ (b0 = 244 ∧ 143 < c1)) ∨ c2 < 128 ∨ 191 < c2 := by
      rcases hf with h | h | h | h | h
      · left; omega
      · right; left; exact h
      · left
        split at h
        · omega
        · split at h <;> omega
      · exact .inr (.inr (.inl (sec _ _ h.2)))
      · exact .inr (.inr (.inr h.2))
    clear hf
    unfold decodeN
    repeat' split
    all_goals first | rfl | (exfalso; omega)
  · obtain rfl := h1 (by omega)
    obtain rfl := h2 (by omega)
    obtain rfl := h3 (by omega)
    unfold decodeN
    simp only [show 1 < n by omega, show 2 < n by omega, show 3 < n by omega, show 1 < n' by omega, show 2 < n' by omega, show 3 < n' by omega, true_and]
end Go.Proofs.YtpmdcahomkdfmaaGreatDoor

namespace Go.Proofs.YtpmdcahomkdfmaaGreatDoor
open Go.Lib

theorem u8_lt (a : UInt8) (n : Nat) (h : n < 256) : (a < UInt8.ofNat n) ↔ a.toNat < n := by
  rw [UInt8.lt_iff_toNat_lt]
  simp [UInt8.toNat_ofNat, Nat.mod_eq_of_lt h]
theorem u8_gt (a : UInt8) (n : Nat) (h : n < 256) : (UInt8.ofNat n < a) ↔ n < a.toNat := by
  rw [UInt8.lt_iff_toNat_lt]
  simp [UInt8.toNat_ofNat, Nat.mod_eq_of_lt h]
theorem u8_eq (a : UInt8) (n : Nat) (h : n < 256) : (a = UInt8.ofNat n) ↔ a.toNat = n := by
  constructor
  · rintro rfl
    simp [UInt8.toNat_ofNat, Nat.mod_eq_of_lt h]
  · intro e
    apply UInt8.toNat.inj
    simp [UInt8.toNat_ofNat, Nat.mod_eq_of_lt h, e]
theorem full_N {a : UInt8} {t : List UInt8} (h : fullL (a :: t) = true) : fullN (t.length + 1) a.toNat (t.getD 0 0).toNat (t.getD 1 0).toNat := by
  unfold fullL at h
  have e194 : a < 194 ↔ a.toNat < 194 := u8_lt a 194 (by omega)
  have e244 : 244 < a ↔ 244 < a.toNat := u8_gt a 244 (by omega)
  have e224 : a < 224 ↔ a.toNat < 224 := u8_lt a 224 (by omega)
  have e240 : a < 240 ↔ a.toNat < 240 := u8_lt a 240 (by omega)
  have q224 : a = 224 ↔ a.toNat = 224 := u8_eq a 224 (by omega)
  have q240 : a = 240 ↔ a.toNat = 240 := u8_eq a 240 (by omega)
  have q237 : a = 237 ↔ a.toNat = 237 := u8_eq a 237 (by omega)
  have q244 : a = 244 ↔ a.toNat = 244 := u8_eq a 244 (by omega)
  simp only [e194, e244, e224, e240] at h
  unfold fullN
  by_cases c1 : a.toNat < 194 ∨ 244 < a.toNat
  · rcases c1 with c1 | c1
    · exact .inl c1
    · exact .inr (.inl c1)
  · rw [if_neg c1] at h
    by_cases c2 : (if a.toNat < 224 then 1 else if a.toNat < 240 then 2 else 3) ≤ t.length
    · refine .inr (.inr (.inl ?_))
      by_cases x : a.toNat < 224
      · rw [if_pos x] at c2 ⊢; omega
      · rw [if_neg x] at c2 ⊢
        by_cases y : a.toNat < 240
        · rw [if_pos y] at c2 ⊢; omega
        · rw [if_neg y] at c2 ⊢; omega
    · rw [if_neg c2] at h
      cases t with
      | nil => simp at h
      | cons c u =>
        simp only at h
        by_cases c3 : c < (if a = 224 then 160 else if a = 240 then 144 else 128) ∨ (if a = 237 then 159 else if a = 244 then 143 else 191) < c
        · refine .inr (.inr (.inr (.inl ⟨by simp, ?_⟩)))
          show c.toNat < _ ∨ _ < c.toNat
          rcases c3 with c3 | c3
          · left
            by_cases d : a = 224
            · rw [if_pos d] at c3; rw [if_pos (q224.1 d)]; exact (u8_lt c 160 (by omega)).1 c3
            · rw [if_neg d] at c3; rw [if_neg (fun e => d (q224.2 e))]
              by_cases d2 : a = 240
              · rw [if_pos d2] at c3; rw [if_pos (q240.1 d2)]; exact (u8_lt c 144 (by omega)).1 c3
              · rw [if_neg d2] at c3; rw [if_neg (fun e => d2 (q240.2 e))]; exact (u8_lt c 128 (by omega)).1 c3
          · right
            by_cases d : a = 237
            · rw [if_pos d] at c3; rw [if_pos (q237.1 d)]; exact (u8_gt c 159 (by omega)).1 c3
            · rw [if_neg d] at c3; rw [if_neg (fun e => d (q237.2 e))]
              by_cases d2 : a = 244
              · rw [if_pos d2] at c3; rw [if_pos (q244.1 d2)]; exact (u8_gt c 143 (by omega)).1 c3
              · rw [if_neg d2] at c3; rw [if_neg (fun e => d2 (q244.2 e))]; exact (u8_gt c 191 (by omega)).1 c3
        · rw [if_neg c3] at h
          cases u with
          | nil => simp at h
          | cons d v =>
            simp only [decide_eq_true_eq] at h
            refine .inr (.inr (.inr (.inr ⟨by simp, ?_⟩)))
            show d.toNat < 128 ∨ 191 < d.toNat
            rcases h with h | h
            · exact .inl ((u8_lt d 128 (by omega)).1 h)
            · exact .inr ((u8_gt d 191 (by omega)).1 h)
theorem getD_left {l : List UInt8} (r : List UInt8) {i : Nat} (h : i < l.length) : (l ++ r).getD i 0 = l.getD i 0 := by
  rw [List.getD_eq_getElem?_getD, List.getD_eq_getElem?_getD, List.getElem?_append_left h]
/-- What a whole character is, it is whatever follows. -/
theorem full_dec {l : List UInt8} (r : List UInt8) (h : fullL l = true) : decodeL (l ++ r) = decodeL l := by
  cases l with
  | nil => cases h
  | cons a t =>
    have hf := full_N h
    have k := fun (x : UInt8) => x.toNat_lt
    rw [decodeL_N, decodeL_N]
    have g0 : ((a :: t) ++ r).getD 0 0 = (a :: t).getD 0 0 := rfl
    rw [g0]
    have g1 : 1 < (a :: t).length → ((a :: t) ++ r).getD 1 0 = (a :: t).getD 1 0 := fun hl => getD_left r hl
    have g2 : 2 < (a :: t).length → ((a :: t) ++ r).getD 2 0 = (a :: t).getD 2 0 := fun hl => getD_left r hl
    have g3 : 3 < (a :: t).length → ((a :: t) ++ r).getD 3 0 = (a :: t).getD 3 0 := fun hl => getD_left r hl
    exact decodeN_full (n := (a :: t).length) (by simp) (by simp) (fun hl => by rw [g1 hl]) (fun hl => by rw [g2 hl]) (fun hl => by rw [g3 hl]) (k _) (k _) (k _) (k _) (k _) hf
theorem full_more {l : List UInt8} (r : List UInt8) (h : fullL l = true) : fullL (l ++ r) = true := by
  cases l with
  | nil => cases h
  | cons a t =>
    rw [List.cons_append]
    unfold fullL at h ⊢
    simp only at h ⊢
    by_cases c1 : a < 194 ∨ 244 < a
    · rw [if_pos c1]
    · rw [if_neg c1] at h ⊢
      by_cases c2 : (if a < 224 then 1 else if a < 240 then 2 else 3) ≤ t.length
      · rw [if_pos (by rw [List.length_append]; omega)]
      · rw [if_neg c2] at h
        by_cases c4 : (if a < 224 then 1 else if a < 240 then 2 else 3) ≤ (t ++ r).length
        · rw [if_pos c4]
        · rw [if_neg c4]
          cases t with
          | nil => simp at h
          | cons c u =>
            simp only [List.cons_append] at h ⊢
            by_cases c3 : c < (if a = 224 then 160 else if a = 240 then 144 else 128) ∨ (if a = 237 then 159 else if a = 244 then 143 else 191) < c
            · rw [if_pos c3]
            · rw [if_neg c3] at h ⊢
              cases u with
              | nil => simp at h
              | cons d v => exact h
end Go.Proofs.YtpmdcahomkdfmaaGreatDoor
