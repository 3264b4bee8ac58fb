/-
  What is read does not hang on what stands ahead: all places are told by so many octets farther. Pure, no program.
  What is cut off within: an octet at a time, characters, texts. Pure, no program.
  Contracts of the reference's zeros and plain.
-/
import Derived.Test.YtcanfiaooabocaaGreatDoorQRloc
import Derived.Test.YtcanfiaooabocaaGreatDoorQDprt
import Derived.Lib.ItoaLen
import Derived.Test.YtcanfiaooabocaaGreatDoorQNrefe
set_option linter.unusedVariables false
set_option linter.unusedSimpArgs false
namespace Go.Proofs.YtcanfiaooabocaaGreatDoor
open Go.Lib

def RR.shift {α : Type} (n : Nat) : RR α → RR α
  | .ok a q => .ok a (n + q)
  | .bad q e => .bad (n + q) e
/-- Reading that hangs on a place that it is told of, and on what stands behind where it begins. -/
def Shift {α : Type} (F : Nat → Rd1 α) : Prop := ∀ (m : Nat) (w b : List UInt8) (p : Nat), F (w.length + m) (w ++ b) (w.length + p) = (F m b p).shift w.length
theorem get_shift (w b : List UInt8) (p : Nat) : (w ++ b)[w.length + p]? = b[p]? := by
  rw [List.getElem?_append_right (by omega), Nat.add_sub_cancel_left]
theorem drop_shift (w b : List UInt8) (p : Nat) : (w ++ b).drop (w.length + p) = b.drop p := by
  rw [List.drop_append, List.drop_eq_nil_of_le (by omega), Nat.add_sub_cancel_left, List.nil_append]
theorem Shift.pure {α : Type} (a : α) : Shift (fun _ => rPure a) := fun _ _ _ _ => rfl
theorem Shift.fail {α : Type} (e : Nat) : Shift (fun _ => (rFail e : Rd1 α)) := fun _ _ _ _ => rfl
theorem Shift.stop {α : Type} : Shift (fun m => (fun _ _ => .bad m 33 : Rd1 α)) := fun _ _ _ _ => rfl
theorem Shift.must (is : Bool) : Shift (fun m => rMust m is) := fun _ _ _ _ => by cases is <;> rfl
theorem Shift.at {α β : Type} {F : Nat → Rd1 α} {G : Nat → α → Rd1 β} (hF : Shift F) (hG : ∀ a, Shift (fun m => G m a)) : Shift (fun m => rAt (F m) (G m)) := fun m w b p => by
  show ((F (w.length + m)) (w ++ b) (w.length + p)).bind _ = ((F m b p).bind _).shift _
  rw [hF m w b p]
  cases F m b p with
  | ok a q => exact hG a m w b q
  | bad q e => rfl
theorem Shift.over {α : Type} {G : Nat → Rd1 α} (hG : Shift G) : Shift (fun m => fun b p => G m b (p + 1)) := fun m w b p => hG m w b (p + 1)
theorem Shift.ite {α : Type} {c : Prop} [Decidable c] {F G : Nat → Rd1 α} (hF : Shift F) (hG : Shift G) : Shift (fun m => if c then F m else G m) := by
  by_cases h : c
  · simp only [if_pos h]; exact hF
  · simp only [if_neg h]; exact hG
theorem Shift.peek : Shift (fun _ => rPeek) := fun m w b p => by
  unfold rPeek
  simp only []
  rw [get_shift]
  cases b[p]? <;> rfl
theorem Shift.need (f : UInt8 → Bool) : Shift (fun _ => rNeed f) := fun m w b p => by
  unfold rNeed
  simp only []
  rw [get_shift]
  cases b[p]? with
  | none => rfl
  | some c => simp only; split <;> rfl
theorem Shift.skip (f : UInt8 → Bool) : Shift (fun _ => rSkip f) := fun m w b p => by
  unfold rSkip
  simp only []
  rw [get_shift]
  cases b[p]? with
  | none => rfl
  | some c => simp only; split <;> rfl
theorem Shift.skips (f : UInt8 → Bool) : Shift (fun _ => rSkips f) := fun m w b p => by
  unfold rSkips
  simp only []
  rw [drop_shift]
  simp only [RR.shift, Nat.add_assoc]
theorem Shift.apart : Shift (fun _ => rApart) := fun m w b p => by
  unfold rApart
  simp only []
  rw [get_shift]
  cases b[p]? with
  | none => rfl
  | some c => simp only; split <;> rfl
theorem Shift.word : ∀ l, Shift (fun _ => rWord l)
  | [] => Shift.apart
  | c :: r => Shift.at (G := fun _ _ => rWord r) (Shift.need _) fun _ => Shift.word r
theorem Shift.digits : Shift (fun _ => rDigits) := Shift.at (G := fun _ _ => rSkips isDg) (Shift.need _) fun _ => Shift.skips _
theorem Shift.numeral : Shift (fun _ => rNumeral) := by
  unfold rNumeral
  refine Shift.at (G := fun _ _ => _) (Shift.skip _) fun _ => ?_
  refine Shift.at (G := fun _ _ => _) (Shift.skip _) fun z => ?_
  refine Shift.at (G := fun _ _ => _) (Shift.ite (F := fun _ => _) (G := fun _ => _) (Shift.pure _) Shift.digits) fun _ => ?_
  refine Shift.at (G := fun _ _ => _) (Shift.skip _) fun f => ?_
  refine Shift.at (G := fun _ _ => _) (Shift.ite (F := fun _ => _) (G := fun _ => _) Shift.digits (Shift.pure _)) fun _ => ?_
  refine Shift.at (G := fun _ _ => _) (Shift.skip _) fun e => ?_
  exact Shift.ite (F := fun _ => _) (G := fun _ => _) (Shift.at (G := fun _ _ => _) (Shift.skip _) fun _ => Shift.digits) (Shift.pure _)
theorem cut_shift (w b : List UInt8) (p q : Nat) : cutN (w ++ b) (w.length + p) (w.length + q) = cutN b p q := by
  unfold cutN
  rw [drop_shift, show w.length + q - (w.length + p) = q - p by omega]
theorem Shift.number : Shift (fun _ => rNumber) := fun m w b p => by
  unfold rNumber
  simp only []
  have hn : rNumeral (w ++ b) (w.length + p) = (rNumeral b p).shift w.length := Shift.numeral m w b p
  rw [hn]
  cases rNumeral b p with
  | bad q e => rfl
  | ok a q =>
    simp only [RR.shift, RR.bind]
    rw [cut_shift]
    split
    · have ha : rApart (w ++ b) (w.length + q) = (rApart b q).shift w.length := Shift.apart m w b q
      rw [ha]
      cases rApart b q with
      | ok a2 q2 => rfl
      | bad q2 e2 => rfl
    · rfl
theorem Shift.hex : ∀ k n, Shift (fun _ => rHex k n)
  | 0, n => Shift.pure n
  | k + 1, n => by
    unfold rHex
    refine Shift.at (G := fun _ c => _) Shift.peek fun c => ?_
    cases hexOf c with
    | none => exact Shift.fail 33
    | some d => exact Shift.over (G := fun _ => rHex k (n * 16 + d)) (Shift.hex k _)
theorem Shift.low : Shift rLow := by
  unfold rLow
  refine Shift.at (G := fun m c => _) Shift.peek fun c => Shift.at (G := fun m _ => _) (Shift.must _) fun _ => Shift.over (G := fun m => rAt rPeek fun d => rAt (rMust m (d == 117)) fun _ => fun b p => _) ?_
  refine Shift.at (G := fun m c => _) Shift.peek fun d => Shift.at (G := fun m _ => _) (Shift.must _) fun _ => Shift.over (G := fun m => rAt (rHex 1 0) fun x => _) ?_
  refine Shift.at (G := fun m x => _) (Shift.hex 1 0) fun x => Shift.at (G := fun m _ => _) (Shift.must _) fun _ => Shift.at (G := fun m y => _) (Shift.hex 1 0) fun y => Shift.at (G := fun m _ => _) (Shift.must _) fun _ => Shift.at (G := fun m z => _) (Shift.hex 2 0) fun z => Shift.pure _
theorem Shift.coded : Shift rCoded := by
  unfold rCoded
  exact Shift.at (G := fun m n => _) (Shift.hex 4 0) fun n => Shift.ite (F := fun _ => _) (G := fun m => _) (Shift.pure _) (Shift.ite (F := fun m => _) (G := fun m => _) Shift.stop (Shift.at (G := fun m z => _) Shift.low fun z => Shift.pure _))
theorem Shift.escape : Shift (fun _ => rEscape) := fun m w b p => by
  have key : Shift (fun m => rAt rPeek fun c => if c == 117 then fun b q => rCoded m b (q + 1) else match escOf c with
    | some x => fun _ q => .ok x (q + 1)
    | none => fun _ _ => .bad m 33) := Shift.at (G := fun m c => _) Shift.peek fun c => Shift.ite (F := fun m => _) (G := fun m => _) (Shift.over (G := rCoded) Shift.coded) (by
      cases escOf c with
      | none => exact Shift.stop
      | some x => exact Shift.over (G := fun _ => rPure x) (Shift.pure x))
  exact key p w b (p + 1)
theorem Shift.char : Shift (fun _ => rChar) := by
  unfold rChar
  refine Shift.at (G := fun _ c => _) Shift.peek fun c => Shift.ite (F := fun _ => _) (G := fun _ => _) Shift.escape (Shift.ite (F := fun _ => _) (G := fun _ => _) (Shift.fail 33) fun m w b p => ?_)
  simp only [drop_shift]
  split
  · split
    · rfl
    · simp only [RR.shift, Nat.add_assoc]
  · simp only [RR.shift, List.length_append]
theorem Shift.chars : ∀ n acc, Shift (fun _ => rChars n acc)
  | 0, acc => Shift.fail 8
  | n + 1, acc => by
    unfold rChars
    exact Shift.at (G := fun _ c => _) Shift.peek fun c => Shift.ite (F := fun _ => _) (G := fun _ => _) (Shift.over (G := fun _ => rPure acc) (Shift.pure acc)) (Shift.at (G := fun _ x => _) Shift.char fun x => Shift.chars n _)
theorem Shift.text : Shift (fun _ => rText) := fun m w b p => by
  unfold rText
  simp only []
  have hc : rChars fuelR [] (w ++ b) (w.length + (p + 1)) = (rChars fuelR [] b (p + 1)).shift w.length := Shift.chars fuelR [] m w b (p + 1)
  rw [show w.length + p + 1 = w.length + (p + 1) by omega, hc]
  cases rChars fuelR [] b (p + 1) with
  | ok t q => simp only [RR.shift, RR.bind]; split <;> rfl
  | bad q e => rfl
theorem Shift.itemsF {α : Type} {end_ : UInt8} {item : Nat → Rd1 α} (hi : ∀ nth, Shift (fun _ => item nth)) : ∀ n nth, Shift (fun _ => rItemsF end_ item n nth)
  | 0, nth => Shift.fail 8
  | n + 1, nth => by
    unfold rItemsF
    refine Shift.at (G := fun _ c => _) Shift.peek fun c => Shift.ite (F := fun _ => _) (G := fun _ => _) (Shift.over (G := fun _ => rPure []) (Shift.pure [])) ?_
    refine Shift.at (F := fun _ => _) (G := fun _ _ => _) (Shift.ite (F := fun _ => _) (G := fun _ => _) (Shift.at (G := fun _ _ => _) (Shift.need _) fun _ => Shift.skips _) (Shift.pure _)) fun _ => ?_
    exact Shift.at (G := fun _ _ => _) (hi nth) fun a => Shift.at (G := fun _ _ => _) (Shift.skips _) fun _ => Shift.at (G := fun _ _ => _) (Shift.itemsF hi n (nth + 1)) fun l => Shift.pure _
theorem Shift.items {α : Type} {end_ : UInt8} {item : Nat → Rd1 α} (hi : ∀ nth, Shift (fun _ => item nth)) : Shift (fun _ => rItems end_ item) :=
  Shift.over (G := fun _ => rAt (rSkips isWs) fun _ => rItemsF end_ item fuelR 1) (Shift.at (G := fun _ _ => _) (Shift.skips _) fun _ => Shift.itemsF hi fuelR 1)
theorem Shift.held {α : Type} {F : Rd1 α} (hF : Shift (fun _ => F)) (mk : α → VT) : Shift (fun _ => fun b p => (F b p).bind fun l q => rHeld p (mk l) b q) := fun m w b p => by
  show (F (w ++ b) (w.length + p)).bind _ = ((F b p).bind _).shift _
  have hf : F (w ++ b) (w.length + p) = (F b p).shift w.length := hF m w b p
  rw [hf]
  cases F b p with
  | ok l q => simp only [RR.shift, RR.bind, rHeld]; split <;> rfl
  | bad q e => rfl
theorem Shift.begin (k nth : Nat) : Shift (fun _ => rBegin k nth) := by
  unfold rBegin
  exact Shift.at (G := fun _ c => _) Shift.peek fun c => Shift.ite (F := fun _ => _) (G := fun _ => _) (Shift.fail _) (Shift.ite (F := fun _ => _) (G := fun _ => _) (Shift.fail _) (Shift.ite (F := fun _ => _) (G := fun _ => _) (Shift.fail _) (Shift.pure _)))
theorem Shift.key (nth : Nat) : Shift (fun _ => rKey nth) := by
  unfold rKey
  exact Shift.at (G := fun _ c => _) Shift.peek fun c => Shift.ite (F := fun _ => _) (G := fun _ => _) (Shift.ite (F := fun _ => _) (G := fun _ => _) (Shift.fail _) Shift.text) (Shift.fail _)
theorem Shift.value (mk : List (ByteArray × VT) → VT) : ∀ k nth, Shift (fun _ => rValue mk k nth)
  | 0, nth => by
    unfold rValue
    exact Shift.at (G := fun _ _ => _) (Shift.begin 0 nth) fun _ => Shift.at (G := fun _ c => _) Shift.peek fun c => Shift.ite (F := fun _ => _) (G := fun _ => _) (Shift.at (G := fun _ _ => _) Shift.text fun t => Shift.pure _) (Shift.ite (F := fun _ => _) (G := fun _ => _) (Shift.at (G := fun _ _ => _) (Shift.word _) fun _ => Shift.pure _) (Shift.ite (F := fun _ => _) (G := fun _ => _) (Shift.at (G := fun _ _ => _) (Shift.word _) fun _ => Shift.pure _) (Shift.ite (F := fun _ => _) (G := fun _ => _) (Shift.at (G := fun _ _ => _) (Shift.word _) fun _ => Shift.pure _) Shift.number)))
  | k + 1, nth => by
    have ih := Shift.value mk k
    have hpair : ∀ n, Shift (fun _ => rAt (rKey n) fun key => rAt (rSkips isWs) fun _ => rAt (rNeed (· == 58)) fun _ => rAt (rSkips isWs) fun _ => rAt (rValue mk k n) fun v => rPure (key, v)) := fun n =>
      Shift.at (G := fun _ _ => _) (Shift.key n) fun key => Shift.at (G := fun _ _ => _) (Shift.skips _) fun _ => Shift.at (G := fun _ _ => _) (Shift.need _) fun _ => Shift.at (G := fun _ _ => _) (Shift.skips _) fun _ => Shift.at (G := fun _ _ => _) (ih n) fun v => Shift.pure _
    unfold rValue
    exact Shift.at (G := fun _ _ => _) (Shift.begin (k + 1) nth) fun _ => Shift.at (G := fun _ c => _) Shift.peek fun c => Shift.ite (F := fun _ => _) (G := fun _ => _) (Shift.held (Shift.items ih) _) (Shift.ite (F := fun _ => _) (G := fun _ => _) (Shift.held (Shift.items hpair) _) (Shift.ite (F := fun _ => _) (G := fun _ => _) (Shift.at (G := fun _ _ => _) Shift.text fun t => Shift.pure _) (Shift.ite (F := fun _ => _) (G := fun _ => _) (Shift.at (G := fun _ _ => _) (Shift.word _) fun _ => Shift.pure _) (Shift.ite (F := fun _ => _) (G := fun _ => _) (Shift.at (G := fun _ _ => _) (Shift.word _) fun _ => Shift.pure _) (Shift.ite (F := fun _ => _) (G := fun _ => _) (Shift.at (G := fun _ _ => _) (Shift.word _) fun _ => Shift.pure _) Shift.number)))))
end Go.Proofs.YtcanfiaooabocaaGreatDoor

namespace Go.Proofs.YtcanfiaooabocaaGreatDoor
open Go.Lib

theorem part_ok {l : List UInt8} (h : partOf l ≠ -1) : ¬ ((decodeL l).1 = 65533 ∧ (decodeL l).2 = 1) := fun e => h (by unfold partOf; rw [if_pos e])
theorem full_part {l : List UInt8} (hl : l ≠ []) (h : partOf l ≠ -1) : fullL l = true := by
  have hv := part_ok h
  cases l with
  | nil => exact absurd rfl hl
  | cons a t =>
    have e194 : a < 194 ↔ a.toNat < 194 := u8_lt a 194 (by omega)
    have e244 : 244 < a ↔ 244 < a.toNat := u8_gt a 244 (by omega)
    have e224 : a < 224 ↔ a.toNat < 224 := u8_lt a 224 (by omega)
    have e240 : a < 240 ↔ a.toNat < 240 := u8_lt a 240 (by omega)
    have k0 := a.toNat_lt
    rw [decodeL_N] at hv
    have g0 : (a :: t).getD 0 0 = a := rfl
    rw [g0] at hv
    unfold fullL
    simp only [e194, e244, e224, e240]
    by_cases c1 : a.toNat < 194 ∨ 244 < a.toNat
    · rw [if_pos c1]
    · rw [if_neg c1]
      have hlen : (a :: t).length = t.length + 1 := List.length_cons
      have c2 : (if a.toNat < 224 then 1 else if a.toNat < 240 then 2 else 3) ≤ t.length := by
        rcases decodeN_shape (a :: t).length a.toNat ((a :: t).getD 1 0).toNat ((a :: t).getD 2 0).toNat ((a :: t).getD 3 0).toNat with ⟨c, e⟩ | ⟨d1, d2, d3, dv, e⟩ | ⟨d1, d2, d3, d4, dv, ds, e⟩ | ⟨d1, d2, d3, d4, d5, dv, dw, e⟩ | e
        · omega
        · split
          · omega
          · split <;> omega
        · split
          · omega
          · split <;> omega
        · split
          · omega
          · split <;> omega
        · rw [e] at hv; exact absurd ⟨rfl, rfl⟩ hv
      rw [if_pos c2]
end Go.Proofs.YtcanfiaooabocaaGreatDoor

namespace Go.Proofs.YtcanfiaooabocaaGreatDoor
open Go.RowKit

theorem ResB.one (w : World) (x : Nat) (hx : x < 256) : ResB (w.alloc (.cells #[.int .u8 (x : Int)] 5)) w.heap.size (some ⟨w.heap.size, 0, none⟩) 1 1 [x] := by
  refine ⟨rfl, L8.one hx, ?_⟩
  have h := World.ownsRow_lit (base := w.heap.size) (e := 5) (size := 1) w #[.int .u8 (x : Int)] 1 (Nat.le_refl _) (by unfold maxLen; omega) (by simp)
  show World.ownsRow _ _ _ _ _ _ [Value.int .u8 (x : Int)]
  simpa using h
end Go.Proofs.YtcanfiaooabocaaGreatDoor
