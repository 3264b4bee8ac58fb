/-
  Contract of URI.
-/
import Derived.Test.YtnfeifafocemaaaDoorCFrw
import Derived.Laws.BitsAllLaws
import Derived.Lib.Bytealg
set_option linter.unusedVariables false
set_option linter.unusedSimpArgs false
namespace Go.Proofs.YtnfeifafocemaaaDoor
open Go.RowKit Go.Lib

/-- The octets that stay in an address; the hexadecimal digits. -/
def unresF : List UInt8 := [65, 66, 67, 68, 69, 70, 71, 72, 73, 74, 75, 76, 77, 78, 79, 80, 81, 82, 83, 84, 85, 86, 87, 88, 89, 90, 97, 98, 99, 100, 101, 102, 103, 104, 105, 106, 107, 108, 109, 110, 111, 112, 113, 114, 115, 116, 117, 118, 119, 120, 121, 122, 48, 49, 50, 51, 52, 53, 54, 55, 56, 57, 45, 95, 46, 126]
def hexF : List UInt8 := [48, 49, 50, 51, 52, 53, 54, 55, 56, 57, 65, 66, 67, 68, 69, 70]
def hx16 (n : Nat) : UInt8 := hexF.getD n 0
def uriC (x : UInt8) : List UInt8 := if 0 ≤ indexByte unresF x then [x] else [37, hx16 (x.toNat / 16), hx16 (x.toNat % 16)]
theorem hexF_ext (n : Nat) (h : n < 16) : (⟨#[48, 49, 50, 51, 52, 53, 54, 55, 56, 57, 65, 66, 67, 68, 69, 70]⟩ : ByteArray).extract n (n + 1) = mk8 [hx16 n] := by
  rw [← mk8_of (s := (⟨#[48, 49, 50, 51, 52, 53, 54, 55, 56, 57, 65, 66, 67, 68, 69, 70]⟩ : ByteArray).extract n (n + 1))]
  refine congrArg mk8 ?_
  rw [ByteArray.data_extract, Array.toList_extract]
  show (hexF.drop n).take (n + 1 - n) = _
  have hl : n < hexF.length := h
  rw [Nat.add_sub_cancel_left, List.drop_eq_getElem_cons hl]
  unfold hx16
  rw [List.getD_eq_getElem?_getD, List.getElem?_eq_getElem hl]
  rfl
theorem and15F (x : Nat) (h : x < 256) : bits .and .u8 (x : Int) 15 = ((x % 16 : Nat) : Int) := by
  have := u8_and_nat x 15 h (by omega)
  rw [show ((15 : Nat) : Int) = 15 from rfl] at this
  rw [this, show (15 : Nat) = 2 ^ 4 - 1 from rfl, Nat.and_two_pow_sub_one_eq_mod]
set_option maxRecDepth 100000 in
set_option maxHeartbeats 2000000 in
theorem uri1_c (x : UInt8) (w : World) : Calls Tryd.prog 23 #[.string (mk8 [x])] w fun e w' => e = .returned (.string (mk8 (uriC x))) ∧ Below w.heap.size w w' := by
  have hc := Tryd.strings_Contains_one (mk8 unresF) x w
  rw [mk8_L] at hc
  have h256 := x.toNat_lt
  by_cases h : 0 ≤ indexByte unresF x
  · rw [decide_eq_true h] at hc
    have hu : uriC x = [x] := if_pos h
    rw [hu]
    have HC := Lib.hid hc
    clear hc hu h
    go_enter Tryd.func23, Tryd.ntmps23
    go_wp2_with fail
    refine HC.out.mono ?_
    rintro e w1 ⟨rfl, rfl⟩
    go_wp2_with fail
    go_ret
    exact ⟨rfl, Below.refl _ _⟩
  · rw [decide_eq_false h] at hc
    have hu : uriC x = [37, hx16 (x.toNat / 16), hx16 (x.toNat % 16)] := if_neg h
    rw [hu]
    obtain ⟨a, ha⟩ : ∃ a, x.toNat / 16 = a := ⟨_, rfl⟩
    obtain ⟨b, hb⟩ : ∃ b, x.toNat % 16 = b := ⟨_, rfl⟩
    have ha16 : a < 16 := by omega
    have hb16 : b < 16 := by omega
    have hda : (x.toNat : Int) / 16 = (a : Int) := by omega
    have hdb : bits .and .u8 (x.toNat : Int) 15 = (b : Int) := by rw [and15F _ (by omega), hb]
    have hea := hexF_ext a ha16
    have heb := hexF_ext b hb16
    rw [ha, hb]
    obtain ⟨S, hS⟩ : ∃ S, mk8 [x] = S := ⟨_, rfl⟩
    have hS0 : S.size = 1 := by rw [← hS]; rfl
    have hg : ∀ h : 0 < S.size, S[0]'h = x := by subst hS; intro h; rfl
    have hg0 := hg (by omega)
    have hC1 : Calls Tryd.prog 24 #[.string (mk8 unresF), .string S] w fun e w' => e = .returned (.bool false) ∧ w' = w := by rw [← hS]; exact hc
    rw [hS]
    have ha1 : ∀ W, (Op.stringOp .add ⟨#[37]⟩ (mk8 [hx16 a])).run Tryd.prog W = .ok (.string (mk8 [37, hx16 a])) W := fun W => run_string_add_sum W ⟨#[37]⟩ (mk8 [hx16 a]) (by rw [mk8_size]; show 1 + 1 ≤ _; omega)
    have ha2 : ∀ W, (Op.stringOp .add (mk8 [37, hx16 a]) (mk8 [hx16 b])).run Tryd.prog W = .ok (.string (mk8 [37, hx16 a, hx16 b])) W := fun W => run_string_add_sum W (mk8 [37, hx16 a]) (mk8 [hx16 b]) (by rw [mk8_size, mk8_size]; show 2 + 1 ≤ _; omega)
    have HC := Lib.hid hC1
    clear hc hu h hC1 hS ha hb hg
    go_enter Tryd.func23, Tryd.ntmps23
    go_wp2_with fail
    refine HC.out.mono ?_
    rintro e w1 ⟨rfl, rfl⟩
    have hmx : Tryd.prog.follows .mixedOrders = true := by kernel_rfl
    go_wp2_with fail
    go_region_o
    all_goals go_wp2_with fail
    all_goals go_region_o
    all_goals go_wp2_with fail
    all_goals go_ret
    all_goals exact ⟨rfl, (Below.refl _ _).drew.drew⟩
end Go.Proofs.YtnfeifafocemaaaDoor
