/-
  Contracts of dec's numeral, a number's text on its way: slices.Index, Contains, isDigit, skip, take.
-/
import Derived.Test.YtbbafggejnjjiaaGreatDoorDset
set_option linter.unusedVariables false
set_option linter.unusedSimpArgs false
namespace Go.Proofs.YtbbafggejnjjiaaGreatDoor
open Go.RowKit

/-- The box of a numeral that has no sign of its own decimal but Neg. -/
abbrev numBx (neg : Bool) (dg fr pw : ByteArray) (sk : Bool) (lf : ByteArray) : Obj := .cells #[.bool neg, .slice none 0 0, .int .i64 0, .string dg, .string fr, .string pw, .bool sk, .string lf] 106
theorem num_lf {w : World} {b : Nat} {neg sk : Bool} {dg fr pw lf : ByteArray} (h : w.heap[b]? = some (numBx neg dg fr pw sk lf)) : w.cell? ⟨b, 7, none⟩ = some (.string lf) ∧ w.frozen? ⟨b, 7, none⟩ = false := ⟨cell_of h rfl, frozen_of 7 h⟩
theorem num_set {w : World} {b : Nat} {neg sk : Bool} {dg fr pw lf : ByteArray} (h : w.heap[b]? = some (numBx neg dg fr pw sk lf)) (l2 : ByteArray) : (w.setCell ⟨b, 7, none⟩ (.string l2)).heap[b]? = some (numBx neg dg fr pw sk l2) := by
  rw [Go.heap_setCell_same w b 7 _ _ _ h]; rfl
theorem num_set_dg {w : World} {b : Nat} {neg sk : Bool} {dg fr pw lf : ByteArray} (h : w.heap[b]? = some (numBx neg dg fr pw sk lf)) (l2 : ByteArray) : (w.setCell ⟨b, 3, none⟩ (.string l2)).heap[b]? = some (numBx neg l2 fr pw sk lf) := by
  rw [Go.heap_setCell_same w b 3 _ _ _ h]; rfl
theorem num_set_fr {w : World} {b : Nat} {neg sk : Bool} {dg fr pw lf : ByteArray} (h : w.heap[b]? = some (numBx neg dg fr pw sk lf)) (l2 : ByteArray) : (w.setCell ⟨b, 4, none⟩ (.string l2)).heap[b]? = some (numBx neg dg l2 pw sk lf) := by
  rw [Go.heap_setCell_same w b 4 _ _ _ h]; rfl
theorem num_set_pw {w : World} {b : Nat} {neg sk : Bool} {dg fr pw lf : ByteArray} (h : w.heap[b]? = some (numBx neg dg fr pw sk lf)) (l2 : ByteArray) : (w.setCell ⟨b, 5, none⟩ (.string l2)).heap[b]? = some (numBx neg dg fr l2 sk lf) := by
  rw [Go.heap_setCell_same w b 5 _ _ _ h]; rfl
theorem num_set_sk {w : World} {b : Nat} {neg sk : Bool} {dg fr pw lf : ByteArray} (h : w.heap[b]? = some (numBx neg dg fr pw sk lf)) (s2 : Bool) : (w.setCell ⟨b, 6, none⟩ (.bool s2)).heap[b]? = some (numBx neg dg fr pw s2 lf) := by
  rw [Go.heap_setCell_same w b 6 _ _ _ h]; rfl
theorem num_set_neg {w : World} {b : Nat} {neg sk : Bool} {dg fr pw lf : ByteArray} (h : w.heap[b]? = some (numBx neg dg fr pw sk lf)) (s2 : Bool) : (w.setCell ⟨b, 0, none⟩ (.bool s2)).heap[b]? = some (numBx s2 dg fr pw sk lf) := by
  rw [Go.heap_setCell_same w b 0 _ _ _ h]; rfl
theorem octs_extract (s : ByteArray) (a b : Nat) : octs (s.extract a b) = ((octs s).take b).drop a := by
  unfold octs
  rw [ByteArray.data_extract, Array.toList_extract, List.extract_eq_take_drop, List.map_take, List.map_drop, List.drop_take]
theorem octs_rest (s : ByteArray) (a : Nat) : octs (s.extract a s.size) = (octs s).drop a := by
  rw [octs_extract, List.take_of_length_le (by rw [octs_length]; exact Nat.le_refl _)]

set_option maxRecDepth 100000 in
theorem isDigit_c (x : UInt8) (w : World) : Calls Tryz.prog 171 #[.int .u8 (x.toNat : Int)] w fun e w' => e = .returned (.bool (isDig x.toNat)) ∧ w = w' := by
  by_cases h1 : x.toNat < 48
  · have HD : Hid (isDig x.toNat = false) := decide_eq_false (by omega)
    have g1 : ¬ ((48 : Int) ≤ (x.toNat : Int)) := by omega
    clear h1
    go_enter Tryz.func171, Tryz.ntmps171
    go_wp2
    go_ret
    rw [HD.out]
    exact ⟨by first | rfl | simp, rfl⟩
  · have g1 : (48 : Int) ≤ (x.toNat : Int) := by omega
    by_cases h2 : x.toNat ≤ 57
    · have HD : Hid (isDig x.toNat = true) := decide_eq_true (by omega)
      have g2 : (x.toNat : Int) ≤ 57 := by omega
      clear h1 h2
      go_enter Tryz.func171, Tryz.ntmps171
      go_wp2
      go_ret
      rw [HD.out]
      exact ⟨by first | rfl | simp, rfl⟩
    · have HD : Hid (isDig x.toNat = false) := decide_eq_false (by omega)
      have g2 : ¬ ((x.toNat : Int) ≤ 57) := by omega
      clear h1 h2
      go_enter Tryz.func171, Tryz.ntmps171
      go_wp2
      go_ret
      rw [HD.out]
      exact ⟨by first | rfl | simp, rfl⟩
set_option maxRecDepth 100000 in
theorem isZero_c (x : UInt8) (w : World) : Calls Tryz.prog 173 #[.int .u8 (x.toNat : Int)] w fun e w' => e = .returned (.bool (x.toNat == 48)) ∧ w = w' := by
  go_enter Tryz.func173, Tryz.ntmps173
  go_wp2
  go_ret
  refine ⟨?_, rfl⟩
  have : ((x.toNat : Int) == 48) = (x.toNat == 48) := by
    rw [Bool.eq_iff_iff, beq_iff_eq, beq_iff_eq]; omega
  rw [← this]
  try rfl

/-- The octets of a row of bytes. -/
def RdB (w : World) (g : Nat) (l : List UInt8) : Prop := ∀ (j : Nat) (z : UInt8), l[j]? = some z → w.cell? ⟨g, j, none⟩ = some (.int .u8 (z.toNat : Int))
set_option maxRecDepth 100000 in
theorem Index_c {l : List UInt8} {n c g : Nat} (x : UInt8) (w : World) (hl : l.length = n) (hc : RdB w g l) (hn : n ≤ 1000) :
    Calls Tryz.prog 199 #[.slice (some ⟨g, 0, none⟩) n c, .int .u8 (x.toNat : Int)] w fun e w' => (∃ r : Int, e = .returned (.int .i64 r) ∧ decide (0 ≤ r) = l.contains x) ∧ w = w' := by
  have HL := Lib.hid hl
  have HC := Lib.hid hc
  clear hl hc
  go_enter Tryz.func199, Tryz.ntmps199
  go_wp2
  go_loopw [8] (fun i wr => ∃ k : Nat, k ≤ n ∧ i = .int .i64 (k : Int) ∧ Hid ((l.take k).contains x = false) ∧ wr = w) (fun i _ => n - (RowKit.intOf i).toNat)
  case atStart => exact ⟨0, Nat.zero_le _, rfl, rfl, rfl⟩
  case round =>
    obtain ⟨k, hk, rfl, hno, rfl⟩ := hrel
    by_cases hlt : k < n
    · obtain ⟨z, hz⟩ : ∃ z, l[k]? = some z := ⟨l[k]'(by rw [HL.out]; exact hlt), List.getElem?_eq_getElem (by rw [HL.out]; exact hlt)⟩
      have hcc := HC.out k z hz
      by_cases hxz : x = z
      · have he : ((x.toNat : Int) == (z.toNat : Int)) = true := by rw [hxz]; simp
        have hres : Hid (decide ((0 : Int) ≤ (k : Int)) = l.contains x) := by
          show _ = _
          rw [decide_eq_true (by omega), eq_comm, List.contains_iff_mem, hxz]
          exact List.mem_of_getElem? hz
        clear hz hxz
        go_wp2
        go_ret
        exact ⟨⟨_, rfl, hres.out⟩, rfl⟩
      · have he : ((x.toNat : Int) == (z.toNat : Int)) = false := by
          rw [beq_eq_false_iff_ne]
          intro h
          exact hxz (UInt8.toNat_inj.1 (by omega))
        have hno2 : Hid ((l.take (k + 1)).contains x = false) := by
          show _ = _
          rw [List.take_add_one, hz, List.contains_eq_any_beq, List.any_append, ← List.contains_eq_any_beq, hno.out]
          simp [hxz]
        clear hz hxz hno
        go_wp2
        go_roundw
        case rel => exact ⟨k + 1, by omega, by go_num, hno2, by first | trivial | rfl⟩
        case measure => simp [RowKit.intOf]; omega
    · obtain rfl : k = n := by omega
      have hres : Hid (decide ((0 : Int) ≤ -1) = l.contains x) := by
        show _ = _
        have := hno.out
        rw [List.take_of_length_le (by rw [HL.out]; exact Nat.le_refl _)] at this
        rw [this]; rfl
      clear hno hlt
      go_wp2
      go_ret
      exact ⟨⟨-1, rfl, hres.out⟩, rfl⟩
set_option maxRecDepth 100000 in
theorem Contains_c {l : List UInt8} {n c g : Nat} (x : UInt8) (w : World) (hl : l.length = n) (hc : RdB w g l) (hn : n ≤ 1000) :
    Calls Tryz.prog 169 #[.slice (some ⟨g, 0, none⟩) n c, .int .u8 (x.toNat : Int)] w fun e w' => e = .returned (.bool (l.contains x)) ∧ w = w' := by
  have h := Lib.hid (Index_c (c := c) x w hl hc hn)
  clear hl hc
  go_enter Tryz.func169, Tryz.ntmps169
  go_wp2_with fail
  refine h.out.mono ?_
  rintro e w' ⟨⟨r, rfl, hr⟩, rfl⟩
  have HR := Lib.hid hr
  clear hr
  go_wp2
  go_ret
  rw [← HR.out]
  exact ⟨rfl, rfl⟩
end Go.Proofs.YtbbafggejnjjiaaGreatDoor
