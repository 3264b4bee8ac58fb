/-
  Contract of dec's numeral: readFraction, told by the places of the form.
  Contract of dec's numeral: readPower, told by the places of the form.
-/
import Derived.Test.YtpjllcengnolkaaGreatDoorPDnumd
import Derived.Laws.Concat
set_option linter.unusedVariables false
set_option linter.unusedSimpArgs false
namespace Go.Proofs.YtpjllcengnolkaaGreatDoor
open Go.RowKit

set_option maxRecDepth 100000 in
theorem readFraction_c {b k : Nat} {neg sk : Bool} {dg fr pw lf : ByteArray} {X : List Nat} (w : World) (hs : lf.size ≤ 9223372036854775807) (hb : w.heap[b]? = some (numBx neg dg fr pw sk lf)) (hx : octs lf = X.drop k) :
    Calls Tryz.prog 95 #[.pointer (some ⟨b, 0, none⟩)] w fun e w' => e = .returned (.bool (fFrac X k).isSome) ∧
      (∀ k2, fFrac X k = some k2 → ∃ fr' lf', w'.heap[b]? = some (numBx neg dg fr' pw sk lf') ∧ lf'.size ≤ lf.size ∧ octs lf' = X.drop k2 ∧ octs fr' = if nth X k = 46 then (X.drop (k + 1)).take (dEnd X (k + 1) - (k + 1)) else octs fr) ∧ Below b w w' := by
  have hlt : b < w.heap.size := (Array.getElem?_eq_some_iff.1 hb).1
  have hb1 : (w.alloc (.cells #[.int .u8 46] 5)).heap[b]? = some (numBx neg dg fr pw sk lf) := (Below.heap_alloc _ _ _ hlt).trans hb
  have hS := skip_c (l := [46]) (n := 1) (c := 1) (w.alloc (.cells #[.int .u8 46] 5)) hs hb1 rfl (RdB1 w 46) (by omega) (by decide)
  have hB0 : Below b w (w.alloc (.cells #[.int .u8 46] 5)) := (Below.refl _ _).alloc (by omega) _
  rw [heads1, hx, nth_drop0] at hS
  by_cases h46 : nth X k = 46
  · rw [show decide (nth X k = (46 : UInt8).toNat) = true from decide_eq_true h46, if_pos rfl] at hS
    have hls : (lf.extract 1 lf.size).size ≤ lf.size := by rw [ByteArray.size_extract]; omega
    have hx1 : octs (lf.extract 1 lf.size) = X.drop (k + 1) := by rw [octs_rest, hx, List.drop_drop]
    rw [if_pos h46]
    obtain ⟨lg, hlg⟩ : ∃ lg, lg = lf.extract 1 lf.size := ⟨_, rfl⟩
    rw [← hlg] at hS hls hx1
    obtain ⟨m, hm⟩ : ∃ m, m = ((octs lg).takeWhile isDig).length := ⟨_, rfl⟩
    have hmle : m ≤ lg.size := by rw [hm, ← octs_length]; exact tw_le _ _
    have hmd : m = dEnd X (k + 1) - (k + 1) := by rw [hm, hx1, tw_dEnd]
    have hmp : isDig (nth X (k + 1)) = decide (0 < m) := by rw [Bool.eq_iff_iff, tw_pos, decide_eq_true_eq, hm, hx1]
    have hT := fun V (h : V.heap[b]? = some (numBx neg dg fr pw sk lg)) => takeD_c V (show lg.size ≤ 9223372036854775807 by omega) h
    rw [← hm] at hT
    have hl2 : octs (lg.extract m lg.size) = X.drop (dEnd X (k + 1)) := by
      rw [octs_rest, hx1, List.drop_drop, hmd]
      have := dEnd_ge X (k + 1)
      rw [show k + 1 + (dEnd X (k + 1) - (k + 1)) = dEnd X (k + 1) by omega]
    have hl3 : octs (lg.extract 0 m) = (X.drop (k + 1)).take (dEnd X (k + 1) - (k + 1)) := by rw [octs_extract, hx1, hmd, List.drop_zero]
    have hls2 : (lg.extract m lg.size).size ≤ lf.size := by rw [ByteArray.size_extract]; omega
    have hes := ext0_size hmle
    have hff : fFrac X k = if isDig (nth X (k + 1)) = true then some (dEnd X (k + 1)) else none := by unfold fFrac; rw [if_pos h46]
    rw [hmp] at hff
    have HS := Lib.hid hS
    have HL2 := Lib.hid hl2
    have HL3 := Lib.hid hl3
    have HLS := Lib.hid hls2
    have HB0 := Lib.hid hB0
    have HT := Lib.hid hT
    generalize fFrac X k = FF at *
    clear hS hl2 hl3 hls hls2 hB0 hb1 hb hx hx1 h46 hT hm hmd hmp hlg
    generalize lg.extract m lg.size = L2 at *
    generalize lg.extract 0 m = D2 at *
    by_cases hm0 : m = 0
    · have he := str_empty (show D2.size = 0 by omega)
      have hd : decide (0 < m) = false := decide_eq_false (by omega)
      rw [hd, if_neg (by decide)] at hff
      subst hff
      clear hd hm0 hes
      go_enter Tryz.func95, Tryz.ntmps95
      go_wp2_with fail
      refine HS.out.mono ?_
      rintro e w2 ⟨rfl, hb2, hbel⟩
      go_wp2_with fail
      refine (HT.out w2 hb2).mono ?_
      rintro e w3 ⟨rfl, hb3, hbel3⟩
      have hc3 := cell_of (k := 4) hb3 rfl
      have hf3 := frozen_of 4 hb3
      go_wp2
      go_ret
      exact ⟨rfl, (fun _ h => by cases h), (HB0.out.trans (hbel.trans hbel3)).setCell (p := ⟨b, 4, none⟩) (Nat.le_refl _) _⟩
    · have he := str_full (show 0 < D2.size by omega)
      have hd : decide (0 < m) = true := decide_eq_true (by omega)
      rw [hd, if_pos rfl] at hff
      subst hff
      clear hd hm0 hes
      go_enter Tryz.func95, Tryz.ntmps95
      go_wp2_with fail
      refine HS.out.mono ?_
      rintro e w2 ⟨rfl, hb2, hbel⟩
      go_wp2_with fail
      refine (HT.out w2 hb2).mono ?_
      rintro e w3 ⟨rfl, hb3, hbel3⟩
      have hc3 := cell_of (k := 4) hb3 rfl
      have hf3 := frozen_of 4 hb3
      have HSET := Lib.hid (num_set_fr hb3 D2)
      go_wp2
      go_ret
      exact ⟨rfl, (fun _ h => by injection h with h; subst h; exact ⟨D2, L2, HSET.out, HLS.out, HL2.out, HL3.out⟩), (HB0.out.trans (hbel.trans hbel3)).setCell (p := ⟨b, 4, none⟩) (Nat.le_refl _) _⟩
  · rw [show decide (nth X k = (46 : UInt8).toNat) = false from decide_eq_false h46, if_neg (by decide)] at hS
    have hff : fFrac X k = some k := by unfold fFrac; rw [if_neg h46]
    rw [hff, if_neg h46]
    have HS := Lib.hid hS
    have HX := Lib.hid hx
    have HB0 := Lib.hid hB0
    clear hS hff hB0 hb1 hb hx h46
    go_enter Tryz.func95, Tryz.ntmps95
    go_wp2_with fail
    refine HS.out.mono ?_
    rintro e w2 ⟨rfl, hb2, hbel⟩
    go_wp2
    go_ret
    exact ⟨rfl, (fun _ h => by injection h with h; subst h; exact ⟨fr, lf, hb2, Nat.le_refl _, HX.out, rfl⟩), HB0.out.trans hbel⟩
end Go.Proofs.YtpjllcengnolkaaGreatDoor

namespace Go.Proofs.YtpjllcengnolkaaGreatDoor
open Go.RowKit

theorem isZ_dig {x : Nat} (h : isZ x = true) : isDig x = true := by
  unfold isZ at h
  rw [beq_iff_eq] at h
  rw [h]; decide
theorem tw_split : ∀ ys : List Nat, ys.takeWhile isDig = ys.takeWhile isZ ++ (ys.drop (ys.takeWhile isZ).length).takeWhile isDig
  | [] => rfl
  | y :: ys => by
    by_cases hz : isZ y = true
    · rw [List.takeWhile_cons_of_pos (isZ_dig hz), List.takeWhile_cons_of_pos hz, tw_split ys]; rfl
    · rw [List.takeWhile_cons_of_neg hz]; rfl
theorem dw_split : ∀ ys : List Nat, (ys.takeWhile isDig).dropWhile isZ = (ys.drop (ys.takeWhile isZ).length).takeWhile isDig
  | [] => rfl
  | y :: ys => by
    by_cases hz : isZ y = true
    · rw [List.takeWhile_cons_of_pos (isZ_dig hz), List.dropWhile_cons_of_pos hz, dw_split ys, List.takeWhile_cons_of_pos hz]; rfl
    · rw [List.takeWhile_cons_of_neg hz]
      by_cases hd : isDig y = true
      · rw [List.takeWhile_cons_of_pos hd, List.dropWhile_cons_of_neg hz]
        show _ = (y :: ys).takeWhile isDig
        rw [List.takeWhile_cons_of_pos hd]
      · rw [List.takeWhile_cons_of_neg hd]
        show _ = (y :: ys).takeWhile isDig
        rw [List.takeWhile_cons_of_neg hd]; rfl
theorem run_tw (X : List Nat) (k : Nat) : (X.drop k).take (dEnd X k - k) = (X.drop k).takeWhile isDig := by
  rw [← tw_dEnd]
  obtain ⟨r, hr⟩ := List.takeWhile_prefix (l := X.drop k) isDig
  conv => lhs; arg 2; rw [← hr]
  simp
theorem prefix45 (lg : ByteArray) : Lib.hasPrefix lg.data.toList (⟨#[45]⟩ : ByteArray).data.toList = decide (nth (octs lg) 0 = 45) := by
  unfold Lib.hasPrefix octs
  show List.isPrefixOf [45] lg.data.toList = _
  cases lg.data.toList with
  | nil => rfl
  | cons x r =>
    show ((45 == x) && true) = decide (x.toNat = 45)
    rw [Bool.and_true, Bool.eq_iff_iff, beq_iff_eq, decide_eq_true_eq]
    constructor
    · rintro rfl; rfl
    · intro h; exact (UInt8.toNat_inj.1 h).symm

/-- What the exponent's part tells. -/
def PowOk (X : List Nat) (k : Nat) (sk : Bool) (pw : ByteArray) (sk' : Bool) (pw' : ByteArray) : Prop :=
  (nth X k = 101 ∨ nth X k = 69 → sk' = decide (nth X (k + 1) = 45) ∧ octs pw' = ((X.drop (fSg X (k + 1))).take (dEnd X (fSg X (k + 1)) - fSg X (k + 1))).dropWhile isZ) ∧ (¬ (nth X k = 101 ∨ nth X k = 69) → sk' = sk ∧ pw' = pw)

set_option maxRecDepth 100000 in
set_option maxHeartbeats 1000000 in
theorem readPower_c {b k : Nat} {neg sk : Bool} {dg fr pw lf : ByteArray} {X : List Nat} (w : World) (hs : lf.size ≤ 140737488355328) (hb : w.heap[b]? = some (numBx neg dg fr pw sk lf)) (hx : octs lf = X.drop k) :
    Calls Tryz.prog 96 #[.pointer (some ⟨b, 0, none⟩)] w fun e w' => e = .returned (.bool (fPow X k).isSome) ∧
      (∀ k3, fPow X k = some k3 → ∃ pw' sk' lf', w'.heap[b]? = some (numBx neg dg fr pw' sk' lf') ∧ octs lf' = X.drop k3 ∧
        PowOk X k sk pw sk' pw') ∧ Below b w w' := by
  have hlt : b < w.heap.size := (Array.getElem?_eq_some_iff.1 hb).1
  have hb1 : (w.alloc (.cells #[.int .u8 101, .int .u8 69] 5)).heap[b]? = some (numBx neg dg fr pw sk lf) := (Below.heap_alloc _ _ _ hlt).trans hb
  have hS := skip_c (l := [101, 69]) (n := 2) (c := 2) (w.alloc (.cells #[.int .u8 101, .int .u8 69] 5)) (by omega) hb1 rfl (RdB2 w 101 69) (by omega) (by decide)
  have hB0 : Below b w (w.alloc (.cells #[.int .u8 101, .int .u8 69] 5)) := (Below.refl _ _).alloc (by omega) _
  rw [heads2, hx, nth_drop0] at hS
  by_cases he : nth X k = 101 ∨ nth X k = 69
  · rw [show decide (nth X k = (101 : UInt8).toNat ∨ nth X k = (69 : UInt8).toNat) = true from decide_eq_true he, if_pos rfl] at hS
    have hls : (lf.extract 1 lf.size).size ≤ lf.size := by rw [ByteArray.size_extract]; omega
    have hx1 : octs (lf.extract 1 lf.size) = X.drop (k + 1) := by rw [octs_rest, hx, List.drop_drop]
    have hff : fPow X k = if isDig (nth X (fSg X (k + 1))) = true then some (dEnd X (fSg X (k + 1))) else none := by unfold fPow; rw [if_pos he]
    obtain ⟨lg, hlg⟩ : ∃ lg, lg = lf.extract 1 lf.size := ⟨_, rfl⟩
    rw [← hlg] at hS hls hx1
    -- the sign
    obtain ⟨SN, hSN⟩ : ∃ SN, SN = decide (nth X (k + 1) = 45) := ⟨_, rfl⟩
    have hP := fun V => Tryz.strings_HasPrefix lg ⟨#[45]⟩ V
    rw [prefix45, hx1, nth_drop0, ← hSN] at hP
    obtain ⟨L1, hL1⟩ : ∃ L1, L1 = if heads [43, 45] (octs lg) = true then lg.extract 1 lg.size else lg := ⟨_, rfl⟩
    have hS2 := fun (V : World) (h : V.heap[b]? = some (numBx neg dg fr pw SN lg)) (hlt : b < V.heap.size) =>
      skip_c (l := [43, 45]) (n := 2) (c := 2) (V.alloc (.cells #[.int .u8 43, .int .u8 45] 5)) (by omega) ((Below.heap_alloc _ _ _ hlt).trans h) rfl (RdB2 V 43 45) (by omega) (by decide)
    rw [← hL1] at hS2
    have hx2 : octs L1 = X.drop (fSg X (k + 1)) := by
      rw [hL1, heads2, hx1, nth_drop0, show (43 : UInt8).toNat = 43 from rfl, show (45 : UInt8).toNat = 45 from rfl]
      unfold fSg
      by_cases hq : nth X (k + 1) = 43 ∨ nth X (k + 1) = 45
      · rw [if_pos (decide_eq_true hq), if_pos hq, octs_rest, hx1, List.drop_drop]
      · rw [if_neg (by rw [decide_eq_true_eq]; exact hq), if_neg hq, hx1]
    have hls1 : L1.size ≤ lf.size := by
      rw [hL1]
      split
      · rw [ByteArray.size_extract]; omega
      · exact hls
    generalize heads [43, 45] (octs lg) = HH at hS2
    obtain ⟨K2, hK2⟩ : ∃ K2, K2 = fSg X (k + 1) := ⟨_, rfl⟩
    rw [← hK2] at hff hx2
    -- zeros and digits
    obtain ⟨z, hz⟩ : ∃ z, z = ((octs L1).takeWhile isZ).length := ⟨_, rfl⟩
    have hzle : z ≤ L1.size := by rw [hz, ← octs_length]; exact tw_le _ _
    have hTz := fun V (h : V.heap[b]? = some (numBx neg dg fr pw SN L1)) => takeZ_c V (show L1.size ≤ 9223372036854775807 by omega) h
    rw [← hz] at hTz
    obtain ⟨L3, hL3⟩ : ∃ L3, L3 = L1.extract z L1.size := ⟨_, rfl⟩
    rw [← hL3] at hTz
    have hls3 : L3.size = L1.size - z := by rw [hL3, ByteArray.size_extract]; omega
    have hx3 : octs L3 = (X.drop K2).drop z := by rw [hL3, octs_rest, hx2]
    have hzs := ext0_size hzle
    obtain ⟨m, hm⟩ : ∃ m, m = ((octs L3).takeWhile isDig).length := ⟨_, rfl⟩
    have hmle : m ≤ L3.size := by rw [hm, ← octs_length]; exact tw_le _ _
    have hTd := fun V (h : V.heap[b]? = some (numBx neg dg fr pw SN L3)) => takeD_c V (show L3.size ≤ 9223372036854775807 by omega) h
    rw [← hm] at hTd
    have hms := ext0_size hmle
    have hsum : z + m = dEnd X K2 - K2 := by
      rw [← tw_dEnd, tw_split, List.length_append, hm, hx3, hz, hx2]
    have hl2 : octs (L3.extract m L3.size) = X.drop (dEnd X K2) := by
      rw [octs_rest, hx3, List.drop_drop, List.drop_drop]
      have := dEnd_ge X K2
      rw [show K2 + (z + m) = dEnd X K2 by omega]
    have hl3 : octs (L3.extract 0 m) = ((X.drop K2).take (dEnd X K2 - K2)).dropWhile isZ := by
      rw [run_tw, dw_split, octs_extract, List.drop_zero, hx3, hm, hz, hx2, hx3]
      have := List.takeWhile_prefix (l := (X.drop K2).drop ((X.drop K2).takeWhile isZ).length) isDig
      rw [hz, hx2]
      exact (List.prefix_iff_eq_take.1 this).symm
    have hmp : isDig (nth X K2) = decide (0 < z + m) := by rw [Bool.eq_iff_iff, tw_pos, decide_eq_true_eq, hsum, tw_dEnd]
    rw [hmp] at hff
    obtain ⟨ZS, hZS⟩ : ∃ ZS, ZS = L1.extract 0 z := ⟨_, rfl⟩
    obtain ⟨D2, hD2⟩ : ∃ D2, D2 = L3.extract 0 m := ⟨_, rfl⟩
    obtain ⟨L2, hL2⟩ : ∃ L2, L2 = L3.extract m L3.size := ⟨_, rfl⟩
    rw [← hZS] at hTz hzs
    rw [← hD2, ← hL2] at hTd
    rw [← hD2] at hms hl3
    rw [← hL2] at hl2
    have hadd : ∀ W, (Op.stringOp .add ZS D2).run Tryz.prog W = .ok (.string (ZS ++ D2)) W := fun W => by rw [run_string_add_sum W _ _ (by omega)]
    have hsz : (ZS ++ D2).size = z + m := by rw [ByteArray.size_append, hzs, hms]
    have hok : PowOk X k sk pw SN D2 := by
      refine ⟨fun _ => ⟨hSN, ?_⟩, fun h => absurd he h⟩
      rw [← hK2]; exact hl3
    have HOK := Lib.hid hok
    clear hok
    generalize fPow X k = FF at *
    have HS := Lib.hid hS
    have HP := Lib.hid hP
    have HS2 := Lib.hid hS2
    have HTZ := Lib.hid hTz
    have HTD := Lib.hid hTd
    have HB0 := Lib.hid hB0
    have HL2 := Lib.hid hl2
    have HL3 := Lib.hid hl3
    have HBK := Lib.hid hlt
    have hzm : z + m ≤ 140737488355328 := by omega
    clear hS hP hS2 hTz hTd hB0 hl2 hl3 hsum hmp hx hx1 hx2 hx3 hL1 hL3 hL2 hZS hD2 hz hm hK2 hSN hlg hb hb1 he hlt
    by_cases hm0 : z + m = 0
    · have hse := str_empty (show (ZS ++ D2).size = 0 by omega)
      rw [show decide (0 < z + m) = false from decide_eq_false (by omega), if_neg (by decide)] at hff
      subst hff
      go_enter Tryz.func96, Tryz.ntmps96
      go_wp2_with fail
      refine HS.out.mono ?_
      rintro e w2 ⟨rfl, hb2, hbel2⟩
      have hc7 := cell_of (k := 7) hb2 rfl
      have hc6 := cell_of (k := 6) hb2 rfl
      have hf6 := frozen_of 6 hb2
      have HB2 := Lib.hid hb2
      have HBL2 := Lib.hid (HB0.out.trans hbel2)
      clear hb2 hbel2
      go_wp2_with fail
      refine (HP.out w2).mono ?_
      rintro e w3 ⟨rfl, rfl⟩
      have HB3 := Lib.hid (num_set_sk HB2.out SN)
      have HBL3 := Lib.hid (HBL2.out.setCell (p := ⟨b, 6, none⟩) (Nat.le_refl _) (.bool SN))
      have HZ3 : Hid (b < (w3.setCell ⟨b, 6, none⟩ (.bool SN)).heap.size) := (Array.getElem?_eq_some_iff.1 HB3.out).1
      clear HB2 HBL2 hc7
      go_wp2_with fail
      have HB3b := Lib.hid (HBL3.out.alloc (Nat.le_of_lt HZ3.out) (.cells #[.int .u8 43, .int .u8 45] 5))
      have hS2' := HS2.out (w3.setCell ⟨b, 6, none⟩ (.bool SN)) HB3.out HZ3.out
      simp only [World.size_setCell] at hS2'
      refine hS2'.mono ?_
      rintro e w4 ⟨rfl, hb4, hbel4⟩
      have HB4 := Lib.hid hb4
      have HBL4 := Lib.hid (HB3b.out.trans hbel4)
      clear hb4 hbel4 hc6 hf6
      go_wp2_with fail
      refine (HTZ.out w4 HB4.out).mono ?_
      rintro e w5 ⟨rfl, hb5, hbel5⟩
      have HB5 := Lib.hid hb5
      have HBL5 := Lib.hid (HBL4.out.trans hbel5)
      clear hb5 hbel5
      go_wp2_with fail
      refine (HTD.out w5 HB5.out).mono ?_
      rintro e w6 ⟨rfl, hb6, hbel6⟩
      have hc5 := cell_of (k := 5) hb6 rfl
      have hf5 := frozen_of 5 hb6
      have HB6 := Lib.hid (num_set_pw hb6 D2)
      have HBL6 := Lib.hid (HBL5.out.trans hbel6)
      clear hb6 hbel6
      go_wp2
      go_ret
      exact ⟨rfl, (fun _ h => by cases h), HBL6.out.setCell (p := ⟨b, 5, none⟩) (Nat.le_refl _) _⟩
    · have hse := str_full (show 0 < (ZS ++ D2).size by omega)
      rw [show decide (0 < z + m) = true from decide_eq_true (by omega), if_pos rfl] at hff
      subst hff
      go_enter Tryz.func96, Tryz.ntmps96
      go_wp2_with fail
      refine HS.out.mono ?_
      rintro e w2 ⟨rfl, hb2, hbel2⟩
      have hc7 := cell_of (k := 7) hb2 rfl
      have hc6 := cell_of (k := 6) hb2 rfl
      have hf6 := frozen_of 6 hb2
      have HB2 := Lib.hid hb2
      have HBL2 := Lib.hid (HB0.out.trans hbel2)
      clear hb2 hbel2
      go_wp2_with fail
      refine (HP.out w2).mono ?_
      rintro e w3 ⟨rfl, rfl⟩
      have HB3 := Lib.hid (num_set_sk HB2.out SN)
      have HBL3 := Lib.hid (HBL2.out.setCell (p := ⟨b, 6, none⟩) (Nat.le_refl _) (.bool SN))
      have HZ3 : Hid (b < (w3.setCell ⟨b, 6, none⟩ (.bool SN)).heap.size) := (Array.getElem?_eq_some_iff.1 HB3.out).1
      clear HB2 HBL2 hc7
      go_wp2_with fail
      have HB3b := Lib.hid (HBL3.out.alloc (Nat.le_of_lt HZ3.out) (.cells #[.int .u8 43, .int .u8 45] 5))
      have hS2' := HS2.out (w3.setCell ⟨b, 6, none⟩ (.bool SN)) HB3.out HZ3.out
      simp only [World.size_setCell] at hS2'
      refine hS2'.mono ?_
      rintro e w4 ⟨rfl, hb4, hbel4⟩
      have HB4 := Lib.hid hb4
      have HBL4 := Lib.hid (HB3b.out.trans hbel4)
      clear hb4 hbel4 hc6 hf6
      go_wp2_with fail
      refine (HTZ.out w4 HB4.out).mono ?_
      rintro e w5 ⟨rfl, hb5, hbel5⟩
      have HB5 := Lib.hid hb5
      have HBL5 := Lib.hid (HBL4.out.trans hbel5)
      clear hb5 hbel5
      go_wp2_with fail
      refine (HTD.out w5 HB5.out).mono ?_
      rintro e w6 ⟨rfl, hb6, hbel6⟩
      have hc5 := cell_of (k := 5) hb6 rfl
      have hf5 := frozen_of 5 hb6
      have HB6 := Lib.hid (num_set_pw hb6 D2)
      have HBL6 := Lib.hid (HBL5.out.trans hbel6)
      clear hb6 hbel6
      go_wp2
      go_ret
      exact ⟨rfl, (fun _ h => by injection h with h; subst h; exact ⟨D2, SN, L2, HB6.out, HL2.out, HOK.out⟩), HBL6.out.setCell (p := ⟨b, 5, none⟩) (Nat.le_refl _) _⟩
  · rw [show decide (nth X k = (101 : UInt8).toNat ∨ nth X k = (69 : UInt8).toNat) = false from decide_eq_false he, if_neg (by decide)] at hS
    have hff : fPow X k = some k := by unfold fPow; rw [if_neg he]
    rw [hff]
    have hok : PowOk X k sk pw sk pw := ⟨fun h => absurd h he, fun _ => ⟨rfl, rfl⟩⟩
    have HOK := Lib.hid hok
    clear hok
    have HS := Lib.hid hS
    have HX := Lib.hid hx
    have HB0 := Lib.hid hB0
    clear hS hff hB0 hb1 hb hx he
    go_enter Tryz.func96, Tryz.ntmps96
    go_wp2_with fail
    refine HS.out.mono ?_
    rintro e w2 ⟨rfl, hb2, hbel⟩
    go_wp2
    go_ret
    exact ⟨rfl, (fun _ h => by injection h with h; subst h; exact ⟨pw, sk, lf, hb2, HX.out, HOK.out⟩), HB0.out.trans hbel⟩
end Go.Proofs.YtpjllcengnolkaaGreatDoor
