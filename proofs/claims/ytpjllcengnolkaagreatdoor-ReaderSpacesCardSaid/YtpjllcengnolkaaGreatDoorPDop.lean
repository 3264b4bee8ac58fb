/-
  Contract of dec's numeral: read.
  What dec read of a number's text is what the reference reads of it. Plain mathematics.
  What an operation of decimals answers, in numbers; what a decimal that may be is; numbers of so many digits. Plain words and lemmas.
-/
import Derived.Test.YtpjllcengnolkaaGreatDoorPDnumf
import Derived.Test.YtpjllcengnolkaaGreatDoorPDpar
import Derived.Test.YtpjllcengnolkaaGreatDoorPDset
import Derived.PlainAid
set_option linter.unusedVariables false
set_option linter.unusedSimpArgs false
namespace Go.Proofs.YtpjllcengnolkaaGreatDoor
open Go.RowKit

/-- What was read of a number's text. -/
structure NumOk (X : List Nat) (neg : Bool) (dg fr pw : ByteArray) (sk : Bool) : Prop where
  neg : neg = decide (nth X 0 = 45)
  dig : isDig (nth X (fSgn X)) = true
  dg : octs dg = if nth X (fSgn X) = 48 then [] else (X.drop (fSgn X)).take (dEnd X (fSgn X) - fSgn X)
  rest : ∃ k1 k2, k1 = (if nth X (fSgn X) = 48 then fSgn X + 1 else dEnd X (fSgn X)) ∧ fFrac X k1 = some k2 ∧ fPow X k2 = some X.length ∧ (octs fr = if nth X k1 = 46 then (X.drop (k1 + 1)).take (dEnd X (k1 + 1) - (k1 + 1)) else []) ∧ PowOk X k2 false ⟨#[]⟩ sk pw

theorem form_no1 {X : List Nat} (h : isDig (nth X (fSgn X)) = false) : form X = none := by
  unfold form fWhole; rw [if_neg (by rw [h]; decide)]; rfl
theorem form_at {X : List Nat} (h : isDig (nth X (fSgn X)) = true) : form X = (fFrac X (if nth X (fSgn X) = 48 then fSgn X + 1 else dEnd X (fSgn X))).bind (fPow X) := by
  unfold form fWhole; rw [if_pos h]; rfl
theorem fPow_le {X : List Nat} {k r : Nat} (hk : k ≤ X.length) (h : fPow X k = some r) : r ≤ X.length := by
  unfold fPow at h
  by_cases he : nth X k = 101 ∨ nth X k = 69
  · rw [if_pos he] at h
    by_cases hd : isDig (nth X (fSg X (k + 1))) = true
    · rw [if_pos hd] at h
      injection h with h
      rw [← h]
      exact dEnd_le (by have := dig_lt hd; omega)
    · rw [if_neg hd] at h; cases h
  · rw [if_neg he] at h
    injection h with h
    omega
theorem fFrac_le {X : List Nat} {k r : Nat} (hk : k ≤ X.length) (h : fFrac X k = some r) : r ≤ X.length := by
  unfold fFrac at h
  by_cases he : nth X k = 46
  · rw [if_pos he] at h
    by_cases hd : isDig (nth X (k + 1)) = true
    · rw [if_pos hd] at h
      injection h with h
      rw [← h]
      exact dEnd_le (by have := dig_lt hd; omega)
    · rw [if_neg hd] at h; cases h
  · rw [if_neg he] at h
    injection h with h
    omega

set_option maxRecDepth 100000 in
set_option maxHeartbeats 1000000 in
theorem read_c {b : Nat} (s : ByteArray) (w : World) (hs : s.size ≤ 140737488355328) (hb : w.heap[b]? = some (numBx false ⟨#[]⟩ ⟨#[]⟩ ⟨#[]⟩ false s)) :
    Calls Tryz.prog 81 #[.pointer (some ⟨b, 0, none⟩)] w fun e w' => e = .returned (.bool (decide (form (octs s) = some s.size))) ∧
      (form (octs s) = some s.size → ∃ neg dg fr pw sk lf, w'.heap[b]? = some (numBx neg dg fr pw sk lf) ∧ NumOk (octs s) neg dg fr pw sk) ∧ Below b w w' := by
  have hlt : b < w.heap.size := (Array.getElem?_eq_some_iff.1 hb).1
  have hb1 : (w.alloc (.cells #[.int .u8 45] 5)).heap[b]? = some (numBx false ⟨#[]⟩ ⟨#[]⟩ ⟨#[]⟩ false s) := (Below.heap_alloc _ _ _ hlt).trans hb
  have hS := skip_c (l := [45]) (n := 1) (c := 1) (w.alloc (.cells #[.int .u8 45] 5)) (by omega) hb1 rfl (RdB1 w 45) (by omega) (by decide)
  have hB0 : Below b w (w.alloc (.cells #[.int .u8 45] 5)) := (Below.refl _ _).alloc (by omega) _
  obtain ⟨X, hX⟩ : ∃ X, X = octs s := ⟨_, rfl⟩
  have hXl : s.size = X.length := by rw [hX, octs_length]
  rw [heads1, show (45 : UInt8).toNat = 45 from rfl, ← hX] at hS
  rw [← hX, hXl]
  obtain ⟨NG, hNG⟩ : ∃ NG, NG = decide (nth X 0 = 45) := ⟨_, rfl⟩
  rw [← hNG] at hS
  obtain ⟨L1, hL1⟩ : ∃ L1, L1 = if NG = true then s.extract 1 s.size else s := ⟨_, rfl⟩
  rw [← hL1] at hS
  have hx1 : octs L1 = X.drop (fSgn X) := by
    rw [hL1, hNG]
    unfold fSgn
    by_cases hq : nth X 0 = 45
    · rw [if_pos (decide_eq_true hq), if_pos hq, octs_rest, hX]
    · rw [if_neg (by rw [decide_eq_true_eq]; exact hq), if_neg hq, hX]; rfl
  have hl1 : L1.size ≤ s.size := by
    rw [hL1]
    split
    · rw [ByteArray.size_extract]; omega
    · exact Nat.le_refl _
  have hW := fun V (h : V.heap[b]? = some (numBx NG ⟨#[]⟩ ⟨#[]⟩ ⟨#[]⟩ false L1)) => readWhole_c V (by omega) h hx1
  have HS := Lib.hid hS
  have HB0 := Lib.hid hB0
  have HW := Lib.hid hW
  have HNG := Lib.hid hNG
  have HL1 := Lib.hid hl1
  clear hS hB0 hb1 hb hW hx1 hL1 hNG hl1
  have hsx : s.size ≤ 140737488355328 := hs
  by_cases hd : isDig (nth X (fSgn X)) = true
  · have HD := Lib.hid hd
    rw [hd] at HW
    have hfo := form_at hd
    obtain ⟨K1, hK1⟩ : ∃ K1, K1 = if nth X (fSgn X) = 48 then fSgn X + 1 else dEnd X (fSgn X) := ⟨_, rfl⟩
    rw [← hK1] at HW hfo
    have HK1 := Lib.hid hK1
    have hk1 : K1 ≤ X.length := by
      have := dig_lt hd
      rw [hK1]
      split
      · omega
      · exact dEnd_le (by omega)
    have HK1L := Lib.hid hk1
    clear hd hK1 hk1
    cases hF : fFrac X K1 with
    | none =>
      rw [hF] at hfo
      have hfo : form X = none := hfo
      rw [hfo]
      have HF := Lib.hid hF
      clear hF hfo
      rw [show decide ((none : Option Nat) = some X.length) = false from rfl]
      go_enter Tryz.func81, Tryz.ntmps81
      go_wp2_with fail
      refine HS.out.mono ?_
      rintro e w2 ⟨rfl, hb2, hbel2⟩
      have hc0 := cell_of (k := 0) hb2 rfl
      have hf0 := frozen_of 0 hb2
      have HB2 := Lib.hid (num_set_neg hb2 NG)
      have HBL2 := Lib.hid ((HB0.out.trans hbel2).setCell (p := ⟨b, 0, none⟩) (Nat.le_refl _) (.bool NG))
      clear hb2 hbel2
      go_wp2_with fail
      refine (HW.out _ HB2.out).mono ?_
      rintro e w3 ⟨rfl, hb3, hbel3⟩
      obtain ⟨dg, L2, hb3, hl2, hx2, hdg⟩ := hb3 (by first | trivial | rfl)
      have hR := readFraction_c w3 (by have := HL1.out; omega) hb3 hx2
      rw [HF.out] at hR
      have HR := Lib.hid hR
      have HBL3 := Lib.hid (HBL2.out.trans hbel3)
      clear hR hb3 hl2 hx2 hdg hbel3 hc0 hf0
      go_wp2_with fail
      refine HR.out.mono ?_
      rintro e w4 ⟨rfl, _, hbel4⟩
      go_wp2
      go_ret
      exact ⟨rfl, (fun h => by cases h), HBL3.out.trans hbel4⟩
    | some K2 =>
      rw [hF] at hfo
      have hfo : form X = fPow X K2 := hfo
      rw [hfo]
      have hk2 := fFrac_le HK1L.out hF
      have HF := Lib.hid hF
      have HK2L := Lib.hid hk2
      clear hF hfo hk2
      cases hP : fPow X K2 with
      | none =>
        have HP := Lib.hid hP
        clear hP
        rw [show decide ((none : Option Nat) = some X.length) = false from rfl]
        go_enter Tryz.func81, Tryz.ntmps81
        go_wp2_with fail
        refine HS.out.mono ?_
        rintro e w2 ⟨rfl, hb2, hbel2⟩
        have hc0 := cell_of (k := 0) hb2 rfl
        have hf0 := frozen_of 0 hb2
        have HB2 := Lib.hid (num_set_neg hb2 NG)
        have HBL2 := Lib.hid ((HB0.out.trans hbel2).setCell (p := ⟨b, 0, none⟩) (Nat.le_refl _) (.bool NG))
        clear hb2 hbel2
        go_wp2_with fail
        refine (HW.out _ HB2.out).mono ?_
        rintro e w3 ⟨rfl, hb3, hbel3⟩
        obtain ⟨dg, L2, hb3, hl2, hx2, hdg⟩ := hb3 (by first | trivial | rfl)
        have hR := readFraction_c w3 (by have := HL1.out; omega) hb3 hx2
        rw [HF.out] at hR
        have HR := Lib.hid hR
        have HBL3 := Lib.hid (HBL2.out.trans hbel3)
        have HDG := Lib.hid hdg
        have HL2 := Lib.hid hl2
        clear hR hb3 hl2 hx2 hdg hbel3 hc0 hf0
        go_wp2_with fail
        refine HR.out.mono ?_
        rintro e w4 ⟨rfl, hb4, hbel4⟩
        obtain ⟨fr, L3, hb4, hl3, hx3, hfr⟩ := hb4 K2 rfl
        have hR := readPower_c w4 (by have := HL1.out; have := HL2.out; omega) hb4 hx3
        rw [HP.out] at hR
        have HRP := Lib.hid hR
        have HBL4 := Lib.hid (HBL3.out.trans hbel4)
        have HFR := Lib.hid hfr
        clear hR hb4 hl3 hx3 hfr hbel4
        go_wp2_with fail
        refine HRP.out.mono ?_
        rintro e w5 ⟨rfl, _, hbel5⟩
        go_wp2
        go_ret
        exact ⟨rfl, (fun h => by cases h), HBL4.out.trans hbel5⟩
      | some K3 =>
        have HP := Lib.hid hP
        have HK3L := Lib.hid (fPow_le HK2L.out hP)
        clear hP
        by_cases hK : K3 = X.length
        · rw [show decide (some K3 = some X.length) = true from decide_eq_true (by rw [hK])]
          have HKL := Lib.hid hK
          clear hK
          go_enter Tryz.func81, Tryz.ntmps81
          go_wp2_with fail
          refine HS.out.mono ?_
          rintro e w2 ⟨rfl, hb2, hbel2⟩
          have hc0 := cell_of (k := 0) hb2 rfl
          have hf0 := frozen_of 0 hb2
          have HB2 := Lib.hid (num_set_neg hb2 NG)
          have HBL2 := Lib.hid ((HB0.out.trans hbel2).setCell (p := ⟨b, 0, none⟩) (Nat.le_refl _) (.bool NG))
          clear hb2 hbel2
          go_wp2_with fail
          refine (HW.out _ HB2.out).mono ?_
          rintro e w3 ⟨rfl, hb3, hbel3⟩
          obtain ⟨dg, L2, hb3, hl2, hx2, hdg⟩ := hb3 (by first | trivial | rfl)
          have hR := readFraction_c w3 (by have := HL1.out; omega) hb3 hx2
          rw [HF.out] at hR
          have HR := Lib.hid hR
          have HBL3 := Lib.hid (HBL2.out.trans hbel3)
          have HDG := Lib.hid hdg
          have HL2 := Lib.hid hl2
          clear hR hb3 hl2 hx2 hdg hbel3 hc0 hf0
          go_wp2_with fail
          refine HR.out.mono ?_
          rintro e w4 ⟨rfl, hb4, hbel4⟩
          obtain ⟨fr, L3, hb4, hl3, hx3, hfr⟩ := hb4 K2 rfl
          have hR := readPower_c w4 (by have := HL1.out; have := HL2.out; omega) hb4 hx3
          rw [HP.out] at hR
          have HRP := Lib.hid hR
          have HBL4 := Lib.hid (HBL3.out.trans hbel4)
          have HFR := Lib.hid hfr
          clear hR hb4 hl3 hx3 hfr hbel4
          go_wp2_with fail
          refine HRP.out.mono ?_
          rintro e w5 ⟨rfl, hb5, hbel5⟩
          obtain ⟨pw, sk, L4, hb5, hx4, hok⟩ := hb5 K3 rfl
          have hc7 := cell_of (k := 7) hb5 rfl
          have hsz4 : L4.size = X.length - K3 := by rw [← octs_length, hx4, List.length_drop]
          have HB5 := Lib.hid hb5
          have HBL5 := Lib.hid (HBL4.out.trans hbel5)
          have HOK := Lib.hid hok
          clear hb5 hx4 hok hbel5
          have hse := str_empty (show L4.size = 0 by have := HKL.out; omega)
          clear hsz4
          go_wp2
          go_ret
          exact ⟨rfl, (fun _ => ⟨NG, dg, fr, pw, sk, L4, HB5.out, ⟨HNG.out, HD.out, HDG.out, K1, K2, HK1.out, HF.out, by rw [HP.out, HKL.out], HFR.out, HOK.out⟩⟩), HBL5.out⟩
        · have hlt3 : K3 < X.length := by have := HK3L.out; omega
          rw [show decide (some K3 = some X.length) = false from decide_eq_false (fun h => hK (by injection h))]
          have HKN := Lib.hid hK
          clear hK
          go_enter Tryz.func81, Tryz.ntmps81
          go_wp2_with fail
          refine HS.out.mono ?_
          rintro e w2 ⟨rfl, hb2, hbel2⟩
          have hc0 := cell_of (k := 0) hb2 rfl
          have hf0 := frozen_of 0 hb2
          have HB2 := Lib.hid (num_set_neg hb2 NG)
          have HBL2 := Lib.hid ((HB0.out.trans hbel2).setCell (p := ⟨b, 0, none⟩) (Nat.le_refl _) (.bool NG))
          clear hb2 hbel2
          go_wp2_with fail
          refine (HW.out _ HB2.out).mono ?_
          rintro e w3 ⟨rfl, hb3, hbel3⟩
          obtain ⟨dg, L2, hb3, hl2, hx2, hdg⟩ := hb3 (by first | trivial | rfl)
          have hR := readFraction_c w3 (by have := HL1.out; omega) hb3 hx2
          rw [HF.out] at hR
          have HR := Lib.hid hR
          have HBL3 := Lib.hid (HBL2.out.trans hbel3)
          have HDG := Lib.hid hdg
          have HL2 := Lib.hid hl2
          clear hR hb3 hl2 hx2 hdg hbel3 hc0 hf0
          go_wp2_with fail
          refine HR.out.mono ?_
          rintro e w4 ⟨rfl, hb4, hbel4⟩
          obtain ⟨fr, L3, hb4, hl3, hx3, hfr⟩ := hb4 K2 rfl
          have hR := readPower_c w4 (by have := HL1.out; have := HL2.out; omega) hb4 hx3
          rw [HP.out] at hR
          have HRP := Lib.hid hR
          have HBL4 := Lib.hid (HBL3.out.trans hbel4)
          have HFR := Lib.hid hfr
          clear hR hb4 hl3 hx3 hfr hbel4
          go_wp2_with fail
          refine HRP.out.mono ?_
          rintro e w5 ⟨rfl, hb5, hbel5⟩
          obtain ⟨pw, sk, L4, hb5, hx4, hok⟩ := hb5 K3 rfl
          have hc7 := cell_of (k := 7) hb5 rfl
          have hsz4 : L4.size = X.length - K3 := by rw [← octs_length, hx4, List.length_drop]
          have HB5 := Lib.hid hb5
          have HBL5 := Lib.hid (HBL4.out.trans hbel5)
          have HOK := Lib.hid hok
          clear hb5 hx4 hok hbel5
          have hse := str_full (show 0 < L4.size by omega)
          clear hsz4
          go_wp2
          go_ret
          exact ⟨rfl, (fun h => absurd (by injection h) HKN.out), HBL5.out⟩
  · have hd : isDig (nth X (fSgn X)) = false := by simpa using hd
    rw [hd] at HW
    have hfo := form_no1 hd
    rw [hfo]
    clear hfo hd
    rw [show decide ((none : Option Nat) = some X.length) = false from rfl]
    go_enter Tryz.func81, Tryz.ntmps81
    go_wp2_with fail
    refine HS.out.mono ?_
    rintro e w2 ⟨rfl, hb2, hbel2⟩
    have hc0 := cell_of (k := 0) hb2 rfl
    have hf0 := frozen_of 0 hb2
    have HB2 := Lib.hid (num_set_neg hb2 NG)
    have HBL2 := Lib.hid ((HB0.out.trans hbel2).setCell (p := ⟨b, 0, none⟩) (Nat.le_refl _) (.bool NG))
    clear hb2 hbel2
    go_wp2_with fail
    refine (HW.out _ HB2.out).mono ?_
    rintro e w3 ⟨rfl, _, hbel3⟩
    go_wp2
    go_ret
    exact ⟨rfl, (fun h => by cases h), HBL2.out.trans hbel3⟩
end Go.Proofs.YtpjllcengnolkaaGreatDoor

namespace Go.Proofs.YtpjllcengnolkaaGreatDoor
open Go.RowKit

theorem num_parts {X : List Nat} {neg sk : Bool} {dg fr pw : ByteArray} (h : NumOk X neg dg fr pw sk) : ∃ sg wh fp pp, Parts X sg wh fp pp ∧ pnum (octs dg) = pnum wh ∧ allDig (octs dg) = true ∧ (octs dg).length ≤ wh.length ∧
    (fp = [] ∧ octs fr = [] ∨ fp = 46 :: octs fr) ∧ (pp = [] ∧ sk = false ∧ octs pw = [] ∨ ∃ e s p, pp = e :: (s ++ p) ∧ (e = 101 ∨ e = 69) ∧ (s = [] ∨ s = [43] ∨ s = [45]) ∧ allDig p = true ∧ p ≠ [] ∧ sk = (s == [45]) ∧ octs pw = p.dropWhile isZ) := by
  obtain ⟨k1, k2, hk1, hf, hp, hfr, hok⟩ := h.rest
  have hd := h.dig
  have hlt := dig_lt hd
  have hk01 : fSgn X ≤ k1 := by
    rw [hk1]; split
    · omega
    · exact dEnd_ge _ _
  have hk1l : k1 ≤ X.length := by
    rw [hk1]; split
    · omega
    · exact dEnd_le (by omega)
  -- the sign
  have hsg : (X.take (fSgn X) = [] ∨ X.take (fSgn X) = [45]) := by
    unfold fSgn
    by_cases hm : nth X 0 = 45
    · rw [if_pos hm]
      right
      have := take_one hm (by omega)
      rwa [List.drop_zero] at this
    · rw [if_neg hm]; left; rfl
  -- the whole
  have hwh : allDig ((X.drop (fSgn X)).take (k1 - fSgn X)) = true ∧ (X.drop (fSgn X)).take (k1 - fSgn X) ≠ [] ∧ pnum (octs dg) = pnum ((X.drop (fSgn X)).take (k1 - fSgn X)) ∧ allDig (octs dg) = true ∧ (octs dg).length ≤ ((X.drop (fSgn X)).take (k1 - fSgn X)).length := by
    have hdg := h.dg
    by_cases h48 : nth X (fSgn X) = 48
    · rw [if_pos h48] at hdg hk1
      rw [hk1, show fSgn X + 1 - fSgn X = 1 by omega, take_one h48 (by omega), hdg]
      exact ⟨by decide, by simp, by decide, by decide, by simp⟩
    · rw [if_neg h48] at hdg hk1
      rw [hk1, hdg]
      exact ⟨allDig_run X _, run_ne (dEnd_gt hd) (dEnd_le (by omega)), rfl, allDig_run X _, Nat.le_refl _⟩
  obtain ⟨w1, w2, w3, w4, w5⟩ := hwh
  -- the fraction
  have hfp : k1 ≤ k2 ∧ k2 ≤ X.length ∧ (((X.drop k1).take (k2 - k1) = [] ∧ octs fr = []) ∨ ((X.drop k1).take (k2 - k1) = 46 :: octs fr ∧ allDig (octs fr) = true ∧ octs fr ≠ [])) := by
    have hle := fFrac_le hk1l hf
    unfold fFrac at hf
    by_cases h46 : nth X k1 = 46
    · rw [if_pos h46] at hf hfr
      by_cases hdd : isDig (nth X (k1 + 1)) = true
      · rw [if_pos hdd] at hf
        injection hf with hf
        have h1 := dEnd_gt hdd
        refine ⟨by omega, hle, .inr ⟨?_, ?_, ?_⟩⟩
        · rw [hfr, ← hf, drop_eq_nth (nth_pos_lt h46 (by omega)), h46, show dEnd X (k1 + 1) - k1 = (dEnd X (k1 + 1) - (k1 + 1)) + 1 by omega, List.take_succ_cons]
        · rw [hfr]; exact allDig_run X _
        · rw [hfr]; exact run_ne h1 (dEnd_le (by have := dig_lt hdd; omega))
      · rw [if_neg hdd] at hf; cases hf
    · rw [if_neg h46] at hf hfr
      injection hf with hf
      subst hf
      exact ⟨Nat.le_refl _, hle, .inl ⟨by rw [Nat.sub_self]; rfl, hfr⟩⟩
  obtain ⟨f1, f2, f3⟩ := hfp
  -- the power
  have hpw : (X.drop k2 = [] ∧ sk = false ∧ octs pw = []) ∨ ∃ e s p, X.drop k2 = e :: (s ++ p) ∧ (e = 101 ∨ e = 69) ∧ (s = [] ∨ s = [43] ∨ s = [45]) ∧ allDig p = true ∧ p ≠ [] ∧ sk = (s == [45]) ∧ octs pw = p.dropWhile isZ := by
    unfold fPow at hp
    by_cases he : nth X k2 = 101 ∨ nth X k2 = 69
    · rw [if_pos he] at hp
      by_cases hdd : isDig (nth X (fSg X (k2 + 1))) = true
      · rw [if_pos hdd] at hp
        injection hp with hp
        obtain ⟨hsk, hpo⟩ := hok.1 he
        right
        have hk2 : k2 < X.length := by rcases he with he | he <;> exact nth_pos_lt he (by omega)
        have hs : ∃ s, (s = [] ∨ s = [43] ∨ s = [45]) ∧ X.drop (k2 + 1) = s ++ X.drop (fSg X (k2 + 1)) ∧ sk = (s == [45]) := by
          rw [hsk]
          unfold fSg
          by_cases hq : nth X (k2 + 1) = 43 ∨ nth X (k2 + 1) = 45
          · rw [if_pos hq]
            have := take_drop_cut X (Nat.le_succ (k2 + 1))
            rw [show (k2 + 1).succ - (k2 + 1) = 1 by omega] at this
            rcases hq with hq | hq
            · rw [take_one hq (by omega)] at this
              exact ⟨[43], .inr (.inl rfl), this, by rw [hq]; rfl⟩
            · rw [take_one hq (by omega)] at this
              exact ⟨[45], .inr (.inr rfl), this, by rw [hq]; rfl⟩
          · rw [if_neg hq]
            exact ⟨[], .inl rfl, rfl, by rw [decide_eq_false (fun e => hq (.inr e))]; rfl⟩
        obtain ⟨s, hs1, hs2, hs3⟩ := hs
        have hr := take_drop_cut X (dEnd_ge X (fSg X (k2 + 1)))
        rw [hp, List.drop_length, List.append_nil] at hr
        have hA := allDig_run X (fSg X (k2 + 1))
        rw [hp, ← hr] at hA
        rw [hp, ← hr] at hpo
        refine ⟨nth X k2, s, X.drop (fSg X (k2 + 1)), ?_, he, hs1, hA, ?_, hs3, hpo⟩
        · rw [← hs2, drop_eq_nth hk2]
        · intro e
          have := congrArg List.length e
          rw [List.length_drop, List.length_nil] at this
          have := dig_lt hdd
          omega
      · rw [if_neg hdd] at hp; cases hp
    · rw [if_neg he] at hp
      injection hp with hp
      obtain ⟨hsk, hpo⟩ := hok.2 he
      subst hp
      exact .inl ⟨List.drop_length, hsk, by rw [hpo]; rfl⟩
  have heq : X = X.take (fSgn X) ++ ((X.drop (fSgn X)).take (k1 - fSgn X) ++ ((X.drop k1).take (k2 - k1) ++ X.drop k2)) := by
    rw [← take_drop_cut X f1, ← take_drop_cut X hk01, List.take_append_drop]
  refine ⟨_, _, _, _, ⟨heq, hsg, ⟨w1, w2⟩, ?_, ?_⟩, w3, w4, w5, ?_, hpw⟩
  · rcases f3 with ⟨h1, _⟩ | ⟨h1, h2, h3⟩
    · exact .inl h1
    · exact .inr ⟨_, h1, h2, h3⟩
  · rcases hpw with ⟨h1, _⟩ | ⟨e, s, p, h1, h2, h3, h4, h5, _⟩
    · exact .inl h1
    · exact .inr ⟨e, s, p, h1, h2, h3, h4, h5⟩
  · rcases f3 with h1 | ⟨h1, _⟩
    · exact .inl h1
    · exact .inr h1
theorem pnum_dw : ∀ p : List Nat, pnum (p.dropWhile isZ) = pnum p
  | [] => rfl
  | c :: p => by
    by_cases hz : isZ c = true
    · rw [List.dropWhile_cons_of_pos hz, pnum_dw p, pnum_cons]
      unfold isZ at hz
      rw [beq_iff_eq] at hz
      subst hz
      omega
    · rw [List.dropWhile_cons_of_neg hz]
theorem allDig_dw {p : List Nat} (h : allDig p = true) : allDig (p.dropWhile isZ) = true := allDig_suffix h _
theorem dw_head {p : List Nat} : p.dropWhile isZ = [] ∨ ∃ c r, p.dropWhile isZ = c :: r ∧ c ≠ 48 := by
  induction p with
  | nil => exact .inl rfl
  | cons c p ih =>
    by_cases hz : isZ c = true
    · rw [List.dropWhile_cons_of_pos hz]; exact ih
    · rw [List.dropWhile_cons_of_neg hz]
      exact .inr ⟨c, p, rfl, by unfold isZ at hz; simpa using hz⟩
theorem cnt_dw {p : List Nat} (h : allDig p = true) : Cnt (pnum (p.dropWhile isZ)) (p.dropWhile isZ).length := by
  have hd := allDig_dw h
  refine ⟨pnum_lt hd, ?_⟩
  rcases dw_head (p := p) with e | ⟨c, r, e, hc⟩
  · rw [e]; exact .inl rfl
  · rw [e] at hd ⊢
    right
    simp [allDig] at hd
    have hc2 : 48 ≤ c ∧ c ≤ 57 := of_decide_eq_true hd.1
    rw [pnum_cons, List.length_cons, Nat.add_sub_cancel]
    have h1 : 1 * 10 ^ r.length ≤ (c - 48) * 10 ^ r.length := Nat.mul_le_mul_right _ (by omega)
    omega
/-- What was read: in the reference's words. -/
theorem num_told {X : List Nat} {neg sk : Bool} {dg fr pw : ByteArray} (h : NumOk X neg dg fr pw sk) :
    neg = tNeg X ∧ allDig (octs dg ++ octs fr) = true ∧ pnum (octs dg ++ octs fr) = tVal X ∧ (octs fr).length = (tMan X).2.2 ∧ allDig (octs pw) = true ∧ sk = (tPow X).1 ∧ pnum (octs pw) = (tPow X).2 ∧ (6 < (octs pw).length ↔ 1000000 ≤ (tPow X).2) ∧ (octs dg).length + (octs fr).length ≤ X.length := by
  obtain ⟨sg, wh, fp, pp, hP, hv, hda, hdl, hf, hp⟩ := num_parts h
  have hM := mant_octs hP
  obtain ⟨f, hfa, hf2, hm1, hm2⟩ := mfold_parts hP
  have hff : f = octs fr := by
    rcases hf with ⟨e1, e2⟩ | e1
    · rcases hf2 with ⟨_, e3⟩ | e3
      · rw [e2, e3]
      · rw [e1] at e3; cases e3
    · rcases hf2 with ⟨e3, _⟩ | e3
      · rw [e1] at e3; cases e3
      · rw [e1] at e3; injection e3 with _ e3; exact e3.symm
  subst hff
  have hX : X = (sg ++ (wh ++ fp)) ++ pp := by
    have := hP.eq
    rw [this]; simp
  have hcut : cutE X = sg ++ (wh ++ fp) := by
    rw [hX]
    rcases hp with ⟨e, _⟩ | ⟨e, s, p, e1, he, _⟩
    · rw [e, List.append_nil]; exact cutE_plain hM
    · rw [e1]; exact cutE_at hM he _
  have hlen : (octs dg).length + (octs fr).length ≤ X.length := by
    rw [hX]
    simp only [List.length_append]
    have : (octs fr).length ≤ fp.length := by
      rcases hf with ⟨e1, e2⟩ | e1
      · rw [e2]; exact Nat.zero_le _
      · rw [e1, List.length_cons]; omega
    omega
  have hall : allDig (octs dg ++ octs fr) = true := by
    unfold allDig at hda hfa ⊢
    rw [List.all_append, hda, hfa]; rfl
  have htM : tMan X = mfold (sg ++ (wh ++ fp)) := by unfold tMan; rw [hcut]
  have hval : pnum (octs dg ++ octs fr) = tVal X := by
    unfold tVal
    rw [htM, hm1, show dval (lows (wh ++ octs fr)) = pnum (wh ++ octs fr) from dval_pnum _, pnum_append, pnum_append, hv]
  have htP : tPow X = pfold (X.drop ((sg ++ (wh ++ fp)).length + 1)) := by unfold tPow; rw [hcut]
  refine ⟨h.neg.trans ?_, hall, hval, by rw [htM, hm2], ?_⟩
  · unfold tNeg
    rw [Bool.eq_iff_iff, decide_eq_true_eq, beq_iff_eq]
  · rcases hp with ⟨e, hsk, hpo⟩ | ⟨e, s, p, e1, he, hs, hpa, _, hsk, hpo⟩
    · have htp : tPow X = (false, 0) := by
        rw [htP, hX, e, List.append_nil, List.drop_of_length_le (by omega)]; rfl
      rw [htp, hpo, hsk]
      exact ⟨by decide, rfl, by decide, by decide, hlen⟩
    · have htp : tPow X = (s == [45], pnum p) := by
        rw [htP, hX, e1, List.drop_append, List.drop_of_length_le (by omega), List.nil_append, show (sg ++ (wh ++ fp)).length + 1 - (sg ++ (wh ++ fp)).length = 1 by omega]
        show pfold (s ++ p) = _
        exact pfold_parts hs hpa
      have hc := cnt_dw hpa
      rw [htp, hpo, hsk]
      refine ⟨allDig_dw hpa, rfl, pnum_dw p, ?_, hlen⟩
      rw [pnum_dw] at hc
      constructor
      · intro h6; exact hc.seven h6
      · intro h6
        rcases Nat.lt_or_ge 6 (p.dropWhile isZ).length with h7 | h7
        · exact h7
        · have := hc.six h7
          have h6' : 1000000 ≤ pnum p := h6
          omega
end Go.Proofs.YtpjllcengnolkaaGreatDoor

namespace Go.Proofs.YtpjllcengnolkaaGreatDoor
open Go.RowKit

theorem ten_two (m : Nat) : (10 : Nat) ^ (3 * m) ≤ 2 ^ (10 * m) := by
  rw [Nat.pow_mul, Nat.pow_mul]
  exact Nat.pow_le_pow_left (by decide) m
theorem bp_two (n : Nat) : bp n = 2 ^ (32 * n) := by unfold bp; rw [Nat.pow_mul]
/-- Numbers of so many digits have so many limbs. -/
theorem lt_bp {v p m n : Nat} (h : v < 10 ^ p) (hp : p ≤ 3 * m) (hm : 10 * m ≤ 32 * n) : v < bp n := by
  have h1 : (10 : Nat) ^ p ≤ 10 ^ (3 * m) := Nat.pow_le_pow_right (by omega) hp
  have h2 := ten_two m
  have h3 : (2 : Nat) ^ (10 * m) ≤ 2 ^ (32 * n) := Nat.pow_le_pow_right (by omega) hm
  rw [bp_two]
  exact Nat.lt_of_lt_of_le h (Nat.le_trans h1 (Nat.le_trans h2 h3))
theorem pow_le10 {p q : Nat} (h : p ≤ q) : dp p ≤ 10 ^ q := Nat.pow_le_pow_right (by omega) h
/-- What a decimal that may be is, in numbers. -/
theorem okB_true {neg : Bool} {xs : List Nat} {exp : Int} (hl : L32 xs) (h : okB neg xs exp = true) : Can xs ∧ xs.length ≤ 256 ∧ val xs < 10 ^ 300 ∧ (-1000 ≤ exp ∧ exp ≤ 1000) ∧ (xs.length = 0 → neg = false ∧ exp = 0) ∧ (xs.length ≠ 0 → nth (dOf (val xs)) 0 ≠ 0) := by
  unfold okB at h
  rw [Bool.and_eq_true, Bool.and_eq_true, decide_eq_true_eq, decide_eq_true_eq] at h
  obtain ⟨h1, h2, h3⟩ := h
  obtain ⟨c1, c2⟩ := can_of_chk hl h1
  have hv : val xs < 10 ^ 300 := by
    have h4 := dval_lt (dOf_can (val xs)).1
    rw [dOf_val] at h4
    obtain ⟨T, hT⟩ : ∃ T, T = 300 := ⟨_, rfl⟩
    rw [← hT] at h2 ⊢
    exact Nat.lt_of_lt_of_le h4 (pow_le10 h2)
  by_cases h0 : xs.length = 0
  · rw [if_pos h0, Bool.and_eq_true] at h3
    obtain ⟨h5, h6⟩ := h3
    have h7 : exp = 0 := by simpa using h6
    have h8 : neg = false := by simpa using h5
    exact ⟨c1, c2, hv, by omega, fun _ => ⟨h8, h7⟩, fun h => absurd h0 h⟩
  · rw [if_neg h0, Bool.and_eq_true, Bool.and_eq_true, decide_eq_true_eq, decide_eq_true_eq, decide_eq_true_eq] at h3
    exact ⟨c1, c2, hv, h3.2, fun h => absurd h h0, fun _ => h3.1⟩
end Go.Proofs.YtpjllcengnolkaaGreatDoor
