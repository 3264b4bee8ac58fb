/-
  Contract of dec's numeral: read.
-/
import Derived.Test.YtjhaoncganoaaaaGreatDoorDnumf
set_option linter.unusedVariables false
set_option linter.unusedSimpArgs false
namespace Go.Proofs.YtjhaoncganoaaaaGreatDoor
open Go.RowKit

/-- What was read of a number's text. -/
structure NumOk (X : List Nat) (neg : Bool) (dg fr pw : ByteArray) (sk : Bool) : Prop where
  neg : neg = decide (nth X 0 = 45)
  dig : isDig (nth X (fSgn X)) = true
  dg : octs dg = if nth X (fSgn X) = 48 then [] else (X.drop (fSgn X)).take (dEnd X (fSgn X) - fSgn X)
  rest : ∃ k1 k2, k1 = (if nth X (fSgn X) = 48 then fSgn X + 1 else dEnd X (fSgn X)) ∧ fFrac X k1 = some k2 ∧ fPow X k2 = some X.length ∧ (octs fr = if nth X k1 = 46 then (X.drop (k1 + 1)).take (dEnd X (k1 + 1) - (k1 + 1)) else []) ∧ PowOk X k2 false ⟨#[]⟩ sk pw

theorem octs_none : octs ⟨#[]⟩ = [] := rfl
theorem form_no1 {X : List Nat} (h : isDig (nth X (fSgn X)) = false) : form X = none := by
  unfold form fWhole; rw [if_neg (by rw [h]; decide)]; rfl
theorem form_at {X : List Nat} (h : isDig (nth X (fSgn X)) = true) : form X = (fFrac X (if nth X (fSgn X) = 48 then fSgn X + 1 else dEnd X (fSgn X))).bind (fPow X) := by
  unfold form fWhole; rw [if_pos h]; rfl
theorem fPow_le {X : List Nat} {k r : Nat} (hk : k ≤ X.length) (h : fPow X k = some r) : r ≤ X.length := by
  unfold fPow at h
  by_cases he : nth X k = 101 ∨ nth X k = 69
  · rw [if_pos he] at h
    by_cases hd : isDig (nth X (fSg X (k + 1))) = true
    · rw [if_pos hd] at h
      injection h with h
      rw [← h]
      exact dEnd_le (by have := dig_lt hd; omega)
    · rw [if_neg hd] at h; cases h
  · rw [if_neg he] at h
    injection h with h
    omega
theorem fFrac_le {X : List Nat} {k r : Nat} (hk : k ≤ X.length) (h : fFrac X k = some r) : r ≤ X.length := by
  unfold fFrac at h
  by_cases he : nth X k = 46
  · rw [if_pos he] at h
    by_cases hd : isDig (nth X (k + 1)) = true
    · rw [if_pos hd] at h
      injection h with h
      rw [← h]
      exact dEnd_le (by have := dig_lt hd; omega)
    · rw [if_neg hd] at h; cases h
  · rw [if_neg he] at h
    injection h with h
    omega

set_option maxRecDepth 100000 in
set_option maxHeartbeats 1000000 in
theorem read_c {b : Nat} (s : ByteArray) (w : World) (hs : s.size ≤ 140737488355328) (hb : w.heap[b]? = some (numBx false ⟨#[]⟩ ⟨#[]⟩ ⟨#[]⟩ false s)) :
    Calls Tryz.prog 45 #[.pointer (some ⟨b, 0, none⟩)] w fun e w' => e = .returned (.bool (decide (form (octs s) = some s.size))) ∧
      (form (octs s) = some s.size → ∃ neg dg fr pw sk lf, w'.heap[b]? = some (numBx neg dg fr pw sk lf) ∧ NumOk (octs s) neg dg fr pw sk) ∧ Below b w w' := by
  have hlt : b < w.heap.size := (Array.getElem?_eq_some_iff.1 hb).1
  have hb1 : (w.alloc (.cells #[.int .u8 45] 5)).heap[b]? = some (numBx false ⟨#[]⟩ ⟨#[]⟩ ⟨#[]⟩ false s) := (Below.heap_alloc _ _ _ hlt).trans hb
  have hS := skip_c (l := [45]) (n := 1) (c := 1) (w.alloc (.cells #[.int .u8 45] 5)) (by omega) hb1 rfl (RdB1 w 45) (by omega) (by decide)
  have hB0 : Below b w (w.alloc (.cells #[.int .u8 45] 5)) := (Below.refl _ _).alloc (by omega) _
  obtain ⟨X, hX⟩ : ∃ X, X = octs s := ⟨_, rfl⟩
  have hXl : s.size = X.length := by rw [hX, octs_length]
  rw [heads1, show (45 : UInt8).toNat = 45 from rfl, ← hX] at hS
  rw [← hX, hXl]
  obtain ⟨NG, hNG⟩ : ∃ NG, NG = decide (nth X 0 = 45) := ⟨_, rfl⟩
  rw [← hNG] at hS
  obtain ⟨L1, hL1⟩ : ∃ L1, L1 = if NG = true then s.extract 1 s.size else s := ⟨_, rfl⟩
  rw [← hL1] at hS
  have hx1 : octs L1 = X.drop (fSgn X) := by
    rw [hL1, hNG]
    unfold fSgn
    by_cases hq : nth X 0 = 45
    · rw [if_pos (decide_eq_true hq), if_pos hq, octs_rest, hX]
    · rw [if_neg (by rw [decide_eq_true_eq]; exact hq), if_neg hq, hX]; rfl
  have hl1 : L1.size ≤ s.size := by
    rw [hL1]
    split
    · rw [ByteArray.size_extract]; omega
    · exact Nat.le_refl _
  have hW := fun V (h : V.heap[b]? = some (numBx NG ⟨#[]⟩ ⟨#[]⟩ ⟨#[]⟩ false L1)) => readWhole_c V (by omega) h hx1
  have HS := Lib.hid hS
  have HB0 := Lib.hid hB0
  have HW := Lib.hid hW
  have HNG := Lib.hid hNG
  have HL1 := Lib.hid hl1
  clear hS hB0 hb1 hb hW hx1 hL1 hNG hl1
  have hsx : s.size ≤ 140737488355328 := hs
  by_cases hd : isDig (nth X (fSgn X)) = true
  · have HD := Lib.hid hd
    rw [hd] at HW
    have hfo := form_at hd
    obtain ⟨K1, hK1⟩ : ∃ K1, K1 = if nth X (fSgn X) = 48 then fSgn X + 1 else dEnd X (fSgn X) := ⟨_, rfl⟩
    rw [← hK1] at HW hfo
    have HK1 := Lib.hid hK1
    have hk1 : K1 ≤ X.length := by
      have := dig_lt hd
      rw [hK1]
      split
      · omega
      · exact dEnd_le (by omega)
    have HK1L := Lib.hid hk1
    clear hd hK1 hk1
    cases hF : fFrac X K1 with
    | none =>
      rw [hF] at hfo
      have hfo : form X = none := hfo
      rw [hfo]
      have HF := Lib.hid hF
      clear hF hfo
      rw [show decide ((none : Option Nat) = some X.length) = false from rfl]
      go_enter Tryz.func45, Tryz.ntmps45
      go_wp2_with fail
      refine HS.out.mono ?_
      rintro e w2 ⟨rfl, hb2, hbel2⟩
      have hc0 := cell_of (k := 0) hb2 rfl
      have hf0 := frozen_of 0 hb2
      have HB2 := Lib.hid (num_set_neg hb2 NG)
      have HBL2 := Lib.hid ((HB0.out.trans hbel2).setCell (p := ⟨b, 0, none⟩) (Nat.le_refl _) (.bool NG))
      clear hb2 hbel2
      go_wp2_with fail
      refine (HW.out _ HB2.out).mono ?_
      rintro e w3 ⟨rfl, hb3, hbel3⟩
      obtain ⟨dg, L2, hb3, hl2, hx2, hdg⟩ := hb3 (by first | trivial | rfl)
      have hR := readFraction_c w3 (by have := HL1.out; omega) hb3 hx2
      rw [HF.out] at hR
      have HR := Lib.hid hR
      have HBL3 := Lib.hid (HBL2.out.trans hbel3)
      clear hR hb3 hl2 hx2 hdg hbel3 hc0 hf0
      go_wp2_with fail
      refine HR.out.mono ?_
      rintro e w4 ⟨rfl, _, hbel4⟩
      go_wp2
      go_ret
      exact ⟨rfl, (fun h => by cases h), HBL3.out.trans hbel4⟩
    | some K2 =>
      rw [hF] at hfo
      have hfo : form X = fPow X K2 := hfo
      rw [hfo]
      have hk2 := fFrac_le HK1L.out hF
      have HF := Lib.hid hF
      have HK2L := Lib.hid hk2
      clear hF hfo hk2
      cases hP : fPow X K2 with
      | none =>
        have HP := Lib.hid hP
        clear hP
        rw [show decide ((none : Option Nat) = some X.length) = false from rfl]
        go_enter Tryz.func45, Tryz.ntmps45
        go_wp2_with fail
        refine HS.out.mono ?_
        rintro e w2 ⟨rfl, hb2, hbel2⟩
        have hc0 := cell_of (k := 0) hb2 rfl
        have hf0 := frozen_of 0 hb2
        have HB2 := Lib.hid (num_set_neg hb2 NG)
        have HBL2 := Lib.hid ((HB0.out.trans hbel2).setCell (p := ⟨b, 0, none⟩) (Nat.le_refl _) (.bool NG))
        clear hb2 hbel2
        go_wp2_with fail
        refine (HW.out _ HB2.out).mono ?_
        rintro e w3 ⟨rfl, hb3, hbel3⟩
        obtain ⟨dg, L2, hb3, hl2, hx2, hdg⟩ := hb3 (by first | trivial | rfl)
        have hR := readFraction_c w3 (by have := HL1.out; omega) hb3 hx2
        rw [HF.out] at hR
        have HR := Lib.hid hR
        have HBL3 := Lib.hid (HBL2.out.trans hbel3)
        have HDG := Lib.hid hdg
        have HL2 := Lib.hid hl2
        clear hR hb3 hl2 hx2 hdg hbel3 hc0 hf0
        go_wp2_with fail
        refine HR.out.mono ?_
        rintro e w4 ⟨rfl, hb4, hbel4⟩
        obtain ⟨fr, L3, hb4, hl3, hx3, hfr⟩ := hb4 K2 rfl
        have hR := readPower_c w4 (by have := HL1.out; have := HL2.out; omega) hb4 hx3
        rw [HP.out] at hR
        have HRP := Lib.hid hR
        have HBL4 := Lib.hid (HBL3.out.trans hbel4)
        have HFR := Lib.hid hfr
        clear hR hb4 hl3 hx3 hfr hbel4
        go_wp2_with fail
        refine HRP.out.mono ?_
        rintro e w5 ⟨rfl, _, hbel5⟩
        go_wp2
        go_ret
        exact ⟨rfl, (fun h => by cases h), HBL4.out.trans hbel5⟩
      | some K3 =>
        have HP := Lib.hid hP
        have HK3L := Lib.hid (fPow_le HK2L.out hP)
        clear hP
        by_cases hK : K3 = X.length
        · rw [show decide (some K3 = some X.length) = true from decide_eq_true (by rw [hK])]
          have HKL := Lib.hid hK
          clear hK
          go_enter Tryz.func45, Tryz.ntmps45
          go_wp2_with fail
          refine HS.out.mono ?_
          rintro e w2 ⟨rfl, hb2, hbel2⟩
          have hc0 := cell_of (k := 0) hb2 rfl
          have hf0 := frozen_of 0 hb2
          have HB2 := Lib.hid (num_set_neg hb2 NG)
          have HBL2 := Lib.hid ((HB0.out.trans hbel2).setCell (p := ⟨b, 0, none⟩) (Nat.le_refl _) (.bool NG))
          clear hb2 hbel2
          go_wp2_with fail
          refine (HW.out _ HB2.out).mono ?_
          rintro e w3 ⟨rfl, hb3, hbel3⟩
          obtain ⟨dg, L2, hb3, hl2, hx2, hdg⟩ := hb3 (by first | trivial | rfl)
          have hR := readFraction_c w3 (by have := HL1.out; omega) hb3 hx2
          rw [HF.out] at hR
          have HR := Lib.hid hR
          have HBL3 := Lib.hid (HBL2.out.trans hbel3)
          have HDG := Lib.hid hdg
          have HL2 := Lib.hid hl2
          clear hR hb3 hl2 hx2 hdg hbel3 hc0 hf0
          go_wp2_with fail
          refine HR.out.mono ?_
          rintro e w4 ⟨rfl, hb4, hbel4⟩
          obtain ⟨fr, L3, hb4, hl3, hx3, hfr⟩ := hb4 K2 rfl
          have hR := readPower_c w4 (by have := HL1.out; have := HL2.out; omega) hb4 hx3
          rw [HP.out] at hR
          have HRP := Lib.hid hR
          have HBL4 := Lib.hid (HBL3.out.trans hbel4)
          have HFR := Lib.hid hfr
          clear hR hb4 hl3 hx3 hfr hbel4
          go_wp2_with fail
          refine HRP.out.mono ?_
          rintro e w5 ⟨rfl, hb5, hbel5⟩
          obtain ⟨pw, sk, L4, hb5, hx4, hok⟩ := hb5 K3 rfl
          have hc7 := cell_of (k := 7) hb5 rfl
          have hsz4 : L4.size = X.length - K3 := by rw [← octs_length, hx4, List.length_drop]
          have HB5 := Lib.hid hb5
          have HBL5 := Lib.hid (HBL4.out.trans hbel5)
          have HOK := Lib.hid hok
          clear hb5 hx4 hok hbel5
          have hse := str_empty (show L4.size = 0 by have := HKL.out; omega)
          clear hsz4
          go_wp2
          go_ret
          exact ⟨rfl, (fun _ => ⟨NG, dg, fr, pw, sk, L4, HB5.out, ⟨HNG.out, HD.out, HDG.out, K1, K2, HK1.out, HF.out, by rw [HP.out, HKL.out], HFR.out, HOK.out⟩⟩), HBL5.out⟩
        · have hlt3 : K3 < X.length := by have := HK3L.out; omega
          rw [show decide (some K3 = some X.length) = false from decide_eq_false (fun h => hK (by injection h))]
          have HKN := Lib.hid hK
          clear hK
          go_enter Tryz.func45, Tryz.ntmps45
          go_wp2_with fail
          refine HS.out.mono ?_
          rintro e w2 ⟨rfl, hb2, hbel2⟩
          have hc0 := cell_of (k := 0) hb2 rfl
          have hf0 := frozen_of 0 hb2
          have HB2 := Lib.hid (num_set_neg hb2 NG)
          have HBL2 := Lib.hid ((HB0.out.trans hbel2).setCell (p := ⟨b, 0, none⟩) (Nat.le_refl _) (.bool NG))
          clear hb2 hbel2
          go_wp2_with fail
          refine (HW.out _ HB2.out).mono ?_
          rintro e w3 ⟨rfl, hb3, hbel3⟩
          obtain ⟨dg, L2, hb3, hl2, hx2, hdg⟩ := hb3 (by first | trivial | rfl)
          have hR := readFraction_c w3 (by have := HL1.out; omega) hb3 hx2
          rw [HF.out] at hR
          have HR := Lib.hid hR
          have HBL3 := Lib.hid (HBL2.out.trans hbel3)
          have HDG := Lib.hid hdg
          have HL2 := Lib.hid hl2
          clear hR hb3 hl2 hx2 hdg hbel3 hc0 hf0
          go_wp2_with fail
          refine HR.out.mono ?_
          rintro e w4 ⟨rfl, hb4, hbel4⟩
          obtain ⟨fr, L3, hb4, hl3, hx3, hfr⟩ := hb4 K2 rfl
          have hR := readPower_c w4 (by have := HL1.out; have := HL2.out; omega) hb4 hx3
          rw [HP.out] at hR
          have HRP := Lib.hid hR
          have HBL4 := Lib.hid (HBL3.out.trans hbel4)
          have HFR := Lib.hid hfr
          clear hR hb4 hl3 hx3 hfr hbel4
          go_wp2_with fail
          refine HRP.out.mono ?_
          rintro e w5 ⟨rfl, hb5, hbel5⟩
          obtain ⟨pw, sk, L4, hb5, hx4, hok⟩ := hb5 K3 rfl
          have hc7 := cell_of (k := 7) hb5 rfl
          have hsz4 : L4.size = X.length - K3 := by rw [← octs_length, hx4, List.length_drop]
          have HB5 := Lib.hid hb5
          have HBL5 := Lib.hid (HBL4.out.trans hbel5)
          have HOK := Lib.hid hok
          clear hb5 hx4 hok hbel5
          have hse := str_full (show 0 < L4.size by omega)
          clear hsz4
          go_wp2
          go_ret
          exact ⟨rfl, (fun h => absurd (by injection h) HKN.out), HBL5.out⟩
  · have hd : isDig (nth X (fSgn X)) = false := by simpa using hd
    rw [hd] at HW
    have hfo := form_no1 hd
    rw [hfo]
    clear hfo hd
    rw [show decide ((none : Option Nat) = some X.length) = false from rfl]
    go_enter Tryz.func45, Tryz.ntmps45
    go_wp2_with fail
    refine HS.out.mono ?_
    rintro e w2 ⟨rfl, hb2, hbel2⟩
    have hc0 := cell_of (k := 0) hb2 rfl
    have hf0 := frozen_of 0 hb2
    have HB2 := Lib.hid (num_set_neg hb2 NG)
    have HBL2 := Lib.hid ((HB0.out.trans hbel2).setCell (p := ⟨b, 0, none⟩) (Nat.le_refl _) (.bool NG))
    clear hb2 hbel2
    go_wp2_with fail
    refine (HW.out _ HB2.out).mono ?_
    rintro e w3 ⟨rfl, _, hbel3⟩
    go_wp2
    go_ret
    exact ⟨rfl, (fun h => by cases h), HBL2.out.trans hbel3⟩
end Go.Proofs.YtjhaoncganoaaaaGreatDoor
