/-
  Contract of dec.Parse: what the reference's Parse tells.
-/
import Derived.Test.YtjhaoncganoaaaaGreatDoorDnump
import Derived.Test.YtjhaoncganoaaaaGreatDoorDnumv
import Derived.Test.YtjhaoncganoaaaaGreatDoorDprt
set_option linter.unusedVariables false
set_option linter.unusedSimpArgs false
namespace Go.Proofs.YtjhaoncganoaaaaGreatDoor
open Go.RowKit

set_option maxRecDepth 100000 in
set_option maxHeartbeats 2000000 in
theorem DParse_c (s : ByteArray) (w : World) (hs : s.size ≤ 140737488355328) :
    Calls Tryz.prog 11 #[.string s] w fun e w' => ∃ A n c, e = .returned (.tuple #[dv (fN (octs s)) A n c (fX (octs s)), .int .i64 (fE (octs s) : Int)]) ∧ Res w' w.heap.size A n c (fZ (octs s)) ∧ Below w.heap.size w w' := by
  have hl := octs_length s
  have hm := two_new w (.cells #[.bool false, .slice none 0 0, .int .i64 0] 24) (numBx false ⟨#[]⟩ ⟨#[]⟩ ⟨#[]⟩ false s)
  obtain ⟨m0, m1⟩ := hm
  have hW : Below w.heap.size w ((w.alloc (.cells #[.bool false, .slice none 0 0, .int .i64 0] 24)).alloc (numBx false ⟨#[]⟩ ⟨#[]⟩ ⟨#[]⟩ false s)) := ((Below.refl _ w).alloc (Nat.le_refl _) _).alloc (by simp) _
  have hsz : ((w.alloc (.cells #[.bool false, .slice none 0 0, .int .i64 0] 24)).alloc (numBx false ⟨#[]⟩ ⟨#[]⟩ ⟨#[]⟩ false s)).heap.size = w.heap.size + 2 := by simp
  have hR := read_c s _ hs m1
  have HM0 := Lib.hid m0
  have HW := Lib.hid hW
  have HSZ := Lib.hid hsz
  clear m0 m1 hW hsz
  by_cases hf : form (octs s) = some s.size
  · rw [decide_eq_true hf] at hR
    have HF := Lib.hid hf
    have HR := Lib.hid hR
    by_cases h2 : s.size ≤ 2000
    · have hg : fGood (octs s) := ⟨by rw [hl]; exact hf, by omega⟩
      have e1 : fN (octs s) = gN (octs s) := by unfold fN; rw [if_pos hg]
      have e2 : fX (octs s) = gX (octs s) := by unfold fX; rw [if_pos hg]
      have e3 : fE (octs s) = gE (octs s) := by unfold fE; rw [if_pos hg]
      have e4 : fZ (octs s) = gZ (octs s) := by unfold fZ; rw [if_pos hg]
      rw [e1, e2, e3, e4]
      have HL := Lib.hid hl
      clear hR hf hg e1 e2 e3 e4 hl
      obtain ⟨X, hX⟩ : ∃ X, X = octs s := ⟨_, rfl⟩
      rw [← hX] at HR HF HL ⊢
      clear hX
      obtain ⟨GN, hGN⟩ : ∃ G, G = gN X := ⟨_, rfl⟩
      obtain ⟨GX, hGX⟩ : ∃ G, G = gX X := ⟨_, rfl⟩
      obtain ⟨GE, hGE⟩ : ∃ G, G = gE X := ⟨_, rfl⟩
      obtain ⟨GZ, hGZ⟩ : ∃ G, G = gZ X := ⟨_, rfl⟩
      rw [← hGN, ← hGX, ← hGE, ← hGZ]
      have HGN := Lib.hid hGN
      have HGX := Lib.hid hGX
      have HGE := Lib.hid hGE
      have HGZ := Lib.hid hGZ
      clear hGN hGX hGE hGZ
      unfold dv
      go_enter Tryz.func11, Tryz.ntmps11
      go_wp2_with fail
      refine HR.out.mono ?_
      rintro e w2 ⟨rfl, hbx, hb2⟩
      obtain ⟨neg, dg, fr, pw, sk, lf, hbx, hok⟩ := hbx HF.out
      obtain ⟨t1, t2, t3, t4, t5, t6, t7, t8, t9⟩ := num_told hok
      have hc5 := cell_of (k := 5) hbx rfl
      have hlp := octs_length pw
      have hld := octs_length dg
      have hlr := octs_length fr
      rw [HL.out, hld, hlr] at t9
      rw [hlp] at t8
      rw [hlr] at t4
      have HT1 := Lib.hid t1
      have HT2 := Lib.hid t2
      have HT3 := Lib.hid t3
      have HT4 := Lib.hid t4
      have HT5 := Lib.hid t5
      have HT6 := Lib.hid t6
      have HT7 := Lib.hid t7
      have HT8 := Lib.hid t8
      have HBX := Lib.hid hbx
      clear t1 t2 t3 t4 t5 t6 t7 t8 hok hlp hld hlr hbx
      by_cases h6 : 6 < pw.size
      · have h6' : (6 : Int) < (pw.size : Int) := by omega
        obtain ⟨g1, g2, g3, g4⟩ := g_big (HT8.out.1 h6)
        obtain rfl : GE = 52 := HGE.out.trans g1
        obtain rfl : GN = false := HGN.out.trans g2
        obtain rfl : GX = 0 := HGX.out.trans g3
        obtain rfl : GZ = [] := HGZ.out.trans g4
        clear g1 g2 g3 g4 h6
        have q0 := held hb2 (show w.heap.size < w.heap.size + 1 by omega) HM0.out
        have y0 : w2.cell? ⟨w.heap.size, 0, none⟩ = some (.bool false) := cell_of q0 rfl
        have y1 : w2.cell? ⟨w.heap.size, 1, none⟩ = some (.slice none 0 0) := cell_of q0 rfl
        have y2 : w2.cell? ⟨w.heap.size, 2, none⟩ = some (.int .i64 0) := cell_of q0 rfl
        have f0 := frozen_of 0 q0
        have f1 := frozen_of 1 q0
        have f2 := frozen_of 2 q0
        have hwb : Below w.heap.size w w2 := HW.out.trans (hb2.mono (by omega))
        have HWB := Lib.hid hwb
        clear hwb hb2 q0
        go_wp2
        refine bodyPost_ret (v := .tuple #[.agg #[.bool false, .slice none 0 0, .int .i64 0], .int .i64 52]) (by simp [results, Tryz.results11, go_sem, y0, y1, y2]) rfl ?_
        exact ⟨none, 0, 0, rfl, Res.nil _ _, ((HWB.out.setCell (p := ⟨w.heap.size, 0, none⟩) (Nat.le_refl _) _).setCell (p := ⟨w.heap.size, 1, none⟩) (Nat.le_refl _) _).setCell (p := ⟨w.heap.size, 2, none⟩) (Nat.le_refl _) _⟩
      · have h6' : ¬ ((6 : Int) < (pw.size : Int)) := by omega
        have hsm : (tPow X).2 < 1000000 := by
          rcases Nat.lt_or_ge (tPow X).2 1000000 with h | h
          · exact h
          · exact absurd (HT8.out.2 h) h6
        obtain ⟨g1, g2, g3, g4⟩ := g_small hsm
        obtain ⟨EX, hEX⟩ : ∃ EX : Int, EX = (if sk = true then -((pnum (octs pw) : Nat) : Int) else ((pnum (octs pw) : Nat) : Int)) - (fr.size : Int) := ⟨_, rfl⟩
        have hEt : EX = tExp X := by rw [hEX, HT7.out, HT6.out, HT4.out]; rfl
        have hEb : -100000000 ≤ EX ∧ EX ≤ 100000000 := by
          rw [hEX]
          have : pnum (octs pw) < 1000000 := by rw [HT7.out]; exact hsm
          split <;> omega
        have hV := value_c w2 HBX.out (by omega) HT5.out (by omega)
        rw [← hEX] at hV
        have hds : (dg ++ fr).size ≤ 100000 := by rw [ByteArray.size_append]; omega
        have hda : allDig (octs (dg ++ fr)) = true := by rw [octs_append]; exact HT2.out
        have hSt := fun V => settle_c neg none 0 0 EX (dg ++ fr) V hds hda hEb
        have hpv : pnum (octs (dg ++ fr)) = tVal X := by rw [octs_append]; exact HT3.out
        rw [hpv, HT1.out, hEt] at hSt
        rw [HT1.out, hEt] at hV
        obtain rfl : GE = _ := HGE.out.trans g1
        obtain rfl : GN = _ := HGN.out.trans g2
        obtain rfl : GX = _ := HGX.out.trans g3
        obtain rfl : GZ = _ := HGZ.out.trans g4
        have HV := Lib.hid hV
        have HST := Lib.hid hSt
        have q0 := held hb2 (show w.heap.size < w.heap.size + 1 by omega) HM0.out
        have HQ0 := Lib.hid q0
        have hwb : Below w.heap.size w w2 := HW.out.trans (hb2.mono (by omega))
        have HWB := Lib.hid hwb
        have HLT : Hid (w.heap.size < w2.heap.size) := (Array.getElem?_eq_some_iff.1 q0).1
        clear g1 g2 g3 g4 hsm hEX hEt hEb hV hds hda hSt hpv q0 hwb hb2 h6 t9
        go_wp2_with fail
        refine HV.out.mono ?_
        rintro e w3 ⟨rfl, hb3⟩
        have hq3 := held hb3 HLT.out HQ0.out
        have HQ3 := Lib.hid hq3
        have HW3 := Lib.hid (HWB.out.trans (hb3.mono (Nat.le_of_lt HLT.out)))
        have HLT3 : Hid (w.heap.size < w3.heap.size) := (Array.getElem?_eq_some_iff.1 hq3).1
        clear hq3 hb3
        go_wp2_with fail
        have hS3 := HST.out w3
        unfold dv at hS3
        refine hS3.mono ?_
        rintro e w4 ⟨A4, n4, c4, rfl, hr4, hb4⟩
        have q0 := held hb4 HLT3.out HQ3.out
        have y0 : w4.cell? ⟨w.heap.size, 0, none⟩ = some (.bool false) := cell_of q0 rfl
        have y1 : w4.cell? ⟨w.heap.size, 1, none⟩ = some (.slice none 0 0) := cell_of q0 rfl
        have y2 : w4.cell? ⟨w.heap.size, 2, none⟩ = some (.int .i64 0) := cell_of q0 rfl
        have f0 := frozen_of 0 q0
        have f1 := frozen_of 1 q0
        have f2 := frozen_of 2 q0
        have HW4 := Lib.hid (HW3.out.trans (hb4.mono (Nat.le_of_lt HLT3.out)))
        have HR4 := Lib.hid hr4
        have hlt := HLT3.out
        clear q0 hb4 hr4
        go_wp2
        refine bodyPost_ret (v := .tuple #[.agg #[.bool (stN (tNeg X) (tVal X) (tExp X)), .slice A4 n4 c4, .int .i64 (stX (tVal X) (tExp X))], .int .i64 (stE (tVal X) (tExp X) : Int)]) (by simp [results, Tryz.results11, go_sem, y0, y1, y2]) rfl ?_
        exact ⟨A4, n4, c4, rfl, (((HR4.out.setOther (p := ⟨w.heap.size, 0, none⟩) hlt _).setOther (p := ⟨w.heap.size, 1, none⟩) hlt _).setOther (p := ⟨w.heap.size, 2, none⟩) hlt _).more (Nat.le_of_lt hlt),
          ((HW4.out.setCell (p := ⟨w.heap.size, 0, none⟩) (Nat.le_refl _) _).setCell (p := ⟨w.heap.size, 1, none⟩) (Nat.le_refl _) _).setCell (p := ⟨w.heap.size, 2, none⟩) (Nat.le_refl _) _⟩
    · have h2' : (2000 : Int) < (s.size : Int) := by omega
      have hg : ¬ fGood (octs s) := fun h => h2 (by have := h.2; omega)
      have e1 : fN (octs s) = false := by unfold fN; rw [if_neg hg]
      have e2 : fX (octs s) = 0 := by unfold fX; rw [if_neg hg]
      have e3 : fE (octs s) = 5 := by unfold fE; rw [if_neg hg, if_pos (by rw [hl]; exact hf)]
      have e4 : fZ (octs s) = [] := by unfold fZ; rw [if_neg hg]
      rw [e1, e2, e3, e4]
      clear hR hf hg e1 e2 e3 e4 hl h2
      unfold dv
      go_enter Tryz.func11, Tryz.ntmps11
      go_wp2_with fail
      refine HR.out.mono ?_
      rintro e w2 ⟨rfl, _, hb2⟩
      have q0 := held hb2 (show w.heap.size < w.heap.size + 1 by omega) HM0.out
      have y0 : w2.cell? ⟨w.heap.size, 0, none⟩ = some (.bool false) := cell_of q0 rfl
      have y1 : w2.cell? ⟨w.heap.size, 1, none⟩ = some (.slice none 0 0) := cell_of q0 rfl
      have y2 : w2.cell? ⟨w.heap.size, 2, none⟩ = some (.int .i64 0) := cell_of q0 rfl
      have f0 := frozen_of 0 q0
      have f1 := frozen_of 1 q0
      have f2 := frozen_of 2 q0
      have hwb : Below w.heap.size w w2 := HW.out.trans (hb2.mono (by omega))
      have HWB := Lib.hid hwb
      clear hwb hb2 q0
      go_wp2
      refine bodyPost_ret (v := .tuple #[.agg #[.bool false, .slice none 0 0, .int .i64 0], .int .i64 5]) (by simp [results, Tryz.results11, go_sem, y0, y1, y2]) rfl ?_
      exact ⟨none, 0, 0, rfl, Res.nil _ _, ((HWB.out.setCell (p := ⟨w.heap.size, 0, none⟩) (Nat.le_refl _) _).setCell (p := ⟨w.heap.size, 1, none⟩) (Nat.le_refl _) _).setCell (p := ⟨w.heap.size, 2, none⟩) (Nat.le_refl _) _⟩
  · rw [decide_eq_false hf] at hR
    have hg : ¬ fGood (octs s) := fun h => hf (by rw [← hl]; exact h.1)
    have e1 : fN (octs s) = false := by unfold fN; rw [if_neg hg]
    have e2 : fX (octs s) = 0 := by unfold fX; rw [if_neg hg]
    have e3 : fE (octs s) = 32 := by unfold fE; rw [if_neg hg, if_neg (by rw [hl]; exact hf)]
    have e4 : fZ (octs s) = [] := by unfold fZ; rw [if_neg hg]
    rw [e1, e2, e3, e4]
    have HR := Lib.hid hR
    clear hR hf hg e1 e2 e3 e4 hl
    unfold dv
    go_enter Tryz.func11, Tryz.ntmps11
    go_wp2_with fail
    refine HR.out.mono ?_
    rintro e w2 ⟨rfl, _, hb2⟩
    have q0 := held hb2 (show w.heap.size < w.heap.size + 1 by omega) HM0.out
    have y0 : w2.cell? ⟨w.heap.size, 0, none⟩ = some (.bool false) := cell_of q0 rfl
    have y1 : w2.cell? ⟨w.heap.size, 1, none⟩ = some (.slice none 0 0) := cell_of q0 rfl
    have y2 : w2.cell? ⟨w.heap.size, 2, none⟩ = some (.int .i64 0) := cell_of q0 rfl
    have f0 := frozen_of 0 q0
    have f1 := frozen_of 1 q0
    have f2 := frozen_of 2 q0
    have hwb : Below w.heap.size w w2 := HW.out.trans (hb2.mono (by omega))
    have HWB := Lib.hid hwb
    clear hwb hb2 q0
    go_wp2
    refine bodyPost_ret (v := .tuple #[.agg #[.bool false, .slice none 0 0, .int .i64 0], .int .i64 32]) (by simp [results, Tryz.results11, go_sem, y0, y1, y2]) rfl ?_
    exact ⟨none, 0, 0, rfl, Res.nil _ _, ((HWB.out.setCell (p := ⟨w.heap.size, 0, none⟩) (Nat.le_refl _) _).setCell (p := ⟨w.heap.size, 1, none⟩) (Nat.le_refl _) _).setCell (p := ⟨w.heap.size, 2, none⟩) (Nat.le_refl _) _⟩
end Go.Proofs.YtjhaoncganoaaaaGreatDoor
