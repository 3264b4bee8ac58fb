/-
  Contract of dec's numeral: readFraction, told by the places of the form.
-/
import Derived.Test.YtjhaoncganoaaaaGreatDoorDnumd
set_option linter.unusedVariables false
set_option linter.unusedSimpArgs false
namespace Go.Proofs.YtjhaoncganoaaaaGreatDoor
open Go.RowKit

set_option maxRecDepth 100000 in
theorem readFraction_c {b k : Nat} {neg sk : Bool} {dg fr pw lf : ByteArray} {X : List Nat} (w : World) (hs : lf.size ≤ 9223372036854775807) (hb : w.heap[b]? = some (numBx neg dg fr pw sk lf)) (hx : octs lf = X.drop k) :
    Calls Tryz.prog 91 #[.pointer (some ⟨b, 0, none⟩)] w fun e w' => e = .returned (.bool (fFrac X k).isSome) ∧
      (∀ k2, fFrac X k = some k2 → ∃ fr' lf', w'.heap[b]? = some (numBx neg dg fr' pw sk lf') ∧ lf'.size ≤ lf.size ∧ octs lf' = X.drop k2 ∧ octs fr' = if nth X k = 46 then (X.drop (k + 1)).take (dEnd X (k + 1) - (k + 1)) else octs fr) ∧ Below b w w' := by
  have hlt : b < w.heap.size := (Array.getElem?_eq_some_iff.1 hb).1
  have hb1 : (w.alloc (.cells #[.int .u8 46] 5)).heap[b]? = some (numBx neg dg fr pw sk lf) := (Below.heap_alloc _ _ _ hlt).trans hb
  have hS := skip_c (l := [46]) (n := 1) (c := 1) (w.alloc (.cells #[.int .u8 46] 5)) hs hb1 rfl (RdB1 w 46) (by omega) (by decide)
  have hB0 : Below b w (w.alloc (.cells #[.int .u8 46] 5)) := (Below.refl _ _).alloc (by omega) _
  rw [heads1, hx, nth_drop0] at hS
  by_cases h46 : nth X k = 46
  · rw [show decide (nth X k = (46 : UInt8).toNat) = true from decide_eq_true h46, if_pos rfl] at hS
    have hls : (lf.extract 1 lf.size).size ≤ lf.size := by rw [ByteArray.size_extract]; omega
    have hx1 : octs (lf.extract 1 lf.size) = X.drop (k + 1) := by rw [octs_rest, hx, List.drop_drop]
    rw [if_pos h46]
    obtain ⟨lg, hlg⟩ : ∃ lg, lg = lf.extract 1 lf.size := ⟨_, rfl⟩
    rw [← hlg] at hS hls hx1
    obtain ⟨m, hm⟩ : ∃ m, m = ((octs lg).takeWhile isDig).length := ⟨_, rfl⟩
    have hmle : m ≤ lg.size := by rw [hm, ← octs_length]; exact tw_le _ _
    have hmd : m = dEnd X (k + 1) - (k + 1) := by rw [hm, hx1, tw_dEnd]
    have hmp : isDig (nth X (k + 1)) = decide (0 < m) := by rw [Bool.eq_iff_iff, tw_pos, decide_eq_true_eq, hm, hx1]
    have hT := fun V (h : V.heap[b]? = some (numBx neg dg fr pw sk lg)) => takeD_c V (show lg.size ≤ 9223372036854775807 by omega) h
    rw [← hm] at hT
    have hl2 : octs (lg.extract m lg.size) = X.drop (dEnd X (k + 1)) := by
      rw [octs_rest, hx1, List.drop_drop, hmd]
      have := dEnd_ge X (k + 1)
      rw [show k + 1 + (dEnd X (k + 1) - (k + 1)) = dEnd X (k + 1) by omega]
    have hl3 : octs (lg.extract 0 m) = (X.drop (k + 1)).take (dEnd X (k + 1) - (k + 1)) := by rw [octs_extract, hx1, hmd, List.drop_zero]
    have hls2 : (lg.extract m lg.size).size ≤ lf.size := by rw [ByteArray.size_extract]; omega
    have hes := ext0_size hmle
    have hff : fFrac X k = if isDig (nth X (k + 1)) = true then some (dEnd X (k + 1)) else none := by unfold fFrac; rw [if_pos h46]
    rw [hmp] at hff
    have HS := Lib.hid hS
    have HL2 := Lib.hid hl2
    have HL3 := Lib.hid hl3
    have HLS := Lib.hid hls2
    have HB0 := Lib.hid hB0
    have HT := Lib.hid hT
    generalize fFrac X k = FF at *
    clear hS hl2 hl3 hls hls2 hB0 hb1 hb hx hx1 h46 hT hm hmd hmp hlg
    generalize lg.extract m lg.size = L2 at *
    generalize lg.extract 0 m = D2 at *
    by_cases hm0 : m = 0
    · have he := str_empty (show D2.size = 0 by omega)
      have hd : decide (0 < m) = false := decide_eq_false (by omega)
      rw [hd, if_neg (by decide)] at hff
      subst hff
      clear hd hm0 hes
      go_enter Tryz.func91, Tryz.ntmps91
      go_wp2_with fail
      refine HS.out.mono ?_
      rintro e w2 ⟨rfl, hb2, hbel⟩
      go_wp2_with fail
      refine (HT.out w2 hb2).mono ?_
      rintro e w3 ⟨rfl, hb3, hbel3⟩
      have hc3 := cell_of (k := 4) hb3 rfl
      have hf3 := frozen_of 4 hb3
      go_wp2
      go_ret
      exact ⟨rfl, (fun _ h => by cases h), (HB0.out.trans (hbel.trans hbel3)).setCell (p := ⟨b, 4, none⟩) (Nat.le_refl _) _⟩
    · have he := str_full (show 0 < D2.size by omega)
      have hd : decide (0 < m) = true := decide_eq_true (by omega)
      rw [hd, if_pos rfl] at hff
      subst hff
      clear hd hm0 hes
      go_enter Tryz.func91, Tryz.ntmps91
      go_wp2_with fail
      refine HS.out.mono ?_
      rintro e w2 ⟨rfl, hb2, hbel⟩
      go_wp2_with fail
      refine (HT.out w2 hb2).mono ?_
      rintro e w3 ⟨rfl, hb3, hbel3⟩
      have hc3 := cell_of (k := 4) hb3 rfl
      have hf3 := frozen_of 4 hb3
      have HSET := Lib.hid (num_set_fr hb3 D2)
      go_wp2
      go_ret
      exact ⟨rfl, (fun _ h => by injection h with h; subst h; exact ⟨D2, L2, HSET.out, HLS.out, HL2.out, HL3.out⟩), (HB0.out.trans (hbel.trans hbel3)).setCell (p := ⟨b, 4, none⟩) (Nat.le_refl _) _⟩
  · rw [show decide (nth X k = (46 : UInt8).toNat) = false from decide_eq_false h46, if_neg (by decide)] at hS
    have hff : fFrac X k = some k := by unfold fFrac; rw [if_neg h46]
    rw [hff, if_neg h46]
    have HS := Lib.hid hS
    have HX := Lib.hid hx
    have HB0 := Lib.hid hB0
    clear hS hff hB0 hb1 hb hx h46
    go_enter Tryz.func91, Tryz.ntmps91
    go_wp2_with fail
    refine HS.out.mono ?_
    rintro e w2 ⟨rfl, hb2, hbel⟩
    go_wp2
    go_ret
    exact ⟨rfl, (fun _ h => by injection h with h; subst h; exact ⟨fr, lf, hb2, Nat.le_refl _, HX.out, rfl⟩), HB0.out.trans hbel⟩
end Go.Proofs.YtjhaoncganoaaaaGreatDoor
