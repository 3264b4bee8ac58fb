/-
  Contracts of dec's numeral: readWhole and readFraction, told by the places of the form.
  Contract of dec's numeral: readFraction, told by the places of the form.
-/
import Derived.Test.YtpjllcengnolkaaGreatDoorHDnumc
import Derived.Test.YtpjllcengnolkaaGreatDoorHDpar
set_option linter.unusedVariables false
set_option linter.unusedSimpArgs false
namespace Go.Proofs.YtpjllcengnolkaaGreatDoor
open Go.RowKit

theorem nth_drop0 (X : List Nat) (k : Nat) : nth (X.drop k) 0 = nth X k := by
  unfold nth
  rw [List.getD_eq_getElem?_getD, List.getD_eq_getElem?_getD, List.getElem?_drop, Nat.add_zero]
theorem tw_dEnd (X : List Nat) (k : Nat) : ((X.drop k).takeWhile isDig).length = dEnd X k - k := by unfold dEnd; omega
theorem tw_pos {X : List Nat} {k : Nat} : isDig (nth X k) = true ↔ 0 < ((X.drop k).takeWhile isDig).length := by
  constructor
  · intro h
    rw [drop_eq_nth (dig_lt h), List.takeWhile_cons_of_pos h]; simp
  · intro h
    have := (tw_ge h).1
    rwa [nth_drop0] at this
theorem RdB1 (w : World) (x : UInt8) : RdB (w.alloc (.cells #[.int .u8 (x.toNat : Int)] 5)) w.heap.size [x] := by
  intro j z h
  have hj := (List.getElem?_eq_some_iff.1 h).1
  have hj0 : j = 0 := by simpa using hj
  subst hj0
  have hz : x = z := by simpa using h
  subst hz
  exact cell_of (World.alloc_heap_new w _) rfl
theorem RdB2 (w : World) (x y : UInt8) : RdB (w.alloc (.cells #[.int .u8 (x.toNat : Int), .int .u8 (y.toNat : Int)] 5)) w.heap.size [x, y] := by
  intro j z h
  have hj := (List.getElem?_eq_some_iff.1 h).1
  have hj0 : j = 0 ∨ j = 1 := by simp at hj; omega
  rcases hj0 with rfl | rfl
  · have hz : x = z := by simpa using h
    subst hz
    exact cell_of (World.alloc_heap_new w _) rfl
  · have hz : y = z := by simpa using h
    subst hz
    exact cell_of (World.alloc_heap_new w _) rfl
theorem heads1 (x : UInt8) (xs : List Nat) : heads [x] xs = decide (nth xs 0 = x.toNat) := by
  unfold heads
  rw [Bool.eq_iff_iff, List.contains_iff_mem, decide_eq_true_eq]
  simp
theorem heads2 (x y : UInt8) (xs : List Nat) : heads [x, y] xs = decide (nth xs 0 = x.toNat ∨ nth xs 0 = y.toNat) := by
  unfold heads
  rw [Bool.eq_iff_iff, List.contains_iff_mem, decide_eq_true_eq]
  simp
theorem ext0_size {lf : ByteArray} {m : Nat} (h : m ≤ lf.size) : (lf.extract 0 m).size = m := by
  rw [ByteArray.size_extract]; omega

set_option maxRecDepth 100000 in
theorem readWhole_c {b k : Nat} {neg sk : Bool} {dg fr pw lf : ByteArray} {X : List Nat} (w : World) (hs : lf.size ≤ 9223372036854775807) (hb : w.heap[b]? = some (numBx neg dg fr pw sk lf)) (hx : octs lf = X.drop k) :
    Calls Tryz.prog 94 #[.pointer (some ⟨b, 0, none⟩)] w fun e w' => e = .returned (.bool (isDig (nth X k))) ∧
      (isDig (nth X k) = true → ∃ dg' lf', w'.heap[b]? = some (numBx neg dg' fr pw sk lf') ∧ lf'.size ≤ lf.size ∧ octs lf' = X.drop (if nth X k = 48 then k + 1 else dEnd X k) ∧ octs dg' = if nth X k = 48 then octs dg else (X.drop k).take (dEnd X k - k)) ∧ Below b w w' := by
  have hlt : b < w.heap.size := (Array.getElem?_eq_some_iff.1 hb).1
  have hb1 : (w.alloc (.cells #[.int .u8 48] 5)).heap[b]? = some (numBx neg dg fr pw sk lf) := (Below.heap_alloc _ _ _ hlt).trans hb
  have hS := skip_c (l := [48]) (n := 1) (c := 1) (w.alloc (.cells #[.int .u8 48] 5)) hs hb1 rfl (RdB1 w 48) (by omega) (by decide)
  have hB0 : Below b w (w.alloc (.cells #[.int .u8 48] 5)) := (Below.refl _ _).alloc (by omega) _
  rw [heads1, hx, nth_drop0] at hS
  by_cases h48 : nth X k = 48
  · rw [show decide (nth X k = (48 : UInt8).toNat) = true from decide_eq_true h48, if_pos rfl] at hS
    have hdg : isDig (nth X k) = true := by rw [h48]; decide
    have hl2 : octs (lf.extract 1 lf.size) = X.drop (k + 1) := by rw [octs_rest, hx, List.drop_drop]
    have hls : (lf.extract 1 lf.size).size ≤ lf.size := by rw [ByteArray.size_extract]; omega
    rw [hdg, if_pos h48, if_pos h48]
    have HS := Lib.hid hS
    have HL2 := Lib.hid hl2
    have HLS := Lib.hid hls
    have HB0 := Lib.hid hB0
    clear hS hl2 hls hB0 hb1 hb hx h48 hdg
    go_enter Tryz.func94, Tryz.ntmps94
    go_wp2_with fail
    refine HS.out.mono ?_
    rintro e w2 ⟨rfl, hb2, hbel⟩
    go_wp2
    go_ret
    exact ⟨rfl, fun _ => ⟨dg, _, hb2, HLS.out, HL2.out, rfl⟩, HB0.out.trans hbel⟩
  · rw [show decide (nth X k = (48 : UInt8).toNat) = false from decide_eq_false h48, if_neg (by decide)] at hS
    rw [if_neg h48, if_neg h48]
    obtain ⟨m, hm⟩ : ∃ m, m = ((octs lf).takeWhile isDig).length := ⟨_, rfl⟩
    have hmle : m ≤ lf.size := by rw [hm, ← octs_length]; exact tw_le _ _
    have hmd : m = dEnd X k - k := by rw [hm, hx, tw_dEnd]
    have hmp : isDig (nth X k) = decide (0 < m) := by rw [Bool.eq_iff_iff, tw_pos, decide_eq_true_eq, hm, hx]
    have hT := fun V (h : V.heap[b]? = some (numBx neg dg fr pw sk lf)) => takeD_c V hs h
    rw [← hm] at hT
    have hl2 : octs (lf.extract m lf.size) = X.drop (dEnd X k) := by
      rw [octs_rest, hx, List.drop_drop, hmd]
      have := dEnd_ge X k
      rw [show k + (dEnd X k - k) = dEnd X k by omega]
    have hl3 : octs (lf.extract 0 m) = (X.drop k).take (dEnd X k - k) := by rw [octs_extract, hx, hmd, List.drop_zero]
    have hls : (lf.extract m lf.size).size ≤ lf.size := by rw [ByteArray.size_extract]; omega
    have hes := ext0_size hmle
    rw [hmp]
    have HS := Lib.hid hS
    have HL2 := Lib.hid hl2
    have HL3 := Lib.hid hl3
    have HLS := Lib.hid hls
    have HB0 := Lib.hid hB0
    have HT := Lib.hid hT
    clear hS hl2 hl3 hls hB0 hb1 hb hx h48 hT hm hmd hmp
    generalize lf.extract m lf.size = L2 at *
    generalize lf.extract 0 m = D2 at *
    by_cases hm0 : m = 0
    · have he := str_empty (show D2.size = 0 by omega)
      have hd : decide (0 < m) = false := decide_eq_false (by omega)
      rw [hd]
      clear hd hm0 hes
      go_enter Tryz.func94, Tryz.ntmps94
      go_wp2_with fail
      refine HS.out.mono ?_
      rintro e w2 ⟨rfl, hb2, hbel⟩
      go_wp2_with fail
      refine (HT.out w2 hb2).mono ?_
      rintro e w3 ⟨rfl, hb3, hbel3⟩
      have hc3 := cell_of (k := 3) hb3 rfl
      have hf3 := frozen_of 3 hb3
      go_wp2
      go_ret
      exact ⟨rfl, (fun h => by cases h), (HB0.out.trans (hbel.trans hbel3)).setCell (p := ⟨b, 3, none⟩) (Nat.le_refl _) _⟩
    · have he := str_full (show 0 < D2.size by omega)
      have hd : decide (0 < m) = true := decide_eq_true (by omega)
      rw [hd]
      clear hd hm0 hes
      go_enter Tryz.func94, Tryz.ntmps94
      go_wp2_with fail
      refine HS.out.mono ?_
      rintro e w2 ⟨rfl, hb2, hbel⟩
      go_wp2_with fail
      refine (HT.out w2 hb2).mono ?_
      rintro e w3 ⟨rfl, hb3, hbel3⟩
      have hc3 := cell_of (k := 3) hb3 rfl
      have hf3 := frozen_of 3 hb3
      have HSET := Lib.hid (num_set_dg hb3 D2)
      go_wp2
      go_ret
      exact ⟨rfl, (fun _ => ⟨D2, L2, HSET.out, HLS.out, HL2.out, HL3.out⟩), (HB0.out.trans (hbel.trans hbel3)).setCell (p := ⟨b, 3, none⟩) (Nat.le_refl _) _⟩
end Go.Proofs.YtpjllcengnolkaaGreatDoor

namespace Go.Proofs.YtpjllcengnolkaaGreatDoor
open Go.RowKit

set_option maxRecDepth 100000 in
theorem readFraction_c {b k : Nat} {neg sk : Bool} {dg fr pw lf : ByteArray} {X : List Nat} (w : World) (hs : lf.size ≤ 9223372036854775807) (hb : w.heap[b]? = some (numBx neg dg fr pw sk lf)) (hx : octs lf = X.drop k) :
    Calls Tryz.prog 95 #[.pointer (some ⟨b, 0, none⟩)] w fun e w' => e = .returned (.bool (fFrac X k).isSome) ∧
      (∀ k2, fFrac X k = some k2 → ∃ fr' lf', w'.heap[b]? = some (numBx neg dg fr' pw sk lf') ∧ lf'.size ≤ lf.size ∧ octs lf' = X.drop k2 ∧ octs fr' = if nth X k = 46 then (X.drop (k + 1)).take (dEnd X (k + 1) - (k + 1)) else octs fr) ∧ Below b w w' := by
  have hlt : b < w.heap.size := (Array.getElem?_eq_some_iff.1 hb).1
  have hb1 : (w.alloc (.cells #[.int .u8 46] 5)).heap[b]? = some (numBx neg dg fr pw sk lf) := (Below.heap_alloc _ _ _ hlt).trans hb
  have hS := skip_c (l := [46]) (n := 1) (c := 1) (w.alloc (.cells #[.int .u8 46] 5)) hs hb1 rfl (RdB1 w 46) (by omega) (by decide)
  have hB0 : Below b w (w.alloc (.cells #[.int .u8 46] 5)) := (Below.refl _ _).alloc (by omega) _
  rw [heads1, hx, nth_drop0] at hS
  by_cases h46 : nth X k = 46
  · rw [show decide (nth X k = (46 : UInt8).toNat) = true from decide_eq_true h46, if_pos rfl] at hS
    have hls : (lf.extract 1 lf.size).size ≤ lf.size := by rw [ByteArray.size_extract]; omega
    have hx1 : octs (lf.extract 1 lf.size) = X.drop (k + 1) := by rw [octs_rest, hx, List.drop_drop]
    rw [if_pos h46]
    obtain ⟨lg, hlg⟩ : ∃ lg, lg = lf.extract 1 lf.size := ⟨_, rfl⟩
    rw [← hlg] at hS hls hx1
    obtain ⟨m, hm⟩ : ∃ m, m = ((octs lg).takeWhile isDig).length := ⟨_, rfl⟩
    have hmle : m ≤ lg.size := by rw [hm, ← octs_length]; exact tw_le _ _
    have hmd : m = dEnd X (k + 1) - (k + 1) := by rw [hm, hx1, tw_dEnd]
    have hmp : isDig (nth X (k + 1)) = decide (0 < m) := by rw [Bool.eq_iff_iff, tw_pos, decide_eq_true_eq, hm, hx1]
    have hT := fun V (h : V.heap[b]? = some (numBx neg dg fr pw sk lg)) => takeD_c V (show lg.size ≤ 9223372036854775807 by omega) h
    rw [← hm] at hT
    have hl2 : octs (lg.extract m lg.size) = X.drop (dEnd X (k + 1)) := by
      rw [octs_rest, hx1, List.drop_drop, hmd]
      have := dEnd_ge X (k + 1)
      rw [show k + 1 + (dEnd X (k + 1) - (k + 1)) = dEnd X (k + 1) by omega]
    have hl3 : octs (lg.extract 0 m) = (X.drop (k + 1)).take (dEnd X (k + 1) - (k + 1)) := by rw [octs_extract, hx1, hmd, List.drop_zero]
    have hls2 : (lg.extract m lg.size).size ≤ lf.size := by rw [ByteArray.size_extract]; omega
    have hes := ext0_size hmle
    have hff : fFrac X k = if isDig (nth X (k + 1)) = true then some (dEnd X (k + 1)) else none := by unfold fFrac; rw [if_pos h46]
    rw [hmp] at hff
    have HS := Lib.hid hS
    have HL2 := Lib.hid hl2
    have HL3 := Lib.hid hl3
    have HLS := Lib.hid hls2
    have HB0 := Lib.hid hB0
    have HT := Lib.hid hT
    generalize fFrac X k = FF at *
    clear hS hl2 hl3 hls hls2 hB0 hb1 hb hx hx1 h46 hT hm hmd hmp hlg
    generalize lg.extract m lg.size = L2 at *
    generalize lg.extract 0 m = D2 at *
    by_cases hm0 : m = 0
    · have he := str_empty (show D2.size = 0 by omega)
      have hd : decide (0 < m) = false := decide_eq_false (by omega)
      rw [hd, if_neg (by decide)] at hff
      subst hff
      clear hd hm0 hes
      go_enter Tryz.func95, Tryz.ntmps95
      go_wp2_with fail
      refine HS.out.mono ?_
      rintro e w2 ⟨rfl, hb2, hbel⟩
      go_wp2_with fail
      refine (HT.out w2 hb2).mono ?_
      rintro e w3 ⟨rfl, hb3, hbel3⟩
      have hc3 := cell_of (k := 4) hb3 rfl
      have hf3 := frozen_of 4 hb3
      go_wp2
      go_ret
      exact ⟨rfl, (fun _ h => by cases h), (HB0.out.trans (hbel.trans hbel3)).setCell (p := ⟨b, 4, none⟩) (Nat.le_refl _) _⟩
    · have he := str_full (show 0 < D2.size by omega)
      have hd : decide (0 < m) = true := decide_eq_true (by omega)
      rw [hd, if_pos rfl] at hff
      subst hff
      clear hd hm0 hes
      go_enter Tryz.func95, Tryz.ntmps95
      go_wp2_with fail
      refine HS.out.mono ?_
      rintro e w2 ⟨rfl, hb2, hbel⟩
      go_wp2_with fail
      refine (HT.out w2 hb2).mono ?_
      rintro e w3 ⟨rfl, hb3, hbel3⟩
      have hc3 := cell_of (k := 4) hb3 rfl
      have hf3 := frozen_of 4 hb3
      have HSET := Lib.hid (num_set_fr hb3 D2)
      go_wp2
      go_ret
      exact ⟨rfl, (fun _ h => by injection h with h; subst h; exact ⟨D2, L2, HSET.out, HLS.out, HL2.out, HL3.out⟩), (HB0.out.trans (hbel.trans hbel3)).setCell (p := ⟨b, 4, none⟩) (Nat.le_refl _) _⟩
  · rw [show decide (nth X k = (46 : UInt8).toNat) = false from decide_eq_false h46, if_neg (by decide)] at hS
    have hff : fFrac X k = some k := by unfold fFrac; rw [if_neg h46]
    rw [hff, if_neg h46]
    have HS := Lib.hid hS
    have HX := Lib.hid hx
    have HB0 := Lib.hid hB0
    clear hS hff hB0 hb1 hb hx h46
    go_enter Tryz.func95, Tryz.ntmps95
    go_wp2_with fail
    refine HS.out.mono ?_
    rintro e w2 ⟨rfl, hb2, hbel⟩
    go_wp2
    go_ret
    exact ⟨rfl, (fun _ h => by injection h with h; subst h; exact ⟨fr, lf, hb2, Nat.le_refl _, HX.out, rfl⟩), HB0.out.trans hbel⟩
end Go.Proofs.YtpjllcengnolkaaGreatDoor
