/-
  Contract of strconv.FormatInt to the base 16 of numbers of five digits that begin with 1.
-/
import Derived.Test.YtcanfiaooabocaaGreatDoorQNlimb
import Derived.Test.YtcanfiaooabocaaGreatDoorQWpg
import Derived.WalkKit
import Derived.Laws.Bits64b
import Derived.Laws.IdiomStrings
import Derived.Deep.QuietTactic
import Derived.BigQuiet
set_option linter.unusedVariables false
set_option linter.unusedSimpArgs false
namespace Go.Proofs.YtcanfiaooabocaaGreatDoor
open Go.RowKit Go.Lib

set_option maxRecDepth 100000 in
theorem isPow_c (w : World) : Calls Tryz.prog 162 #[.int .i64 16] w fun e w' => e = .returned (.bool true) ∧ w = w' := by
  have hb : bits BinOp.and IntKind.i64 16 15 = 0 := by kernel_rfl
  go_enter Tryz.func162, Tryz.ntmps162
  go_wp2_with fail
  go_ret
  exact ⟨rfl, rfl⟩
set_option maxRecDepth 100000 in
theorem tz_c (w : World) (ht : w.cell? ⟨5, 15, none⟩ = some (.int .u8 4)) : Calls Tryz.prog 163 #[.int .u64 16] w fun e w' => e = .returned (.int .i64 4) ∧ w = w' := by
  have h64 : Calls Tryz.prog 165 #[.int .u64 16] w fun e w' => e = .returned (.int .i64 4) ∧ w = w' := by
    have hw1 : IntKind.u64.wrap (-16) = 18446744073709551600 := by kernel_rfl
    have hb : bits BinOp.and IntKind.u64 16 18446744073709551600 = 16 := by kernel_rfl
    have hw2 : IntKind.u64.wrap (16 * 285870213051353865) / 288230376151711744 = 15 := by kernel_rfl
    have hw3 : IntKind.u64.wrap 4573923408821661840 / 288230376151711744 = 15 := by kernel_rfl
    go_enter Tryz.func165, Tryz.ntmps165
    go_wp2_with fail
    go_ret
    exact ⟨rfl, rfl⟩
  go_enter Tryz.func163, Tryz.ntmps163
  go_wp2_with fail
  refine h64.mono ?_
  rintro e w1 ⟨rfl, rfl⟩
  go_wp2_with fail
  go_ret
  exact ⟨rfl, rfl⟩

/-- Digits laid into the array, the lowest at its end. -/
def fw (w : World) (b d : Nat) : Nat → World
  | 0 => w
  | k + 1 => (fw w b d k).setCell ⟨b, 64 - k, none⟩ (.int .u8 ((hxD ((65536 + d) / 16 ^ k % 16)).toNat : Int))
theorem fw_heap {w : World} {b d : Nat} {vs : Array Value} {t : TypeId} (h : w.heap[b]? = some (.cells vs t)) (hs : vs.size = 65) : ∀ k, k ≤ 4 → ∃ us : Array Value, us.size = 65 ∧ (fw w b d k).heap[b]? = some (.cells us t) ∧ ∀ j, j < k → us[64 - j]? = some (.int .u8 ((hxD ((65536 + d) / 16 ^ j % 16)).toNat : Int))
  | 0, _ => ⟨vs, hs, h, fun j hj => absurd hj (by omega)⟩
  | k + 1, hk => by
    obtain ⟨us, h1, h2, h3⟩ := fw_heap h hs k (by omega)
    refine ⟨us.set! (64 - k) (.int .u8 ((hxD ((65536 + d) / 16 ^ k % 16)).toNat : Int)), by simpa using h1, ?_, fun j hj => ?_⟩
    · show ((fw w b d k).heap.modify b _)[b]? = _
      have hlt := (Array.getElem?_eq_some_iff.1 h2).1
      rw [Array.getElem?_eq_getElem hlt] at h2
      injection h2 with h2
      rw [Array.getElem?_modify, if_pos rfl, Array.getElem?_eq_getElem hlt, h2]
      rfl
    · by_cases hjk : j = k
      · subst hjk
        simp [Array.getElem?_setIfInBounds, h1]; omega
      · have := h3 j (by omega)
        simp only [Array.set!_eq_setIfInBounds, Array.getElem?_setIfInBounds]
        rw [if_neg (by omega)]
        exact this
theorem fw_below {w : World} {b d B : Nat} (hb : B ≤ b) : ∀ k, Below B w (fw w b d k)
  | 0 => Below.refl _ _
  | k + 1 => (fw_below hb k).setCell (p := ⟨b, 64 - k, none⟩) hb _

theorem dig16 {x : Nat} (h : x < 16) : ∀ hx : x < (⟨#[48, 49, 50, 51, 52, 53, 54, 55, 56, 57, 97, 98, 99, 100, 101, 102, 103, 104, 105, 106, 107, 108, 109, 110, 111, 112, 113, 114, 115, 116, 117, 118, 119, 120, 121, 122]⟩ : ByteArray).size,
    (⟨#[48, 49, 50, 51, 52, 53, 54, 55, 56, 57, 97, 98, 99, 100, 101, 102, 103, 104, 105, 106, 107, 108, 109, 110, 111, 112, 113, 114, 115, 116, 117, 118, 119, 120, 121, 122]⟩ : ByteArray)[x] = hxD x := by
  have hc : x = 0 ∨ x = 1 ∨ x = 2 ∨ x = 3 ∨ x = 4 ∨ x = 5 ∨ x = 6 ∨ x = 7 ∨ x = 8 ∨ x = 9 ∨ x = 10 ∨ x = 11 ∨ x = 12 ∨ x = 13 ∨ x = 14 ∨ x = 15 := by omega
  rcases hc with rfl | rfl | rfl | rfl | rfl | rfl | rfl | rfl | rfl | rfl | rfl | rfl | rfl | rfl | rfl | rfl <;> intro _ <;> rfl
set_option maxRecDepth 100000 in
set_option maxHeartbeats 1000000 in
theorem fBits_c (d : Nat) (hd : d < 65536) (w : World) (ht : w.cell? ⟨5, 15, none⟩ = some (.int .u8 4)) :
    Calls Tryz.prog 156 #[.slice none 0 0, .int .u64 ((65536 + d : Nat) : Int), .int .i64 16, .bool false, .bool false] w fun e w' => e = .returned (.tuple #[.slice none 0 0, .string ⟨(49 :: (dg4 d).map hxD).toArray⟩]) ∧ Below w.heap.size w w' := by
  have ht1 : ∀ o, (w.alloc o).cell? ⟨5, 15, none⟩ = some (.int .u8 4) := fun o => by
    rw [World.cell?_of_block (Below.heap_alloc _ _ _ (cell_lt ht))]; exact ht
  have hnew := fun o => World.alloc_heap_new w o
  go_enter Tryz.func156, Tryz.ntmps156
  go_wp2_with fail
  refine (isPow_c _).mono ?_
  rintro e w1 ⟨rfl, rfl⟩
  go_wp2_with fail
  refine (tz_c _ (ht1 _)).mono ?_
  rintro e w1 ⟨rfl, rfl⟩
  obtain ⟨W0, hW0⟩ : ∃ W0, W0 = w.alloc (.cells Tryz.zeroCells190 190) := ⟨_, rfl⟩
  have hB0 : W0.heap[w.heap.size]? = some (.cells Tryz.zeroCells190 190) := by rw [hW0]; exact hnew _
  have hsz0 : (Tryz.zeroCells190).size = 65 := by kernel_rfl
  have hbel : Below w.heap.size w W0 := by rw [hW0]; exact (Below.refl _ _).alloc (Nat.le_refl _) _
  rw [← hW0]
  obtain ⟨b, hb⟩ : ∃ b, w.heap.size = b := ⟨_, rfl⟩
  rw [hb] at hB0 hbel ⊢
  have HBB := Lib.hid hb
  clear hW0 hnew ht1 hb
  have HB0 := Lib.hid hB0
  have HBEL := Lib.hid hbel
  have HSZ := Lib.hid hsz0
  clear hB0 hbel hsz0
  go_wp2_with fail
  go_loopw [1, 13] (fun u i wr => ∃ k q : Nat, k ≤ 4 ∧ Hid ((65536 + d) / 16 ^ k = q) ∧ u = .int .u64 (q : Int) ∧ i = .int .i64 ((65 - k : Nat) : Int) ∧ Hid (wr = fw W0 b d k)) (fun u _ _ => (RowKit.intOf u).toNat)
  case atStart => exact ⟨0, 65536 + d, by omega, by show _ = _; simp, by simp, by simp, rfl⟩
  case round =>
    obtain ⟨k, q, hk, hq, rfl, rfl, hwr⟩ := hrel
    obtain ⟨us, hus, hh, hd4⟩ := fw_heap (d := d) HB0.out HSZ.out k hk
    rw [← hwr.out] at hh
    by_cases h16 : 16 ≤ q
    · have hk3 : k < 4 := by
        rcases Nat.lt_or_ge k 4 with h | h
        · exact h
        · have e : k = 4 := by omega
          have h2 := hq.out
          rw [e] at h2
          exfalso
          omega
      have hqb : q ≤ 131071 := by
        rw [← hq.out]
        exact Nat.le_trans (Nat.div_le_self _ _) (by omega)
      have hi16 : (16 : Int) ≤ (q : Int) := by omega
      have hsub : IntKind.i64.wrap (((65 - k : Nat) : Int) - 1) = ((64 - k : Nat) : Int) := by rw [IntWalk.i64_in _ (by omega)]; omega
      have hand : bits BinOp.and IntKind.u64 (q : Int) 15 = ((q % 16 : Nat) : Int) := by
        have := bits_and_u64_nat q 15 (by omega) (by omega)
        rw [show q &&& 15 = q % 16 from Nat.and_two_pow_sub_one_eq_mod q 4] at this
        exact this
      obtain ⟨x, hx⟩ : ∃ x, q % 16 = x := ⟨_, rfl⟩
      rw [hx] at hand
      have hx16 : x < 16 := by omega
      have c0 : wr.cell? ⟨b, 64 - k, none⟩ = some us[64 - k] := cell_at hh (Array.getElem?_eq_getElem (by omega))
      have f0 : wr.frozen? ⟨b, 64 - k, none⟩ = false := by simp [World.frozen?, hh]
      clear hh hd4
      go_wp2_with fail
      go_roundw
      case rel =>
        refine ⟨k + 1, q / 16, by omega, ?_, by simp, by rw [show 65 - (k + 1) = 64 - k by omega], ?_⟩
        · show _ = _
          rw [Nat.pow_succ, ← Nat.div_div_eq_div_mul, hq.out]
        · show _ = _
          rw [hwr.out]
          show _ = (fw W0 b d k).setCell ⟨b, 64 - k, none⟩ (.int .u8 ((hxD ((65536 + d) / 16 ^ k % 16)).toNat : Int))
          rw [hq.out, hx, dig16 hx16]
      case measure => simp [RowKit.intOf]; omega
    · clear hh
      have hi16 : ¬ (16 : Int) ≤ (q : Int) := by omega
      have hk4 : k = 4 := by
        rcases Nat.lt_or_ge k 4 with h | h
        · exfalso
          have h2 := hq.out
          have h3 : k = 0 ∨ k = 1 ∨ k = 2 ∨ k = 3 := by omega
          rcases h3 with e | e | e | e <;> rw [e] at h2 <;> omega
        · omega
      have hq1 : q = 1 := by
        have h2 := hq.out
        rw [hk4] at h2
        omega
      subst hk4 hq1
      obtain ⟨us, hus, hh, hd4⟩ := fw_heap (d := d) HB0.out HSZ.out 4 (by omega)
      rw [← hwr.out] at hh
      have hnf : ∀ i, wr.frozen? ⟨b, i, none⟩ = false := fun i => by simp [World.frozen?, hh]
      have c60 : wr.cell? ⟨b, 60, none⟩ = some us[60] := cell_at hh (Array.getElem?_eq_getElem (by omega))
      have f60 := hnf 60
      have hset := set_page (i := 60) (.int .u8 (49 : Int)) hh
      have hcv : (convert 38 9 (.slice (some ⟨b, 60, none⟩) 5 5)).run Tryz.prog (wr.setCell ⟨b, 60, none⟩ (.int .u8 49)) = .ok (.string ⟨(49 :: (dg4 d).map hxD).toArray⟩) (wr.setCell ⟨b, 60, none⟩ (.int .u8 49)) := by
        refine run_convert_bytes_back _ _ _ _ ⟨b, 60, none⟩ 5 (49 :: (dg4 d).map hxD) Tryz.underlying38 Tryz.underlying5 Tryz.underlying9 (fun j hj => ?_)
        have hj5 : j < 5 := hj
        rw [show (⟨b, 60, none⟩ : Addr).add j = ⟨b, 60 + j, none⟩ from by unfold Addr.add; split <;> simp_all]
        refine cell_at hset ?_
        show (us.set! 60 (.int .u8 49))[60 + j]? = _
        have h0 := hd4 0 (by omega)
        have h1 := hd4 1 (by omega)
        have h2 := hd4 2 (by omega)
        have h3 := hd4 3 (by omega)
        have hjc : j = 0 ∨ j = 1 ∨ j = 2 ∨ j = 3 ∨ j = 4 := by omega
        have e0 : (65536 + d) / 16 ^ 0 % 16 = d % 16 := by omega
        have e1 : (65536 + d) / 16 ^ 1 % 16 = d / 16 % 16 := by omega
        have e2 : (65536 + d) / 16 ^ 2 % 16 = d / 256 % 16 := by omega
        have e3 : (65536 + d) / 16 ^ 3 % 16 = d / 4096 := by omega
        rw [e0] at h0
        rw [e1] at h1
        rw [e2] at h2
        rw [e3] at h3
        rcases hjc with rfl | rfl | rfl | rfl | rfl
        · simp [Array.getElem?_setIfInBounds, hus]
        · simp only [Array.set!_eq_setIfInBounds, Array.getElem?_setIfInBounds]; rw [if_neg (by omega)]; exact h3
        · simp only [Array.set!_eq_setIfInBounds, Array.getElem?_setIfInBounds]; rw [if_neg (by omega)]; exact h2
        · simp only [Array.set!_eq_setIfInBounds, Array.getElem?_setIfInBounds]; rw [if_neg (by omega)]; exact h1
        · simp only [Array.set!_eq_setIfInBounds, Array.getElem?_setIfInBounds]; rw [if_neg (by omega)]; exact h0
      have hbel : Below b w (wr.setCell ⟨b, 60, none⟩ (.int .u8 49)) := by
        rw [hwr.out]
        exact (HBEL.out.trans (fw_below (Nat.le_refl _) 4)).setCell (p := ⟨b, 60, none⟩) (Nat.le_refl _) _
      have hdg : ∀ hx : 1 < (⟨#[48, 49, 50, 51, 52, 53, 54, 55, 56, 57, 97, 98, 99, 100, 101, 102, 103, 104, 105, 106, 107, 108, 109, 110, 111, 112, 113, 114, 115, 116, 117, 118, 119, 120, 121, 122]⟩ : ByteArray).size, ((⟨#[48, 49, 50, 51, 52, 53, 54, 55, 56, 57, 97, 98, 99, 100, 101, 102, 103, 104, 105, 106, 107, 108, 109, 110, 111, 112, 113, 114, 115, 116, 117, 118, 119, 120, 121, 122]⟩ : ByteArray)[1].toNat : Int) = 49 := fun _ => rfl
      have HH := Lib.hid hh
      have HD := Lib.hid hd4
      have HBL := Lib.hid hbel
      clear hh hd4 hset hbel
      go_wp2_with fail
      go_ret2
      exact ⟨rfl, by rw [HBB.out]; exact HBL.out⟩

set_option maxRecDepth 100000 in
set_option maxHeartbeats 1000000 in
theorem formatInt_c (d : Nat) (hd : d < 65536) (w : World) (ht : w.cell? ⟨5, 15, none⟩ = some (.int .u8 4)) :
    Calls Tryz.prog 124 #[.int .i64 ((65536 + d : Nat) : Int), .int .i64 16] w fun e w' => e = .returned (.string ⟨(49 :: (dg4 d).map hxD).toArray⟩) ∧ Below w.heap.size w w' := by
  have hin : Calls Tryz.prog 144 #[.int .i64 ((65536 + d : Nat) : Int), .int .i64 16] w fun e w' => e = .returned (.string ⟨(49 :: (dg4 d).map hxD).toArray⟩) ∧ Below w.heap.size w w' := by
    have hb := fBits_c d hd w ht
    have hw : IntKind.u64.wrap ((65536 + d : Nat) : Int) = ((65536 + d : Nat) : Int) := IntWalk.u64_in _ (by omega)
    obtain ⟨q, hq⟩ : ∃ q, 65536 + d = q := ⟨_, rfl⟩
    rw [hq] at hb hw ⊢
    have hq0 : ¬ (q : Int) < 0 := by omega
    go_enter Tryz.func144, Tryz.ntmps144
    go_wp2_with fail
    refine hb.mono ?_
    rintro e w1 ⟨rfl, hb1⟩
    go_wp2_with fail
    go_ret
    exact ⟨rfl, hb1⟩
  go_enter Tryz.func124, Tryz.ntmps124
  go_wp2_with fail
  refine hin.mono ?_
  rintro e w1 ⟨rfl, hb⟩
  go_wp2_with fail
  go_ret
  exact ⟨rfl, hb⟩

theorem coded_str (n : Nat) : (⟨#[92, 117]⟩ : ByteArray) ++ (⟨(49 :: (dg4 n).map hxD).toArray⟩ : ByteArray).extract 1 ((dg4 n).length + 1) = ⟨(codedL n).toArray⟩ := by
  apply ByteArray.ext
  rw [ByteArray.data_append, ByteArray.data_extract]
  simp [codedL, dg4]
set_option maxRecDepth 100000 in
set_option maxHeartbeats 1000000 in
theorem pcoded_c (n : Nat) (hn : n < 65536) (w : World) (ht : w.cell? ⟨5, 15, none⟩ = some (.int .u8 4)) :
    Calls Tryz.prog 89 #[.int .i32 (n : Int)] w fun e w' => e = .returned (.string ⟨(codedL n).toArray⟩) ∧ Below w.heap.size w w' := by
  have hf := formatInt_c n hn w ht
  have hw : IntKind.i64.wrap (n : Int) = (n : Int) := IntWalk.i64_in _ (by omega)
  have hw2 : IntKind.i64.wrap (65536 + (n : Int)) = ((65536 + n : Nat) : Int) := by rw [IntWalk.i64_in _ (by omega)]; omega
  have hw3 : IntKind.i64.wrap ((n : Int) + 65536) = ((65536 + n : Nat) : Int) := by rw [IntWalk.i64_in _ (by omega)]; omega
  obtain ⟨q, hq⟩ : ∃ q, 65536 + n = q := ⟨_, rfl⟩
  rw [hq] at hf hw2 hw3
  clear hq
  go_enter Tryz.func89, Tryz.ntmps89
  go_wp2_with fail
  refine hf.mono ?_
  rintro e w1 ⟨rfl, hb1⟩
  go_wp2_with fail
  go_ret
  exact ⟨by rw [coded_str]; rfl, hb1⟩
end Go.Proofs.YtcanfiaooabocaaGreatDoor
