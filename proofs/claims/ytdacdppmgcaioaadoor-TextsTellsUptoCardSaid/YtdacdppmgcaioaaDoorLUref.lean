/-
  Contracts of the reference's may and Octets.
-/
import Derived.Test.YtdacdppmgcaioaaDoorLUtextb
import Derived.Deep.QuietTactic
import Derived.BigQuiet
set_option linter.unusedVariables false
set_option linter.unusedSimpArgs false
namespace Go.Proofs.YtdacdppmgcaioaaDoor
open Go.RowKit Go.Lib

theorem may_c (z : Int) (w : World) : Calls Tryd.prog 92 #[.int .i64 z] w fun e w' => e = .returned (.bool (decide (isCh z))) ∧ w' = w := by
  by_cases h0 : z < 0
  · rw [show decide (isCh z) = false by rw [decide_eq_false_iff_not]; unfold isCh; omega]
    go_enter Tryd.func92, Tryd.ntmps92
    go_wp2
    go_ret
    exact ⟨rfl, rfl⟩
  by_cases h1 : 1114111 < z
  · rw [show decide (isCh z) = false by rw [decide_eq_false_iff_not]; unfold isCh; omega]
    have h0 : 0 ≤ z := by omega
    go_enter Tryd.func92, Tryd.ntmps92
    go_wp2
    go_ret
    exact ⟨rfl, rfl⟩
  have g0 : 0 ≤ z := by omega
  have g1 : z ≤ 1114111 := by omega
  clear h0 h1
  by_cases h2 : z < 55296
  · rw [show decide (isCh z) = true by rw [decide_eq_true_eq]; unfold isCh; omega]
    go_enter Tryd.func92, Tryd.ntmps92
    go_wp2
    go_ret
    exact ⟨rfl, rfl⟩
  have g2 : 55296 ≤ z := by omega
  clear h2
  by_cases h3 : 57343 < z
  · rw [show decide (isCh z) = true by rw [decide_eq_true_eq]; unfold isCh; omega]
    go_enter Tryd.func92, Tryd.ntmps92
    go_wp2
    go_ret
    exact ⟨rfl, rfl⟩
  · rw [show decide (isCh z) = false by rw [decide_eq_false_iff_not]; unfold isCh; omega]
    have g3 : z ≤ 57343 := by omega
    clear h3
    go_enter Tryd.func92, Tryd.ntmps92
    go_wp2
    go_ret
    exact ⟨by simp; omega, rfl⟩

theorem RowV.lit (w : World) (t : TypeId) (vs : List Value) (n : Nat) (hn : vs.length = n) (hm : n ≤ 4294967296) : RowV (w.alloc (.cells vs.toArray t)) w.heap.size t (some ⟨w.heap.size, 0, none⟩) n n vs := by
  refine ⟨hn, ?_⟩
  have h := World.ownsRow_lit (base := w.heap.size) (e := t) (size := 1) w vs.toArray n (Nat.le_refl _) (by unfold maxLen; omega) (by simp [hn])
  simpa using h

set_option maxRecDepth 1000000 in
theorem Octets_c (z : Int) (w : World) (hz : isCh z) : Calls Tryd.prog 77 #[.int .i64 z] w fun e w' => ∃ n, e = .returned (.slice (some ⟨w.heap.size, 0, none⟩) n n) ∧ RowV w' w.heap.size 5 (some ⟨w.heap.size, 0, none⟩) n n (bs8 (encodeRune z)) ∧ Below w.heap.size w w' := by
  unfold isCh at hz
  obtain ⟨k, rfl⟩ : ∃ k : Nat, z = (k : Int) := ⟨z.toNat, by omega⟩
  rw [← runeCells_bs8]
  unfold runeCells
  by_cases h1 : k < 128
  · have g1 : (k : Int) < 128 := by omega
    rw [encodeRuneZ_one (by omega) (by omega)]
    have hw : IntKind.u8.wrap (k : Int) = (k : Int) := IntWalk.u8_in _ (by omega)
    go_enter Tryd.func77, Tryd.ntmps77
    go_wp2
    go_ret
    exact ⟨1, rfl, RowV.lit w 5 [.int .u8 (k : Int)] 1 rfl (by omega), (Below.refl _ _).alloc (Nat.le_refl _) _⟩
  have g1 : (128 : Int) ≤ (k : Int) := by omega
  by_cases h2 : k < 2048
  · have g2 : (k : Int) < 2048 := by omega
    rw [encodeRuneZ_two (by omega) (by omega)]
    have hw1 : IntKind.u8.wrap (192 + (k : Int) / 64) = 192 + (k : Int) / 64 := IntWalk.u8_in _ (by omega)
    have hw2 : IntKind.u8.wrap (128 + (k : Int) % 64) = 128 + (k : Int) % 64 := IntWalk.u8_in _ (by omega)
    go_enter Tryd.func77, Tryd.ntmps77
    go_wp2
    go_ret
    exact ⟨2, rfl, RowV.lit w 5 [.int .u8 (192 + (k : Int) / 64), .int .u8 (128 + (k : Int) % 64)] 2 rfl (by omega), (Below.refl _ _).alloc (Nat.le_refl _) _⟩
  have g2 : (2048 : Int) ≤ (k : Int) := by omega
  have gz : (k : Int) ≤ 1114111 := by omega
  have htm : ∀ a b : Int, 0 ≤ a → 0 < b → a.tmod b = a % b := fun a b h1 h2 => Int.tmod_eq_emod_of_nonneg h1
  have htd : ∀ a b : Int, 0 ≤ a → 0 < b → a.tdiv b = a / b := fun a b h1 h2 => Int.tdiv_eq_ediv_of_nonneg h1
  obtain ⟨q2, hq2⟩ : ∃ q, q = (k : Int) / 64 := ⟨_, rfl⟩
  obtain ⟨r2, hr2⟩ : ∃ q, q = q2 % 64 := ⟨_, rfl⟩
  obtain ⟨r3, hr3⟩ : ∃ q, q = (k : Int) % 64 := ⟨_, rfl⟩
  have hq2b : 0 ≤ q2 ∧ q2 < 20000 := by omega
  have hr2b : 0 ≤ r2 ∧ r2 < 64 := by omega
  have hr3b : 0 ≤ r3 ∧ r3 < 64 := by omega
  have d2 : (k : Int).tdiv 64 = q2 := by rw [htd _ _ (by omega) (by omega), hq2]
  have m2 : q2.tmod 64 = r2 := by rw [htm _ _ (by omega) (by omega), hr2]
  have m3 : (k : Int).tmod 64 = r3 := by rw [htm _ _ (by omega) (by omega), hr3]
  have hw2 : IntKind.u8.wrap (128 + r2) = 128 + r2 := IntWalk.u8_in _ (by omega)
  have hw3 : IntKind.u8.wrap (128 + r3) = 128 + r3 := IntWalk.u8_in _ (by omega)
  by_cases h3 : (k : Int) < 65536
  · rw [encodeRuneZ_three (by omega)]
    obtain ⟨q1, hq1⟩ : ∃ q, q = (k : Int) / 4096 := ⟨_, rfl⟩
    have hq1b : 0 ≤ q1 ∧ q1 < 16 := by omega
    have d1 : (k : Int).tdiv 4096 = q1 := by rw [htd _ _ (by omega) (by omega), hq1]
    have hw1 : IntKind.u8.wrap (224 + q1) = 224 + q1 := IntWalk.u8_in _ (by omega)
    rw [← hq1, ← hr3, show (k : Int) / 64 % 64 = r2 by rw [← hq2, hr2]]
    have hnk : 0 ≤ (k : Int) := by omega
    generalize (k : Int) = z at *
    clear hz h1 hq2 hr2 hr3 hq1 htm htd
    go_enter Tryd.func77, Tryd.ntmps77
    go_wp2
    go_ret
    exact ⟨3, rfl, RowV.lit w 5 [.int .u8 (224 + q1), .int .u8 (128 + r2), .int .u8 (128 + r3)] 3 rfl (by omega), (Below.refl _ _).alloc (Nat.le_refl _) _⟩
  · have g3 : (65536 : Int) ≤ (k : Int) := by omega
    clear h3
    rw [encodeRuneZ_four (by omega) (by omega)]
    obtain ⟨q1, hq1⟩ : ∃ q, q = (k : Int) / 262144 := ⟨_, rfl⟩
    obtain ⟨q0, hq0⟩ : ∃ q, q = (k : Int) / 4096 := ⟨_, rfl⟩
    obtain ⟨r0, hr0⟩ : ∃ q, q = q0 % 64 := ⟨_, rfl⟩
    have hq1b : 0 ≤ q1 ∧ q1 < 8 := by omega
    have hq0b : 0 ≤ q0 ∧ q0 < 20000 := by omega
    have hr0b : 0 ≤ r0 ∧ r0 < 64 := by omega
    have d1 : (k : Int).tdiv 262144 = q1 := by rw [htd _ _ (by omega) (by omega), hq1]
    have d0 : (k : Int).tdiv 4096 = q0 := by rw [htd _ _ (by omega) (by omega), hq0]
    have m0 : q0.tmod 64 = r0 := by rw [htm _ _ (by omega) (by omega), hr0]
    have hw1 : IntKind.u8.wrap (240 + q1) = 240 + q1 := IntWalk.u8_in _ (by omega)
    have hw0 : IntKind.u8.wrap (128 + r0) = 128 + r0 := IntWalk.u8_in _ (by omega)
    rw [← hq1, ← hr3, show (k : Int) / 64 % 64 = r2 by rw [← hq2, hr2], show (k : Int) / 4096 % 64 = r0 by rw [← hq0, hr0]]
    have hnk : 0 ≤ (k : Int) := by omega
    generalize (k : Int) = z at *
    clear hz h1 hq2 hr2 hr3 hq1 hq0 hr0 htm htd
    go_enter Tryd.func77, Tryd.ntmps77
    go_wp2
    go_ret
    exact ⟨4, rfl, RowV.lit w 5 [.int .u8 (240 + q1), .int .u8 (128 + r0), .int .u8 (128 + r2), .int .u8 (128 + r3)] 4 rfl (by omega), (Below.refl _ _).alloc (Nat.le_refl _) _⟩
end Go.Proofs.YtdacdppmgcaioaaDoor
