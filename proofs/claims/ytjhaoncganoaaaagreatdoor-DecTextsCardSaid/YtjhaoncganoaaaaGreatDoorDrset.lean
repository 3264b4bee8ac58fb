/-
  Contract of the reference's Settle, in plain words.
-/
import Derived.Test.YtjhaoncganoaaaaGreatDoorDsett
import Derived.Test.YtjhaoncganoaaaaGreatDoorNrefe
set_option linter.unusedVariables false
set_option linter.unusedSimpArgs false
namespace Go.Proofs.YtjhaoncganoaaaaGreatDoor
open Go.RowKit

set_option maxRecDepth 100000 in
set_option maxHeartbeats 2000000 in
theorem RSettle_c {S : Nat → Prop} {n c : Nat} {A : Option Addr} {xs : List Nat} (neg : Bool) (exp : Int) (w : World) (ha : Rd w S A n xs) (hS : ∀ b, S b → b < w.heap.size) (hn : n ≤ 9223372036854775807) :
    Calls Tryz.prog 16 #[.bool neg, .slice A n c, .int .i64 exp] w fun e w' => SetT e w' w.heap.size neg xs exp ∧ Below w.heap.size w w' := by
  have hW := (Below.refl _ w).alloc (Nat.le_refl _) (.cells #[.bool false, .slice none 0 0, .int .i64 0] 24)
  have m0 := World.alloc_heap_new w (.cells #[.bool false, .slice none 0 0, .int .i64 0] 24)
  have hsz : (w.alloc (.cells #[.bool false, .slice none 0 0, .int .i64 0] 24)).heap.size = w.heap.size + 1 := by simp
  have HM0 := Lib.hid m0
  clear m0
  obtain ⟨E, hE⟩ : ∃ E : Nat, Hid (seE xs exp = E) := ⟨_, Lib.hid rfl⟩
  go_enter Tryz.func16, Tryz.ntmps16
  go_wp2_with fail
  have m0 := HM0.out
  clear HM0
  generalize (w.alloc (.cells #[.bool false, .slice none 0 0, .int .i64 0] 24)) = W at m0 hW hsz ⊢
  have hRW := ha.below hW hS
  have hSW : ∀ b, S b → b < W.heap.size := fun b h => by have := hS b h; omega
  have HRW := Lib.hid hRW
  refine (rCheck_c (c := c) W hRW hn).mono ?_
  rintro e w1 ⟨rfl, rfl⟩
  clear hRW
  have y0 : W.cell? ⟨w.heap.size, 0, none⟩ = some (.bool false) := cell_of m0 rfl
  have y1 : W.cell? ⟨w.heap.size, 1, none⟩ = some (.slice none 0 0) := cell_of m0 rfl
  have y2 : W.cell? ⟨w.heap.size, 2, none⟩ = some (.int .i64 0) := cell_of m0 rfl
  have f0 := frozen_of 0 m0
  have f1 := frozen_of 1 m0
  have f2 := frozen_of 2 m0
  have hend : Below w.heap.size w (((W.setCell ⟨w.heap.size, 0, none⟩ (.bool false)).setCell ⟨w.heap.size, 1, none⟩ (.slice none 0 0)).setCell ⟨w.heap.size, 2, none⟩ (.int .i64 0)) :=
    ((hW.setCell (p := ⟨w.heap.size, 0, none⟩) (Nat.le_refl _) _).setCell (p := ⟨w.heap.size, 1, none⟩) (Nat.le_refl _) _).setCell (p := ⟨w.heap.size, 2, none⟩) (Nat.le_refl _) _
  by_cases h0 : chk xs = 0
  · have hce : (((chk xs : Nat) : Int) != 0) = false := by rw [h0]; rfl
    have hlen : n ≤ 256 := by
      have := (can_of_chk HRW.out.l32 h0).2
      rw [← HRW.out.len]; exact this
    by_cases hx : -4000 ≤ exp ∧ exp ≤ 4000
    · have hE0 : Hid (E = 0) := by show _ = _; rw [← hE.out]; unfold seE; rw [if_pos h0, if_pos hx]
      obtain ⟨hx1, hx2⟩ := hx
      have hD := Digits_k (c := c) W HRW.out hSW hlen
      have HD := Lib.hid hD
      have M0 := Lib.hid m0
      have HWW := Lib.hid hW
      clear hD y0 y1 y2 f0 f1 f2 hend m0 hW h0
      go_wp2_with fail
      refine HD.out.mono ?_
      rintro e w2 ⟨A2, n2, c2, ds, rfl, hr2, hc2, hv2, hdl0, hb2⟩
      have m2 := held hb2 (by omega) M0.out
      have hlt : w.heap.size < w2.heap.size := (Array.getElem?_eq_some_iff.1 m2).1
      have hdl : n2 ≤ 100000 := by omega
      have hM := Made_c (c := c2) neg exp w2 hr2.rd (fun b h => h.2) hc2.1 hdl hr2.n_le.1 (by have := hr2.n_le.2; unfold maxLen at this; omega) (by omega)
      rw [hv2] at hM
      unfold dv nv at hM
      have HMM := Lib.hid hM
      have M2 := Lib.hid m2
      have HW2 := Lib.hid (HWW.out.trans (hb2.mono (by omega)))
      clear hM m2 hb2 hr2 hc2 hv2 hdl hdl0
      go_wp2_with fail
      refine HMM.out.mono ?_
      rintro e w3 ⟨A', n', c', rfl, hr3, hb3⟩
      have m3 := held hb3 hlt M2.out
      have y0 : w3.cell? ⟨w.heap.size, 0, none⟩ = some (.bool false) := cell_of m3 rfl
      have y1 : w3.cell? ⟨w.heap.size, 1, none⟩ = some (.slice none 0 0) := cell_of m3 rfl
      have y2 : w3.cell? ⟨w.heap.size, 2, none⟩ = some (.int .i64 0) := cell_of m3 rfl
      have f0 := frozen_of 0 m3
      have f1 := frozen_of 1 m3
      have f2 := frozen_of 2 m3
      have hw3 := HW2.out.trans (hb3.mono HW2.out.size)
      have HR3 := Lib.hid hr3
      have HW3 := Lib.hid hw3
      clear m3 hb3 hr3 hw3
      go_wp2
      refine bodyPost_ret (v := .tuple #[.agg #[.bool (stN neg (val xs) exp), .slice A' n' c', .int .i64 (stX (val xs) exp)], .int .i64 (stE (val xs) exp : Int)]) (by simp [results, Tryz.results16, go_sem, y0, y1, y2]) rfl ?_
      refine ⟨setT_of hE.out (fun h => absurd hE0.out h) (fun _ => ⟨A', n', c', rfl, ?_⟩), ?_⟩
      · exact (((HR3.out.setOther (p := ⟨w.heap.size, 0, none⟩) hlt _).setOther (p := ⟨w.heap.size, 1, none⟩) hlt _).setOther (p := ⟨w.heap.size, 2, none⟩) hlt _).more (Nat.le_of_lt hlt)
      · exact ((HW3.out.setCell (p := ⟨w.heap.size, 0, none⟩) (Nat.le_refl _) _).setCell (p := ⟨w.heap.size, 1, none⟩) (Nat.le_refl _) _).setCell (p := ⟨w.heap.size, 2, none⟩) (Nat.le_refl _) _
    · have hE0 : Hid (E = 52) := by show _ = _; rw [← hE.out]; unfold seE; rw [if_pos h0, if_neg hx]
      have hxx : exp < -4000 ∨ 4000 < exp := by omega
      clear h0 hx
      rcases hxx with hx | hx
      all_goals
        go_wp2
        refine bodyPost_ret (v := .tuple #[.agg #[.bool false, .slice none 0 0, .int .i64 0], .int .i64 52]) (by simp [results, Tryz.results16, go_sem, y0, y1, y2]) rfl ?_
        refine ⟨setT_of hE.out (fun h => by rw [hE0.out] <;> rfl) (fun h => absurd (hE0.out.symm.trans h) (by decide)), hend⟩
  · have hce : (((chk xs : Nat) : Int) != 0) = true := by rw [bne_iff_ne]; omega
    have hE0 : Hid (E = chk xs) := by show _ = _; rw [← hE.out]; unfold seE; rw [if_neg h0]
    have H0 := Lib.hid h0
    clear h0
    go_wp2
    refine bodyPost_ret (v := .tuple #[.agg #[.bool false, .slice none 0 0, .int .i64 0], .int .i64 (chk xs : Int)]) (by simp [results, Tryz.results16, go_sem, y0, y1, y2]) rfl ?_
    refine ⟨setT_of hE.out (fun h => by rw [hE0.out] <;> rfl) (fun h => absurd (hE0.out.symm.trans h) H0.out), hend⟩
end Go.Proofs.YtjhaoncganoaaaaGreatDoor
