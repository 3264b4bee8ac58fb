/-
  Contracts of the reference's Align, opposite and Sum of numbers by their digits.
-/
import Derived.Test.YtnlkcjfedomcgaaGreatDoorDrck
set_option linter.unusedVariables false
set_option linter.unusedSimpArgs false
namespace Go.Proofs.YtnlkcjfedomcgaaGreatDoor
open Go.RowKit

theorem set_blk {w : World} {b i : Nat} {vs us : Array Value} {t : TypeId} {v : Value} (h : w.heap[b]? = some (.cells vs t)) (hu : vs.setIfInBounds i v = us) : (w.setCell ⟨b, i, none⟩ v).heap[b]? = some (.cells us t) := by
  rw [← hu]; exact set_cells h v

set_option maxRecDepth 100000 in
set_option maxHeartbeats 4000000 in
theorem Align_c {S : Nat → Prop} {n m c d : Nat} {A B : Option Addr} {ds es : List Nat} (na nb : Bool) (e1 e2 lo : Int) (P1 P2 : Nat) (w : World) (ha : RdI w S A n ds) (hb : RdI w S B m es) (hS : ∀ b, S b → b < w.heap.size) (hd : DCan ds) (he : DCan es) (hn : n ≤ 10000) (hm : m ≤ 10000)
    (hx1 : -1000 ≤ e1 ∧ e1 ≤ 1000) (hx2 : -1000 ≤ e2 ∧ e2 ≤ 1000) (hlo : lo = min e1 e2) (hp1 : e1 - lo = (P1 : Int)) (hp2 : e2 - lo = (P2 : Int)) :
    Calls Tryz.prog 117 #[nv na A n c e1, nv nb B m d e2] w fun e w' => ∃ A1 n1 c1 os A2 n2 c2 us, e = .returned (.tuple #[nv na A1 n1 c1 lo, nv nb A2 n2 c2 lo]) ∧ ResI w' w.heap.size A1 n1 c1 os ∧ ResI w' w.heap.size A2 n2 c2 us ∧ DCan os ∧ DCan us ∧
      dval os = dval ds * 10 ^ P1 ∧ dval us = dval es * 10 ^ P2 ∧ n1 ≤ 12000 ∧ n2 ≤ 12000 ∧ Below w.heap.size w w' := by
  obtain ⟨hxa, hxb⟩ := hx1
  obtain ⟨hya, hyb⟩ := hx2
  have hP1 : P1 ≤ 2000 := by omega
  have hP2 : P2 ≤ 2000 := by omega
  have hlo1 : -1000 ≤ lo := by omega
  have hlo2 : lo ≤ 1000 := by omega
  have hmin : min e1 e2 = lo := hlo.symm
  have HP1 := Lib.hid hp1
  have HP2 := Lib.hid hp2
  have HD := Lib.hid hd
  have HE := Lib.hid he
  obtain ⟨m0, m1, m2, m3⟩ := four_new w (.cells #[.bool na, .slice A n c, .int .i64 e1] 62) (.cells #[.bool nb, .slice B m d, .int .i64 e2] 62) (.cells #[.bool false, .slice none 0 0, .int .i64 0] 62) (.cells #[.bool false, .slice none 0 0, .int .i64 0] 62)
  have hW : Below w.heap.size w ((((w.alloc (.cells #[.bool na, .slice A n c, .int .i64 e1] 62)).alloc (.cells #[.bool nb, .slice B m d, .int .i64 e2] 62)).alloc (.cells #[.bool false, .slice none 0 0, .int .i64 0] 62)).alloc (.cells #[.bool false, .slice none 0 0, .int .i64 0] 62)) :=
    ((((Below.refl _ w).alloc (Nat.le_refl _) _).alloc (by simp) _).alloc (by simp; omega) _).alloc (by simp; omega) _
  have hsz : ((((w.alloc (.cells #[.bool na, .slice A n c, .int .i64 e1] 62)).alloc (.cells #[.bool nb, .slice B m d, .int .i64 e2] 62)).alloc (.cells #[.bool false, .slice none 0 0, .int .i64 0] 62)).alloc (.cells #[.bool false, .slice none 0 0, .int .i64 0] 62)).heap.size = w.heap.size + 4 := by simp
  have HM0 := Lib.hid m0
  have HM1 := Lib.hid m1
  have HM2 := Lib.hid m2
  have HM3 := Lib.hid m3
  have HMIN := Lib.hid hmin
  clear hd he hlo hp1 hp2 m0 m1 m2 m3 hmin
  unfold nv
  go_enter Tryz.func117, Tryz.ntmps117
  have hmin := HMIN.out
  have hp1 := HP1.out
  go_wp2_with fail
  have m0 := HM0.out
  have m1 := HM1.out
  have m2 := HM2.out
  have m3 := HM3.out
  clear HM0 HM1 HM2 HM3 hmin hp1
  generalize ((((w.alloc (.cells #[.bool na, .slice A n c, .int .i64 e1] 62)).alloc (.cells #[.bool nb, .slice B m d, .int .i64 e2] 62)).alloc (.cells #[.bool false, .slice none 0 0, .int .i64 0] 62)).alloc (.cells #[.bool false, .slice none 0 0, .int .i64 0] 62)) = W at m0 m1 m2 m3 hW hsz ⊢
  refine (Shift_c (c := c) P1 W (ha.below hW hS) (fun b h => by have := hS b h; omega) HD.out (by omega) (by omega)).mono ?_
  rintro e w1 ⟨A1, n1, c1, os, rfl, hr1, ho1, hv1, hn1, hb1⟩
  have m0 := held hb1 (by omega) m0
  have m1 := held hb1 (by omega) m1
  have m2 := held hb1 (by omega) m2
  have m3 := held hb1 (by omega) m3
  have hw1 := hW.trans (hb1.mono (by omega))
  have hs1 := hb1.size
  have HV1 := Lib.hid hv1
  have HO1 := Lib.hid ho1
  clear hv1 ho1
  obtain ⟨p0, p1, p2⟩ := box3_of m0
  obtain ⟨p3, p4, p5⟩ := box3_of m1
  have f1 := frozen_of 1 m0
  have f2 := frozen_of 2 m0
  have hp2 := HP2.out
  go_wp2_with fail
  have m0 := set_blk (v := .int .i64 lo) (i := 2) (set_blk (v := .slice A1 n1 c1) (i := 1) m0 rfl) rfl
  have m1 := set_other (i := 2) (set_other (i := 1) m1 (show w.heap.size + 1 ≠ w.heap.size by omega) (.slice A1 n1 c1)) (show w.heap.size + 1 ≠ w.heap.size by omega) (.int .i64 lo)
  have m2 := set_other (i := 2) (set_other (i := 1) m2 (show w.heap.size + 1 + 1 ≠ w.heap.size by omega) (.slice A1 n1 c1)) (show w.heap.size + 1 + 1 ≠ w.heap.size by omega) (.int .i64 lo)
  have m3 := set_other (i := 2) (set_other (i := 1) m3 (show w.heap.size + 1 + 1 + 1 ≠ w.heap.size by omega) (.slice A1 n1 c1)) (show w.heap.size + 1 + 1 + 1 ≠ w.heap.size by omega) (.int .i64 lo)
  have hlW : w.heap.size < W.heap.size := by omega
  have hr1 := (hr1.setOther (p := ⟨w.heap.size, 1, none⟩) hlW (.slice A1 n1 c1)).setOther (p := ⟨w.heap.size, 2, none⟩) hlW (.int .i64 lo)
  have hw1 := (hw1.setCell (p := ⟨w.heap.size, 1, none⟩) (Nat.le_refl _) (.slice A1 n1 c1)).setCell (p := ⟨w.heap.size, 2, none⟩) (Nat.le_refl _) (.int .i64 lo)
  have hs1 : W.heap.size ≤ ((w1.setCell ⟨w.heap.size, 1, none⟩ (.slice A1 n1 c1)).setCell ⟨w.heap.size, 2, none⟩ (.int .i64 lo)).heap.size := by simpa [World.setCell] using hs1
  clear p0 p1 p2 p3 p4 p5 f1 f2 hp2 hb1
  generalize ((w1.setCell ⟨w.heap.size, 1, none⟩ (.slice A1 n1 c1)).setCell ⟨w.heap.size, 2, none⟩ (.int .i64 lo)) = W1 at m0 m1 m2 m3 hr1 hw1 hs1 ⊢
  refine (Shift_c (c := d) P2 W1 (hb.below hw1 hS) (fun b h => by have := hS b h; omega) HE.out (by omega) (by omega)).mono ?_
  rintro e w2 ⟨A2, n2, c2, us, rfl, hr2, ho2, hv2, hn2, hb2⟩
  have m0 := held hb2 (by omega) m0
  have m1 := held hb2 (by omega) m1
  have m2 := held hb2 (by omega) m2
  have m3 := held hb2 (by omega) m3
  have hr1 := hr1.below hb2 (Nat.le_refl _)
  have hw2 := hw1.trans (hb2.mono hw1.size)
  have hs2 := hb2.size
  have HV2 := Lib.hid hv2
  have HO2 := Lib.hid ho2
  clear hv2 ho2 hb2
  obtain ⟨p3, p4, p5⟩ := box3_of m1
  have f1 := frozen_of 1 m1
  have f2 := frozen_of 2 m1
  go_wp2
  have m1 := set_blk (v := .int .i64 lo) (i := 2) (set_blk (v := .slice A2 n2 c2) (i := 1) m1 rfl) rfl
  have m0 := set_other (i := 2) (set_other (i := 1) m0 (show w.heap.size ≠ w.heap.size + 1 by omega) (.slice A2 n2 c2)) (show w.heap.size ≠ w.heap.size + 1 by omega) (.int .i64 lo)
  have m2 := set_other (i := 2) (set_other (i := 1) m2 (show w.heap.size + 1 + 1 ≠ w.heap.size + 1 by omega) (.slice A2 n2 c2)) (show w.heap.size + 1 + 1 ≠ w.heap.size + 1 by omega) (.int .i64 lo)
  have m3 := set_other (i := 2) (set_other (i := 1) m3 (show w.heap.size + 1 + 1 + 1 ≠ w.heap.size + 1 by omega) (.slice A2 n2 c2)) (show w.heap.size + 1 + 1 + 1 ≠ w.heap.size + 1 by omega) (.int .i64 lo)
  have hl1 : w.heap.size + 1 < W.heap.size := by omega
  have hl2 : w.heap.size + 1 < W1.heap.size := by omega
  have hr1 := (hr1.setOther (p := ⟨w.heap.size + 1, 1, none⟩) hl1 (.slice A2 n2 c2)).setOther (p := ⟨w.heap.size + 1, 2, none⟩) hl1 (.int .i64 lo)
  have hr2 := (hr2.setOther (p := ⟨w.heap.size + 1, 1, none⟩) hl2 (.slice A2 n2 c2)).setOther (p := ⟨w.heap.size + 1, 2, none⟩) hl2 (.int .i64 lo)
  have hw2 := (hw2.setCell (p := ⟨w.heap.size + 1, 1, none⟩) (by simp) (.slice A2 n2 c2)).setCell (p := ⟨w.heap.size + 1, 2, none⟩) (by simp) (.int .i64 lo)
  clear p3 p4 p5 f1 f2
  generalize ((w2.setCell ⟨w.heap.size + 1, 1, none⟩ (.slice A2 n2 c2)).setCell ⟨w.heap.size + 1, 2, none⟩ (.int .i64 lo)) = W2 at m0 m1 m2 m3 hr1 hr2 hw2 ⊢
  obtain ⟨p0, p1, p2⟩ := box3_of m0
  obtain ⟨p3, p4, p5⟩ := box3_of m1
  obtain ⟨y0, y1, y2⟩ := box3_of m2
  obtain ⟨y3, y4, y5⟩ := box3_of m3
  have f0 := frozen_of 0 m2
  have f1 := frozen_of 1 m2
  have f2 := frozen_of 2 m2
  have f3 := frozen_of 0 m3
  have f4 := frozen_of 1 m3
  have f5 := frozen_of 2 m3
  obtain ⟨P, hP⟩ : ∃ P : World → Prop, ∀ V, P V ↔ (ResI V W.heap.size A1 n1 c1 os ∧ ResI V W1.heap.size A2 n2 c2 us ∧ Below w.heap.size w V) := ⟨_, fun _ => Iff.rfl⟩
  have hP0 : P W2 := (hP _).2 ⟨hr1, hr2, hw2⟩
  have st2 : ∀ V k u, P V → P (V.setCell ⟨w.heap.size + 1 + 1, k, none⟩ u) := fun V k u h => by
    obtain ⟨h1, h2, h3⟩ := (hP _).1 h
    exact (hP _).2 ⟨h1.setOther (p := ⟨w.heap.size + 1 + 1, k, none⟩) (show w.heap.size + 1 + 1 < W.heap.size by omega) _, h2.setOther (p := ⟨w.heap.size + 1 + 1, k, none⟩) (show w.heap.size + 1 + 1 < W1.heap.size by omega) _, h3.setCell (p := ⟨w.heap.size + 1 + 1, k, none⟩) (show w.heap.size ≤ w.heap.size + 1 + 1 by omega) _⟩
  have st3 : ∀ V k u, P V → P (V.setCell ⟨w.heap.size + 1 + 1 + 1, k, none⟩ u) := fun V k u h => by
    obtain ⟨h1, h2, h3⟩ := (hP _).1 h
    exact (hP _).2 ⟨h1.setOther (p := ⟨w.heap.size + 1 + 1 + 1, k, none⟩) (show w.heap.size + 1 + 1 + 1 < W.heap.size by omega) _, h2.setOther (p := ⟨w.heap.size + 1 + 1 + 1, k, none⟩) (show w.heap.size + 1 + 1 + 1 < W1.heap.size by omega) _, h3.setCell (p := ⟨w.heap.size + 1 + 1 + 1, k, none⟩) (show w.heap.size ≤ w.heap.size + 1 + 1 + 1 by omega) _⟩
  have std : ∀ V, P V → P V.drew := fun V h => by
    obtain ⟨h1, h2, h3⟩ := (hP _).1 h
    exact (hP _).2 ⟨h1.keep (fun _ _ => rfl), h2.keep (fun _ _ => rfl), only_drewB h3⟩
  have hn1b : n1 ≤ 12000 := by omega
  have hn2b : n2 ≤ 12000 := by omega
  have hWW : w.heap.size ≤ W.heap.size := by omega
  have hWW1 : w.heap.size ≤ W1.heap.size := by omega
  have mk : ∀ V, P V → ∃ A1' n1' c1' os' A2' n2' c2' us', Ending.returned (.tuple #[.agg #[.bool na, .slice A1 n1 c1, .int .i64 lo], .agg #[.bool nb, .slice A2 n2 c2, .int .i64 lo]]) = Ending.returned (.tuple #[.agg #[.bool na, .slice A1' n1' c1', .int .i64 lo], .agg #[.bool nb, .slice A2' n2' c2', .int .i64 lo]]) ∧ ResI V w.heap.size A1' n1' c1' os' ∧ ResI V w.heap.size A2' n2' c2' us' ∧ DCan os' ∧ DCan us' ∧
      dval os' = dval ds * 10 ^ P1 ∧ dval us' = dval es * 10 ^ P2 ∧ n1' ≤ 12000 ∧ n2' ≤ 12000 ∧ Below w.heap.size w V := fun V h => by
    obtain ⟨h1, h2, h3⟩ := (hP _).1 h
    exact ⟨A1, n1, c1, os, A2, n2, c2, us, rfl, h1.more hWW, h2.more hWW1, HO1.out, HO2.out, by rw [HV1.out, Nat.mul_comm]; rfl, by rw [HV2.out, Nat.mul_comm]; rfl, hn1b, hn2b, h3⟩
  have HP0 := Lib.hid hP0
  have ST2 := Lib.hid st2
  have ST3 := Lib.hid st3
  have STD := Lib.hid std
  have MK := Lib.hid mk
  clear hP hP0 st2 st3 std mk hr1 hr2 hw2
  go_region
  all_goals
    go_wp2
    refine bodyPost_ret (v := .tuple #[.agg #[.bool na, .slice A1 n1 c1, .int .i64 lo], .agg #[.bool nb, .slice A2 n2 c2, .int .i64 lo]]) (by simp [results, Tryz.results117, go_sem, y0, y1, y2, y3, y4, y5]) rfl ?_
    with_reducible refine MK.out _ ?_
    repeat (first | with_reducible exact HP0.out | with_reducible refine STD.out _ ?_ | with_reducible refine ST2.out _ _ _ ?_ | with_reducible refine ST3.out _ _ _ ?_)

set_option maxRecDepth 100000 in
set_option maxHeartbeats 1000000 in
theorem ropp_c {n c : Nat} {A : Option Addr} {ds : List Nat} (neg : Bool) (exp : Int) (w : World) (hl : ds.length = n) :
    Calls Tryz.prog 68 #[nv neg A n c exp] w fun e w' => e = .returned (nv (ops neg ds) A n c exp) ∧ Below w.heap.size w w' := by
  have HL := Lib.hid hl
  unfold nv
  obtain ⟨r, hr⟩ : ∃ r, Hid (ops neg ds = r) := ⟨_, Lib.hid rfl⟩
  rw [hr.out]
  have hcase : neg = true ∧ r = false ∨ neg = false ∧ n = 0 ∧ r = false ∨ neg = false ∧ 0 < n ∧ r = true := by
    have h1 := hr.out
    unfold ops at h1
    cases neg
    · by_cases h : ds = []
      · refine .inr (.inl ⟨rfl, ?_, ?_⟩)
        · rw [← HL.out, h]; rfl
        · rw [← h1, h]; rfl
      · refine .inr (.inr ⟨rfl, ?_, ?_⟩)
        · rw [← HL.out]; exact List.length_pos_iff.2 h
        · rw [← h1, decide_eq_true h]; rfl
    · exact .inl ⟨rfl, h1.symm⟩
  clear hl
  have hb0 : ∀ o1 o2, Below w.heap.size w ((w.alloc o1).alloc o2) := fun o1 o2 => ((Below.refl _ w).alloc (Nat.le_refl _) o1).alloc (by simp) o2
  rcases hcase with ⟨rfl, rfl⟩ | ⟨rfl, rfl, rfl⟩ | ⟨rfl, hn0, rfl⟩
  · go_enter Tryz.func68, Tryz.ntmps68
    go_wp2
    refine bodyPost_ret (v := .agg #[.bool false, .slice A n c, .int .i64 exp]) (by simp [results, Tryz.results68, go_sem]) rfl ?_
    exact ⟨rfl, hb0 _ _⟩
  · go_enter Tryz.func68, Tryz.ntmps68
    go_wp2
    refine bodyPost_ret (v := .agg #[.bool false, .slice A 0 c, .int .i64 exp]) (by simp [results, Tryz.results68, go_sem]) rfl ?_
    exact ⟨rfl, hb0 _ _⟩
  · have hnb : decide ((n : Int) > 0) = true := decide_eq_true (by omega)
    go_enter Tryz.func68, Tryz.ntmps68
    go_wp2
    refine bodyPost_ret (v := .agg #[.bool true, .slice A n c, .int .i64 exp]) (by simp [results, Tryz.results68, go_sem]) rfl ?_
    exact ⟨rfl, hb0 _ _⟩
end Go.Proofs.YtnlkcjfedomcgaaGreatDoor
