/-
  Contracts of the reference's Align, opposite and Sum of numbers by their digits.
  Contract of the reference's Sum of two numbers by their digits.
  Contracts of the reference's Add and Sub of decimals.
  Contracts of dec.Neg and of the reference's Neg.
  Contracts of the reference's Order and Compare of decimals.
-/
import Derived.Test.YtjjpagdnjafgaaaGreatDoorKDref
import Derived.Test.YtjjpagdnjafgaaaGreatDoorKDop
import Derived.Test.YtjjpagdnjafgaaaGreatDoorKDsm
import Derived.Test.YtjjpagdnjafgaaaGreatDoorKDtold
set_option linter.unusedVariables false
set_option linter.unusedSimpArgs false
namespace Go.Proofs.YtjjpagdnjafgaaaGreatDoor
open Go.RowKit

theorem set_blk {w : World} {b i : Nat} {vs us : Array Value} {t : TypeId} {v : Value} (h : w.heap[b]? = some (.cells vs t)) (hu : vs.setIfInBounds i v = us) : (w.setCell ⟨b, i, none⟩ v).heap[b]? = some (.cells us t) := by
  rw [← hu]; exact set_cells h v

set_option maxRecDepth 100000 in
set_option maxHeartbeats 4000000 in
theorem Align_c {S : Nat → Prop} {n m c d : Nat} {A B : Option Addr} {ds es : List Nat} (na nb : Bool) (e1 e2 lo : Int) (P1 P2 : Nat) (w : World) (ha : RdI w S A n ds) (hb : RdI w S B m es) (hS : ∀ b, S b → b < w.heap.size) (hd : DCan ds) (he : DCan es) (hn : n ≤ 10000) (hm : m ≤ 10000)
    (hx1 : -1000 ≤ e1 ∧ e1 ≤ 1000) (hx2 : -1000 ≤ e2 ∧ e2 ≤ 1000) (hlo : lo = min e1 e2) (hp1 : e1 - lo = (P1 : Int)) (hp2 : e2 - lo = (P2 : Int)) :
    Calls Tryz.prog 106 #[nv na A n c e1, nv nb B m d e2] w fun e w' => ∃ A1 n1 c1 os A2 n2 c2 us, e = .returned (.tuple #[nv na A1 n1 c1 lo, nv nb A2 n2 c2 lo]) ∧ ResI w' w.heap.size A1 n1 c1 os ∧ ResI w' w.heap.size A2 n2 c2 us ∧ DCan os ∧ DCan us ∧
      dval os = dval ds * 10 ^ P1 ∧ dval us = dval es * 10 ^ P2 ∧ n1 ≤ 12000 ∧ n2 ≤ 12000 ∧ Below w.heap.size w w' := by
  obtain ⟨hxa, hxb⟩ := hx1
  obtain ⟨hya, hyb⟩ := hx2
  have hP1 : P1 ≤ 2000 := by omega
  have hP2 : P2 ≤ 2000 := by omega
  have hlo1 : -1000 ≤ lo := by omega
  have hlo2 : lo ≤ 1000 := by omega
  have hmin : min e1 e2 = lo := hlo.symm
  have HP1 := Lib.hid hp1
  have HP2 := Lib.hid hp2
  have HD := Lib.hid hd
  have HE := Lib.hid he
  obtain ⟨m0, m1, m2, m3⟩ := four_new w (.cells #[.bool na, .slice A n c, .int .i64 e1] 88) (.cells #[.bool nb, .slice B m d, .int .i64 e2] 88) (.cells #[.bool false, .slice none 0 0, .int .i64 0] 88) (.cells #[.bool false, .slice none 0 0, .int .i64 0] 88)
  have hW : Below w.heap.size w ((((w.alloc (.cells #[.bool na, .slice A n c, .int .i64 e1] 88)).alloc (.cells #[.bool nb, .slice B m d, .int .i64 e2] 88)).alloc (.cells #[.bool false, .slice none 0 0, .int .i64 0] 88)).alloc (.cells #[.bool false, .slice none 0 0, .int .i64 0] 88)) :=
    ((((Below.refl _ w).alloc (Nat.le_refl _) _).alloc (by simp) _).alloc (by simp; omega) _).alloc (by simp; omega) _
  have hsz : ((((w.alloc (.cells #[.bool na, .slice A n c, .int .i64 e1] 88)).alloc (.cells #[.bool nb, .slice B m d, .int .i64 e2] 88)).alloc (.cells #[.bool false, .slice none 0 0, .int .i64 0] 88)).alloc (.cells #[.bool false, .slice none 0 0, .int .i64 0] 88)).heap.size = w.heap.size + 4 := by simp
  have HM0 := Lib.hid m0
  have HM1 := Lib.hid m1
  have HM2 := Lib.hid m2
  have HM3 := Lib.hid m3
  have HMIN := Lib.hid hmin
  clear hd he hlo hp1 hp2 m0 m1 m2 m3 hmin
  unfold nv
  go_enter Tryz.func106, Tryz.ntmps106
  have hmin := HMIN.out
  have hp1 := HP1.out
  go_wp2_with fail
  have m0 := HM0.out
  have m1 := HM1.out
  have m2 := HM2.out
  have m3 := HM3.out
  clear HM0 HM1 HM2 HM3 hmin hp1
  generalize ((((w.alloc (.cells #[.bool na, .slice A n c, .int .i64 e1] 88)).alloc (.cells #[.bool nb, .slice B m d, .int .i64 e2] 88)).alloc (.cells #[.bool false, .slice none 0 0, .int .i64 0] 88)).alloc (.cells #[.bool false, .slice none 0 0, .int .i64 0] 88)) = W at m0 m1 m2 m3 hW hsz ⊢
  refine (Shift_c (c := c) P1 W (ha.below hW hS) (fun b h => by have := hS b h; omega) HD.out (by omega) (by omega)).mono ?_
  rintro e w1 ⟨A1, n1, c1, os, rfl, hr1, ho1, hv1, hn1, hb1⟩
  have m0 := held hb1 (by omega) m0
  have m1 := held hb1 (by omega) m1
  have m2 := held hb1 (by omega) m2
  have m3 := held hb1 (by omega) m3
  have hw1 := hW.trans (hb1.mono (by omega))
  have hs1 := hb1.size
  have HV1 := Lib.hid hv1
  have HO1 := Lib.hid ho1
  clear hv1 ho1
  obtain ⟨p0, p1, p2⟩ := box3_of m0
  obtain ⟨p3, p4, p5⟩ := box3_of m1
  have f1 := frozen_of 1 m0
  have f2 := frozen_of 2 m0
  have hp2 := HP2.out
  go_wp2_with fail
  have m0 := set_blk (v := .int .i64 lo) (i := 2) (set_blk (v := .slice A1 n1 c1) (i := 1) m0 rfl) rfl
  have m1 := set_other (i := 2) (set_other (i := 1) m1 (show w.heap.size + 1 ≠ w.heap.size by omega) (.slice A1 n1 c1)) (show w.heap.size + 1 ≠ w.heap.size by omega) (.int .i64 lo)
  have m2 := set_other (i := 2) (set_other (i := 1) m2 (show w.heap.size + 1 + 1 ≠ w.heap.size by omega) (.slice A1 n1 c1)) (show w.heap.size + 1 + 1 ≠ w.heap.size by omega) (.int .i64 lo)
  have m3 := set_other (i := 2) (set_other (i := 1) m3 (show w.heap.size + 1 + 1 + 1 ≠ w.heap.size by omega) (.slice A1 n1 c1)) (show w.heap.size + 1 + 1 + 1 ≠ w.heap.size by omega) (.int .i64 lo)
  have hlW : w.heap.size < W.heap.size := by omega
  have hr1 := (hr1.setOther (p := ⟨w.heap.size, 1, none⟩) hlW (.slice A1 n1 c1)).setOther (p := ⟨w.heap.size, 2, none⟩) hlW (.int .i64 lo)
  have hw1 := (hw1.setCell (p := ⟨w.heap.size, 1, none⟩) (Nat.le_refl _) (.slice A1 n1 c1)).setCell (p := ⟨w.heap.size, 2, none⟩) (Nat.le_refl _) (.int .i64 lo)
  have hs1 : W.heap.size ≤ ((w1.setCell ⟨w.heap.size, 1, none⟩ (.slice A1 n1 c1)).setCell ⟨w.heap.size, 2, none⟩ (.int .i64 lo)).heap.size := by simpa [World.setCell] using hs1
  clear p0 p1 p2 p3 p4 p5 f1 f2 hp2 hb1
  generalize ((w1.setCell ⟨w.heap.size, 1, none⟩ (.slice A1 n1 c1)).setCell ⟨w.heap.size, 2, none⟩ (.int .i64 lo)) = W1 at m0 m1 m2 m3 hr1 hw1 hs1 ⊢
  refine (Shift_c (c := d) P2 W1 (hb.below hw1 hS) (fun b h => by have := hS b h; omega) HE.out (by omega) (by omega)).mono ?_
  rintro e w2 ⟨A2, n2, c2, us, rfl, hr2, ho2, hv2, hn2, hb2⟩
  have m0 := held hb2 (by omega) m0
  have m1 := held hb2 (by omega) m1
  have m2 := held hb2 (by omega) m2
  have m3 := held hb2 (by omega) m3
  have hr1 := hr1.below hb2 (Nat.le_refl _)
  have hw2 := hw1.trans (hb2.mono hw1.size)
  have hs2 := hb2.size
  have HV2 := Lib.hid hv2
  have HO2 := Lib.hid ho2
  clear hv2 ho2 hb2
  obtain ⟨p3, p4, p5⟩ := box3_of m1
  have f1 := frozen_of 1 m1
  have f2 := frozen_of 2 m1
  go_wp2
  have m1 := set_blk (v := .int .i64 lo) (i := 2) (set_blk (v := .slice A2 n2 c2) (i := 1) m1 rfl) rfl
  have m0 := set_other (i := 2) (set_other (i := 1) m0 (show w.heap.size ≠ w.heap.size + 1 by omega) (.slice A2 n2 c2)) (show w.heap.size ≠ w.heap.size + 1 by omega) (.int .i64 lo)
  have m2 := set_other (i := 2) (set_other (i := 1) m2 (show w.heap.size + 1 + 1 ≠ w.heap.size + 1 by omega) (.slice A2 n2 c2)) (show w.heap.size + 1 + 1 ≠ w.heap.size + 1 by omega) (.int .i64 lo)
  have m3 := set_other (i := 2) (set_other (i := 1) m3 (show w.heap.size + 1 + 1 + 1 ≠ w.heap.size + 1 by omega) (.slice A2 n2 c2)) (show w.heap.size + 1 + 1 + 1 ≠ w.heap.size + 1 by omega) (.int .i64 lo)
  have hl1 : w.heap.size + 1 < W.heap.size := by omega
  have hl2 : w.heap.size + 1 < W1.heap.size := by omega
  have hr1 := (hr1.setOther (p := ⟨w.heap.size + 1, 1, none⟩) hl1 (.slice A2 n2 c2)).setOther (p := ⟨w.heap.size + 1, 2, none⟩) hl1 (.int .i64 lo)
  have hr2 := (hr2.setOther (p := ⟨w.heap.size + 1, 1, none⟩) hl2 (.slice A2 n2 c2)).setOther (p := ⟨w.heap.size + 1, 2, none⟩) hl2 (.int .i64 lo)
  have hw2 := (hw2.setCell (p := ⟨w.heap.size + 1, 1, none⟩) (by simp) (.slice A2 n2 c2)).setCell (p := ⟨w.heap.size + 1, 2, none⟩) (by simp) (.int .i64 lo)
  clear p3 p4 p5 f1 f2
  generalize ((w2.setCell ⟨w.heap.size + 1, 1, none⟩ (.slice A2 n2 c2)).setCell ⟨w.heap.size + 1, 2, none⟩ (.int .i64 lo)) = W2 at m0 m1 m2 m3 hr1 hr2 hw2 ⊢
  obtain ⟨p0, p1, p2⟩ := box3_of m0
  obtain ⟨p3, p4, p5⟩ := box3_of m1
  obtain ⟨y0, y1, y2⟩ := box3_of m2
  obtain ⟨y3, y4, y5⟩ := box3_of m3
  have f0 := frozen_of 0 m2
  have f1 := frozen_of 1 m2
  have f2 := frozen_of 2 m2
  have f3 := frozen_of 0 m3
  have f4 := frozen_of 1 m3
  have f5 := frozen_of 2 m3
  obtain ⟨P, hP⟩ : ∃ P : World → Prop, ∀ V, P V ↔ (ResI V W.heap.size A1 n1 c1 os ∧ ResI V W1.heap.size A2 n2 c2 us ∧ Below w.heap.size w V) := ⟨_, fun _ => Iff.rfl⟩
  have hP0 : P W2 := (hP _).2 ⟨hr1, hr2, hw2⟩
  have st2 : ∀ V k u, P V → P (V.setCell ⟨w.heap.size + 1 + 1, k, none⟩ u) := fun V k u h => by
    obtain ⟨h1, h2, h3⟩ := (hP _).1 h
    exact (hP _).2 ⟨h1.setOther (p := ⟨w.heap.size + 1 + 1, k, none⟩) (show w.heap.size + 1 + 1 < W.heap.size by omega) _, h2.setOther (p := ⟨w.heap.size + 1 + 1, k, none⟩) (show w.heap.size + 1 + 1 < W1.heap.size by omega) _, h3.setCell (p := ⟨w.heap.size + 1 + 1, k, none⟩) (show w.heap.size ≤ w.heap.size + 1 + 1 by omega) _⟩
  have st3 : ∀ V k u, P V → P (V.setCell ⟨w.heap.size + 1 + 1 + 1, k, none⟩ u) := fun V k u h => by
    obtain ⟨h1, h2, h3⟩ := (hP _).1 h
    exact (hP _).2 ⟨h1.setOther (p := ⟨w.heap.size + 1 + 1 + 1, k, none⟩) (show w.heap.size + 1 + 1 + 1 < W.heap.size by omega) _, h2.setOther (p := ⟨w.heap.size + 1 + 1 + 1, k, none⟩) (show w.heap.size + 1 + 1 + 1 < W1.heap.size by omega) _, h3.setCell (p := ⟨w.heap.size + 1 + 1 + 1, k, none⟩) (show w.heap.size ≤ w.heap.size + 1 + 1 + 1 by omega) _⟩
  have std : ∀ V, P V → P V.drew := fun V h => by
    obtain ⟨h1, h2, h3⟩ := (hP _).1 h
    exact (hP _).2 ⟨h1.keep (fun _ _ => rfl), h2.keep (fun _ _ => rfl), only_drewB h3⟩
  have hn1b : n1 ≤ 12000 := by omega
  have hn2b : n2 ≤ 12000 := by omega
  have hWW : w.heap.size ≤ W.heap.size := by omega
  have hWW1 : w.heap.size ≤ W1.heap.size := by omega
  have mk : ∀ V, P V → ∃ A1' n1' c1' os' A2' n2' c2' us', Ending.returned (.tuple #[.agg #[.bool na, .slice A1 n1 c1, .int .i64 lo], .agg #[.bool nb, .slice A2 n2 c2, .int .i64 lo]]) = Ending.returned (.tuple #[.agg #[.bool na, .slice A1' n1' c1', .int .i64 lo], .agg #[.bool nb, .slice A2' n2' c2', .int .i64 lo]]) ∧ ResI V w.heap.size A1' n1' c1' os' ∧ ResI V w.heap.size A2' n2' c2' us' ∧ DCan os' ∧ DCan us' ∧
      dval os' = dval ds * 10 ^ P1 ∧ dval us' = dval es * 10 ^ P2 ∧ n1' ≤ 12000 ∧ n2' ≤ 12000 ∧ Below w.heap.size w V := fun V h => by
    obtain ⟨h1, h2, h3⟩ := (hP _).1 h
    exact ⟨A1, n1, c1, os, A2, n2, c2, us, rfl, h1.more hWW, h2.more hWW1, HO1.out, HO2.out, by rw [HV1.out, Nat.mul_comm]; rfl, by rw [HV2.out, Nat.mul_comm]; rfl, hn1b, hn2b, h3⟩
  have HP0 := Lib.hid hP0
  have ST2 := Lib.hid st2
  have ST3 := Lib.hid st3
  have STD := Lib.hid std
  have MK := Lib.hid mk
  clear hP hP0 st2 st3 std mk hr1 hr2 hw2
  go_region
  all_goals
    go_wp2
    refine bodyPost_ret (v := .tuple #[.agg #[.bool na, .slice A1 n1 c1, .int .i64 lo], .agg #[.bool nb, .slice A2 n2 c2, .int .i64 lo]]) (by simp [results, Tryz.results106, go_sem, y0, y1, y2, y3, y4, y5]) rfl ?_
    with_reducible refine MK.out _ ?_
    repeat (first | with_reducible exact HP0.out | with_reducible refine STD.out _ ?_ | with_reducible refine ST2.out _ _ _ ?_ | with_reducible refine ST3.out _ _ _ ?_)

set_option maxRecDepth 100000 in
set_option maxHeartbeats 1000000 in
theorem ropp_c {n c : Nat} {A : Option Addr} {ds : List Nat} (neg : Bool) (exp : Int) (w : World) (hl : ds.length = n) :
    Calls Tryz.prog 65 #[nv neg A n c exp] w fun e w' => e = .returned (nv (ops neg ds) A n c exp) ∧ Below w.heap.size w w' := by
  have HL := Lib.hid hl
  unfold nv
  obtain ⟨r, hr⟩ : ∃ r, Hid (ops neg ds = r) := ⟨_, Lib.hid rfl⟩
  rw [hr.out]
  have hcase : neg = true ∧ r = false ∨ neg = false ∧ n = 0 ∧ r = false ∨ neg = false ∧ 0 < n ∧ r = true := by
    have h1 := hr.out
    unfold ops at h1
    cases neg
    · by_cases h : ds = []
      · refine .inr (.inl ⟨rfl, ?_, ?_⟩)
        · rw [← HL.out, h]; rfl
        · rw [← h1, h]; rfl
      · refine .inr (.inr ⟨rfl, ?_, ?_⟩)
        · rw [← HL.out]; exact List.length_pos_iff.2 h
        · rw [← h1, decide_eq_true h]; rfl
    · exact .inl ⟨rfl, h1.symm⟩
  clear hl
  have hb0 : ∀ o1 o2, Below w.heap.size w ((w.alloc o1).alloc o2) := fun o1 o2 => ((Below.refl _ w).alloc (Nat.le_refl _) o1).alloc (by simp) o2
  rcases hcase with ⟨rfl, rfl⟩ | ⟨rfl, rfl, rfl⟩ | ⟨rfl, hn0, rfl⟩
  · go_enter Tryz.func65, Tryz.ntmps65
    go_wp2
    refine bodyPost_ret (v := .agg #[.bool false, .slice A n c, .int .i64 exp]) (by simp [results, Tryz.results65, go_sem]) rfl ?_
    exact ⟨rfl, hb0 _ _⟩
  · go_enter Tryz.func65, Tryz.ntmps65
    go_wp2
    refine bodyPost_ret (v := .agg #[.bool false, .slice A 0 c, .int .i64 exp]) (by simp [results, Tryz.results65, go_sem]) rfl ?_
    exact ⟨rfl, hb0 _ _⟩
  · have hnb : decide ((n : Int) > 0) = true := decide_eq_true (by omega)
    go_enter Tryz.func65, Tryz.ntmps65
    go_wp2
    refine bodyPost_ret (v := .agg #[.bool true, .slice A n c, .int .i64 exp]) (by simp [results, Tryz.results65, go_sem]) rfl ?_
    exact ⟨rfl, hb0 _ _⟩
end Go.Proofs.YtjjpagdnjafgaaaGreatDoor

namespace Go.Proofs.YtjjpagdnjafgaaaGreatDoor
open Go.RowKit

theorem dlen_le {os : List Nat} {k : Nat} (h : DCan os) (hv : dval os < 10 ^ k) : os.length ≤ k := by
  rcases Nat.lt_or_ge k os.length with h1 | h1
  · exfalso
    have h2 := h.ge (by intro e; rw [e] at h1; simp at h1)
    have h3 : 10 ^ k ≤ dp (os.length - 1) := Nat.pow_le_pow_right (by omega) (by omega)
    omega
  · exact h1
theorem dval_pow {os : List Nat} {k : Nat} (h : D10 os) (hl : os.length ≤ k) : dval os < 10 ^ k := Nat.lt_of_lt_of_le (dval_lt h) (Nat.pow_le_pow_right (by omega) hl)

set_option maxRecDepth 100000 in
set_option maxHeartbeats 4000000 in
theorem RSum_c {S : Nat → Prop} {n m c d : Nat} {A B : Option Addr} {ds es : List Nat} (na nb : Bool) (e1 e2 lo : Int) (P1 P2 : Nat) (w : World) (ha : RdI w S A n ds) (hb : RdI w S B m es) (hS : ∀ b, S b → b < w.heap.size) (hd : DCan ds) (he : DCan es) (hn : n ≤ 10000) (hm : m ≤ 10000)
    (hx1 : -1000 ≤ e1 ∧ e1 ≤ 1000) (hx2 : -1000 ≤ e2 ∧ e2 ≤ 1000) (hlo : lo = min e1 e2) (hp1 : e1 - lo = (P1 : Int)) (hp2 : e2 - lo = (P2 : Int)) :
    Calls Tryz.prog 61 #[nv na A n c e1, nv nb B m d e2] w fun e w' => ∃ A1 n1 c1 os, e = .returned (nv (sgB na nb (dval ds * 10 ^ P1) (dval es * 10 ^ P2)) A1 n1 c1 lo) ∧ ResI w' w.heap.size A1 n1 c1 os ∧ DCan os ∧
      dval os = sgV na nb (dval ds * 10 ^ P1) (dval es * 10 ^ P2) ∧ n1 ≤ 12001 ∧ Below w.heap.size w w' := by
  have hal := fun V (h1 : RdI V S A n ds) (h2 : RdI V S B m es) hs => Align_c (c := c) (d := d) na nb e1 e2 lo P1 P2 V h1 h2 hs hd he hn hm hx1 hx2 hlo hp1 hp2
  obtain ⟨X, hX⟩ : ∃ X, dval ds * 10 ^ P1 = X := ⟨_, rfl⟩
  obtain ⟨Y, hY⟩ : ∃ Y, dval es * 10 ^ P2 = Y := ⟨_, rfl⟩
  rw [hX, hY]
  simp only [hX, hY] at hal
  obtain ⟨m0, m1, m2, hW, hsz⟩ := three_new w (.cells #[.bool na, .slice A n c, .int .i64 e1] 88) (.cells #[.bool nb, .slice B m d, .int .i64 e2] 88) (.cells #[.bool false, .slice none 0 0, .int .i64 0] 88)
  unfold nv at hal ⊢
  have HAL := Lib.hid hal
  have HM0 := Lib.hid m0
  have HM1 := Lib.hid m1
  have HM2 := Lib.hid m2
  clear hal hX hY hlo hp1 hp2 hx1 hx2 m0 m1 m2 hd he
  go_enter Tryz.func61, Tryz.ntmps61
  go_wp2_with fail
  have m0 := HM0.out
  have m1 := HM1.out
  have m2 := HM2.out
  clear HM0 HM1 HM2
  generalize (((w.alloc (.cells #[.bool na, .slice A n c, .int .i64 e1] 88)).alloc (.cells #[.bool nb, .slice B m d, .int .i64 e2] 88)).alloc (.cells #[.bool false, .slice none 0 0, .int .i64 0] 88)) = W at m0 m1 m2 hW hsz ⊢
  refine (HAL.out W (ha.below hW hS) (hb.below hW hS) (fun b h => by have := hS b h; omega)).mono ?_
  rintro e w1 ⟨A1, n1, c1, os, A2, n2, c2, us, rfl, hr1, hr2, ho1, ho2, hv1, hv2, hn1, hn2, hb1⟩
  have m0 := held hb1 (by omega) m0
  have m1 := held hb1 (by omega) m1
  have m2 := held hb1 (by omega) m2
  have hw1 := hW.trans (hb1.mono (by omega))
  have hs1 := hb1.size
  have HV1 := Lib.hid hv1
  have HV2 := Lib.hid hv2
  have HO1 := Lib.hid ho1
  have HO2 := Lib.hid ho2
  clear hv1 hv2 ho1 ho2 hb1
  obtain ⟨p0, p1, p2⟩ := box3_of m0
  obtain ⟨p3, p4, p5⟩ := box3_of m1
  have f0 := frozen_of 0 m0
  have f1 := frozen_of 1 m0
  have f2 := frozen_of 2 m0
  have f3 := frozen_of 0 m1
  have f4 := frozen_of 1 m1
  have f5 := frozen_of 2 m1
  have hla : w.heap.size < W.heap.size := by omega
  have hlb : w.heap.size + 1 < W.heap.size := by omega
  by_cases hnn : na = nb
  · subst hnn
    go_wp2_with fail
    clear p0 p1 p2 p3 p4 p5 f0 f1 f2 f3 f4 f5
    have m0 := set_blk (v := .bool na) (i := 0) m0 rfl
    have m1 := set_other (i := 0) m1 (show w.heap.size + 1 ≠ w.heap.size by omega) (.bool na)
    have m2 := set_other (i := 0) m2 (show w.heap.size + 1 + 1 ≠ w.heap.size by omega) (.bool na)
    have hr1 := hr1.setOther (p := ⟨w.heap.size, 0, none⟩) (show w.heap.size < _ by omega) (.bool na)
    have hr2 := hr2.setOther (p := ⟨w.heap.size, 0, none⟩) (show w.heap.size < _ by omega) (.bool na)
    have hw1 := hw1.setCell (p := ⟨w.heap.size, 0, none⟩) (show w.heap.size ≤ w.heap.size by omega) (.bool na)
    have m0 := set_blk (v := .slice A1 n1 c1) (i := 1) m0 rfl
    have m1 := set_other (i := 1) m1 (show w.heap.size + 1 ≠ w.heap.size by omega) (.slice A1 n1 c1)
    have m2 := set_other (i := 1) m2 (show w.heap.size + 1 + 1 ≠ w.heap.size by omega) (.slice A1 n1 c1)
    have hr1 := hr1.setOther (p := ⟨w.heap.size, 1, none⟩) (show w.heap.size < _ by omega) (.slice A1 n1 c1)
    have hr2 := hr2.setOther (p := ⟨w.heap.size, 1, none⟩) (show w.heap.size < _ by omega) (.slice A1 n1 c1)
    have hw1 := hw1.setCell (p := ⟨w.heap.size, 1, none⟩) (show w.heap.size ≤ w.heap.size by omega) (.slice A1 n1 c1)
    have m0 := set_blk (v := .int .i64 lo) (i := 2) m0 rfl
    have m1 := set_other (i := 2) m1 (show w.heap.size + 1 ≠ w.heap.size by omega) (.int .i64 lo)
    have m2 := set_other (i := 2) m2 (show w.heap.size + 1 + 1 ≠ w.heap.size by omega) (.int .i64 lo)
    have hr1 := hr1.setOther (p := ⟨w.heap.size, 2, none⟩) (show w.heap.size < _ by omega) (.int .i64 lo)
    have hr2 := hr2.setOther (p := ⟨w.heap.size, 2, none⟩) (show w.heap.size < _ by omega) (.int .i64 lo)
    have hw1 := hw1.setCell (p := ⟨w.heap.size, 2, none⟩) (show w.heap.size ≤ w.heap.size by omega) (.int .i64 lo)
    have m0 := set_other (i := 0) m0 (show w.heap.size ≠ w.heap.size + 1 by omega) (.bool na)
    have m1 := set_blk (v := .bool na) (i := 0) m1 rfl
    have m2 := set_other (i := 0) m2 (show w.heap.size + 1 + 1 ≠ w.heap.size + 1 by omega) (.bool na)
    have hr1 := hr1.setOther (p := ⟨w.heap.size + 1, 0, none⟩) (show w.heap.size + 1 < _ by omega) (.bool na)
    have hr2 := hr2.setOther (p := ⟨w.heap.size + 1, 0, none⟩) (show w.heap.size + 1 < _ by omega) (.bool na)
    have hw1 := hw1.setCell (p := ⟨w.heap.size + 1, 0, none⟩) (show w.heap.size ≤ w.heap.size + 1 by omega) (.bool na)
    have m0 := set_other (i := 1) m0 (show w.heap.size ≠ w.heap.size + 1 by omega) (.slice A2 n2 c2)
    have m1 := set_blk (v := .slice A2 n2 c2) (i := 1) m1 rfl
    have m2 := set_other (i := 1) m2 (show w.heap.size + 1 + 1 ≠ w.heap.size + 1 by omega) (.slice A2 n2 c2)
    have hr1 := hr1.setOther (p := ⟨w.heap.size + 1, 1, none⟩) (show w.heap.size + 1 < _ by omega) (.slice A2 n2 c2)
    have hr2 := hr2.setOther (p := ⟨w.heap.size + 1, 1, none⟩) (show w.heap.size + 1 < _ by omega) (.slice A2 n2 c2)
    have hw1 := hw1.setCell (p := ⟨w.heap.size + 1, 1, none⟩) (show w.heap.size ≤ w.heap.size + 1 by omega) (.slice A2 n2 c2)
    have m0 := set_other (i := 2) m0 (show w.heap.size ≠ w.heap.size + 1 by omega) (.int .i64 lo)
    have m1 := set_blk (v := .int .i64 lo) (i := 2) m1 rfl
    have m2 := set_other (i := 2) m2 (show w.heap.size + 1 + 1 ≠ w.heap.size + 1 by omega) (.int .i64 lo)
    have hr1 := hr1.setOther (p := ⟨w.heap.size + 1, 2, none⟩) (show w.heap.size + 1 < _ by omega) (.int .i64 lo)
    have hr2 := hr2.setOther (p := ⟨w.heap.size + 1, 2, none⟩) (show w.heap.size + 1 < _ by omega) (.int .i64 lo)
    have hw1 := hw1.setCell (p := ⟨w.heap.size + 1, 2, none⟩) (show w.heap.size ≤ w.heap.size + 1 by omega) (.int .i64 lo)
    have hs_W1 : ((((((w1.setCell ⟨w.heap.size, 0, none⟩ (.bool na)).setCell ⟨w.heap.size, 1, none⟩ (.slice A1 n1 c1)).setCell ⟨w.heap.size, 2, none⟩ (.int .i64 lo)).setCell ⟨w.heap.size + 1, 0, none⟩ (.bool na)).setCell ⟨w.heap.size + 1, 1, none⟩ (.slice A2 n2 c2)).setCell ⟨w.heap.size + 1, 2, none⟩ (.int .i64 lo)).heap.size = w1.heap.size := by simp [World.setCell]
    generalize ((((((w1.setCell ⟨w.heap.size, 0, none⟩ (.bool na)).setCell ⟨w.heap.size, 1, none⟩ (.slice A1 n1 c1)).setCell ⟨w.heap.size, 2, none⟩ (.int .i64 lo)).setCell ⟨w.heap.size + 1, 0, none⟩ (.bool na)).setCell ⟨w.heap.size + 1, 1, none⟩ (.slice A2 n2 c2)).setCell ⟨w.heap.size + 1, 2, none⟩ (.int .i64 lo)) = W1 at *
    obtain ⟨p0, p1, p2⟩ := box3_of m0
    obtain ⟨p3, p4, p5⟩ := box3_of m1
    obtain ⟨y0, y1, y2⟩ := box3_of m2
    have f0 := frozen_of 0 m0
    have f1 := frozen_of 1 m0
    have f2 := frozen_of 2 m0
    have f3 := frozen_of 0 m2
    have f4 := frozen_of 1 m2
    have f5 := frozen_of 2 m2
    refine (Plus_c (c := c1) (d := c2) W1 hr1.rd hr2.rd (fun b h => h.2) (fun b h => h.2) HO1.out.1 HO2.out.1 (by omega) (by omega)).mono ?_
    rintro e w2 ⟨A3, n3, c3, rs, rfl, hr3, ho3, hv3, hb3⟩
    rw [HV1.out, HV2.out] at hv3
    have hm0 := m0
    have hm2 := m2
    have m0 := heldz hb3 m0
    have m1 := heldz hb3 m1
    have m2 := heldz hb3 m2
    have hr1 := hr1.below hb3 (Nat.le_refl _)
    have hr2 := hr2.below hb3 (Nat.le_refl _)
    have hw2 := hw1.trans (hb3.mono hw1.size)
    have HV3 := Lib.hid hv3
    have HO3 := Lib.hid ho3
    clear hv3 ho3 p0 p1 p2 p3 p4 p5 y0 y1 y2 f0 f1 f2 f3 f4 f5 hb3
    obtain ⟨p0, p1, p2⟩ := box3_of m0
    obtain ⟨p3, p4, p5⟩ := box3_of m1
    obtain ⟨y0, y1, y2⟩ := box3_of m2
    have f0 := frozen_of 0 m0
    have f1 := frozen_of 1 m0
    have f2 := frozen_of 2 m0
    have f3 := frozen_of 0 m2
    have f4 := frozen_of 1 m2
    have f5 := frozen_of 2 m2
    go_wp2
    refine bodyPost_ret (v := .agg #[.bool na, .slice A3 n3 c3, .int .i64 lo]) (by simp [results, Tryz.results61, go_sem, y0, y1, y2]) rfl ?_
    have hfin : sgB na na X Y = na ∧ sgV na na X Y = X + Y := by
      unfold sgB sgV
      first | exact ⟨if_pos rfl, if_pos rfl⟩ | (rw [if_neg hnn, if_neg hnn]; first | (rw [if_pos hle, if_pos hle]; exact ⟨rfl, rfl⟩) | (rw [if_neg hle, if_neg hle]; exact ⟨rfl, rfl⟩))
    rw [hfin.1, hfin.2]
    have hv3 := HV3.out
    have hn3 : n3 ≤ 12001 := by
      rw [← hr3.len]
      refine dlen_le HO3.out ?_
      obtain ⟨T, hT⟩ : ∃ T, T = 12000 := ⟨_, rfl⟩
      have hq1 : dval os < 10 ^ T := dval_pow HO1.out.1 (by rw [hr1.len]; omega)
      have hq2 : dval us < 10 ^ T := dval_pow HO2.out.1 (by rw [hr2.len]; omega)
      rw [HV1.out] at hq1
      rw [HV2.out] at hq2
      rw [show 12001 = T + 1 by omega, Nat.pow_succ, hv3]
      generalize 10 ^ T = Q at *
      omega
    have hlW : w.heap.size < W1.heap.size := by omega
    have hlR : w.heap.size + 1 + 1 < W1.heap.size := by omega
    exact ⟨A3, n3, c3, rs, rfl, ((((hr3.setOther (p := ⟨w.heap.size, 1, none⟩) hlW _).setOther (p := ⟨w.heap.size + 1 + 1, 0, none⟩) hlR _).setOther (p := ⟨w.heap.size + 1 + 1, 1, none⟩) hlR _).setOther (p := ⟨w.heap.size + 1 + 1, 2, none⟩) hlR _).more hw1.size, HO3.out, hv3, hn3,
      (((hw2.setCell (p := ⟨w.heap.size, 1, none⟩) (Nat.le_refl _) _).setCell (p := ⟨w.heap.size + 1 + 1, 0, none⟩) (by simp; omega) _).setCell (p := ⟨w.heap.size + 1 + 1, 1, none⟩) (by simp; omega) _).setCell (p := ⟨w.heap.size + 1 + 1, 2, none⟩) (by simp; omega) _⟩
  · have hbb : (na == nb) = false := by rw [beq_eq_false_iff_ne]; exact hnn
    go_wp2_with fail
    clear p0 p1 p2 p3 p4 p5 f0 f1 f2 f3 f4 f5
    have m0 := set_blk (v := .bool na) (i := 0) m0 rfl
    have m1 := set_other (i := 0) m1 (show w.heap.size + 1 ≠ w.heap.size by omega) (.bool na)
    have m2 := set_other (i := 0) m2 (show w.heap.size + 1 + 1 ≠ w.heap.size by omega) (.bool na)
    have hr1 := hr1.setOther (p := ⟨w.heap.size, 0, none⟩) (show w.heap.size < _ by omega) (.bool na)
    have hr2 := hr2.setOther (p := ⟨w.heap.size, 0, none⟩) (show w.heap.size < _ by omega) (.bool na)
    have hw1 := hw1.setCell (p := ⟨w.heap.size, 0, none⟩) (show w.heap.size ≤ w.heap.size by omega) (.bool na)
    have m0 := set_blk (v := .slice A1 n1 c1) (i := 1) m0 rfl
    have m1 := set_other (i := 1) m1 (show w.heap.size + 1 ≠ w.heap.size by omega) (.slice A1 n1 c1)
    have m2 := set_other (i := 1) m2 (show w.heap.size + 1 + 1 ≠ w.heap.size by omega) (.slice A1 n1 c1)
    have hr1 := hr1.setOther (p := ⟨w.heap.size, 1, none⟩) (show w.heap.size < _ by omega) (.slice A1 n1 c1)
    have hr2 := hr2.setOther (p := ⟨w.heap.size, 1, none⟩) (show w.heap.size < _ by omega) (.slice A1 n1 c1)
    have hw1 := hw1.setCell (p := ⟨w.heap.size, 1, none⟩) (show w.heap.size ≤ w.heap.size by omega) (.slice A1 n1 c1)
    have m0 := set_blk (v := .int .i64 lo) (i := 2) m0 rfl
    have m1 := set_other (i := 2) m1 (show w.heap.size + 1 ≠ w.heap.size by omega) (.int .i64 lo)
    have m2 := set_other (i := 2) m2 (show w.heap.size + 1 + 1 ≠ w.heap.size by omega) (.int .i64 lo)
    have hr1 := hr1.setOther (p := ⟨w.heap.size, 2, none⟩) (show w.heap.size < _ by omega) (.int .i64 lo)
    have hr2 := hr2.setOther (p := ⟨w.heap.size, 2, none⟩) (show w.heap.size < _ by omega) (.int .i64 lo)
    have hw1 := hw1.setCell (p := ⟨w.heap.size, 2, none⟩) (show w.heap.size ≤ w.heap.size by omega) (.int .i64 lo)
    have m0 := set_other (i := 0) m0 (show w.heap.size ≠ w.heap.size + 1 by omega) (.bool nb)
    have m1 := set_blk (v := .bool nb) (i := 0) m1 rfl
    have m2 := set_other (i := 0) m2 (show w.heap.size + 1 + 1 ≠ w.heap.size + 1 by omega) (.bool nb)
    have hr1 := hr1.setOther (p := ⟨w.heap.size + 1, 0, none⟩) (show w.heap.size + 1 < _ by omega) (.bool nb)
    have hr2 := hr2.setOther (p := ⟨w.heap.size + 1, 0, none⟩) (show w.heap.size + 1 < _ by omega) (.bool nb)
    have hw1 := hw1.setCell (p := ⟨w.heap.size + 1, 0, none⟩) (show w.heap.size ≤ w.heap.size + 1 by omega) (.bool nb)
    have m0 := set_other (i := 1) m0 (show w.heap.size ≠ w.heap.size + 1 by omega) (.slice A2 n2 c2)
    have m1 := set_blk (v := .slice A2 n2 c2) (i := 1) m1 rfl
    have m2 := set_other (i := 1) m2 (show w.heap.size + 1 + 1 ≠ w.heap.size + 1 by omega) (.slice A2 n2 c2)
    have hr1 := hr1.setOther (p := ⟨w.heap.size + 1, 1, none⟩) (show w.heap.size + 1 < _ by omega) (.slice A2 n2 c2)
    have hr2 := hr2.setOther (p := ⟨w.heap.size + 1, 1, none⟩) (show w.heap.size + 1 < _ by omega) (.slice A2 n2 c2)
    have hw1 := hw1.setCell (p := ⟨w.heap.size + 1, 1, none⟩) (show w.heap.size ≤ w.heap.size + 1 by omega) (.slice A2 n2 c2)
    have m0 := set_other (i := 2) m0 (show w.heap.size ≠ w.heap.size + 1 by omega) (.int .i64 lo)
    have m1 := set_blk (v := .int .i64 lo) (i := 2) m1 rfl
    have m2 := set_other (i := 2) m2 (show w.heap.size + 1 + 1 ≠ w.heap.size + 1 by omega) (.int .i64 lo)
    have hr1 := hr1.setOther (p := ⟨w.heap.size + 1, 2, none⟩) (show w.heap.size + 1 < _ by omega) (.int .i64 lo)
    have hr2 := hr2.setOther (p := ⟨w.heap.size + 1, 2, none⟩) (show w.heap.size + 1 < _ by omega) (.int .i64 lo)
    have hw1 := hw1.setCell (p := ⟨w.heap.size + 1, 2, none⟩) (show w.heap.size ≤ w.heap.size + 1 by omega) (.int .i64 lo)
    have hs_W1 : ((((((w1.setCell ⟨w.heap.size, 0, none⟩ (.bool na)).setCell ⟨w.heap.size, 1, none⟩ (.slice A1 n1 c1)).setCell ⟨w.heap.size, 2, none⟩ (.int .i64 lo)).setCell ⟨w.heap.size + 1, 0, none⟩ (.bool nb)).setCell ⟨w.heap.size + 1, 1, none⟩ (.slice A2 n2 c2)).setCell ⟨w.heap.size + 1, 2, none⟩ (.int .i64 lo)).heap.size = w1.heap.size := by simp [World.setCell]
    generalize ((((((w1.setCell ⟨w.heap.size, 0, none⟩ (.bool na)).setCell ⟨w.heap.size, 1, none⟩ (.slice A1 n1 c1)).setCell ⟨w.heap.size, 2, none⟩ (.int .i64 lo)).setCell ⟨w.heap.size + 1, 0, none⟩ (.bool nb)).setCell ⟨w.heap.size + 1, 1, none⟩ (.slice A2 n2 c2)).setCell ⟨w.heap.size + 1, 2, none⟩ (.int .i64 lo)) = W1 at *
    obtain ⟨p0, p1, p2⟩ := box3_of m0
    obtain ⟨p3, p4, p5⟩ := box3_of m1
    obtain ⟨y0, y1, y2⟩ := box3_of m2
    have f0 := frozen_of 0 m0
    have f1 := frozen_of 1 m0
    have f2 := frozen_of 2 m0
    have f3 := frozen_of 0 m2
    have f4 := frozen_of 1 m2
    have f5 := frozen_of 2 m2
    refine (Order_c (c := c1) (d := c2) W1 hr1.rd hr2.rd HO1.out HO2.out (by omega) (by omega)).mono ?_
    rintro e w2 ⟨rfl, q, rfl⟩
    clear p0 p1 p2 p3 p4 p5 y0 y1 y2 f0 f1 f2 f3 f4 f5
    have m0 : (W1.drewN q).heap[w.heap.size]? = _ := m0
    have m1 : (W1.drewN q).heap[w.heap.size + 1]? = _ := m1
    have m2 : (W1.drewN q).heap[w.heap.size + 1 + 1]? = _ := m2
    have hr1 := hr1.keep (w' := W1.drewN q) (fun _ _ => rfl)
    have hr2 := hr2.keep (w' := W1.drewN q) (fun _ _ => rfl)
    have hw1 := below_drewN hw1 q
    have hs_W2 : (W1.drewN q).heap.size = W1.heap.size := rfl
    generalize W1.drewN q = W2 at *
    obtain ⟨p0, p1, p2⟩ := box3_of m0
    obtain ⟨p3, p4, p5⟩ := box3_of m1
    obtain ⟨y0, y1, y2⟩ := box3_of m2
    have f0 := frozen_of 0 m0
    have f1 := frozen_of 1 m0
    have f2 := frozen_of 2 m0
    have f3 := frozen_of 0 m2
    have f4 := frozen_of 1 m2
    have f5 := frozen_of 2 m2
    by_cases hle : Y ≤ X
    · have hge : 0 ≤ dcmp os us := by
        unfold dcmp
        rw [HV1.out, HV2.out, if_neg (by omega)]
        split <;> omega
      go_wp2_with fail
      refine (Minus_c (c := c1) (d := c2) W2 hr1.rd hr2.rd (fun b h => h.2) (fun b h => h.2) HO1.out.1 HO2.out (by rw [HV1.out, HV2.out]; exact hle) (by omega) (by omega)).mono ?_
      rintro e w2 ⟨A3, n3, c3, rs, rfl, hr3, ho3, hv3, hb3⟩
      have hv3 : dval rs = X - Y := by rw [HV1.out, HV2.out] at hv3; omega
      have hm0 := m0
      have hm2 := m2
      have m0 := heldz hb3 m0
      have m1 := heldz hb3 m1
      have m2 := heldz hb3 m2
      have hr1 := hr1.below hb3 (Nat.le_refl _)
      have hr2 := hr2.below hb3 (Nat.le_refl _)
      have hw2 := hw1.trans (hb3.mono hw1.size)
      have HV3 := Lib.hid hv3
      have HO3 := Lib.hid ho3
      clear hv3 ho3 p0 p1 p2 p3 p4 p5 y0 y1 y2 f0 f1 f2 f3 f4 f5 hb3
      obtain ⟨p0, p1, p2⟩ := box3_of m0
      obtain ⟨p3, p4, p5⟩ := box3_of m1
      obtain ⟨y0, y1, y2⟩ := box3_of m2
      have f0 := frozen_of 0 m0
      have f1 := frozen_of 1 m0
      have f2 := frozen_of 2 m0
      have f3 := frozen_of 0 m2
      have f4 := frozen_of 1 m2
      have f5 := frozen_of 2 m2
      go_wp2
      refine bodyPost_ret (v := .agg #[.bool na, .slice A3 n3 c3, .int .i64 lo]) (by simp [results, Tryz.results61, go_sem, y0, y1, y2]) rfl ?_
      have hfin : sgB na nb X Y = na ∧ sgV na nb X Y = X - Y := by
        unfold sgB sgV
        first | exact ⟨if_pos rfl, if_pos rfl⟩ | (rw [if_neg hnn, if_neg hnn]; first | (rw [if_pos hle, if_pos hle]; exact ⟨rfl, rfl⟩) | (rw [if_neg hle, if_neg hle]; exact ⟨rfl, rfl⟩))
      rw [hfin.1, hfin.2]
      have hv3 := HV3.out
      have hn3 : n3 ≤ 12001 := by
        rw [← hr3.len]
        refine dlen_le HO3.out ?_
        obtain ⟨T, hT⟩ : ∃ T, T = 12000 := ⟨_, rfl⟩
        have hq1 : dval os < 10 ^ T := dval_pow HO1.out.1 (by rw [hr1.len]; omega)
        have hq2 : dval us < 10 ^ T := dval_pow HO2.out.1 (by rw [hr2.len]; omega)
        rw [HV1.out] at hq1
        rw [HV2.out] at hq2
        rw [show 12001 = T + 1 by omega, Nat.pow_succ, hv3]
        generalize 10 ^ T = Q at *
        omega
      have hlW : w.heap.size < W2.heap.size := by omega
      have hlR : w.heap.size + 1 + 1 < W2.heap.size := by omega
      exact ⟨A3, n3, c3, rs, rfl, ((((hr3.setOther (p := ⟨w.heap.size, 1, none⟩) hlW _).setOther (p := ⟨w.heap.size + 1 + 1, 0, none⟩) hlR _).setOther (p := ⟨w.heap.size + 1 + 1, 1, none⟩) hlR _).setOther (p := ⟨w.heap.size + 1 + 1, 2, none⟩) hlR _).more hw1.size, HO3.out, hv3, hn3,
        (((hw2.setCell (p := ⟨w.heap.size, 1, none⟩) (Nat.le_refl _) _).setCell (p := ⟨w.heap.size + 1 + 1, 0, none⟩) (by simp; omega) _).setCell (p := ⟨w.heap.size + 1 + 1, 1, none⟩) (by simp; omega) _).setCell (p := ⟨w.heap.size + 1 + 1, 2, none⟩) (by simp; omega) _⟩
    · have hlt : dcmp os us < 0 := by
        unfold dcmp
        rw [HV1.out, HV2.out, if_pos (by omega)]
        omega
      have hgb : decide (0 ≤ dcmp os us) = false := decide_eq_false (by omega)
      go_wp2_with fail
      refine wp_region_held_drew (S := fun w' => w'.cell? ⟨w.heap.size + 1, 0, none⟩ = some (.bool nb) ∧ w'.cell? ⟨w.heap.size + 1, 1, none⟩ = some (.slice A2 n2 c2)) (by kernel_rfl) ⟨p3, p4⟩ (fun hHeld => ?_)
      (try simp only [List.size_toArray, List.length_cons, List.length_nil, Nat.reduceAdd, Array.replicate_succ, Array.replicate_zero, List.push_toArray, List.append_toArray, List.nil_append, List.cons_append])
      refine wpAnyH_take (i := 0) (oi := ⟨_, _, _, _, _, _⟩) (v := ?_) rfl (by kernel_rfl) (by kernel_rfl) (by kernel_rfl) (fun _ _ _ h => h) (Or.inl ⟨by rfl, ?_⟩) (by assumption) ?_
      rotate_left
      · intro w hSw
        (try dsimp only at hSw)
        go_split_ands
        go_simp
        try with_reducible rfl
      try simp only [Act.put, List.setIfInBounds_toArray, List.set_cons_zero, List.set_cons_succ]
      refine wpAnyH_take (i := 1) (oi := ⟨_, _, _, _, _, _⟩) (v := ?_) rfl (by kernel_rfl) (by kernel_rfl) (by kernel_rfl) (fun _ _ _ h => h) (Or.inl ⟨by rfl, ?_⟩) (by assumption) ?_
      rotate_left
      · intro w hSw
        (try dsimp only at hSw)
        go_split_ands
        go_simp
        try with_reducible rfl
      try simp only [Act.put, List.setIfInBounds_toArray, List.set_cons_zero, List.set_cons_succ]
      refine wpAnyH_take (i := 2) (oi := ⟨_, _, _, _, _, _⟩) (v := ?_) rfl (by kernel_rfl) (by kernel_rfl) (by kernel_rfl) (fun _ _ _ h => h) (Or.inl ⟨by rfl, ?_⟩) (by assumption) ?_
      rotate_left
      · intro w hSw
        (try dsimp only at hSw)
        go_split_ands
        go_simp
        try with_reducible rfl
      try simp only [Act.put, List.setIfInBounds_toArray, List.set_cons_zero, List.set_cons_succ]
      refine wpAnyH_take (i := 3) (oi := ⟨_, _, _, _, _, _⟩) (v := ?_) rfl (by kernel_rfl) (by kernel_rfl) (by kernel_rfl) (fun _ _ _ h => h) (Or.inl ⟨by rfl, ?_⟩) (by assumption) ?_
      rotate_left
      · intro w hSw
        (try dsimp only at hSw)
        go_split_ands
        go_simp
        try with_reducible rfl
      try simp only [Act.put, List.setIfInBounds_toArray, List.set_cons_zero, List.set_cons_succ]
      refine wpAnyH_take (i := 4) (oi := ⟨_, _, _, _, _, _⟩) (v := ?_) rfl (by kernel_rfl) (by kernel_rfl) (by kernel_rfl) (fun _ _ _ h => h) (Or.inl ⟨by rfl, ?_⟩) (by assumption) ?_
      rotate_left
      · intro w hSw
        (try dsimp only at hSw)
        go_split_ands
        go_simp
        try with_reducible rfl
      try simp only [Act.put, List.setIfInBounds_toArray, List.set_cons_zero, List.set_cons_succ]
      refine wpAnyH_ready (rs := [5]) (by kernel_rfl) (by simp) (AllReadyH.cons (o := ⟨_, _, _, _, _, _⟩) rfl (fun K hK => ?_) AllReadyH.nil)
      go_simp
      refine hK.out _ _ hHeld (fun _ => ?_)
      clear hK K
      try simp only [Act.put, List.setIfInBounds_toArray, List.set_cons_zero, List.set_cons_succ]
      refine wpAnyH_take (i := 7) (oi := ⟨_, _, _, _, _, _⟩) (v := ?_) rfl (by kernel_rfl) (by kernel_rfl) (by kernel_rfl) (fun _ _ _ h => h) (Or.inl ⟨by rfl, ?_⟩) (by assumption) ?_
      rotate_left
      · intro w hSw
        (try dsimp only at hSw)
        go_split_ands
        go_simp
        try with_reducible rfl
      try simp only [Act.put, List.setIfInBounds_toArray, List.set_cons_zero, List.set_cons_succ]
      refine wpAnyH_ready (rs := [6]) (by kernel_rfl) (by simp) (AllReadyH.cons (o := ⟨_, _, _, _, _, _⟩) rfl (fun K hK => ?_) AllReadyH.nil)
      go_simp
      refine (Minus_c (c := c2) (d := c1) W2.drew (hr2.rd.keep (fun _ _ => rfl)) (hr1.rd.keep (fun _ _ => rfl)) (fun b h => h.2) (fun b h => h.2) HO2.out.1 HO1.out (by rw [HV1.out, HV2.out]; omega) (by omega) (by omega)).mono ?_
      rintro e w2 ⟨A3, n3, c3, rs, rfl, hr3, ho3, hv3, hb3⟩
      have hv3 : dval rs = Y - X := by rw [HV1.out, HV2.out] at hv3; omega
      have m0 := held hb3 (show w.heap.size < W2.heap.size by omega) m0
      have m1 := held hb3 (show w.heap.size + 1 < W2.heap.size by omega) m1
      have m2 := held hb3 (show w.heap.size + 1 + 1 < W2.heap.size by omega) m2
      have hr1 := (hr1.keep (w' := W2.drew) (fun _ _ => rfl)).below hb3 (Nat.le_refl _)
      have hr2 := (hr2.keep (w' := W2.drew) (fun _ _ => rfl)).below hb3 (Nat.le_refl _)
      have hw2 := (only_drewB hw1).trans (hb3.mono (show w.heap.size ≤ W2.heap.size from hw1.size))
      have HV3 := Lib.hid hv3
      have HO3 := Lib.hid ho3
      clear hv3 ho3 p0 p1 p2 p3 p4 p5 y0 y1 y2 f0 f1 f2 f3 f4 f5
      (try dsimp only)
      obtain ⟨x3, x4, x5⟩ := box3_of m1
      refine hK.out _ _ ⟨x3, x4⟩ (fun _ => ?_)
      clear hK K hb3
      try simp only [Act.put, List.setIfInBounds_toArray, List.set_cons_zero, List.set_cons_succ]
      obtain ⟨p0, p1, p2⟩ := box3_of m0
      obtain ⟨p3, p4, p5⟩ := box3_of m1
      obtain ⟨y0, y1, y2⟩ := box3_of m2
      have f0 := frozen_of 0 m0
      have f1 := frozen_of 1 m0
      have f2 := frozen_of 2 m0
      have f3 := frozen_of 0 m2
      have f4 := frozen_of 1 m2
      have f5 := frozen_of 2 m2
      refine wpAnyH_ready (rs := [8]) (by kernel_rfl) (by simp) (AllReadyH.cons (o := ⟨_, _, _, _, _, _⟩) rfl (fun K hK => ?_) AllReadyH.nil)
      go_simp
      refine hK.out _ _ (by constructor <;> (first | go_keep | (rw [World.cell?_setCell_far _ _ _ _ (by simp)]; assumption))) (fun _ => ?_)
      clear hK K
      try simp only [Act.put, List.setIfInBounds_toArray, List.set_cons_zero, List.set_cons_succ]
      refine wpAnyH_take (i := 9) (oi := ⟨_, _, _, _, _, _⟩) (v := ?_) rfl (by kernel_rfl) (by kernel_rfl) (by kernel_rfl) (fun _ _ _ h => h) (Or.inl ⟨by rfl, ?_⟩) (by assumption) ?_
      rotate_left
      · intro w hSw
        (try dsimp only at hSw)
        go_split_ands
        go_simp
        try with_reducible rfl
      try simp only [Act.put, List.setIfInBounds_toArray, List.set_cons_zero, List.set_cons_succ]
      refine wpAnyH_ready (rs := [10]) (by kernel_rfl) (by simp) (AllReadyH.cons (o := ⟨_, _, _, _, _, _⟩) rfl (fun K hK => ?_) AllReadyH.nil)
      go_simp
      refine hK.out _ _ (by constructor <;> (first | go_keep | (rw [World.cell?_setCell_far _ _ _ _ (by simp), World.cell?_setCell_far _ _ _ _ (by simp)]; assumption))) (fun _ => ?_)
      clear hK K
      try simp only [Act.put, List.setIfInBounds_toArray, List.set_cons_zero, List.set_cons_succ]
      refine wpAnyH_done (by kernel_rfl) ?_ _
      go_wp2
      refine bodyPost_ret (v := .agg #[.bool nb, .slice A3 n3 c3, .int .i64 lo]) (by simp [results, Tryz.results61, go_sem, y0, y1, y2]) rfl ?_
      have hfin : sgB na nb X Y = nb ∧ sgV na nb X Y = Y - X := by
        unfold sgB sgV
        first | exact ⟨if_pos rfl, if_pos rfl⟩ | (rw [if_neg hnn, if_neg hnn]; first | (rw [if_pos hle, if_pos hle]; exact ⟨rfl, rfl⟩) | (rw [if_neg hle, if_neg hle]; exact ⟨rfl, rfl⟩))
      rw [hfin.1, hfin.2]
      have hv3 := HV3.out
      have hn3 : n3 ≤ 12001 := by
        rw [← hr3.len]
        refine dlen_le HO3.out ?_
        obtain ⟨T, hT⟩ : ∃ T, T = 12000 := ⟨_, rfl⟩
        have hq1 : dval os < 10 ^ T := dval_pow HO1.out.1 (by rw [hr1.len]; omega)
        have hq2 : dval us < 10 ^ T := dval_pow HO2.out.1 (by rw [hr2.len]; omega)
        rw [HV1.out] at hq1
        rw [HV2.out] at hq2
        rw [show 12001 = T + 1 by omega, Nat.pow_succ, hv3]
        generalize 10 ^ T = Q at *
        omega
      have hlW : w.heap.size < W2.drew.heap.size := show w.heap.size < W2.heap.size by omega
      have hlR : w.heap.size + 1 + 1 < W2.drew.heap.size := show w.heap.size + 1 + 1 < W2.heap.size by omega
      exact ⟨A3, n3, c3, rs, rfl, (((((hr3.setOther (p := ⟨w.heap.size, 0, none⟩) hlW _).setOther (p := ⟨w.heap.size, 1, none⟩) hlW _).setOther (p := ⟨w.heap.size + 1 + 1, 0, none⟩) hlR _).setOther (p := ⟨w.heap.size + 1 + 1, 1, none⟩) hlR _).setOther (p := ⟨w.heap.size + 1 + 1, 2, none⟩) hlR _).more (show w.heap.size ≤ W2.heap.size from hw1.size), HO3.out, hv3, hn3,
        ((((hw2.setCell (p := ⟨w.heap.size, 0, none⟩) (Nat.le_refl _) _).setCell (p := ⟨w.heap.size, 1, none⟩) (Nat.le_refl _) _).setCell (p := ⟨w.heap.size + 1 + 1, 0, none⟩) (by simp; omega) _).setCell (p := ⟨w.heap.size + 1 + 1, 1, none⟩) (by simp; omega) _).setCell (p := ⟨w.heap.size + 1 + 1, 2, none⟩) (by simp; omega) _⟩
end Go.Proofs.YtjjpagdnjafgaaaGreatDoor



namespace Go.Proofs.YtjjpagdnjafgaaaGreatDoor
open Go.RowKit

/-- The sign of a difference tells the order. -/
def ordN (s : Bool) (Z : Nat) : Int := if Z = 0 then 0 else if s = true then -1 else 1
theorem ordN_cmp {s : Bool} {Z k : Nat} {x y : Int} (hk : 0 < k) (h : sg s Z * (k : Int) = x - y) : ordN s Z = cmpI x y := by
  unfold ordN cmpI
  have hk2 : (0 : Int) < (k : Int) := by omega
  by_cases h0 : Z = 0
  · rw [if_pos h0]
    rw [h0, sg_zero, Int.zero_mul] at h
    rw [if_neg (by omega), if_neg (by omega)]
  · rw [if_neg h0]
    have hp : (0 : Int) < (Z : Int) * (k : Int) := Int.mul_pos (by omega) hk2
    cases s
    · have h1 : (Z : Int) * (k : Int) = x - y := h
      rw [if_neg (by decide), if_neg (by omega), if_pos (by omega)]
    · have h1 : -(Z : Int) * (k : Int) = x - y := h
      rw [Int.neg_mul] at h1
      rw [if_pos rfl, if_pos (by omega)]
theorem opp_sign {ys : List Nat} {nb : Bool} {e2 : Int} {es : List Nat} (hl : L32 ys) (k2 : okB nb ys e2 = true) (hd : DCan es) (hv : dval es = val ys) : ops nb es = ops nb ys := by
  unfold ops
  congr 1
  have he := eq_dOf hd
  rw [hv] at he
  have hiff : es = [] ↔ ys = [] := by
    constructor
    · intro h
      rw [h] at he
      have h3 := dOf_val (val ys)
      rw [← he, dval_nil] at h3
      rcases okB_cases hl k2 with ⟨z, _⟩ | ⟨z, _⟩
      · exact z
      · omega
    · intro h
      rw [he, h]; rfl
  simp only [ne_eq, hiff]

set_option maxRecDepth 100000 in
set_option maxHeartbeats 4000000 in
theorem ROrder_c {S : Nat → Prop} {n m c d : Nat} {A B : Option Addr} {xs ys : List Nat} (na nb : Bool) (e1 e2 : Int) (w : World) (ha : Rd w S A n xs) (hb : Rd w S B m ys) (hS : ∀ b, S b → b < w.heap.size) (k1 : okB na xs e1 = true) (k2 : okB nb ys e2 = true) :
    Calls Tryz.prog 56 #[dv na A n c e1, dv nb B m d e2] w fun e w' => e = .returned (.int .i64 (cmpI (sv na (val xs) e1) (sv nb (val ys) e2))) ∧ Below w.heap.size w w' := by
  obtain ⟨a1, a2, a3, a4, _, _⟩ := okB_true ha.l32 k1
  obtain ⟨b1, b2, b3, b4, _, _⟩ := okB_true hb.l32 k2
  have hn2 : n ≤ 256 := by rw [← ha.len]; exact a2
  have hm2 : m ≤ 256 := by rw [← hb.len]; exact b2
  obtain ⟨SG, hSG⟩ : ∃ s, s = addS na (val xs) e1 (ops nb ys) (val ys) e2 := ⟨_, rfl⟩
  obtain ⟨Z, hZ⟩ : ∃ s, s = addZ na (val xs) e1 (ops nb ys) (val ys) e2 := ⟨_, rfl⟩
  obtain ⟨lo, hlo⟩ : ∃ s, s = lo2 e1 e2 := ⟨_, rfl⟩
  have hres : cmpI (sv na (val xs) e1) (sv nb (val ys) e2) = ordN SG Z := by
    refine (ordN_cmp (sp_pos lo) ?_).symm
    rw [hSG, hZ, hlo, add_sv _ _ _ _ _ _ (by omega) (by omega), ops_sv]
    omega
  rw [hres]
  have hof1 := fun V (h1 : Rd V S A n xs) hs => Of_c (c := c) na e1 V h1 hs hn2
  have hof2 := fun V (h1 : Rd V S B m ys) hs => Of_c (c := d) nb e2 V h1 hs hm2
  have hopp := fun V A' n' c' es (hl : es.length = n') (hd : DCan es) (hv : dval es = val ys) => (ropp_c (A := A') (n := n') (c := c') (ds := es) nb e2 V hl).mono fun e w' ⟨h, hbb⟩ => (⟨h.trans (by rw [opp_sign hb.l32 k2 hd hv]), hbb⟩ : e = Ending.returned (nv (ops nb ys) A' n' c' e2) ∧ Below V.heap.size V w')
  have hsum := fun V A1 n1 c1 ds A2 n2 c2 es (h1 : RdI V (fun b => b < V.heap.size) A1 n1 ds) (h2 : RdI V (fun b => b < V.heap.size) A2 n2 es) (d1 : DCan ds) (d2 : DCan es) (q1 : n1 ≤ 10000) (q2 : n2 ≤ 10000) (v1 : dval ds = val xs) (v2 : dval es = val ys) =>
    (RSum_c (S := fun b => b < V.heap.size) (c := c1) (d := c2) na (ops nb ys) e1 e2 lo (p1 e1 e2) (p1 e2 e1) V h1 h2 (fun b h => h) d1 d2 q1 q2 a4 b4 (by rw [hlo]; rfl) (by rw [hlo]; unfold p1 lo2; omega) (by rw [hlo]; unfold p1 lo2; omega)).mono fun e w' ⟨A3, n3, c3, rs, he, hr, hd, hv, hl, hb⟩ =>
      (⟨A3, n3, c3, rs, he.trans (by rw [v1, v2, hSG]; rfl), hr, hd, hv.trans (by rw [v1, v2, hZ]; rfl), hb⟩ : ∃ A3 n3 c3 rs, e = Ending.returned (nv SG A3 n3 c3 lo) ∧ ResI w' V.heap.size A3 n3 c3 rs ∧ DCan rs ∧ dval rs = Z ∧ Below V.heap.size V w')
  unfold dv nv at *
  have OF1 := Lib.hid hof1
  have OF2 := Lib.hid hof2
  have OPP := Lib.hid hopp
  have SUM := Lib.hid hsum
  obtain ⟨ma, mb⟩ := two_new w (.cells #[.bool na, .slice A n c, .int .i64 e1] 24) (.cells #[.bool nb, .slice B m d, .int .i64 e2] 24)
  have hw : Below w.heap.size w ((w.alloc (.cells #[.bool na, .slice A n c, .int .i64 e1] 24)).alloc (.cells #[.bool nb, .slice B m d, .int .i64 e2] 24)) := ((Below.refl _ w).alloc (Nat.le_refl _) _).alloc (by simp) _
  have HMA := Lib.hid ma
  have HMB := Lib.hid mb
  clear hof1 hof2 hopp hsum hres ma mb hSG hZ hlo k1 k2 a1 a2 a3 a4 b1 b2 b3 b4
  go_enter Tryz.func56, Tryz.ntmps56
  go_upto_region 1 with fail
  have ma := HMA.out
  have mb := HMB.out
  clear HMA HMB
  generalize ((w.alloc (.cells #[.bool na, .slice A n c, .int .i64 e1] 24)).alloc (.cells #[.bool nb, .slice B m d, .int .i64 e2] 24)) = W at ma mb hw ⊢
  have up : ∀ {W' : World}, Below w.heap.size w W' → ∀ b, S b → b < W'.heap.size := fun hW b h => by have := hS b h; have := hW.size; omega
  obtain ⟨p0, p1, p2⟩ := box3_of ma
  obtain ⟨p3, p4, p5⟩ := box3_of mb
  go_cut [5] from 6 to 11 (fun s5 wc => ∃ gn A3 n3 c3 rs, s5 = .pointer (some ⟨gn, 0, none⟩) ∧ wc.heap[gn]? = some (.cells #[.bool SG, .slice A3 n3 c3, .int .i64 lo] 88) ∧ rs.length = n3 ∧ DCan rs ∧ dval rs = Z ∧ Below w.heap.size w wc)
  case first =>
    go_wp2_with fail
    refine wp_region_held_drew (S := fun w' => w'.cell? ⟨w.heap.size, 0, none⟩ = some (.bool na) ∧ w'.cell? ⟨w.heap.size, 1, none⟩ = some (.slice A n c) ∧ w'.cell? ⟨w.heap.size, 2, none⟩ = some (.int .i64 e1) ∧ w'.cell? ⟨w.heap.size + 1, 0, none⟩ = some (.bool nb) ∧ w'.cell? ⟨w.heap.size + 1, 1, none⟩ = some (.slice B m d) ∧ w'.cell? ⟨w.heap.size + 1, 2, none⟩ = some (.int .i64 e2)) (by kernel_rfl) ⟨p0, p1, p2, p3, p4, p5⟩ (fun hHeld => ?_)
    (try simp only [List.size_toArray, List.length_cons, List.length_nil, Nat.reduceAdd, Array.replicate_succ, Array.replicate_zero, List.push_toArray, List.append_toArray, List.nil_append, List.cons_append])
    refine wpAnyH_take (i := 0) (oi := ⟨_, _, _, _, _, _⟩) (v := ?_) rfl (by kernel_rfl) (by kernel_rfl) (by kernel_rfl) (fun _ _ _ h => h) (Or.inl ⟨by rfl, ?_⟩) (by assumption) ?_
    rotate_left
    · intro w hSw
      (try dsimp only at hSw)
      go_split_ands
      go_simp
      try with_reducible rfl
    try simp only [Act.put, List.setIfInBounds_toArray, List.set_cons_zero, List.set_cons_succ]
    refine wpAnyH_take (i := 2) (oi := ⟨_, _, _, _, _, _⟩) (v := ?_) rfl (by kernel_rfl) (by kernel_rfl) (by kernel_rfl) (fun _ _ _ h => h) (Or.inl ⟨by rfl, ?_⟩) (by assumption) ?_
    rotate_left
    · intro w hSw
      (try dsimp only at hSw)
      go_split_ands
      go_simp
      try with_reducible rfl
    try simp only [Act.put, List.setIfInBounds_toArray, List.set_cons_zero, List.set_cons_succ]
    clear p0 p1 p2 p3 p4 p5
    have ma : W.drew.heap[w.heap.size]? = _ := ma
    have mb : W.drew.heap[w.heap.size + 1]? = _ := mb
    have hW : Below w.heap.size w W.drew := only_drewB hw
    have hWs0 : w.heap.size + 2 ≤ W.drew.heap.size := by have := (Array.getElem?_eq_some_iff.1 mb).1; omega
    generalize hV0 : W.drew = V0 at *
    have mb0 := mb
    clear hV0 hHeld
    refine wpAnyH_ready (rs := [1, 6]) (by kernel_rfl) (by simp) ?_
    refine (AllReadyH.cons (o := ⟨_, _, _, _, _, _⟩) rfl (fun K hK => ?_) (AllReadyH.cons (o := ⟨_, _, _, _, _, _⟩) rfl (fun K hK => ?_) AllReadyH.nil))
    · go_simp
      refine (OF1.out V0 (ha.below hW hS) (fun b h => up hW b h)).mono ?_
      rintro e V1 ⟨A1, n1, c1, ds, rfl, r1, d1, v1, l1, hb0⟩
      have ma := heldz hb0 ma
      have mb := heldz hb0 mb
      have hW := hW.trans (hb0.mono hW.size)
      (try dsimp only)
      obtain ⟨x0, x1, x2⟩ := box3_of ma
      obtain ⟨x3, x4, x5⟩ := box3_of mb
      refine hK.out _ _ ⟨x0, x1, x2, x3, x4, x5⟩ (fun _ => ?_)
      clear hK K x0 x1 x2 x3 x4 x5
      try simp only [Act.put, List.setIfInBounds_toArray, List.set_cons_zero, List.set_cons_succ]
      have hWs0 : w.heap.size + 2 ≤ V1.heap.size := Nat.le_trans hWs0 hb0.size
      clear hb0
      refine wpAnyH_ready (rs := [3, 6]) (by kernel_rfl) (by simp) ?_
      refine (AllReadyH.cons (o := ⟨_, _, _, _, _, _⟩) rfl (fun K hK => ?_) (AllReadyH.cons (o := ⟨_, _, _, _, _, _⟩) rfl (fun K hK => ?_) AllReadyH.nil))
      · go_simp
        refine (OF2.out V1 (hb.below hW hS) (fun b h => up hW b h)).mono ?_
        rintro e V2 ⟨A2, n2, c2, es, rfl, r2, d2, v2, l2, hb0⟩
        have r1 := r1.below hb0 (Nat.le_refl _)
        have ma := heldz hb0 ma
        have mb := heldz hb0 mb
        have hW := hW.trans (hb0.mono hW.size)
        (try dsimp only)
        obtain ⟨x0, x1, x2⟩ := box3_of ma
        obtain ⟨x3, x4, x5⟩ := box3_of mb
        refine hK.out _ _ ⟨x0, x1, x2, x3, x4, x5⟩ (fun _ => ?_)
        clear hK K x0 x1 x2 x3 x4 x5
        try simp only [Act.put, List.setIfInBounds_toArray, List.set_cons_zero, List.set_cons_succ]
        have hWs0 : w.heap.size + 2 ≤ V2.heap.size := Nat.le_trans hWs0 hb0.size
        clear hb0
        refine wpAnyH_ready (rs := [4, 6]) (by kernel_rfl) (by simp) ?_
        refine (AllReadyH.cons (o := ⟨_, _, _, _, _, _⟩) rfl (fun K hK => ?_) (AllReadyH.cons (o := ⟨_, _, _, _, _, _⟩) rfl (fun K hK => ?_) AllReadyH.nil))
        · go_simp
          refine (OPP.out V2 A2 n2 c2 es r2.len d2 v2).mono ?_
          rintro e V3 ⟨rfl, hb0⟩
          have r1 := r1.below hb0 (Nat.le_refl _)
          have r2 := r2.below hb0 (Nat.le_refl _)
          have ma := heldz hb0 ma
          have mb := heldz hb0 mb
          have hW := hW.trans (hb0.mono hW.size)
          (try dsimp only)
          obtain ⟨x0, x1, x2⟩ := box3_of ma
          obtain ⟨x3, x4, x5⟩ := box3_of mb
          refine hK.out _ _ ⟨x0, x1, x2, x3, x4, x5⟩ (fun _ => ?_)
          clear hK K x0 x1 x2 x3 x4 x5
          try simp only [Act.put, List.setIfInBounds_toArray, List.set_cons_zero, List.set_cons_succ]
          have hWs0 : w.heap.size + 2 ≤ V3.heap.size := Nat.le_trans hWs0 hb0.size
          clear hb0
          refine wpAnyH_ready (rs := [5, 6]) (by kernel_rfl) (by simp) ?_
          refine (AllReadyH.cons (o := ⟨_, _, _, _, _, _⟩) rfl (fun K hK => ?_) (AllReadyH.cons (o := ⟨_, _, _, _, _, _⟩) rfl (fun K hK => ?_) AllReadyH.nil))
          · go_simp
            refine (SUM.out V3 A1 n1 c1 ds A2 n2 c2 es (r1.rd.more (fun b h => h.2)) (r2.rd.more (fun b h => h.2)) d1 d2 (by omega) (by omega) v1 v2).mono ?_
            rintro e V4 ⟨A3, n3, c3, rs, rfl, r3, d3, v3, hb0⟩
            have l3 := r3.len
            have ma := heldz hb0 ma
            have mb := heldz hb0 mb
            have hW := hW.trans (hb0.mono hW.size)
            (try dsimp only)
            obtain ⟨x0, x1, x2⟩ := box3_of ma
            obtain ⟨x3, x4, x5⟩ := box3_of mb
            refine hK.out _ _ ⟨x0, x1, x2, x3, x4, x5⟩ (fun _ => ?_)
            clear hK K x0 x1 x2 x3 x4 x5
            try simp only [Act.put, List.setIfInBounds_toArray, List.set_cons_zero, List.set_cons_succ]
            have hWs0 : w.heap.size + 2 ≤ V4.heap.size := Nat.le_trans hWs0 hb0.size
            clear hb0
            refine wpAnyH_ready (rs := [6]) (by kernel_rfl) (by simp) ?_
            refine (AllReadyH.cons (o := ⟨_, _, _, _, _, _⟩) rfl (fun K hK => ?_) AllReadyH.nil)
            · go_simp
              obtain ⟨gn, hg⟩ : ∃ g, g = V4.heap.size := ⟨_, rfl⟩
              have ma := heldA (.cells #[.bool false, .slice none 0 0, .int .i64 0] 88) ma
              have mb := heldA (.cells #[.bool false, .slice none 0 0, .int .i64 0] 88) mb
              have mn := World.alloc_heap_new V4 (.cells #[.bool false, .slice none 0 0, .int .i64 0] 88)
              rw [← hg] at mn
              have hsz : (V4.alloc (.cells #[.bool false, .slice none 0 0, .int .i64 0] 88)).heap.size = V4.heap.size + 1 := by simp
              have hkg : w.heap.size + 2 ≤ gn := by have := (Array.getElem?_eq_some_iff.1 mb0).1; have := hWs0; omega
              have hW := hW.alloc hW.size (.cells #[.bool false, .slice none 0 0, .int .i64 0] 88)
              obtain ⟨x0, x1, x2⟩ := box3_of ma
              obtain ⟨x3, x4, x5⟩ := box3_of mb
              refine hK.out _ _ ⟨x0, x1, x2, x3, x4, x5⟩ (fun _ => ?_)
              clear hK K x0 x1 x2 x3 x4 x5
              try simp only [Act.put, List.setIfInBounds_toArray, List.set_cons_zero, List.set_cons_succ]
              try rw [← hg]
              generalize hU : V4.alloc (.cells #[.bool false, .slice none 0 0, .int .i64 0] 88) = V5 at *
              clear hU hg hsz
              have hWs0 : w.heap.size + 2 ≤ V5.heap.size := by have := (Array.getElem?_eq_some_iff.1 mn).1; omega
              refine wpAnyH_ready (rs := [7]) (by kernel_rfl) (by simp) (AllReadyH.cons (o := ⟨_, _, _, _, _, _⟩) rfl (fun K hK => ?_) AllReadyH.nil)
              obtain ⟨t0, t1, t2⟩ := box3_of mn
              have f0 := frozen_of 0 mn
              have f1 := frozen_of 1 mn
              have f2 := frozen_of 2 mn
              go_simp
              clear t0 t1 t2 f0 f1 f2
              have mn := set_blk (v := .bool SG) (i := 0) mn rfl
              have ma := set_other (i := 0) ma (show w.heap.size ≠ gn by omega) (.bool SG)
              have mb := set_other (i := 0) mb (show w.heap.size + 1 ≠ gn by omega) (.bool SG)
              have hW := hW.setCell (p := ⟨gn, 0, none⟩) (show w.heap.size ≤ gn by omega) (.bool SG)
              have mn := set_blk (v := .slice A3 n3 c3) (i := 1) mn rfl
              have ma := set_other (i := 1) ma (show w.heap.size ≠ gn by omega) (.slice A3 n3 c3)
              have mb := set_other (i := 1) mb (show w.heap.size + 1 ≠ gn by omega) (.slice A3 n3 c3)
              have hW := hW.setCell (p := ⟨gn, 1, none⟩) (show w.heap.size ≤ gn by omega) (.slice A3 n3 c3)
              have mn := set_blk (v := .int .i64 lo) (i := 2) mn rfl
              have ma := set_other (i := 2) ma (show w.heap.size ≠ gn by omega) (.int .i64 lo)
              have mb := set_other (i := 2) mb (show w.heap.size + 1 ≠ gn by omega) (.int .i64 lo)
              have hW := hW.setCell (p := ⟨gn, 2, none⟩) (show w.heap.size ≤ gn by omega) (.int .i64 lo)
              obtain ⟨x0, x1, x2⟩ := box3_of ma
              obtain ⟨x3, x4, x5⟩ := box3_of mb
              refine hK.out _ _ ⟨x0, x1, x2, x3, x4, x5⟩ (fun _ => ?_)
              clear hK K x0 x1 x2 x3 x4 x5
              try simp only [Act.put, List.setIfInBounds_toArray, List.set_cons_zero, List.set_cons_succ]
              refine wpAnyH_done (by kernel_rfl) ?_ _
              go_wp2
              go_meet
              exact ⟨gn, A3, n3, c3, rs, rfl, mn, l3, d3, v3, hW⟩
          · go_simp
            obtain ⟨gn, hg⟩ : ∃ g, g = V3.heap.size := ⟨_, rfl⟩
            have ma := heldA (.cells #[.bool false, .slice none 0 0, .int .i64 0] 88) ma
            have mb := heldA (.cells #[.bool false, .slice none 0 0, .int .i64 0] 88) mb
            have mn := World.alloc_heap_new V3 (.cells #[.bool false, .slice none 0 0, .int .i64 0] 88)
            rw [← hg] at mn
            have r1 := r1.below ((Below.refl V3.heap.size V3).alloc (Nat.le_refl _) (.cells #[.bool false, .slice none 0 0, .int .i64 0] 88)) (Nat.le_refl _)
            have r2 := r2.below ((Below.refl V3.heap.size V3).alloc (Nat.le_refl _) (.cells #[.bool false, .slice none 0 0, .int .i64 0] 88)) (Nat.le_refl _)
            have hsz : (V3.alloc (.cells #[.bool false, .slice none 0 0, .int .i64 0] 88)).heap.size = V3.heap.size + 1 := by simp
            have hkg : w.heap.size + 2 ≤ gn := by have := (Array.getElem?_eq_some_iff.1 mb0).1; have := hWs0; omega
            have hW := hW.alloc hW.size (.cells #[.bool false, .slice none 0 0, .int .i64 0] 88)
            obtain ⟨x0, x1, x2⟩ := box3_of ma
            obtain ⟨x3, x4, x5⟩ := box3_of mb
            refine hK.out _ _ ⟨x0, x1, x2, x3, x4, x5⟩ (fun _ => ?_)
            clear hK K x0 x1 x2 x3 x4 x5
            try simp only [Act.put, List.setIfInBounds_toArray, List.set_cons_zero, List.set_cons_succ]
            try rw [← hg]
            generalize hU : V3.alloc (.cells #[.bool false, .slice none 0 0, .int .i64 0] 88) = V6 at *
            clear hU hg hsz
            have hWs0 : w.heap.size + 2 ≤ V6.heap.size := by have := (Array.getElem?_eq_some_iff.1 mn).1; omega
            refine wpAnyH_ready (rs := [5]) (by kernel_rfl) (by simp) ?_
            refine (AllReadyH.cons (o := ⟨_, _, _, _, _, _⟩) rfl (fun K hK => ?_) AllReadyH.nil)
            · go_simp
              refine (SUM.out V6 A1 n1 c1 ds A2 n2 c2 es (r1.rd.more (fun b h => h.2)) (r2.rd.more (fun b h => h.2)) d1 d2 (by omega) (by omega) v1 v2).mono ?_
              rintro e V7 ⟨A3, n3, c3, rs, rfl, r3, d3, v3, hb0⟩
              have l3 := r3.len
              have ma := heldz hb0 ma
              have mb := heldz hb0 mb
              have mn := heldz hb0 mn
              have hW := hW.trans (hb0.mono hW.size)
              (try dsimp only)
              obtain ⟨x0, x1, x2⟩ := box3_of ma
              obtain ⟨x3, x4, x5⟩ := box3_of mb
              refine hK.out _ _ ⟨x0, x1, x2, x3, x4, x5⟩ (fun _ => ?_)
              clear hK K x0 x1 x2 x3 x4 x5
              try simp only [Act.put, List.setIfInBounds_toArray, List.set_cons_zero, List.set_cons_succ]
              have hWs0 : w.heap.size + 2 ≤ V7.heap.size := Nat.le_trans hWs0 hb0.size
              clear hb0
              refine wpAnyH_ready (rs := [7]) (by kernel_rfl) (by simp) (AllReadyH.cons (o := ⟨_, _, _, _, _, _⟩) rfl (fun K hK => ?_) AllReadyH.nil)
              obtain ⟨t0, t1, t2⟩ := box3_of mn
              have f0 := frozen_of 0 mn
              have f1 := frozen_of 1 mn
              have f2 := frozen_of 2 mn
              go_simp
              clear t0 t1 t2 f0 f1 f2
              have mn := set_blk (v := .bool SG) (i := 0) mn rfl
              have ma := set_other (i := 0) ma (show w.heap.size ≠ gn by omega) (.bool SG)
              have mb := set_other (i := 0) mb (show w.heap.size + 1 ≠ gn by omega) (.bool SG)
              have hW := hW.setCell (p := ⟨gn, 0, none⟩) (show w.heap.size ≤ gn by omega) (.bool SG)
              have mn := set_blk (v := .slice A3 n3 c3) (i := 1) mn rfl
              have ma := set_other (i := 1) ma (show w.heap.size ≠ gn by omega) (.slice A3 n3 c3)
              have mb := set_other (i := 1) mb (show w.heap.size + 1 ≠ gn by omega) (.slice A3 n3 c3)
              have hW := hW.setCell (p := ⟨gn, 1, none⟩) (show w.heap.size ≤ gn by omega) (.slice A3 n3 c3)
              have mn := set_blk (v := .int .i64 lo) (i := 2) mn rfl
              have ma := set_other (i := 2) ma (show w.heap.size ≠ gn by omega) (.int .i64 lo)
              have mb := set_other (i := 2) mb (show w.heap.size + 1 ≠ gn by omega) (.int .i64 lo)
              have hW := hW.setCell (p := ⟨gn, 2, none⟩) (show w.heap.size ≤ gn by omega) (.int .i64 lo)
              obtain ⟨x0, x1, x2⟩ := box3_of ma
              obtain ⟨x3, x4, x5⟩ := box3_of mb
              refine hK.out _ _ ⟨x0, x1, x2, x3, x4, x5⟩ (fun _ => ?_)
              clear hK K x0 x1 x2 x3 x4 x5
              try simp only [Act.put, List.setIfInBounds_toArray, List.set_cons_zero, List.set_cons_succ]
              refine wpAnyH_done (by kernel_rfl) ?_ _
              go_wp2
              go_meet
              exact ⟨gn, A3, n3, c3, rs, rfl, mn, l3, d3, v3, hW⟩
        · go_simp
          obtain ⟨gn, hg⟩ : ∃ g, g = V2.heap.size := ⟨_, rfl⟩
          have ma := heldA (.cells #[.bool false, .slice none 0 0, .int .i64 0] 88) ma
          have mb := heldA (.cells #[.bool false, .slice none 0 0, .int .i64 0] 88) mb
          have mn := World.alloc_heap_new V2 (.cells #[.bool false, .slice none 0 0, .int .i64 0] 88)
          rw [← hg] at mn
          have r1 := r1.below ((Below.refl V2.heap.size V2).alloc (Nat.le_refl _) (.cells #[.bool false, .slice none 0 0, .int .i64 0] 88)) (Nat.le_refl _)
          have r2 := r2.below ((Below.refl V2.heap.size V2).alloc (Nat.le_refl _) (.cells #[.bool false, .slice none 0 0, .int .i64 0] 88)) (Nat.le_refl _)
          have hsz : (V2.alloc (.cells #[.bool false, .slice none 0 0, .int .i64 0] 88)).heap.size = V2.heap.size + 1 := by simp
          have hkg : w.heap.size + 2 ≤ gn := by have := (Array.getElem?_eq_some_iff.1 mb0).1; have := hWs0; omega
          have hW := hW.alloc hW.size (.cells #[.bool false, .slice none 0 0, .int .i64 0] 88)
          obtain ⟨x0, x1, x2⟩ := box3_of ma
          obtain ⟨x3, x4, x5⟩ := box3_of mb
          refine hK.out _ _ ⟨x0, x1, x2, x3, x4, x5⟩ (fun _ => ?_)
          clear hK K x0 x1 x2 x3 x4 x5
          try simp only [Act.put, List.setIfInBounds_toArray, List.set_cons_zero, List.set_cons_succ]
          try rw [← hg]
          generalize hU : V2.alloc (.cells #[.bool false, .slice none 0 0, .int .i64 0] 88) = V8 at *
          clear hU hg hsz
          have hWs0 : w.heap.size + 2 ≤ V8.heap.size := by have := (Array.getElem?_eq_some_iff.1 mn).1; omega
          refine wpAnyH_ready (rs := [4]) (by kernel_rfl) (by simp) ?_
          refine (AllReadyH.cons (o := ⟨_, _, _, _, _, _⟩) rfl (fun K hK => ?_) AllReadyH.nil)
          · go_simp
            refine (OPP.out V8 A2 n2 c2 es r2.len d2 v2).mono ?_
            rintro e V9 ⟨rfl, hb0⟩
            have r1 := r1.below hb0 (Nat.le_refl _)
            have r2 := r2.below hb0 (Nat.le_refl _)
            have ma := heldz hb0 ma
            have mb := heldz hb0 mb
            have mn := heldz hb0 mn
            have hW := hW.trans (hb0.mono hW.size)
            (try dsimp only)
            obtain ⟨x0, x1, x2⟩ := box3_of ma
            obtain ⟨x3, x4, x5⟩ := box3_of mb
            refine hK.out _ _ ⟨x0, x1, x2, x3, x4, x5⟩ (fun _ => ?_)
            clear hK K x0 x1 x2 x3 x4 x5
            try simp only [Act.put, List.setIfInBounds_toArray, List.set_cons_zero, List.set_cons_succ]
            have hWs0 : w.heap.size + 2 ≤ V9.heap.size := Nat.le_trans hWs0 hb0.size
            clear hb0
            refine wpAnyH_ready (rs := [5]) (by kernel_rfl) (by simp) ?_
            refine (AllReadyH.cons (o := ⟨_, _, _, _, _, _⟩) rfl (fun K hK => ?_) AllReadyH.nil)
            · go_simp
              refine (SUM.out V9 A1 n1 c1 ds A2 n2 c2 es (r1.rd.more (fun b h => h.2)) (r2.rd.more (fun b h => h.2)) d1 d2 (by omega) (by omega) v1 v2).mono ?_
              rintro e V10 ⟨A3, n3, c3, rs, rfl, r3, d3, v3, hb0⟩
              have l3 := r3.len
              have ma := heldz hb0 ma
              have mb := heldz hb0 mb
              have mn := heldz hb0 mn
              have hW := hW.trans (hb0.mono hW.size)
              (try dsimp only)
              obtain ⟨x0, x1, x2⟩ := box3_of ma
              obtain ⟨x3, x4, x5⟩ := box3_of mb
              refine hK.out _ _ ⟨x0, x1, x2, x3, x4, x5⟩ (fun _ => ?_)
              clear hK K x0 x1 x2 x3 x4 x5
              try simp only [Act.put, List.setIfInBounds_toArray, List.set_cons_zero, List.set_cons_succ]
              have hWs0 : w.heap.size + 2 ≤ V10.heap.size := Nat.le_trans hWs0 hb0.size
              clear hb0
              refine wpAnyH_ready (rs := [7]) (by kernel_rfl) (by simp) (AllReadyH.cons (o := ⟨_, _, _, _, _, _⟩) rfl (fun K hK => ?_) AllReadyH.nil)
              obtain ⟨t0, t1, t2⟩ := box3_of mn
              have f0 := frozen_of 0 mn
              have f1 := frozen_of 1 mn
              have f2 := frozen_of 2 mn
              go_simp
              clear t0 t1 t2 f0 f1 f2
              have mn := set_blk (v := .bool SG) (i := 0) mn rfl
              have ma := set_other (i := 0) ma (show w.heap.size ≠ gn by omega) (.bool SG)
              have mb := set_other (i := 0) mb (show w.heap.size + 1 ≠ gn by omega) (.bool SG)
              have hW := hW.setCell (p := ⟨gn, 0, none⟩) (show w.heap.size ≤ gn by omega) (.bool SG)
              have mn := set_blk (v := .slice A3 n3 c3) (i := 1) mn rfl
              have ma := set_other (i := 1) ma (show w.heap.size ≠ gn by omega) (.slice A3 n3 c3)
              have mb := set_other (i := 1) mb (show w.heap.size + 1 ≠ gn by omega) (.slice A3 n3 c3)
              have hW := hW.setCell (p := ⟨gn, 1, none⟩) (show w.heap.size ≤ gn by omega) (.slice A3 n3 c3)
              have mn := set_blk (v := .int .i64 lo) (i := 2) mn rfl
              have ma := set_other (i := 2) ma (show w.heap.size ≠ gn by omega) (.int .i64 lo)
              have mb := set_other (i := 2) mb (show w.heap.size + 1 ≠ gn by omega) (.int .i64 lo)
              have hW := hW.setCell (p := ⟨gn, 2, none⟩) (show w.heap.size ≤ gn by omega) (.int .i64 lo)
              obtain ⟨x0, x1, x2⟩ := box3_of ma
              obtain ⟨x3, x4, x5⟩ := box3_of mb
              refine hK.out _ _ ⟨x0, x1, x2, x3, x4, x5⟩ (fun _ => ?_)
              clear hK K x0 x1 x2 x3 x4 x5
              try simp only [Act.put, List.setIfInBounds_toArray, List.set_cons_zero, List.set_cons_succ]
              refine wpAnyH_done (by kernel_rfl) ?_ _
              go_wp2
              go_meet
              exact ⟨gn, A3, n3, c3, rs, rfl, mn, l3, d3, v3, hW⟩
      · go_simp
        obtain ⟨gn, hg⟩ : ∃ g, g = V1.heap.size := ⟨_, rfl⟩
        have ma := heldA (.cells #[.bool false, .slice none 0 0, .int .i64 0] 88) ma
        have mb := heldA (.cells #[.bool false, .slice none 0 0, .int .i64 0] 88) mb
        have mn := World.alloc_heap_new V1 (.cells #[.bool false, .slice none 0 0, .int .i64 0] 88)
        rw [← hg] at mn
        have r1 := r1.below ((Below.refl V1.heap.size V1).alloc (Nat.le_refl _) (.cells #[.bool false, .slice none 0 0, .int .i64 0] 88)) (Nat.le_refl _)
        have hsz : (V1.alloc (.cells #[.bool false, .slice none 0 0, .int .i64 0] 88)).heap.size = V1.heap.size + 1 := by simp
        have hkg : w.heap.size + 2 ≤ gn := by have := (Array.getElem?_eq_some_iff.1 mb0).1; have := hWs0; omega
        have hW := hW.alloc hW.size (.cells #[.bool false, .slice none 0 0, .int .i64 0] 88)
        obtain ⟨x0, x1, x2⟩ := box3_of ma
        obtain ⟨x3, x4, x5⟩ := box3_of mb
        refine hK.out _ _ ⟨x0, x1, x2, x3, x4, x5⟩ (fun _ => ?_)
        clear hK K x0 x1 x2 x3 x4 x5
        try simp only [Act.put, List.setIfInBounds_toArray, List.set_cons_zero, List.set_cons_succ]
        try rw [← hg]
        generalize hU : V1.alloc (.cells #[.bool false, .slice none 0 0, .int .i64 0] 88) = V11 at *
        clear hU hg hsz
        have hWs0 : w.heap.size + 2 ≤ V11.heap.size := by have := (Array.getElem?_eq_some_iff.1 mn).1; omega
        refine wpAnyH_ready (rs := [3]) (by kernel_rfl) (by simp) ?_
        refine (AllReadyH.cons (o := ⟨_, _, _, _, _, _⟩) rfl (fun K hK => ?_) AllReadyH.nil)
        · go_simp
          refine (OF2.out V11 (hb.below hW hS) (fun b h => up hW b h)).mono ?_
          rintro e V12 ⟨A2, n2, c2, es, rfl, r2, d2, v2, l2, hb0⟩
          have r1 := r1.below hb0 (Nat.le_refl _)
          have ma := heldz hb0 ma
          have mb := heldz hb0 mb
          have mn := heldz hb0 mn
          have hW := hW.trans (hb0.mono hW.size)
          (try dsimp only)
          obtain ⟨x0, x1, x2⟩ := box3_of ma
          obtain ⟨x3, x4, x5⟩ := box3_of mb
          refine hK.out _ _ ⟨x0, x1, x2, x3, x4, x5⟩ (fun _ => ?_)
          clear hK K x0 x1 x2 x3 x4 x5
          try simp only [Act.put, List.setIfInBounds_toArray, List.set_cons_zero, List.set_cons_succ]
          have hWs0 : w.heap.size + 2 ≤ V12.heap.size := Nat.le_trans hWs0 hb0.size
          clear hb0
          refine wpAnyH_ready (rs := [4]) (by kernel_rfl) (by simp) ?_
          refine (AllReadyH.cons (o := ⟨_, _, _, _, _, _⟩) rfl (fun K hK => ?_) AllReadyH.nil)
          · go_simp
            refine (OPP.out V12 A2 n2 c2 es r2.len d2 v2).mono ?_
            rintro e V13 ⟨rfl, hb0⟩
            have r1 := r1.below hb0 (Nat.le_refl _)
            have r2 := r2.below hb0 (Nat.le_refl _)
            have ma := heldz hb0 ma
            have mb := heldz hb0 mb
            have mn := heldz hb0 mn
            have hW := hW.trans (hb0.mono hW.size)
            (try dsimp only)
            obtain ⟨x0, x1, x2⟩ := box3_of ma
            obtain ⟨x3, x4, x5⟩ := box3_of mb
            refine hK.out _ _ ⟨x0, x1, x2, x3, x4, x5⟩ (fun _ => ?_)
            clear hK K x0 x1 x2 x3 x4 x5
            try simp only [Act.put, List.setIfInBounds_toArray, List.set_cons_zero, List.set_cons_succ]
            have hWs0 : w.heap.size + 2 ≤ V13.heap.size := Nat.le_trans hWs0 hb0.size
            clear hb0
            refine wpAnyH_ready (rs := [5]) (by kernel_rfl) (by simp) ?_
            refine (AllReadyH.cons (o := ⟨_, _, _, _, _, _⟩) rfl (fun K hK => ?_) AllReadyH.nil)
            · go_simp
              refine (SUM.out V13 A1 n1 c1 ds A2 n2 c2 es (r1.rd.more (fun b h => h.2)) (r2.rd.more (fun b h => h.2)) d1 d2 (by omega) (by omega) v1 v2).mono ?_
              rintro e V14 ⟨A3, n3, c3, rs, rfl, r3, d3, v3, hb0⟩
              have l3 := r3.len
              have ma := heldz hb0 ma
              have mb := heldz hb0 mb
              have mn := heldz hb0 mn
              have hW := hW.trans (hb0.mono hW.size)
              (try dsimp only)
              obtain ⟨x0, x1, x2⟩ := box3_of ma
              obtain ⟨x3, x4, x5⟩ := box3_of mb
              refine hK.out _ _ ⟨x0, x1, x2, x3, x4, x5⟩ (fun _ => ?_)
              clear hK K x0 x1 x2 x3 x4 x5
              try simp only [Act.put, List.setIfInBounds_toArray, List.set_cons_zero, List.set_cons_succ]
              have hWs0 : w.heap.size + 2 ≤ V14.heap.size := Nat.le_trans hWs0 hb0.size
              clear hb0
              refine wpAnyH_ready (rs := [7]) (by kernel_rfl) (by simp) (AllReadyH.cons (o := ⟨_, _, _, _, _, _⟩) rfl (fun K hK => ?_) AllReadyH.nil)
              obtain ⟨t0, t1, t2⟩ := box3_of mn
              have f0 := frozen_of 0 mn
              have f1 := frozen_of 1 mn
              have f2 := frozen_of 2 mn
              go_simp
              clear t0 t1 t2 f0 f1 f2
              have mn := set_blk (v := .bool SG) (i := 0) mn rfl
              have ma := set_other (i := 0) ma (show w.heap.size ≠ gn by omega) (.bool SG)
              have mb := set_other (i := 0) mb (show w.heap.size + 1 ≠ gn by omega) (.bool SG)
              have hW := hW.setCell (p := ⟨gn, 0, none⟩) (show w.heap.size ≤ gn by omega) (.bool SG)
              have mn := set_blk (v := .slice A3 n3 c3) (i := 1) mn rfl
              have ma := set_other (i := 1) ma (show w.heap.size ≠ gn by omega) (.slice A3 n3 c3)
              have mb := set_other (i := 1) mb (show w.heap.size + 1 ≠ gn by omega) (.slice A3 n3 c3)
              have hW := hW.setCell (p := ⟨gn, 1, none⟩) (show w.heap.size ≤ gn by omega) (.slice A3 n3 c3)
              have mn := set_blk (v := .int .i64 lo) (i := 2) mn rfl
              have ma := set_other (i := 2) ma (show w.heap.size ≠ gn by omega) (.int .i64 lo)
              have mb := set_other (i := 2) mb (show w.heap.size + 1 ≠ gn by omega) (.int .i64 lo)
              have hW := hW.setCell (p := ⟨gn, 2, none⟩) (show w.heap.size ≤ gn by omega) (.int .i64 lo)
              obtain ⟨x0, x1, x2⟩ := box3_of ma
              obtain ⟨x3, x4, x5⟩ := box3_of mb
              refine hK.out _ _ ⟨x0, x1, x2, x3, x4, x5⟩ (fun _ => ?_)
              clear hK K x0 x1 x2 x3 x4 x5
              try simp only [Act.put, List.setIfInBounds_toArray, List.set_cons_zero, List.set_cons_succ]
              refine wpAnyH_done (by kernel_rfl) ?_ _
              go_wp2
              go_meet
              exact ⟨gn, A3, n3, c3, rs, rfl, mn, l3, d3, v3, hW⟩
    · go_simp
      obtain ⟨gn, hg⟩ : ∃ g, g = V0.heap.size := ⟨_, rfl⟩
      have ma := heldA (.cells #[.bool false, .slice none 0 0, .int .i64 0] 88) ma
      have mb := heldA (.cells #[.bool false, .slice none 0 0, .int .i64 0] 88) mb
      have mn := World.alloc_heap_new V0 (.cells #[.bool false, .slice none 0 0, .int .i64 0] 88)
      rw [← hg] at mn
      have hsz : (V0.alloc (.cells #[.bool false, .slice none 0 0, .int .i64 0] 88)).heap.size = V0.heap.size + 1 := by simp
      have hkg : w.heap.size + 2 ≤ gn := by have := (Array.getElem?_eq_some_iff.1 mb0).1; have := hWs0; omega
      have hW := hW.alloc hW.size (.cells #[.bool false, .slice none 0 0, .int .i64 0] 88)
      obtain ⟨x0, x1, x2⟩ := box3_of ma
      obtain ⟨x3, x4, x5⟩ := box3_of mb
      refine hK.out _ _ ⟨x0, x1, x2, x3, x4, x5⟩ (fun _ => ?_)
      clear hK K x0 x1 x2 x3 x4 x5
      try simp only [Act.put, List.setIfInBounds_toArray, List.set_cons_zero, List.set_cons_succ]
      try rw [← hg]
      generalize hU : V0.alloc (.cells #[.bool false, .slice none 0 0, .int .i64 0] 88) = V15 at *
      clear hU hg hsz
      have hWs0 : w.heap.size + 2 ≤ V15.heap.size := by have := (Array.getElem?_eq_some_iff.1 mn).1; omega
      refine wpAnyH_ready (rs := [1]) (by kernel_rfl) (by simp) ?_
      refine (AllReadyH.cons (o := ⟨_, _, _, _, _, _⟩) rfl (fun K hK => ?_) AllReadyH.nil)
      · go_simp
        refine (OF1.out V15 (ha.below hW hS) (fun b h => up hW b h)).mono ?_
        rintro e V16 ⟨A1, n1, c1, ds, rfl, r1, d1, v1, l1, hb0⟩
        have ma := heldz hb0 ma
        have mb := heldz hb0 mb
        have mn := heldz hb0 mn
        have hW := hW.trans (hb0.mono hW.size)
        (try dsimp only)
        obtain ⟨x0, x1, x2⟩ := box3_of ma
        obtain ⟨x3, x4, x5⟩ := box3_of mb
        refine hK.out _ _ ⟨x0, x1, x2, x3, x4, x5⟩ (fun _ => ?_)
        clear hK K x0 x1 x2 x3 x4 x5
        try simp only [Act.put, List.setIfInBounds_toArray, List.set_cons_zero, List.set_cons_succ]
        have hWs0 : w.heap.size + 2 ≤ V16.heap.size := Nat.le_trans hWs0 hb0.size
        clear hb0
        refine wpAnyH_ready (rs := [3]) (by kernel_rfl) (by simp) ?_
        refine (AllReadyH.cons (o := ⟨_, _, _, _, _, _⟩) rfl (fun K hK => ?_) AllReadyH.nil)
        · go_simp
          refine (OF2.out V16 (hb.below hW hS) (fun b h => up hW b h)).mono ?_
          rintro e V17 ⟨A2, n2, c2, es, rfl, r2, d2, v2, l2, hb0⟩
          have r1 := r1.below hb0 (Nat.le_refl _)
          have ma := heldz hb0 ma
          have mb := heldz hb0 mb
          have mn := heldz hb0 mn
          have hW := hW.trans (hb0.mono hW.size)
          (try dsimp only)
          obtain ⟨x0, x1, x2⟩ := box3_of ma
          obtain ⟨x3, x4, x5⟩ := box3_of mb
          refine hK.out _ _ ⟨x0, x1, x2, x3, x4, x5⟩ (fun _ => ?_)
          clear hK K x0 x1 x2 x3 x4 x5
          try simp only [Act.put, List.setIfInBounds_toArray, List.set_cons_zero, List.set_cons_succ]
          have hWs0 : w.heap.size + 2 ≤ V17.heap.size := Nat.le_trans hWs0 hb0.size
          clear hb0
          refine wpAnyH_ready (rs := [4]) (by kernel_rfl) (by simp) ?_
          refine (AllReadyH.cons (o := ⟨_, _, _, _, _, _⟩) rfl (fun K hK => ?_) AllReadyH.nil)
          · go_simp
            refine (OPP.out V17 A2 n2 c2 es r2.len d2 v2).mono ?_
            rintro e V18 ⟨rfl, hb0⟩
            have r1 := r1.below hb0 (Nat.le_refl _)
            have r2 := r2.below hb0 (Nat.le_refl _)
            have ma := heldz hb0 ma
            have mb := heldz hb0 mb
            have mn := heldz hb0 mn
            have hW := hW.trans (hb0.mono hW.size)
            (try dsimp only)
            obtain ⟨x0, x1, x2⟩ := box3_of ma
            obtain ⟨x3, x4, x5⟩ := box3_of mb
            refine hK.out _ _ ⟨x0, x1, x2, x3, x4, x5⟩ (fun _ => ?_)
            clear hK K x0 x1 x2 x3 x4 x5
            try simp only [Act.put, List.setIfInBounds_toArray, List.set_cons_zero, List.set_cons_succ]
            have hWs0 : w.heap.size + 2 ≤ V18.heap.size := Nat.le_trans hWs0 hb0.size
            clear hb0
            refine wpAnyH_ready (rs := [5]) (by kernel_rfl) (by simp) ?_
            refine (AllReadyH.cons (o := ⟨_, _, _, _, _, _⟩) rfl (fun K hK => ?_) AllReadyH.nil)
            · go_simp
              refine (SUM.out V18 A1 n1 c1 ds A2 n2 c2 es (r1.rd.more (fun b h => h.2)) (r2.rd.more (fun b h => h.2)) d1 d2 (by omega) (by omega) v1 v2).mono ?_
              rintro e V19 ⟨A3, n3, c3, rs, rfl, r3, d3, v3, hb0⟩
              have l3 := r3.len
              have ma := heldz hb0 ma
              have mb := heldz hb0 mb
              have mn := heldz hb0 mn
              have hW := hW.trans (hb0.mono hW.size)
              (try dsimp only)
              obtain ⟨x0, x1, x2⟩ := box3_of ma
              obtain ⟨x3, x4, x5⟩ := box3_of mb
              refine hK.out _ _ ⟨x0, x1, x2, x3, x4, x5⟩ (fun _ => ?_)
              clear hK K x0 x1 x2 x3 x4 x5
              try simp only [Act.put, List.setIfInBounds_toArray, List.set_cons_zero, List.set_cons_succ]
              have hWs0 : w.heap.size + 2 ≤ V19.heap.size := Nat.le_trans hWs0 hb0.size
              clear hb0
              refine wpAnyH_ready (rs := [7]) (by kernel_rfl) (by simp) (AllReadyH.cons (o := ⟨_, _, _, _, _, _⟩) rfl (fun K hK => ?_) AllReadyH.nil)
              obtain ⟨t0, t1, t2⟩ := box3_of mn
              have f0 := frozen_of 0 mn
              have f1 := frozen_of 1 mn
              have f2 := frozen_of 2 mn
              go_simp
              clear t0 t1 t2 f0 f1 f2
              have mn := set_blk (v := .bool SG) (i := 0) mn rfl
              have ma := set_other (i := 0) ma (show w.heap.size ≠ gn by omega) (.bool SG)
              have mb := set_other (i := 0) mb (show w.heap.size + 1 ≠ gn by omega) (.bool SG)
              have hW := hW.setCell (p := ⟨gn, 0, none⟩) (show w.heap.size ≤ gn by omega) (.bool SG)
              have mn := set_blk (v := .slice A3 n3 c3) (i := 1) mn rfl
              have ma := set_other (i := 1) ma (show w.heap.size ≠ gn by omega) (.slice A3 n3 c3)
              have mb := set_other (i := 1) mb (show w.heap.size + 1 ≠ gn by omega) (.slice A3 n3 c3)
              have hW := hW.setCell (p := ⟨gn, 1, none⟩) (show w.heap.size ≤ gn by omega) (.slice A3 n3 c3)
              have mn := set_blk (v := .int .i64 lo) (i := 2) mn rfl
              have ma := set_other (i := 2) ma (show w.heap.size ≠ gn by omega) (.int .i64 lo)
              have mb := set_other (i := 2) mb (show w.heap.size + 1 ≠ gn by omega) (.int .i64 lo)
              have hW := hW.setCell (p := ⟨gn, 2, none⟩) (show w.heap.size ≤ gn by omega) (.int .i64 lo)
              obtain ⟨x0, x1, x2⟩ := box3_of ma
              obtain ⟨x3, x4, x5⟩ := box3_of mb
              refine hK.out _ _ ⟨x0, x1, x2, x3, x4, x5⟩ (fun _ => ?_)
              clear hK K x0 x1 x2 x3 x4 x5
              try simp only [Act.put, List.setIfInBounds_toArray, List.set_cons_zero, List.set_cons_succ]
              refine wpAnyH_done (by kernel_rfl) ?_ _
              go_wp2
              go_meet
              exact ⟨gn, A3, n3, c3, rs, rfl, mn, l3, d3, v3, hW⟩
  case rest =>
    obtain ⟨gn, A3, n3, c3, rs, rfl, mn, l3, d3, v3, hW⟩ := hcut
    obtain ⟨q0, q1, q2⟩ := box3_of mn
    have hz : Z = 0 ↔ n3 = 0 := by
      constructor
      · intro h
        have := d3.dval_zero (v3.trans h)
        rw [← l3, this]; rfl
      · intro h
        have := List.eq_nil_of_length_eq_zero (l3.trans h)
        rw [← v3, this]; rfl
    clear p0 p1 p2 p3 p4 p5 ma mb
    by_cases h0 : n3 = 0
    · have hr : ordN SG Z = 0 := if_pos (hz.2 h0)
      have HR := Lib.hid hr
      subst h0
      clear hz l3 hr
      go_wp2
      go_ret
      exact ⟨by rw [HR.out]; rfl, hW⟩
    · have hZ0 : ¬ Z = 0 := fun h => h0 (hz.1 h)
      have hnb : ((n3 : Int) == 0) = false := by rw [beq_eq_false_iff_ne]; omega
      cases SG
      · have hr : ordN false Z = 1 := by unfold ordN; rw [if_neg hZ0]; rfl
        have HR := Lib.hid hr
        clear hz l3 hr h0 hZ0
        go_wp2
        go_ret
        exact ⟨by rw [HR.out]; rfl, hW⟩
      · have hr : ordN true Z = -1 := by unfold ordN; rw [if_neg hZ0]; rfl
        have HR := Lib.hid hr
        clear hz l3 hr h0 hZ0
        go_wp2
        go_ret
        exact ⟨by rw [HR.out]; rfl, hW⟩
end Go.Proofs.YtjjpagdnjafgaaaGreatDoor
