/-
  Contract of bolterref03's Mod. Written by gen_rmod.py.
-/
import Derived.Test.YtbbafggejnjjiaaGreatDoorQrnear
import Derived.Test.YtbbafggejnjjiaaGreatDoorRefg
set_option linter.unusedVariables false
set_option linter.unusedSimpArgs false
namespace Go.Proofs.YtbbafggejnjjiaaGreatDoor
open Go.RowKit

theorem okE2_zero' {na nb : Bool} {xs ys : List Nat} {e1 e2 : Int} : okE2 na xs e1 nb ys e2 = 0 ↔ okB na xs e1 = true ∧ okB nb ys e2 = true := by
  unfold okE2 okE
  cases okB na xs e1 <;> cases okB nb ys e2 <;> simp
/-- The errors of Mod and of Div. -/
def eMod (na : Bool) (xs : List Nat) (e1 : Int) (nb : Bool) (ys : List Nat) (e2 : Int) : Nat := if okE2 na xs e1 nb ys e2 = 0 then (if wq (val ys) e2 = 0 then 53 else 0) else okE2 na xs e1 nb ys e2
def eDiv (na : Bool) (xs : List Nat) (e1 : Int) (nb : Bool) (ys : List Nat) (e2 : Int) : Nat := if okE2 na xs e1 nb ys e2 = 0 then (if val ys = 0 then 53 else 0) else okE2 na xs e1 nb ys e2
theorem told_as {w' : World} {base E F : Nat} {s : Bool} {Z : Nat} {lo : Int} (h : E = F) (hF : F ≠ 0) : Told (.returned (.tuple #[dv false none 0 0 0, .int .i64 (F : Int)])) w' base E s Z lo := by
  subst h
  exact told53 hF
theorem eMod_err {na nb : Bool} {xs ys : List Nat} {e1 e2 : Int} (h : okE2 na xs e1 nb ys e2 = 9) : eMod na xs e1 nb ys e2 = 9 := by unfold eMod; rw [h]; rfl
theorem eDiv_err {na nb : Bool} {xs ys : List Nat} {e1 e2 : Int} (h : okE2 na xs e1 nb ys e2 = 9) : eDiv na xs e1 nb ys e2 = 9 := by unfold eDiv; rw [h]; rfl
set_option maxRecDepth 100000 in
set_option maxHeartbeats 8000000 in
theorem RMod_c {S : Nat → Prop} {n m c d : Nat} {A B : Option Addr} {xs ys : List Nat} (na nb : Bool) (e1 e2 : Int) (w : World) (ha : Rd w S A n xs) (hb : Rd w S B m ys) (hS : ∀ b, S b → b < w.heap.size) (hn : n ≤ 9223372036854775807) (hm : m ≤ 9223372036854775807) :
    Calls Tryz.prog 16 #[dv na A n c e1, dv nb B m d e2] w fun e w' => Told e w' w.heap.size (eMod na xs e1 nb ys e2) na (wq (val xs) e1 % wq (val ys) e2) 0 ∧ Below w.heap.size w w' := by
  have up : ∀ {V : World}, Below w.heap.size w V → ∀ b, b < w.heap.size → b < V.heap.size := fun h b hb => by have := h.size; omega
  have HC1 := Lib.hid (fun V (h1 : Rd V S A n xs) hs => RCheck_c (c := c) na e1 V h1 hs hn)
  have HC2 := Lib.hid (fun V (h1 : Rd V S B m ys) hs => RCheck_c (c := d) nb e2 V h1 hs hm)
  unfold dv at HC1 HC2
  have hB : Below w.heap.size w (((w.alloc (.cells #[.bool na, .slice A n c, .int .i64 e1] 24)).alloc (.cells #[.bool nb, .slice B m d, .int .i64 e2] 24)).alloc (.cells #[.bool false, .slice none 0 0, .int .i64 0] 24)) := (((Below.refl w.heap.size w).alloc (Nat.le_refl _) _).alloc (by simp) _).alloc (by simp; omega) _
  obtain ⟨ma, mb, mr⟩ := three_newq w (.cells #[.bool na, .slice A n c, .int .i64 e1] 24) (.cells #[.bool nb, .slice B m d, .int .i64 e2] 24) (.cells #[.bool false, .slice none 0 0, .int .i64 0] 24)
  unfold dv
  go_enter Tryz.func16, Tryz.ntmps16
  go_upto_region 1 with fail
  generalize (((w.alloc (.cells #[.bool na, .slice A n c, .int .i64 e1] 24)).alloc (.cells #[.bool nb, .slice B m d, .int .i64 e2] 24)).alloc (.cells #[.bool false, .slice none 0 0, .int .i64 0] 24)) = W at ma mb mr hB ⊢
  obtain ⟨x0, x1, x2⟩ := box3_of ma
  obtain ⟨y0, y1, y2⟩ := box3_of mb
  rcases okE_cases na xs e1 with ⟨hok1, k1⟩ | ⟨hok1, k1⟩
  rotate_left
  · have hE : Hid (okE2 na xs e1 nb ys e2 = 9) := by show _ = _; unfold okE2; rw [k1]; rfl
    rw [hok1] at HC1
    clear x0 x1 x2 y0 y1 y2
    obtain ⟨x0, x1, x2⟩ := box3_of ma
    obtain ⟨y0, y1, y2⟩ := box3_of mb
    go_wp2_with fail
    refine (HC1.out W (ha.below hB hS) (fun b h => up hB b (hS b h))).mono ?_
    rintro e w1 ⟨rfl, hb0⟩
    have ma := heldz hb0 ma
    have mb := heldz hb0 mb
    have mr := heldz hb0 mr
    have hB := hB.trans (hb0.mono hB.size)
    clear x0 x1 x2 y0 y1 y2
    clear hb0
    obtain ⟨g0, g1, g2⟩ := box3_of mr
    have f0 := frozen_of 0 mr
    have f1 := frozen_of 1 mr
    have f2 := frozen_of 2 mr
    go_wp2
    refine bodyPost_ret (v := .tuple #[.agg #[.bool false, .slice none 0 0, .int .i64 0], .int .i64 9]) (by simp [results, Tryz.results16, go_sem, g0, g1, g2]) rfl ?_
    exact ⟨told_as (eMod_err hE.out) (by decide), ((hB.setCell (p := ⟨w.heap.size + 1 + 1, 0, none⟩) (by simp; omega) _).setCell (p := ⟨w.heap.size + 1 + 1, 1, none⟩) (by simp; omega) _).setCell (p := ⟨w.heap.size + 1 + 1, 2, none⟩) (by simp; omega) _⟩
  rw [hok1] at HC1
  go_wp2_with fail
  refine (HC1.out W (ha.below hB hS) (fun b h => up hB b (hS b h))).mono ?_
  rintro e w1 ⟨rfl, hb0⟩
  have ma := heldz hb0 ma
  have mb := heldz hb0 mb
  have mr := heldz hb0 mr
  have hB := hB.trans (hb0.mono hB.size)
  clear x0 x1 x2 y0 y1 y2
  clear hb0
  obtain ⟨x0, x1, x2⟩ := box3_of ma
  obtain ⟨y0, y1, y2⟩ := box3_of mb
  rcases okE_cases nb ys e2 with ⟨hok2, k2⟩ | ⟨hok2, k2⟩
  rotate_left
  · have hE : Hid (okE2 na xs e1 nb ys e2 = 9) := by show _ = _; unfold okE2; rw [if_pos k1, hok2]
    rw [hok2] at HC2
    go_wp2_with fail
    refine (HC2.out w1 (hb.below hB hS) (fun b h => up hB b (hS b h))).mono ?_
    rintro e w2 ⟨rfl, hb0⟩
    have ma := heldz hb0 ma
    have mb := heldz hb0 mb
    have mr := heldz hb0 mr
    have hB := hB.trans (hb0.mono hB.size)
    clear x0 x1 x2 y0 y1 y2
    clear hb0
    obtain ⟨g0, g1, g2⟩ := box3_of mr
    have f0 := frozen_of 0 mr
    have f1 := frozen_of 1 mr
    have f2 := frozen_of 2 mr
    go_wp2
    refine bodyPost_ret (v := .tuple #[.agg #[.bool false, .slice none 0 0, .int .i64 0], .int .i64 9]) (by simp [results, Tryz.results16, go_sem, g0, g1, g2]) rfl ?_
    exact ⟨told_as (eMod_err hE.out) (by decide), ((hB.setCell (p := ⟨w.heap.size + 1 + 1, 0, none⟩) (by simp; omega) _).setCell (p := ⟨w.heap.size + 1 + 1, 1, none⟩) (by simp; omega) _).setCell (p := ⟨w.heap.size + 1 + 1, 2, none⟩) (by simp; omega) _⟩
  rw [hok2] at HC2
  have hE : Hid (okE2 na xs e1 nb ys e2 = 0) := Lib.hid (okE2_zero'.2 ⟨k1, k2⟩)
  go_wp2_with fail
  refine (HC2.out w1 (hb.below hB hS) (fun b h => up hB b (hS b h))).mono ?_
  rintro e w2 ⟨rfl, hb0⟩
  have ma := heldz hb0 ma
  have mb := heldz hb0 mb
  have mr := heldz hb0 mr
  have hB := hB.trans (hb0.mono hB.size)
  clear x0 x1 x2 y0 y1 y2
  clear hb0
  obtain ⟨x0, x1, x2⟩ := box3_of ma
  obtain ⟨y0, y1, y2⟩ := box3_of mb
  have HW1 := Lib.hid (fun V (h1 : Rd V S A n xs) hs => rwhole_c (c := c) na e1 V h1 hs k1)
  have HW2 := Lib.hid (fun V (h1 : Rd V S B m ys) hs => rwhole_c (c := d) nb e2 V h1 hs k2)
  unfold dv at HW1 HW2
  generalize decide (wr (val xs) e1 ≠ 0) = T1 at *
  generalize decide (0 ≤ half (wr (val xs) e1) (wd 1 (-e1))) = T2 at *
  generalize decide (wr (val ys) e2 ≠ 0) = T3 at *
  generalize decide (0 ≤ half (wr (val ys) e2) (wd 1 (-e2))) = T4 at *
  clear k1 k2 hok1 hok2
  go_wp2_with fail
  refine (HW1.out w2 (ha.below hB hS) (fun b h => up hB b (hS b h))).mono ?_
  rintro e w3 ⟨A3, n3, c3, ds, rfl, r3, d3, v3, l3, l4, l5, hb0⟩
  have ma := heldz hb0 ma
  have mb := heldz hb0 mb
  have mr := heldz hb0 mr
  have hB := hB.trans (hb0.mono hB.size)
  clear x0 x1 x2 y0 y1 y2
  clear hb0
  obtain ⟨x0, x1, x2⟩ := box3_of ma
  obtain ⟨y0, y1, y2⟩ := box3_of mb
  go_wp2_with fail
  refine (HW2.out w3 (hb.below hB hS) (fun b h => up hB b (hS b h))).mono ?_
  rintro e w4 ⟨A4, n4, c4, es, rfl, r4, d4, v4, l6, l7, l8, hb0⟩
  have r3 := r3.step hb0
  have ma := heldz hb0 ma
  have mb := heldz hb0 mb
  have mr := heldz hb0 mr
  have hB := hB.trans (hb0.mono hB.size)
  clear x0 x1 x2 y0 y1 y2
  clear hb0
  obtain ⟨x0, x1, x2⟩ := box3_of ma
  obtain ⟨y0, y1, y2⟩ := box3_of mb
  by_cases hn4 : n4 = 0
  · have h0 : wq (val ys) e2 = 0 := by
      rw [← v4, List.eq_nil_of_length_eq_zero (r4.len.trans hn4)]; rfl
    have HE := Lib.hid (show eMod na xs e1 nb ys e2 = 53 by unfold eMod; rw [if_pos hE.out, if_pos h0])
    subst hn4
    clear h0 v3 v4
    obtain ⟨g0, g1, g2⟩ := box3_of mr
    have f0 := frozen_of 0 mr
    have f1 := frozen_of 1 mr
    have f2 := frozen_of 2 mr
    go_wp2
    refine bodyPost_ret (v := .tuple #[.agg #[.bool false, .slice none 0 0, .int .i64 0], .int .i64 53]) (by simp [results, Tryz.results16, go_sem, g0, g1, g2]) rfl ?_
    exact ⟨told_as HE.out (by decide), ((hB.setCell (p := ⟨w.heap.size + 1 + 1, 0, none⟩) (by simp; omega) _).setCell (p := ⟨w.heap.size + 1 + 1, 1, none⟩) (by simp; omega) _).setCell (p := ⟨w.heap.size + 1 + 1, 2, none⟩) (by simp; omega) _⟩
  · have hn4b : ((n4 : Int) == 0) = false := by rw [beq_eq_false_iff_ne]; omega
    have h0 : wq (val ys) e2 ≠ 0 := by
      intro h
      rw [← v4] at h
      have := d4.inj DCan.nil h
      have h5 := r4.len
      rw [this] at h5
      exact hn4 h5.symm
    have HE := Lib.hid (show eMod na xs e1 nb ys e2 = 0 by unfold eMod; rw [if_pos hE.out, if_neg h0])
    have hq := Quotient_c (c := c3) (d := c4) w4 r3 r4 (fun b h => h) (fun b h => h) d3.1 d4 (by omega) (by omega) (by omega)
    have HV3 := Lib.hid v3
    have HV4 := Lib.hid v4
    have HQ := Lib.hid hq
    clear hn4 h0 v3 v4 hq
    go_wp2_with fail
    refine HQ.out.mono ?_
    rintro e w5 ⟨A5, n5, c5, A6, n6, c6, qs, rs, rfl, r5, r6, d5, d6, hv, hlt, l9, l10, hb0⟩
    have ma := heldz hb0 ma
    have mb := heldz hb0 mb
    have mr := heldz hb0 mr
    have hB := hB.trans (hb0.mono hB.size)
    clear x0 x1 x2 y0 y1 y2
    clear hb0
    obtain ⟨x0, x1, x2⟩ := box3_of ma
    obtain ⟨y0, y1, y2⟩ := box3_of mb
    have h6 := r6.n_le
    unfold maxLen at h6
    have hZ : dval rs = wq (val xs) e1 % wq (val ys) e2 := by
      rw [← HV3.out, ← HV4.out]
      exact ((Nat.div_mod_unique (show 0 < dval es by omega)).2 ⟨(show dval rs + dval es * dval qs = dval ds by rw [hv, Nat.mul_comm]; omega), hlt⟩).2.symm
    have hmd := Made_c (c := c6) na 0 w5 (r6.rd.more (S' := fun b => b < w5.heap.size) (fun b h => h.2)) (fun b h => h) d6.1 (by omega) h6.1 (by omega) (by omega)
    rw [hZ] at hmd
    obtain ⟨ZZ, hZZ⟩ : ∃ z, Hid (z = wq (val xs) e1 % wq (val ys) e2) := ⟨_, Lib.hid rfl⟩
    rw [← hZZ.out] at hmd
    rw [show stN na ZZ 0 = opN 0 na ZZ 0 from rfl, show stX ZZ 0 = opX 0 ZZ 0 from rfl, show stE ZZ 0 = opE 0 ZZ 0 from rfl, show stZ ZZ 0 = opZ 0 ZZ 0 from rfl] at hmd
    unfold nv dv at hmd
    have HMD := Lib.hid hmd
    clear hmd hZ hv hlt HQ
    go_wp2_with fail
    refine HMD.out.mono ?_
    rintro e w6 ⟨A7, n7, c7, rfl, hr, hb0⟩
    have hl5 := (Array.getElem?_eq_some_iff.1 mr).1
    have hBs := hB.size
    have ma := heldz hb0 ma
    have mb := heldz hb0 mb
    have mr := heldz hb0 mr
    have hB := hB.trans (hb0.mono hB.size)
    obtain ⟨g0, g1, g2⟩ := box3_of mr
    have f0 := frozen_of 0 mr
    have f1 := frozen_of 1 mr
    have f2 := frozen_of 2 mr
    clear x0 x1 x2 y0 y1 y2
    dsimp only [dv]
    go_wp2
    refine bodyPost_ret (v := .tuple #[.agg #[.bool (opN 0 na ZZ 0), .slice A7 n7 c7, .int .i64 (opX 0 ZZ 0)], .int .i64 (opE 0 ZZ 0 : Int)]) (by simp [results, Tryz.results16, go_sem, g0, g1, g2]) rfl ?_
    refine ⟨?_, ?_⟩
    · rw [HE.out, ← hZZ.out]
      exact ⟨A7, n7, c7, rfl, (((hr.setOther (by simp; omega) _).setOther (by simp; omega) _).setOther (by simp; omega) _).more (by omega)⟩
    · exact ((hB.setCell (p := ⟨w.heap.size + 1 + 1, 0, none⟩) (by simp; omega) _).setCell (p := ⟨w.heap.size + 1 + 1, 1, none⟩) (by simp; omega) _).setCell (p := ⟨w.heap.size + 1 + 1, 2, none⟩) (by simp; omega) _
end Go.Proofs.YtbbafggejnjjiaaGreatDoor
