/-
  Contracts of bolterref03's nearest, Floor, Ceil and Round. Written by gen_rnear.py.
-/
import Derived.Test.YtbbafggejnjjiaaGreatDoorQrwhole
set_option linter.unusedVariables false
set_option linter.unusedSimpArgs false
namespace Go.Proofs.YtbbafggejnjjiaaGreatDoor
open Go.RowKit

theorem RdI.one1 (V : World) (x : Nat) (hx : x < 9223372036854775808) : RdI (V.alloc (.cells #[.int .i64 (x : Int)] 3)) (fun b => b < (V.alloc (.cells #[.int .i64 (x : Int)] 3)).heap.size) (some ⟨V.heap.size, 0, none⟩) 1 [x] := by
  refine ⟨rfl, fun y hy => by rw [List.mem_singleton.1 hy]; exact hx, fun _ => ⟨V.heap.size, 0, rfl, by simp, ?_⟩⟩
  intro j hj
  obtain rfl : j = 0 := by omega
  exact cell_of (World.alloc_heap_new V _) rfl
theorem RdI.step {V V' : World} {A : Option Addr} {n : Nat} {L : List Nat} (h : RdI V (fun b => b < V.heap.size) A n L) (hb : Below V.heap.size V V') : RdI V' (fun b => b < V'.heap.size) A n L :=
  (h.keep fun p hp => hb.cell hp).more (fun b h => Nat.lt_of_lt_of_le h hb.size)
set_option maxRecDepth 100000 in
set_option maxHeartbeats 2000000 in
theorem rnear_c {S : Nat → Prop} {n c : Nat} {A : Option Addr} {xs : List Nat} (na : Bool) (e1 : Int) (up1 : Bool) (w : World) (ha : Rd w S A n xs) (hS : ∀ b, S b → b < w.heap.size) (k1 : okB na xs e1 = true) :
    Calls Tryz.prog 75 #[dv na A n c e1, .bool up1] w fun e w' => Told e w' w.heap.size 0 na (wq (val xs) e1 + (if up1 = true then 1 else 0)) 0 ∧ Below w.heap.size w w' := by
  have up : ∀ {V : World}, Below w.heap.size w V → ∀ b, b < w.heap.size → b < V.heap.size := fun h b hb => by have := h.size; omega
  have HW := Lib.hid (fun V (h1 : Rd V S A n xs) hs => rwhole_c (c := c) na e1 V h1 hs k1)
  unfold dv at HW
  unfold dv
  have hW : Below w.heap.size w ((w.alloc (.cells #[.bool na, .slice A n c, .int .i64 e1] 24)).alloc (.cells #[.bool false, .slice none 0 0, .int .i64 0] 24)) := ((Below.refl w.heap.size w).alloc (Nat.le_refl _) _).alloc (by simp) _
  obtain ⟨ma, mr⟩ := two_new w (.cells #[.bool na, .slice A n c, .int .i64 e1] 24) (.cells #[.bool false, .slice none 0 0, .int .i64 0] 24)
  obtain ⟨ZZ, hZZ⟩ : ∃ z, Hid (z = wq (val xs) e1 + (if up1 = true then 1 else 0)) := ⟨_, Lib.hid rfl⟩
  rw [← hZZ.out]
  generalize decide (wr (val xs) e1 ≠ 0) = B1 at *
  generalize decide (0 ≤ half (wr (val xs) e1) (wd 1 (-e1))) = B2 at *
  go_enter Tryz.func75, Tryz.ntmps75
  go_wp2_with fail
  generalize ((w.alloc (.cells #[.bool na, .slice A n c, .int .i64 e1] 24)).alloc (.cells #[.bool false, .slice none 0 0, .int .i64 0] 24)) = W at ma mr hW ⊢
  obtain ⟨x0, x1, x2⟩ := box3_of ma
  refine (HW.out W (ha.below hW hS) (fun b h => up hW b (hS b h))).mono ?_
  rintro e w1 ⟨A2, n2, c2, ds, rfl, r2, d2, v2, l2, l3, l4, hb0⟩
  have ma := heldz hb0 ma
  have mr := heldz hb0 mr
  have hB := hW.trans (hb0.mono hW.size)
  have HV2 := Lib.hid v2
  clear x0 x1 x2 hb0 hW v2 HW
  obtain ⟨x0, x1, x2⟩ := box3_of ma
  cases up1 with
  | false =>
    have hm := Made_c (c := c2) na 0 w1 r2 (fun b h => h) d2.1 (by omega) l3 l4 (by omega)
    rw [show dval ds = ZZ from HV2.out.trans (hZZ.out.trans (by simp)).symm] at hm
    unfold nv dv at hm
    rw [show stN na ZZ 0 = opN 0 na ZZ 0 from rfl, show stX ZZ 0 = opX 0 ZZ 0 from rfl, show stE ZZ 0 = opE 0 ZZ 0 from rfl, show stZ ZZ 0 = opZ 0 ZZ 0 from rfl] at hm
    have HMD := Lib.hid hm
    clear hm
    go_wp2_with fail
    refine HMD.out.mono ?_
    rintro e w2 ⟨A5, n5, c5, rfl, hr, hb0⟩
    clear HMD x0 x1 x2
    have hl5 := (Array.getElem?_eq_some_iff.1 mr).1
    have mr := heldz hb0 mr
    have hBs := hB.size
    have hB := hB.trans (hb0.mono hB.size)
    obtain ⟨g0, g1, g2⟩ := box3_of mr
    have f0 := frozen_of 0 mr
    have f1 := frozen_of 1 mr
    have f2 := frozen_of 2 mr
    dsimp only [dv]
    go_wp2
    refine bodyPost_ret (v := .tuple #[.agg #[.bool (opN 0 na ZZ 0), .slice A5 n5 c5, .int .i64 (opX 0 ZZ 0)], .int .i64 (opE 0 ZZ 0 : Int)]) (by simp [results, Tryz.results75, go_sem, g0, g1, g2]) rfl ?_
    refine ⟨⟨A5, n5, c5, rfl, ?_⟩, ?_⟩
    · exact (((hr.setOther (by simp; omega) _).setOther (by simp; omega) _).setOther (by simp; omega) _).more (by omega)
    · exact ((hB.setCell (p := ⟨w.heap.size + 1, 0, none⟩) (by simp) _).setCell (p := ⟨w.heap.size + 1, 1, none⟩) (by simp) _).setCell (p := ⟨w.heap.size + 1, 2, none⟩) (by simp) _
  | true =>
    have hal : Below w1.heap.size w1 (w1.alloc (.cells #[.int .i64 1] 3)) := (Below.refl _ _).alloc (Nat.le_refl _) _
    have hone : RdI (w1.alloc (.cells #[.int .i64 1] 3)) (fun b => b < (w1.alloc (.cells #[.int .i64 1] 3)).heap.size) (some ⟨w1.heap.size, 0, none⟩) 1 [1] := RdI.one1 w1 1 (by decide)
    have ma := heldz hal ma
    have mr := heldz hal mr
    have r2 := r2.step hal
    have hB := hB.trans (hal.mono hB.size)
    go_wp2_with fail
    clear x0 x1 x2 hal
    generalize w1.alloc (.cells #[.int .i64 1] 3) = W1 at hone ma mr r2 hB ⊢
    refine (Plus_c (c := c2) (d := 1) W1 r2 hone (fun b h => h) (fun b h => h) d2.1 (by intro x hx; rw [List.mem_singleton.1 hx]; omega) (by omega) (by omega)).mono ?_
    rintro e w2 ⟨A3, n3, c3, os, rfl, r3, d3, v3, hb0⟩
    have ma := heldz hb0 ma
    have mr := heldz hb0 mr
    have hB := hB.trans (hb0.mono hB.size)
    have h3 := r3.n_le
    unfold maxLen at h3
    have hl3 : n3 ≤ 100000 := by
      rw [← r3.len]
      refine Nat.le_trans (d3.len_le (m := n2 + 1) ?_) (by omega)
      show _ < dp (n2 + 1)
      rw [v3]
      have h1 := dval_lt d2.1
      rw [r2.len] at h1
      have h2 : dval [1] = 1 := rfl
      rw [h2, dp_succ]
      omega
    have hm := Made_c (c := c3) na 0 w2 (r3.rd.more (S' := fun b => b < w2.heap.size) (fun b h => h.2)) (fun b h => h) d3.1 hl3 h3.1 (by omega) (by omega)
    rw [show dval os = ZZ from v3.trans (by rw [HV2.out, hZZ.out]; simp [dval])] at hm
    unfold nv dv at hm
    rw [show stN na ZZ 0 = opN 0 na ZZ 0 from rfl, show stX ZZ 0 = opX 0 ZZ 0 from rfl, show stE ZZ 0 = opE 0 ZZ 0 from rfl, show stZ ZZ 0 = opZ 0 ZZ 0 from rfl] at hm
    have HMD := Lib.hid hm
    clear hm hb0 v3
    obtain ⟨x0, x1, x2⟩ := box3_of ma
    go_wp2_with fail
    refine HMD.out.mono ?_
    rintro e w3 ⟨A5, n5, c5, rfl, hr, hb0⟩
    clear HMD x0 x1 x2
    have hl5 := (Array.getElem?_eq_some_iff.1 mr).1
    have mr := heldz hb0 mr
    have hBs := hB.size
    have hB := hB.trans (hb0.mono hB.size)
    obtain ⟨g0, g1, g2⟩ := box3_of mr
    have f0 := frozen_of 0 mr
    have f1 := frozen_of 1 mr
    have f2 := frozen_of 2 mr
    dsimp only [dv]
    go_wp2
    refine bodyPost_ret (v := .tuple #[.agg #[.bool (opN 0 na ZZ 0), .slice A5 n5 c5, .int .i64 (opX 0 ZZ 0)], .int .i64 (opE 0 ZZ 0 : Int)]) (by simp [results, Tryz.results75, go_sem, g0, g1, g2]) rfl ?_
    refine ⟨⟨A5, n5, c5, rfl, ?_⟩, ?_⟩
    · exact (((hr.setOther (by simp; omega) _).setOther (by simp; omega) _).setOther (by simp; omega) _).more (by omega)
    · exact ((hB.setCell (p := ⟨w.heap.size + 1, 0, none⟩) (by simp) _).setCell (p := ⟨w.heap.size + 1, 1, none⟩) (by simp) _).setCell (p := ⟨w.heap.size + 1, 2, none⟩) (by simp) _

set_option maxRecDepth 100000 in
set_option maxHeartbeats 2000000 in
theorem RFloor_c {S : Nat → Prop} {n c : Nat} {A : Option Addr} {xs : List Nat} (na : Bool) (e1 : Int) (w : World) (ha : Rd w S A n xs) (hS : ∀ b, S b → b < w.heap.size) (hn : n ≤ 9223372036854775807) :
    Calls Tryz.prog 18 #[dv na A n c e1] w fun e w' => Told e w' w.heap.size (okE na xs e1) na (wq (val xs) e1 + (if (na && !decide (wr (val xs) e1 = 0)) = true then 1 else 0)) 0 ∧ Below w.heap.size w w' := by
  have up : ∀ {V : World}, Below w.heap.size w V → ∀ b, b < w.heap.size → b < V.heap.size := fun h b hb => by have := h.size; omega
  have HC := Lib.hid (fun V (h1 : Rd V S A n xs) hs => RCheck_c (c := c) na e1 V h1 hs hn)
  unfold dv at HC
  obtain ⟨UU, hUU⟩ : ∃ u, Hid (u = (na && !decide (wr (val xs) e1 = 0))) := ⟨_, Lib.hid rfl⟩
  rw [← hUU.out]
  obtain ⟨ZZ, hZZ⟩ : ∃ z, Hid (z = wq (val xs) e1 + (if UU = true then 1 else 0)) := ⟨_, Lib.hid rfl⟩
  rw [← hZZ.out]
  have hW : Below w.heap.size w ((w.alloc (.cells #[.bool na, .slice A n c, .int .i64 e1] 24)).alloc (.cells #[.bool false, .slice none 0 0, .int .i64 0] 24)) := ((Below.refl w.heap.size w).alloc (Nat.le_refl _) _).alloc (by simp) _
  obtain ⟨ma, mr⟩ := two_new w (.cells #[.bool na, .slice A n c, .int .i64 e1] 24) (.cells #[.bool false, .slice none 0 0, .int .i64 0] 24)
  rcases okE_cases na xs e1 with ⟨hok, k1⟩ | ⟨hok, k1⟩
  · have HW := Lib.hid (fun V (h1 : Rd V S A n xs) hs => rwhole_c (c := c) na e1 V h1 hs k1)
    have HN := Lib.hid (fun V (h1 : Rd V S A n xs) hs => rnear_c (c := c) na e1 UU V h1 hs k1)
    rw [← hZZ.out] at HN
    obtain ⟨B1, hB1⟩ : ∃ b, Hid (b = decide (wr (val xs) e1 ≠ 0)) := ⟨_, Lib.hid rfl⟩
    obtain ⟨B2, hB2⟩ : ∃ b, Hid (b = decide (0 ≤ half (wr (val xs) e1) (wd 1 (-e1)))) := ⟨_, Lib.hid rfl⟩
    rw [← hB1.out, ← hB2.out] at HW
    rw [hok] at HC ⊢
    unfold dv at HW HN
    unfold dv
    have hU : Hid (UU = (B1 && na)) := by
      show _ = _
      rw [hUU.out, hB1.out]
      by_cases h : wr (val xs) e1 = 0 <;> cases na <;> simp [h]
    clear k1 hok hUU hZZ hB1 hB2
    go_enter Tryz.func18, Tryz.ntmps18
    go_wp2_with fail
    generalize ((w.alloc (.cells #[.bool na, .slice A n c, .int .i64 e1] 24)).alloc (.cells #[.bool false, .slice none 0 0, .int .i64 0] 24)) = W at ma mr hW ⊢
    obtain ⟨x0, x1, x2⟩ := box3_of ma
    refine (HC.out W (ha.below hW hS) (fun b h => up hW b (hS b h))).mono ?_
    rintro e w1 ⟨rfl, hb0⟩
    have ma := heldz hb0 ma
    have mr := heldz hb0 mr
    have hB := hW.trans (hb0.mono hW.size)
    clear x0 x1 x2 hb0 hW
    obtain ⟨x0, x1, x2⟩ := box3_of ma
    go_wp2_with fail
    refine (HW.out w1 (ha.below hB hS) (fun b h => up hB b (hS b h))).mono ?_
    rintro e w2 ⟨A2, n2, c2, ds, rfl, -, -, -, -, -, -, hb0⟩
    have ma := heldz hb0 ma
    have mr := heldz hb0 mr
    have hB := hB.trans (hb0.mono hB.size)
    clear x0 x1 x2 hb0
    obtain ⟨x0, x1, x2⟩ := box3_of ma
    have hN := HN.out w2 (ha.below hB hS) (fun b h => up hB b (hS b h))
    rw [hU.out] at hN
    have HN2 := Lib.hid hN
    clear hN HN HW HC hU UU
    cases B1
    all_goals
      (try simp only [Bool.false_and, Bool.true_and] at HN2)
      go_wp2_with fail
      refine HN2.out.mono ?_
      rintro e w3 ⟨⟨A5, n5, c5, rfl, hr⟩, hb0⟩
      clear x0 x1 x2
      clear HN2
      have hl5 := (Array.getElem?_eq_some_iff.1 mr).1
      have mr := heldz hb0 mr
      have hBs := hB.size
      have hB := hB.trans (hb0.mono hB.size)
      obtain ⟨g0, g1, g2⟩ := box3_of mr
      have f0 := frozen_of 0 mr
      have f1 := frozen_of 1 mr
      have f2 := frozen_of 2 mr
      dsimp only [dv]
      go_wp2
      refine bodyPost_ret (v := .tuple #[.agg #[.bool (opN 0 na ZZ 0), .slice A5 n5 c5, .int .i64 (opX 0 ZZ 0)], .int .i64 (opE 0 ZZ 0 : Int)]) (by simp [results, Tryz.results18, go_sem, g0, g1, g2]) rfl ?_
      refine ⟨⟨A5, n5, c5, rfl, ?_⟩, ?_⟩
      · exact (((hr.setOther (by simp; omega) _).setOther (by simp; omega) _).setOther (by simp; omega) _).more (by omega)
      · exact ((hB.setCell (p := ⟨w.heap.size + 1, 0, none⟩) (by simp) _).setCell (p := ⟨w.heap.size + 1, 1, none⟩) (by simp) _).setCell (p := ⟨w.heap.size + 1, 2, none⟩) (by simp) _
  · rw [hok] at HC ⊢
    unfold dv
    go_enter Tryz.func18, Tryz.ntmps18
    go_wp2_with fail
    generalize ((w.alloc (.cells #[.bool na, .slice A n c, .int .i64 e1] 24)).alloc (.cells #[.bool false, .slice none 0 0, .int .i64 0] 24)) = W at ma mr hW ⊢
    obtain ⟨x0, x1, x2⟩ := box3_of ma
    refine (HC.out W (ha.below hW hS) (fun b h => up hW b (hS b h))).mono ?_
    rintro e w1 ⟨rfl, hb0⟩
    have mr := heldz hb0 mr
    have hB := hW.trans (hb0.mono hW.size)
    obtain ⟨g0, g1, g2⟩ := box3_of mr
    have f0 := frozen_of 0 mr
    have f1 := frozen_of 1 mr
    have f2 := frozen_of 2 mr
    clear x0 x1 x2 hb0 hW
    go_wp2
    refine bodyPost_ret (v := .tuple #[.agg #[.bool false, .slice none 0 0, .int .i64 0], .int .i64 9]) (by simp [results, Tryz.results18, go_sem, g0, g1, g2]) rfl ?_
    exact ⟨told53 (by decide), ((hB.setCell (p := ⟨w.heap.size + 1, 0, none⟩) (by simp) _).setCell (p := ⟨w.heap.size + 1, 1, none⟩) (by simp) _).setCell (p := ⟨w.heap.size + 1, 2, none⟩) (by simp) _⟩

set_option maxRecDepth 100000 in
set_option maxHeartbeats 2000000 in
theorem RCeil_c {S : Nat → Prop} {n c : Nat} {A : Option Addr} {xs : List Nat} (na : Bool) (e1 : Int) (w : World) (ha : Rd w S A n xs) (hS : ∀ b, S b → b < w.heap.size) (hn : n ≤ 9223372036854775807) :
    Calls Tryz.prog 20 #[dv na A n c e1] w fun e w' => Told e w' w.heap.size (okE na xs e1) na (wq (val xs) e1 + (if (!na && !decide (wr (val xs) e1 = 0)) = true then 1 else 0)) 0 ∧ Below w.heap.size w w' := by
  have up : ∀ {V : World}, Below w.heap.size w V → ∀ b, b < w.heap.size → b < V.heap.size := fun h b hb => by have := h.size; omega
  have HC := Lib.hid (fun V (h1 : Rd V S A n xs) hs => RCheck_c (c := c) na e1 V h1 hs hn)
  unfold dv at HC
  obtain ⟨UU, hUU⟩ : ∃ u, Hid (u = (!na && !decide (wr (val xs) e1 = 0))) := ⟨_, Lib.hid rfl⟩
  rw [← hUU.out]
  obtain ⟨ZZ, hZZ⟩ : ∃ z, Hid (z = wq (val xs) e1 + (if UU = true then 1 else 0)) := ⟨_, Lib.hid rfl⟩
  rw [← hZZ.out]
  have hW : Below w.heap.size w ((w.alloc (.cells #[.bool na, .slice A n c, .int .i64 e1] 24)).alloc (.cells #[.bool false, .slice none 0 0, .int .i64 0] 24)) := ((Below.refl w.heap.size w).alloc (Nat.le_refl _) _).alloc (by simp) _
  obtain ⟨ma, mr⟩ := two_new w (.cells #[.bool na, .slice A n c, .int .i64 e1] 24) (.cells #[.bool false, .slice none 0 0, .int .i64 0] 24)
  rcases okE_cases na xs e1 with ⟨hok, k1⟩ | ⟨hok, k1⟩
  · have HW := Lib.hid (fun V (h1 : Rd V S A n xs) hs => rwhole_c (c := c) na e1 V h1 hs k1)
    have HN := Lib.hid (fun V (h1 : Rd V S A n xs) hs => rnear_c (c := c) na e1 UU V h1 hs k1)
    rw [← hZZ.out] at HN
    obtain ⟨B1, hB1⟩ : ∃ b, Hid (b = decide (wr (val xs) e1 ≠ 0)) := ⟨_, Lib.hid rfl⟩
    obtain ⟨B2, hB2⟩ : ∃ b, Hid (b = decide (0 ≤ half (wr (val xs) e1) (wd 1 (-e1)))) := ⟨_, Lib.hid rfl⟩
    rw [← hB1.out, ← hB2.out] at HW
    rw [hok] at HC ⊢
    unfold dv at HW HN
    unfold dv
    have hU : Hid (UU = (B1 && !na)) := by
      show _ = _
      rw [hUU.out, hB1.out]
      by_cases h : wr (val xs) e1 = 0 <;> cases na <;> simp [h]
    clear k1 hok hUU hZZ hB1 hB2
    go_enter Tryz.func20, Tryz.ntmps20
    go_wp2_with fail
    generalize ((w.alloc (.cells #[.bool na, .slice A n c, .int .i64 e1] 24)).alloc (.cells #[.bool false, .slice none 0 0, .int .i64 0] 24)) = W at ma mr hW ⊢
    obtain ⟨x0, x1, x2⟩ := box3_of ma
    refine (HC.out W (ha.below hW hS) (fun b h => up hW b (hS b h))).mono ?_
    rintro e w1 ⟨rfl, hb0⟩
    have ma := heldz hb0 ma
    have mr := heldz hb0 mr
    have hB := hW.trans (hb0.mono hW.size)
    clear x0 x1 x2 hb0 hW
    obtain ⟨x0, x1, x2⟩ := box3_of ma
    go_wp2_with fail
    refine (HW.out w1 (ha.below hB hS) (fun b h => up hB b (hS b h))).mono ?_
    rintro e w2 ⟨A2, n2, c2, ds, rfl, -, -, -, -, -, -, hb0⟩
    have ma := heldz hb0 ma
    have mr := heldz hb0 mr
    have hB := hB.trans (hb0.mono hB.size)
    clear x0 x1 x2 hb0
    obtain ⟨x0, x1, x2⟩ := box3_of ma
    have hN := HN.out w2 (ha.below hB hS) (fun b h => up hB b (hS b h))
    rw [hU.out] at hN
    have HN2 := Lib.hid hN
    clear hN HN HW HC hU UU
    cases B1
    all_goals
      (try simp only [Bool.false_and, Bool.true_and] at HN2)
      go_wp2_with fail
      refine HN2.out.mono ?_
      rintro e w3 ⟨⟨A5, n5, c5, rfl, hr⟩, hb0⟩
      clear x0 x1 x2
      clear HN2
      have hl5 := (Array.getElem?_eq_some_iff.1 mr).1
      have mr := heldz hb0 mr
      have hBs := hB.size
      have hB := hB.trans (hb0.mono hB.size)
      obtain ⟨g0, g1, g2⟩ := box3_of mr
      have f0 := frozen_of 0 mr
      have f1 := frozen_of 1 mr
      have f2 := frozen_of 2 mr
      dsimp only [dv]
      go_wp2
      refine bodyPost_ret (v := .tuple #[.agg #[.bool (opN 0 na ZZ 0), .slice A5 n5 c5, .int .i64 (opX 0 ZZ 0)], .int .i64 (opE 0 ZZ 0 : Int)]) (by simp [results, Tryz.results20, go_sem, g0, g1, g2]) rfl ?_
      refine ⟨⟨A5, n5, c5, rfl, ?_⟩, ?_⟩
      · exact (((hr.setOther (by simp; omega) _).setOther (by simp; omega) _).setOther (by simp; omega) _).more (by omega)
      · exact ((hB.setCell (p := ⟨w.heap.size + 1, 0, none⟩) (by simp) _).setCell (p := ⟨w.heap.size + 1, 1, none⟩) (by simp) _).setCell (p := ⟨w.heap.size + 1, 2, none⟩) (by simp) _
  · rw [hok] at HC ⊢
    unfold dv
    go_enter Tryz.func20, Tryz.ntmps20
    go_wp2_with fail
    generalize ((w.alloc (.cells #[.bool na, .slice A n c, .int .i64 e1] 24)).alloc (.cells #[.bool false, .slice none 0 0, .int .i64 0] 24)) = W at ma mr hW ⊢
    obtain ⟨x0, x1, x2⟩ := box3_of ma
    refine (HC.out W (ha.below hW hS) (fun b h => up hW b (hS b h))).mono ?_
    rintro e w1 ⟨rfl, hb0⟩
    have mr := heldz hb0 mr
    have hB := hW.trans (hb0.mono hW.size)
    obtain ⟨g0, g1, g2⟩ := box3_of mr
    have f0 := frozen_of 0 mr
    have f1 := frozen_of 1 mr
    have f2 := frozen_of 2 mr
    clear x0 x1 x2 hb0 hW
    go_wp2
    refine bodyPost_ret (v := .tuple #[.agg #[.bool false, .slice none 0 0, .int .i64 0], .int .i64 9]) (by simp [results, Tryz.results20, go_sem, g0, g1, g2]) rfl ?_
    exact ⟨told53 (by decide), ((hB.setCell (p := ⟨w.heap.size + 1, 0, none⟩) (by simp) _).setCell (p := ⟨w.heap.size + 1, 1, none⟩) (by simp) _).setCell (p := ⟨w.heap.size + 1, 2, none⟩) (by simp) _⟩

set_option maxRecDepth 100000 in
set_option maxHeartbeats 2000000 in
theorem RRound_c {S : Nat → Prop} {n c : Nat} {A : Option Addr} {xs : List Nat} (na : Bool) (e1 : Int) (w : World) (ha : Rd w S A n xs) (hS : ∀ b, S b → b < w.heap.size) (hn : n ≤ 9223372036854775807) :
    Calls Tryz.prog 24 #[dv na A n c e1] w fun e w' => Told e w' w.heap.size (okE na xs e1) na (wq (val xs) e1 + (if (decide (0 ≤ half (wr (val xs) e1) (wd 1 (-e1)))) = true then 1 else 0)) 0 ∧ Below w.heap.size w w' := by
  have up : ∀ {V : World}, Below w.heap.size w V → ∀ b, b < w.heap.size → b < V.heap.size := fun h b hb => by have := h.size; omega
  have HC := Lib.hid (fun V (h1 : Rd V S A n xs) hs => RCheck_c (c := c) na e1 V h1 hs hn)
  unfold dv at HC
  obtain ⟨UU, hUU⟩ : ∃ u, Hid (u = (decide (0 ≤ half (wr (val xs) e1) (wd 1 (-e1))))) := ⟨_, Lib.hid rfl⟩
  rw [← hUU.out]
  obtain ⟨ZZ, hZZ⟩ : ∃ z, Hid (z = wq (val xs) e1 + (if UU = true then 1 else 0)) := ⟨_, Lib.hid rfl⟩
  rw [← hZZ.out]
  have hW : Below w.heap.size w ((w.alloc (.cells #[.bool na, .slice A n c, .int .i64 e1] 24)).alloc (.cells #[.bool false, .slice none 0 0, .int .i64 0] 24)) := ((Below.refl w.heap.size w).alloc (Nat.le_refl _) _).alloc (by simp) _
  obtain ⟨ma, mr⟩ := two_new w (.cells #[.bool na, .slice A n c, .int .i64 e1] 24) (.cells #[.bool false, .slice none 0 0, .int .i64 0] 24)
  rcases okE_cases na xs e1 with ⟨hok, k1⟩ | ⟨hok, k1⟩
  · have HW := Lib.hid (fun V (h1 : Rd V S A n xs) hs => rwhole_c (c := c) na e1 V h1 hs k1)
    have HN := Lib.hid (fun V (h1 : Rd V S A n xs) hs => rnear_c (c := c) na e1 UU V h1 hs k1)
    rw [← hZZ.out] at HN
    obtain ⟨B1, hB1⟩ : ∃ b, Hid (b = decide (wr (val xs) e1 ≠ 0)) := ⟨_, Lib.hid rfl⟩
    obtain ⟨B2, hB2⟩ : ∃ b, Hid (b = decide (0 ≤ half (wr (val xs) e1) (wd 1 (-e1)))) := ⟨_, Lib.hid rfl⟩
    rw [← hB1.out, ← hB2.out] at HW
    rw [hok] at HC ⊢
    unfold dv at HW HN
    unfold dv
    have hU : Hid (UU = B2) := by
      show _ = _
      rw [hUU.out, hB2.out]
      
    clear k1 hok hUU hZZ hB1 hB2
    go_enter Tryz.func24, Tryz.ntmps24
    go_wp2_with fail
    generalize ((w.alloc (.cells #[.bool na, .slice A n c, .int .i64 e1] 24)).alloc (.cells #[.bool false, .slice none 0 0, .int .i64 0] 24)) = W at ma mr hW ⊢
    obtain ⟨x0, x1, x2⟩ := box3_of ma
    refine (HC.out W (ha.below hW hS) (fun b h => up hW b (hS b h))).mono ?_
    rintro e w1 ⟨rfl, hb0⟩
    have ma := heldz hb0 ma
    have mr := heldz hb0 mr
    have hB := hW.trans (hb0.mono hW.size)
    clear x0 x1 x2 hb0 hW
    obtain ⟨x0, x1, x2⟩ := box3_of ma
    go_wp2_with fail
    refine (HW.out w1 (ha.below hB hS) (fun b h => up hB b (hS b h))).mono ?_
    rintro e w2 ⟨A2, n2, c2, ds, rfl, -, -, -, -, -, -, hb0⟩
    have ma := heldz hb0 ma
    have mr := heldz hb0 mr
    have hB := hB.trans (hb0.mono hB.size)
    clear x0 x1 x2 hb0
    obtain ⟨x0, x1, x2⟩ := box3_of ma
    have hN := HN.out w2 (ha.below hB hS) (fun b h => up hB b (hS b h))
    rw [hU.out] at hN
    have HN2 := Lib.hid hN
    clear hN HN HW HC hU UU
    skip
    all_goals
      (try simp only [Bool.false_and, Bool.true_and] at HN2)
      go_wp2_with fail
      refine HN2.out.mono ?_
      rintro e w3 ⟨⟨A5, n5, c5, rfl, hr⟩, hb0⟩
      clear x0 x1 x2
      clear HN2
      have hl5 := (Array.getElem?_eq_some_iff.1 mr).1
      have mr := heldz hb0 mr
      have hBs := hB.size
      have hB := hB.trans (hb0.mono hB.size)
      obtain ⟨g0, g1, g2⟩ := box3_of mr
      have f0 := frozen_of 0 mr
      have f1 := frozen_of 1 mr
      have f2 := frozen_of 2 mr
      dsimp only [dv]
      go_wp2
      refine bodyPost_ret (v := .tuple #[.agg #[.bool (opN 0 na ZZ 0), .slice A5 n5 c5, .int .i64 (opX 0 ZZ 0)], .int .i64 (opE 0 ZZ 0 : Int)]) (by simp [results, Tryz.results24, go_sem, g0, g1, g2]) rfl ?_
      refine ⟨⟨A5, n5, c5, rfl, ?_⟩, ?_⟩
      · exact (((hr.setOther (by simp; omega) _).setOther (by simp; omega) _).setOther (by simp; omega) _).more (by omega)
      · exact ((hB.setCell (p := ⟨w.heap.size + 1, 0, none⟩) (by simp) _).setCell (p := ⟨w.heap.size + 1, 1, none⟩) (by simp) _).setCell (p := ⟨w.heap.size + 1, 2, none⟩) (by simp) _
  · rw [hok] at HC ⊢
    unfold dv
    go_enter Tryz.func24, Tryz.ntmps24
    go_wp2_with fail
    generalize ((w.alloc (.cells #[.bool na, .slice A n c, .int .i64 e1] 24)).alloc (.cells #[.bool false, .slice none 0 0, .int .i64 0] 24)) = W at ma mr hW ⊢
    obtain ⟨x0, x1, x2⟩ := box3_of ma
    refine (HC.out W (ha.below hW hS) (fun b h => up hW b (hS b h))).mono ?_
    rintro e w1 ⟨rfl, hb0⟩
    have mr := heldz hb0 mr
    have hB := hW.trans (hb0.mono hW.size)
    obtain ⟨g0, g1, g2⟩ := box3_of mr
    have f0 := frozen_of 0 mr
    have f1 := frozen_of 1 mr
    have f2 := frozen_of 2 mr
    clear x0 x1 x2 hb0 hW
    go_wp2
    refine bodyPost_ret (v := .tuple #[.agg #[.bool false, .slice none 0 0, .int .i64 0], .int .i64 9]) (by simp [results, Tryz.results24, go_sem, g0, g1, g2]) rfl ?_
    exact ⟨told53 (by decide), ((hB.setCell (p := ⟨w.heap.size + 1, 0, none⟩) (by simp) _).setCell (p := ⟨w.heap.size + 1, 1, none⟩) (by simp) _).setCell (p := ⟨w.heap.size + 1, 2, none⟩) (by simp) _⟩

end Go.Proofs.YtbbafggejnjjiaaGreatDoor
