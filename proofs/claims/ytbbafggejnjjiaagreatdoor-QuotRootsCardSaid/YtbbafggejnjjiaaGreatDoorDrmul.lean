/-
  Contract of the reference's Mul of decimals.
-/
import Derived.Test.YtbbafggejnjjiaaGreatDoorDrcmp
set_option linter.unusedVariables false
set_option linter.unusedSimpArgs false
namespace Go.Proofs.YtbbafggejnjjiaaGreatDoor
open Go.RowKit

theorem ResI.ne_box {w : World} {base n c b : Nat} {A : Option Addr} {zs : List Nat} {vs : Array Value} {t : TypeId} (h : ResI w base A n c zs) (hb : w.heap[b]? = some (.cells vs t)) (ht : t ≠ 3) : ∀ g, A = some ⟨g, 0, none⟩ → g ≠ b := by
  intro g e hgb
  rcases h.own.2 with ⟨h1, _⟩ | ⟨g2, cap, cur, h1, h2, hh, _⟩
  · injection h1 with h1; rw [h1] at e; cases e
  · injection h1 with h1
    rw [h1] at e
    injection e with e
    injection e with e
    rw [e, hgb, hb] at hh
    injection hh with hh
    injection hh with _ hh
    exact ht hh
theorem ResI.setNe {w : World} {base n c : Nat} {A : Option Addr} {zs : List Nat} (h : ResI w base A n c zs) {p : Addr} (hne : ∀ g, A = some ⟨g, 0, none⟩ → g ≠ p.block) (u : Value) : ResI (w.setCell p u) base A n c zs :=
  h.keep fun g e => Below.heap_setCell _ _ _ _ (hne g e)

set_option maxRecDepth 100000 in
set_option maxHeartbeats 4000000 in
theorem RMul_v {S : Nat → Prop} {n m c d : Nat} {A B : Option Addr} {xs ys : List Nat} (na nb : Bool) (e1 e2 : Int) (w : World) (ha : Rd w S A n xs) (hb : Rd w S B m ys) (hS : ∀ b, S b → b < w.heap.size) (hn : n ≤ 9223372036854775807) (hm : m ≤ 9223372036854775807) :
    Calls Tryz.prog 34 #[dv na A n c e1, dv nb B m d e2] w fun e w' => Told e w' w.heap.size (okE2 na xs e1 nb ys e2) (na != nb) (val xs * val ys) (e1 + e2) ∧ Below w.heap.size w w' := by
  have hck := fun V (h1 : Rd V S A n xs) (h2 : Rd V S B m ys) hs => Rchecks_c (c := c) (d := d) na nb e1 e2 V h1 h2 hs hn hm
  obtain ⟨E, hE⟩ : ∃ E : Nat, E = okE2 na xs e1 nb ys e2 := ⟨_, rfl⟩
  rw [← hE] at hck ⊢
  obtain ⟨SG, hSG⟩ : ∃ s, (na != nb) = s := ⟨_, rfl⟩
  obtain ⟨Z, hZ⟩ : ∃ s, s = val xs * val ys := ⟨_, rfl⟩
  obtain ⟨lo, hlo⟩ : ∃ s, s = e1 + e2 := ⟨_, rfl⟩
  rw [hSG, ← hZ, ← hlo]
  obtain ⟨m0, m1, m2, hW, hsz⟩ := three_new w (.cells #[.bool na, .slice A n c, .int .i64 e1] 24) (.cells #[.bool nb, .slice B m d, .int .i64 e2] 24) (.cells #[.bool false, .slice none 0 0, .int .i64 0] 24)
  unfold dv at hck ⊢
  have HCK := Lib.hid hck
  have HE := Lib.hid hE
  have HSG := Lib.hid hSG
  have HZ := Lib.hid hZ
  have HLO := Lib.hid hlo
  have HM0 := Lib.hid m0
  have HM1 := Lib.hid m1
  have HM2 := Lib.hid m2
  clear hck hE hSG hZ hlo m0 m1 m2
  go_enter Tryz.func34, Tryz.ntmps34
  go_wp2_with fail
  have m0 := HM0.out
  have m1 := HM1.out
  have m2 := HM2.out
  clear HM0 HM1 HM2
  generalize (((w.alloc (.cells #[.bool na, .slice A n c, .int .i64 e1] 24)).alloc (.cells #[.bool nb, .slice B m d, .int .i64 e2] 24)).alloc (.cells #[.bool false, .slice none 0 0, .int .i64 0] 24)) = W at m0 m1 m2 hW hsz ⊢
  have up : ∀ {W' : World}, Below w.heap.size w W' → ∀ b, S b → b < W'.heap.size := fun hW b h => by have := hS b h; have := hW.size; omega
  refine (HCK.out W (ha.below hW hS) (hb.below hW hS) (up hW)).mono ?_
  rintro e w1 ⟨rfl, hb1⟩
  have ma := held hb1 (by omega) m0
  have mb := held hb1 (by omega) m1
  have m2 := held hb1 (by omega) m2
  have hw := hW.trans (hb1.mono (by omega))
  have hs1 := hb1.size
  have hsw1 : w.heap.size + 1 + 1 < w1.heap.size := by omega
  clear hb1 hW m0 m1 hsz hs1
  obtain ⟨p0, p1, p2⟩ := box3_of ma
  obtain ⟨p3, p4, p5⟩ := box3_of mb
  by_cases h0 : E = 0
  · subst h0
    obtain ⟨k1, k2⟩ := okE2_zero.1 HE.out.symm
    obtain ⟨a1, a2, a3, a4, _, _⟩ := okB_true ha.l32 k1
    obtain ⟨b1, b2, b3, b4, _, _⟩ := okB_true hb.l32 k2
    have hn2 : n ≤ 256 := by rw [← ha.len]; exact a2
    have hm2 : m ≤ 256 := by rw [← hb.len]; exact b2
    have hof1 := fun V (h1 : Rd V S A n xs) hs => Of_c (c := c) na e1 V h1 hs hn2
    have hof2 := fun V (h1 : Rd V S B m ys) hs => Of_c (c := d) nb e2 V h1 hs hm2
    unfold dv nv at hof1 hof2
    have OF1 := Lib.hid hof1
    have OF2 := Lib.hid hof2
    have hlob : -2000 ≤ lo ∧ lo ≤ 2000 := by have := HLO.out; omega
    clear k1 k2 a1 a2 a3 b1 b2 b3 hof1 hof2
    go_upto_region 3 with fail
    go_cut [6, 7] from 13 to 16 (fun s5 s6 wc => ∃ gx gy A1 n1 c1 ds A2 n2 c2 es, s5 = .pointer (some ⟨gx, 0, none⟩) ∧ s6 = .pointer (some ⟨gy, 0, none⟩) ∧ gx ≠ gy ∧ wc.heap[gx]? = some (.cells #[.bool na, .slice A1 n1 c1, .int .i64 e1] 41) ∧ wc.heap[gy]? = some (.cells #[.bool nb, .slice A2 n2 c2, .int .i64 e2] 41) ∧ w1.heap.size ≤ gx ∧ w1.heap.size ≤ gy ∧ ResI wc w1.heap.size A1 n1 c1 ds ∧ ResI wc w1.heap.size A2 n2 c2 es ∧ DCan ds ∧ DCan es ∧ dval ds = val xs ∧ dval es = val ys ∧ n1 ≤ 2731 ∧ n2 ≤ 2731 ∧ Below w1.heap.size w1 wc)
    case first =>
      go_wp2_with fail
      refine wp_region_held_drew (S := fun w' => w'.cell? ⟨w.heap.size, 0, none⟩ = some (.bool na) ∧ w'.cell? ⟨w.heap.size, 1, none⟩ = some (.slice A n c) ∧ w'.cell? ⟨w.heap.size, 2, none⟩ = some (.int .i64 e1) ∧ w'.cell? ⟨w.heap.size + 1, 0, none⟩ = some (.bool nb) ∧ w'.cell? ⟨w.heap.size + 1, 1, none⟩ = some (.slice B m d) ∧ w'.cell? ⟨w.heap.size + 1, 2, none⟩ = some (.int .i64 e2)) (by kernel_rfl) ⟨p0, p1, p2, p3, p4, p5⟩ (fun hHeld => ?_)
      (try simp only [List.size_toArray, List.length_cons, List.length_nil, Nat.reduceAdd, Array.replicate_succ, Array.replicate_zero, List.push_toArray, List.append_toArray, List.nil_append, List.cons_append])
      refine wpAnyH_take (i := 0) (oi := ⟨_, _, _, _, _, _⟩) (v := ?_) rfl (by kernel_rfl) (by kernel_rfl) (by kernel_rfl) (fun _ _ _ h => h) (Or.inl ⟨by rfl, ?_⟩) (by assumption) ?_
      rotate_left
      · intro w hSw
        (try dsimp only at hSw)
        go_split_ands
        go_simp
        try with_reducible rfl
      try simp only [Act.put, List.setIfInBounds_toArray, List.set_cons_zero, List.set_cons_succ]
      refine wpAnyH_take (i := 2) (oi := ⟨_, _, _, _, _, _⟩) (v := ?_) rfl (by kernel_rfl) (by kernel_rfl) (by kernel_rfl) (fun _ _ _ h => h) (Or.inl ⟨by rfl, ?_⟩) (by assumption) ?_
      rotate_left
      · intro w hSw
        (try dsimp only at hSw)
        go_split_ands
        go_simp
        try with_reducible rfl
      try simp only [Act.put, List.setIfInBounds_toArray, List.set_cons_zero, List.set_cons_succ]
      clear p0 p1 p2 p3 p4 p5
      have ma : w1.drew.heap[w.heap.size]? = _ := ma
      have mb : w1.drew.heap[w.heap.size + 1]? = _ := mb
      have hB : Below w1.heap.size w1 w1.drew := only_drewB (Below.refl _ _)
      have hW : Below w.heap.size w w1.drew := only_drewB hw
      have hBs0 : w1.heap.size ≤ w1.drew.heap.size := Nat.le_refl _
      generalize hV0 : w1.drew = V0 at *
      clear hV0 hHeld
      refine wpAnyH_ready (rs := [1, 4, 5]) (by kernel_rfl) (by simp) ?_
      refine (AllReadyH.cons (o := ⟨_, _, _, _, _, _⟩) rfl (fun K hK => ?_) (AllReadyH.cons (o := ⟨_, _, _, _, _, _⟩) rfl (fun K hK => ?_) (AllReadyH.cons (o := ⟨_, _, _, _, _, _⟩) rfl (fun K hK => ?_) AllReadyH.nil)))
      · go_simp
        refine (OF1.out V0 (ha.below hW hS) (fun b h => up hW b h)).mono ?_
        rintro e V1 ⟨A1, n1, c1, ds, rfl, rx, d1, v1, l1, hb0⟩
        have ma := heldz hb0 ma
        have mb := heldz hb0 mb
        have hB := hB.trans (hb0.mono hB.size)
        have hW := hW.trans (hb0.mono hW.size)
        have rx := rx.more (base' := w1.heap.size) hBs0
        (try dsimp only)
        obtain ⟨x0, x1, x2⟩ := box3_of ma
        obtain ⟨x3, x4, x5⟩ := box3_of mb
        refine hK.out _ _ ⟨x0, x1, x2, x3, x4, x5⟩ (fun _ => ?_)
        clear hK K x0 x1 x2 x3 x4 x5
        try simp only [Act.put, List.setIfInBounds_toArray, List.set_cons_zero, List.set_cons_succ]
        clear hb0
        have hBs0 : w1.heap.size ≤ V1.heap.size := hB.size
        refine wpAnyH_ready (rs := [3, 4, 5]) (by kernel_rfl) (by simp) ?_
        refine (AllReadyH.cons (o := ⟨_, _, _, _, _, _⟩) rfl (fun K hK => ?_) (AllReadyH.cons (o := ⟨_, _, _, _, _, _⟩) rfl (fun K hK => ?_) (AllReadyH.cons (o := ⟨_, _, _, _, _, _⟩) rfl (fun K hK => ?_) AllReadyH.nil)))
        · go_simp
          refine (OF2.out V1 (hb.below hW hS) (fun b h => up hW b h)).mono ?_
          rintro e V2 ⟨A2, n2, c2, es, rfl, ry, d2, v2, l2, hb0⟩
          have ma := heldz hb0 ma
          have mb := heldz hb0 mb
          have rx := rx.below hb0 (Nat.le_refl _)
          have hB := hB.trans (hb0.mono hB.size)
          have hW := hW.trans (hb0.mono hW.size)
          have ry := ry.more (base' := w1.heap.size) hBs0
          (try dsimp only)
          obtain ⟨x0, x1, x2⟩ := box3_of ma
          obtain ⟨x3, x4, x5⟩ := box3_of mb
          refine hK.out _ _ ⟨x0, x1, x2, x3, x4, x5⟩ (fun _ => ?_)
          clear hK K x0 x1 x2 x3 x4 x5
          try simp only [Act.put, List.setIfInBounds_toArray, List.set_cons_zero, List.set_cons_succ]
          clear hb0
          have hBs0 : w1.heap.size ≤ V2.heap.size := hB.size
          refine wpAnyH_ready (rs := [4, 5]) (by kernel_rfl) (by simp) ?_
          refine (AllReadyH.cons (o := ⟨_, _, _, _, _, _⟩) rfl (fun K hK => ?_) (AllReadyH.cons (o := ⟨_, _, _, _, _, _⟩) rfl (fun K hK => ?_) AllReadyH.nil))
          · go_simp
            obtain ⟨gx, hg⟩ : ∃ g, g = V2.heap.size := ⟨_, rfl⟩
            have ma := heldA (.cells #[.bool false, .slice none 0 0, .int .i64 0] 41) ma
            have mb := heldA (.cells #[.bool false, .slice none 0 0, .int .i64 0] 41) mb
            have mx := World.alloc_heap_new V2 (.cells #[.bool false, .slice none 0 0, .int .i64 0] 41)
            rw [← hg] at mx
            have rx := rx.below ((Below.refl V2.heap.size V2).alloc (Nat.le_refl _) (.cells #[.bool false, .slice none 0 0, .int .i64 0] 41)) (Nat.le_refl _)
            have ry := ry.below ((Below.refl V2.heap.size V2).alloc (Nat.le_refl _) (.cells #[.bool false, .slice none 0 0, .int .i64 0] 41)) (Nat.le_refl _)
            have hsz : (V2.alloc (.cells #[.bool false, .slice none 0 0, .int .i64 0] 41)).heap.size = V2.heap.size + 1 := by simp
            have hkgx : w1.heap.size ≤ gx := by have := hB.size; omega
            have hB := hB.alloc hB.size (.cells #[.bool false, .slice none 0 0, .int .i64 0] 41)
            have hW := hW.alloc hW.size (.cells #[.bool false, .slice none 0 0, .int .i64 0] 41)
            obtain ⟨x0, x1, x2⟩ := box3_of ma
            obtain ⟨x3, x4, x5⟩ := box3_of mb
            refine hK.out _ _ ⟨x0, x1, x2, x3, x4, x5⟩ (fun _ => ?_)
            clear hK K x0 x1 x2 x3 x4 x5
            try simp only [Act.put, List.setIfInBounds_toArray, List.set_cons_zero, List.set_cons_succ]
            try rw [← hg]
            generalize hU : V2.alloc (.cells #[.bool false, .slice none 0 0, .int .i64 0] 41) = V3 at *
            clear hU
            have hlgx : gx < V3.heap.size := by omega
            clear hg hsz
            have hBs0 : w1.heap.size ≤ V3.heap.size := hB.size
            refine wpAnyH_ready (rs := [5]) (by kernel_rfl) (by simp) ?_
            refine (AllReadyH.cons (o := ⟨_, _, _, _, _, _⟩) rfl (fun K hK => ?_) AllReadyH.nil)
            · go_simp
              obtain ⟨gy, hg⟩ : ∃ g, g = V3.heap.size := ⟨_, rfl⟩
              have ma := heldA (.cells #[.bool false, .slice none 0 0, .int .i64 0] 41) ma
              have mb := heldA (.cells #[.bool false, .slice none 0 0, .int .i64 0] 41) mb
              have mx := heldA (.cells #[.bool false, .slice none 0 0, .int .i64 0] 41) mx
              have my := World.alloc_heap_new V3 (.cells #[.bool false, .slice none 0 0, .int .i64 0] 41)
              rw [← hg] at my
              have rx := rx.below ((Below.refl V3.heap.size V3).alloc (Nat.le_refl _) (.cells #[.bool false, .slice none 0 0, .int .i64 0] 41)) (Nat.le_refl _)
              have ry := ry.below ((Below.refl V3.heap.size V3).alloc (Nat.le_refl _) (.cells #[.bool false, .slice none 0 0, .int .i64 0] 41)) (Nat.le_refl _)
              have hsz : (V3.alloc (.cells #[.bool false, .slice none 0 0, .int .i64 0] 41)).heap.size = V3.heap.size + 1 := by simp
              have hkgy : w1.heap.size ≤ gy := by have := hB.size; omega
              have hB := hB.alloc hB.size (.cells #[.bool false, .slice none 0 0, .int .i64 0] 41)
              have hW := hW.alloc hW.size (.cells #[.bool false, .slice none 0 0, .int .i64 0] 41)
              obtain ⟨x0, x1, x2⟩ := box3_of ma
              obtain ⟨x3, x4, x5⟩ := box3_of mb
              refine hK.out _ _ ⟨x0, x1, x2, x3, x4, x5⟩ (fun _ => ?_)
              clear hK K x0 x1 x2 x3 x4 x5
              try simp only [Act.put, List.setIfInBounds_toArray, List.set_cons_zero, List.set_cons_succ]
              try rw [← hg]
              generalize hU : V3.alloc (.cells #[.bool false, .slice none 0 0, .int .i64 0] 41) = V4 at *
              clear hU
              have hlgy : gy < V4.heap.size := by omega
              have hne : gx ≠ gy := by omega
              have hlgx : gx < V4.heap.size := by omega
              clear hg hsz
              have hBs0 : w1.heap.size ≤ V4.heap.size := hB.size
              have hnxx := rx.ne_box mx ty_ne65
              have hnxy := rx.ne_box my ty_ne65
              have hnyx := ry.ne_box mx ty_ne65
              have hnyy := ry.ne_box my ty_ne65
              refine wpAnyH_ready (rs := [6]) (by kernel_rfl) (by simp) (AllReadyH.cons (o := ⟨_, _, _, _, _, _⟩) rfl (fun K hK => ?_) AllReadyH.nil)
              obtain ⟨t0, t1, t2⟩ := box3_of mx
              have f0 := frozen_of 0 mx
              have f1 := frozen_of 1 mx
              have f2 := frozen_of 2 mx
              go_simp
              clear t0 t1 t2 f0 f1 f2
              have mx := set_blk (v := .bool na) (i := 0) mx rfl
              have ma := set_other (i := 0) ma (show w.heap.size ≠ gx by omega) (.bool na)
              have mb := set_other (i := 0) mb (show w.heap.size + 1 ≠ gx by omega) (.bool na)
              have my := set_other (i := 0) my (show gy ≠ gx by omega) (.bool na)
              have rx := rx.setNe (p := ⟨gx, 0, none⟩) hnxx (.bool na)
              have ry := ry.setNe (p := ⟨gx, 0, none⟩) hnyx (.bool na)
              have hB := hB.setCell (p := ⟨gx, 0, none⟩) hkgx (.bool na)
              have mx := set_blk (v := .slice A1 n1 c1) (i := 1) mx rfl
              have ma := set_other (i := 1) ma (show w.heap.size ≠ gx by omega) (.slice A1 n1 c1)
              have mb := set_other (i := 1) mb (show w.heap.size + 1 ≠ gx by omega) (.slice A1 n1 c1)
              have my := set_other (i := 1) my (show gy ≠ gx by omega) (.slice A1 n1 c1)
              have rx := rx.setNe (p := ⟨gx, 1, none⟩) hnxx (.slice A1 n1 c1)
              have ry := ry.setNe (p := ⟨gx, 1, none⟩) hnyx (.slice A1 n1 c1)
              have hB := hB.setCell (p := ⟨gx, 1, none⟩) hkgx (.slice A1 n1 c1)
              have mx := set_blk (v := .int .i64 e1) (i := 2) mx rfl
              have ma := set_other (i := 2) ma (show w.heap.size ≠ gx by omega) (.int .i64 e1)
              have mb := set_other (i := 2) mb (show w.heap.size + 1 ≠ gx by omega) (.int .i64 e1)
              have my := set_other (i := 2) my (show gy ≠ gx by omega) (.int .i64 e1)
              have rx := rx.setNe (p := ⟨gx, 2, none⟩) hnxx (.int .i64 e1)
              have ry := ry.setNe (p := ⟨gx, 2, none⟩) hnyx (.int .i64 e1)
              have hB := hB.setCell (p := ⟨gx, 2, none⟩) hkgx (.int .i64 e1)
              obtain ⟨x0, x1, x2⟩ := box3_of ma
              obtain ⟨x3, x4, x5⟩ := box3_of mb
              refine hK.out _ _ ⟨x0, x1, x2, x3, x4, x5⟩ (fun _ => ?_)
              clear hK K x0 x1 x2 x3 x4 x5
              try simp only [Act.put, List.setIfInBounds_toArray, List.set_cons_zero, List.set_cons_succ]
              refine wpAnyH_ready (rs := [7]) (by kernel_rfl) (by simp) (AllReadyH.cons (o := ⟨_, _, _, _, _, _⟩) rfl (fun K hK => ?_) AllReadyH.nil)
              obtain ⟨t0, t1, t2⟩ := box3_of my
              have f0 := frozen_of 0 my
              have f1 := frozen_of 1 my
              have f2 := frozen_of 2 my
              go_simp
              clear t0 t1 t2 f0 f1 f2
              have my := set_blk (v := .bool nb) (i := 0) my rfl
              have ma := set_other (i := 0) ma (show w.heap.size ≠ gy by omega) (.bool nb)
              have mb := set_other (i := 0) mb (show w.heap.size + 1 ≠ gy by omega) (.bool nb)
              have mx := set_other (i := 0) mx (show gx ≠ gy by omega) (.bool nb)
              have rx := rx.setNe (p := ⟨gy, 0, none⟩) hnxy (.bool nb)
              have ry := ry.setNe (p := ⟨gy, 0, none⟩) hnyy (.bool nb)
              have hB := hB.setCell (p := ⟨gy, 0, none⟩) hkgy (.bool nb)
              have my := set_blk (v := .slice A2 n2 c2) (i := 1) my rfl
              have ma := set_other (i := 1) ma (show w.heap.size ≠ gy by omega) (.slice A2 n2 c2)
              have mb := set_other (i := 1) mb (show w.heap.size + 1 ≠ gy by omega) (.slice A2 n2 c2)
              have mx := set_other (i := 1) mx (show gx ≠ gy by omega) (.slice A2 n2 c2)
              have rx := rx.setNe (p := ⟨gy, 1, none⟩) hnxy (.slice A2 n2 c2)
              have ry := ry.setNe (p := ⟨gy, 1, none⟩) hnyy (.slice A2 n2 c2)
              have hB := hB.setCell (p := ⟨gy, 1, none⟩) hkgy (.slice A2 n2 c2)
              have my := set_blk (v := .int .i64 e2) (i := 2) my rfl
              have ma := set_other (i := 2) ma (show w.heap.size ≠ gy by omega) (.int .i64 e2)
              have mb := set_other (i := 2) mb (show w.heap.size + 1 ≠ gy by omega) (.int .i64 e2)
              have mx := set_other (i := 2) mx (show gx ≠ gy by omega) (.int .i64 e2)
              have rx := rx.setNe (p := ⟨gy, 2, none⟩) hnxy (.int .i64 e2)
              have ry := ry.setNe (p := ⟨gy, 2, none⟩) hnyy (.int .i64 e2)
              have hB := hB.setCell (p := ⟨gy, 2, none⟩) hkgy (.int .i64 e2)
              obtain ⟨x0, x1, x2⟩ := box3_of ma
              obtain ⟨x3, x4, x5⟩ := box3_of mb
              refine hK.out _ _ ⟨x0, x1, x2, x3, x4, x5⟩ (fun _ => ?_)
              clear hK K x0 x1 x2 x3 x4 x5
              try simp only [Act.put, List.setIfInBounds_toArray, List.set_cons_zero, List.set_cons_succ]
              refine wpAnyH_done (by kernel_rfl) ?_ _
              go_wp2
              go_meet
              exact ⟨gx, gy, A1, n1, c1, ds, A2, n2, c2, es, rfl, rfl, hne, mx, my, hkgx, hkgy, rx, ry, d1, d2, v1, v2, l1, l2, hB⟩
          · go_simp
            obtain ⟨gy, hg⟩ : ∃ g, g = V2.heap.size := ⟨_, rfl⟩
            have ma := heldA (.cells #[.bool false, .slice none 0 0, .int .i64 0] 41) ma
            have mb := heldA (.cells #[.bool false, .slice none 0 0, .int .i64 0] 41) mb
            have my := World.alloc_heap_new V2 (.cells #[.bool false, .slice none 0 0, .int .i64 0] 41)
            rw [← hg] at my
            have rx := rx.below ((Below.refl V2.heap.size V2).alloc (Nat.le_refl _) (.cells #[.bool false, .slice none 0 0, .int .i64 0] 41)) (Nat.le_refl _)
            have ry := ry.below ((Below.refl V2.heap.size V2).alloc (Nat.le_refl _) (.cells #[.bool false, .slice none 0 0, .int .i64 0] 41)) (Nat.le_refl _)
            have hsz : (V2.alloc (.cells #[.bool false, .slice none 0 0, .int .i64 0] 41)).heap.size = V2.heap.size + 1 := by simp
            have hkgy : w1.heap.size ≤ gy := by have := hB.size; omega
            have hB := hB.alloc hB.size (.cells #[.bool false, .slice none 0 0, .int .i64 0] 41)
            have hW := hW.alloc hW.size (.cells #[.bool false, .slice none 0 0, .int .i64 0] 41)
            obtain ⟨x0, x1, x2⟩ := box3_of ma
            obtain ⟨x3, x4, x5⟩ := box3_of mb
            refine hK.out _ _ ⟨x0, x1, x2, x3, x4, x5⟩ (fun _ => ?_)
            clear hK K x0 x1 x2 x3 x4 x5
            try simp only [Act.put, List.setIfInBounds_toArray, List.set_cons_zero, List.set_cons_succ]
            try rw [← hg]
            generalize hU : V2.alloc (.cells #[.bool false, .slice none 0 0, .int .i64 0] 41) = V5 at *
            clear hU
            have hlgy : gy < V5.heap.size := by omega
            clear hg hsz
            have hBs0 : w1.heap.size ≤ V5.heap.size := hB.size
            refine wpAnyH_ready (rs := [4]) (by kernel_rfl) (by simp) ?_
            refine (AllReadyH.cons (o := ⟨_, _, _, _, _, _⟩) rfl (fun K hK => ?_) AllReadyH.nil)
            · go_simp
              obtain ⟨gx, hg⟩ : ∃ g, g = V5.heap.size := ⟨_, rfl⟩
              have ma := heldA (.cells #[.bool false, .slice none 0 0, .int .i64 0] 41) ma
              have mb := heldA (.cells #[.bool false, .slice none 0 0, .int .i64 0] 41) mb
              have my := heldA (.cells #[.bool false, .slice none 0 0, .int .i64 0] 41) my
              have mx := World.alloc_heap_new V5 (.cells #[.bool false, .slice none 0 0, .int .i64 0] 41)
              rw [← hg] at mx
              have rx := rx.below ((Below.refl V5.heap.size V5).alloc (Nat.le_refl _) (.cells #[.bool false, .slice none 0 0, .int .i64 0] 41)) (Nat.le_refl _)
              have ry := ry.below ((Below.refl V5.heap.size V5).alloc (Nat.le_refl _) (.cells #[.bool false, .slice none 0 0, .int .i64 0] 41)) (Nat.le_refl _)
              have hsz : (V5.alloc (.cells #[.bool false, .slice none 0 0, .int .i64 0] 41)).heap.size = V5.heap.size + 1 := by simp
              have hkgx : w1.heap.size ≤ gx := by have := hB.size; omega
              have hB := hB.alloc hB.size (.cells #[.bool false, .slice none 0 0, .int .i64 0] 41)
              have hW := hW.alloc hW.size (.cells #[.bool false, .slice none 0 0, .int .i64 0] 41)
              obtain ⟨x0, x1, x2⟩ := box3_of ma
              obtain ⟨x3, x4, x5⟩ := box3_of mb
              refine hK.out _ _ ⟨x0, x1, x2, x3, x4, x5⟩ (fun _ => ?_)
              clear hK K x0 x1 x2 x3 x4 x5
              try simp only [Act.put, List.setIfInBounds_toArray, List.set_cons_zero, List.set_cons_succ]
              try rw [← hg]
              generalize hU : V5.alloc (.cells #[.bool false, .slice none 0 0, .int .i64 0] 41) = V6 at *
              clear hU
              have hlgx : gx < V6.heap.size := by omega
              have hne : gx ≠ gy := by omega
              have hlgy : gy < V6.heap.size := by omega
              clear hg hsz
              have hBs0 : w1.heap.size ≤ V6.heap.size := hB.size
              have hnxx := rx.ne_box mx ty_ne65
              have hnxy := rx.ne_box my ty_ne65
              have hnyx := ry.ne_box mx ty_ne65
              have hnyy := ry.ne_box my ty_ne65
              refine wpAnyH_ready (rs := [6]) (by kernel_rfl) (by simp) (AllReadyH.cons (o := ⟨_, _, _, _, _, _⟩) rfl (fun K hK => ?_) AllReadyH.nil)
              obtain ⟨t0, t1, t2⟩ := box3_of mx
              have f0 := frozen_of 0 mx
              have f1 := frozen_of 1 mx
              have f2 := frozen_of 2 mx
              go_simp
              clear t0 t1 t2 f0 f1 f2
              have mx := set_blk (v := .bool na) (i := 0) mx rfl
              have ma := set_other (i := 0) ma (show w.heap.size ≠ gx by omega) (.bool na)
              have mb := set_other (i := 0) mb (show w.heap.size + 1 ≠ gx by omega) (.bool na)
              have my := set_other (i := 0) my (show gy ≠ gx by omega) (.bool na)
              have rx := rx.setNe (p := ⟨gx, 0, none⟩) hnxx (.bool na)
              have ry := ry.setNe (p := ⟨gx, 0, none⟩) hnyx (.bool na)
              have hB := hB.setCell (p := ⟨gx, 0, none⟩) hkgx (.bool na)
              have mx := set_blk (v := .slice A1 n1 c1) (i := 1) mx rfl
              have ma := set_other (i := 1) ma (show w.heap.size ≠ gx by omega) (.slice A1 n1 c1)
              have mb := set_other (i := 1) mb (show w.heap.size + 1 ≠ gx by omega) (.slice A1 n1 c1)
              have my := set_other (i := 1) my (show gy ≠ gx by omega) (.slice A1 n1 c1)
              have rx := rx.setNe (p := ⟨gx, 1, none⟩) hnxx (.slice A1 n1 c1)
              have ry := ry.setNe (p := ⟨gx, 1, none⟩) hnyx (.slice A1 n1 c1)
              have hB := hB.setCell (p := ⟨gx, 1, none⟩) hkgx (.slice A1 n1 c1)
              have mx := set_blk (v := .int .i64 e1) (i := 2) mx rfl
              have ma := set_other (i := 2) ma (show w.heap.size ≠ gx by omega) (.int .i64 e1)
              have mb := set_other (i := 2) mb (show w.heap.size + 1 ≠ gx by omega) (.int .i64 e1)
              have my := set_other (i := 2) my (show gy ≠ gx by omega) (.int .i64 e1)
              have rx := rx.setNe (p := ⟨gx, 2, none⟩) hnxx (.int .i64 e1)
              have ry := ry.setNe (p := ⟨gx, 2, none⟩) hnyx (.int .i64 e1)
              have hB := hB.setCell (p := ⟨gx, 2, none⟩) hkgx (.int .i64 e1)
              obtain ⟨x0, x1, x2⟩ := box3_of ma
              obtain ⟨x3, x4, x5⟩ := box3_of mb
              refine hK.out _ _ ⟨x0, x1, x2, x3, x4, x5⟩ (fun _ => ?_)
              clear hK K x0 x1 x2 x3 x4 x5
              try simp only [Act.put, List.setIfInBounds_toArray, List.set_cons_zero, List.set_cons_succ]
              refine wpAnyH_ready (rs := [7]) (by kernel_rfl) (by simp) (AllReadyH.cons (o := ⟨_, _, _, _, _, _⟩) rfl (fun K hK => ?_) AllReadyH.nil)
              obtain ⟨t0, t1, t2⟩ := box3_of my
              have f0 := frozen_of 0 my
              have f1 := frozen_of 1 my
              have f2 := frozen_of 2 my
              go_simp
              clear t0 t1 t2 f0 f1 f2
              have my := set_blk (v := .bool nb) (i := 0) my rfl
              have ma := set_other (i := 0) ma (show w.heap.size ≠ gy by omega) (.bool nb)
              have mb := set_other (i := 0) mb (show w.heap.size + 1 ≠ gy by omega) (.bool nb)
              have mx := set_other (i := 0) mx (show gx ≠ gy by omega) (.bool nb)
              have rx := rx.setNe (p := ⟨gy, 0, none⟩) hnxy (.bool nb)
              have ry := ry.setNe (p := ⟨gy, 0, none⟩) hnyy (.bool nb)
              have hB := hB.setCell (p := ⟨gy, 0, none⟩) hkgy (.bool nb)
              have my := set_blk (v := .slice A2 n2 c2) (i := 1) my rfl
              have ma := set_other (i := 1) ma (show w.heap.size ≠ gy by omega) (.slice A2 n2 c2)
              have mb := set_other (i := 1) mb (show w.heap.size + 1 ≠ gy by omega) (.slice A2 n2 c2)
              have mx := set_other (i := 1) mx (show gx ≠ gy by omega) (.slice A2 n2 c2)
              have rx := rx.setNe (p := ⟨gy, 1, none⟩) hnxy (.slice A2 n2 c2)
              have ry := ry.setNe (p := ⟨gy, 1, none⟩) hnyy (.slice A2 n2 c2)
              have hB := hB.setCell (p := ⟨gy, 1, none⟩) hkgy (.slice A2 n2 c2)
              have my := set_blk (v := .int .i64 e2) (i := 2) my rfl
              have ma := set_other (i := 2) ma (show w.heap.size ≠ gy by omega) (.int .i64 e2)
              have mb := set_other (i := 2) mb (show w.heap.size + 1 ≠ gy by omega) (.int .i64 e2)
              have mx := set_other (i := 2) mx (show gx ≠ gy by omega) (.int .i64 e2)
              have rx := rx.setNe (p := ⟨gy, 2, none⟩) hnxy (.int .i64 e2)
              have ry := ry.setNe (p := ⟨gy, 2, none⟩) hnyy (.int .i64 e2)
              have hB := hB.setCell (p := ⟨gy, 2, none⟩) hkgy (.int .i64 e2)
              obtain ⟨x0, x1, x2⟩ := box3_of ma
              obtain ⟨x3, x4, x5⟩ := box3_of mb
              refine hK.out _ _ ⟨x0, x1, x2, x3, x4, x5⟩ (fun _ => ?_)
              clear hK K x0 x1 x2 x3 x4 x5
              try simp only [Act.put, List.setIfInBounds_toArray, List.set_cons_zero, List.set_cons_succ]
              refine wpAnyH_done (by kernel_rfl) ?_ _
              go_wp2
              go_meet
              exact ⟨gx, gy, A1, n1, c1, ds, A2, n2, c2, es, rfl, rfl, hne, mx, my, hkgx, hkgy, rx, ry, d1, d2, v1, v2, l1, l2, hB⟩
        · go_simp
          obtain ⟨gx, hg⟩ : ∃ g, g = V1.heap.size := ⟨_, rfl⟩
          have ma := heldA (.cells #[.bool false, .slice none 0 0, .int .i64 0] 41) ma
          have mb := heldA (.cells #[.bool false, .slice none 0 0, .int .i64 0] 41) mb
          have mx := World.alloc_heap_new V1 (.cells #[.bool false, .slice none 0 0, .int .i64 0] 41)
          rw [← hg] at mx
          have rx := rx.below ((Below.refl V1.heap.size V1).alloc (Nat.le_refl _) (.cells #[.bool false, .slice none 0 0, .int .i64 0] 41)) (Nat.le_refl _)
          have hsz : (V1.alloc (.cells #[.bool false, .slice none 0 0, .int .i64 0] 41)).heap.size = V1.heap.size + 1 := by simp
          have hkgx : w1.heap.size ≤ gx := by have := hB.size; omega
          have hB := hB.alloc hB.size (.cells #[.bool false, .slice none 0 0, .int .i64 0] 41)
          have hW := hW.alloc hW.size (.cells #[.bool false, .slice none 0 0, .int .i64 0] 41)
          obtain ⟨x0, x1, x2⟩ := box3_of ma
          obtain ⟨x3, x4, x5⟩ := box3_of mb
          refine hK.out _ _ ⟨x0, x1, x2, x3, x4, x5⟩ (fun _ => ?_)
          clear hK K x0 x1 x2 x3 x4 x5
          try simp only [Act.put, List.setIfInBounds_toArray, List.set_cons_zero, List.set_cons_succ]
          try rw [← hg]
          generalize hU : V1.alloc (.cells #[.bool false, .slice none 0 0, .int .i64 0] 41) = V7 at *
          clear hU
          have hlgx : gx < V7.heap.size := by omega
          clear hg hsz
          have hBs0 : w1.heap.size ≤ V7.heap.size := hB.size
          refine wpAnyH_ready (rs := [3, 5]) (by kernel_rfl) (by simp) ?_
          refine (AllReadyH.cons (o := ⟨_, _, _, _, _, _⟩) rfl (fun K hK => ?_) (AllReadyH.cons (o := ⟨_, _, _, _, _, _⟩) rfl (fun K hK => ?_) AllReadyH.nil))
          · go_simp
            refine (OF2.out V7 (hb.below hW hS) (fun b h => up hW b h)).mono ?_
            rintro e V8 ⟨A2, n2, c2, es, rfl, ry, d2, v2, l2, hb0⟩
            have ma := heldz hb0 ma
            have mb := heldz hb0 mb
            have mx := heldz hb0 mx
            have rx := rx.below hb0 (Nat.le_refl _)
            have hB := hB.trans (hb0.mono hB.size)
            have hW := hW.trans (hb0.mono hW.size)
            have ry := ry.more (base' := w1.heap.size) hBs0
            (try dsimp only)
            obtain ⟨x0, x1, x2⟩ := box3_of ma
            obtain ⟨x3, x4, x5⟩ := box3_of mb
            refine hK.out _ _ ⟨x0, x1, x2, x3, x4, x5⟩ (fun _ => ?_)
            clear hK K x0 x1 x2 x3 x4 x5
            try simp only [Act.put, List.setIfInBounds_toArray, List.set_cons_zero, List.set_cons_succ]
            have hlgx : gx < V8.heap.size := Nat.lt_of_lt_of_le hlgx hb0.size
            clear hb0
            have hBs0 : w1.heap.size ≤ V8.heap.size := hB.size
            refine wpAnyH_ready (rs := [5]) (by kernel_rfl) (by simp) ?_
            refine (AllReadyH.cons (o := ⟨_, _, _, _, _, _⟩) rfl (fun K hK => ?_) AllReadyH.nil)
            · go_simp
              obtain ⟨gy, hg⟩ : ∃ g, g = V8.heap.size := ⟨_, rfl⟩
              have ma := heldA (.cells #[.bool false, .slice none 0 0, .int .i64 0] 41) ma
              have mb := heldA (.cells #[.bool false, .slice none 0 0, .int .i64 0] 41) mb
              have mx := heldA (.cells #[.bool false, .slice none 0 0, .int .i64 0] 41) mx
              have my := World.alloc_heap_new V8 (.cells #[.bool false, .slice none 0 0, .int .i64 0] 41)
              rw [← hg] at my
              have rx := rx.below ((Below.refl V8.heap.size V8).alloc (Nat.le_refl _) (.cells #[.bool false, .slice none 0 0, .int .i64 0] 41)) (Nat.le_refl _)
              have ry := ry.below ((Below.refl V8.heap.size V8).alloc (Nat.le_refl _) (.cells #[.bool false, .slice none 0 0, .int .i64 0] 41)) (Nat.le_refl _)
              have hsz : (V8.alloc (.cells #[.bool false, .slice none 0 0, .int .i64 0] 41)).heap.size = V8.heap.size + 1 := by simp
              have hkgy : w1.heap.size ≤ gy := by have := hB.size; omega
              have hB := hB.alloc hB.size (.cells #[.bool false, .slice none 0 0, .int .i64 0] 41)
              have hW := hW.alloc hW.size (.cells #[.bool false, .slice none 0 0, .int .i64 0] 41)
              obtain ⟨x0, x1, x2⟩ := box3_of ma
              obtain ⟨x3, x4, x5⟩ := box3_of mb
              refine hK.out _ _ ⟨x0, x1, x2, x3, x4, x5⟩ (fun _ => ?_)
              clear hK K x0 x1 x2 x3 x4 x5
              try simp only [Act.put, List.setIfInBounds_toArray, List.set_cons_zero, List.set_cons_succ]
              try rw [← hg]
              generalize hU : V8.alloc (.cells #[.bool false, .slice none 0 0, .int .i64 0] 41) = V9 at *
              clear hU
              have hlgy : gy < V9.heap.size := by omega
              have hne : gx ≠ gy := by omega
              have hlgx : gx < V9.heap.size := by omega
              clear hg hsz
              have hBs0 : w1.heap.size ≤ V9.heap.size := hB.size
              have hnxx := rx.ne_box mx ty_ne65
              have hnxy := rx.ne_box my ty_ne65
              have hnyx := ry.ne_box mx ty_ne65
              have hnyy := ry.ne_box my ty_ne65
              refine wpAnyH_ready (rs := [6]) (by kernel_rfl) (by simp) (AllReadyH.cons (o := ⟨_, _, _, _, _, _⟩) rfl (fun K hK => ?_) AllReadyH.nil)
              obtain ⟨t0, t1, t2⟩ := box3_of mx
              have f0 := frozen_of 0 mx
              have f1 := frozen_of 1 mx
              have f2 := frozen_of 2 mx
              go_simp
              clear t0 t1 t2 f0 f1 f2
              have mx := set_blk (v := .bool na) (i := 0) mx rfl
              have ma := set_other (i := 0) ma (show w.heap.size ≠ gx by omega) (.bool na)
              have mb := set_other (i := 0) mb (show w.heap.size + 1 ≠ gx by omega) (.bool na)
              have my := set_other (i := 0) my (show gy ≠ gx by omega) (.bool na)
              have rx := rx.setNe (p := ⟨gx, 0, none⟩) hnxx (.bool na)
              have ry := ry.setNe (p := ⟨gx, 0, none⟩) hnyx (.bool na)
              have hB := hB.setCell (p := ⟨gx, 0, none⟩) hkgx (.bool na)
              have mx := set_blk (v := .slice A1 n1 c1) (i := 1) mx rfl
              have ma := set_other (i := 1) ma (show w.heap.size ≠ gx by omega) (.slice A1 n1 c1)
              have mb := set_other (i := 1) mb (show w.heap.size + 1 ≠ gx by omega) (.slice A1 n1 c1)
              have my := set_other (i := 1) my (show gy ≠ gx by omega) (.slice A1 n1 c1)
              have rx := rx.setNe (p := ⟨gx, 1, none⟩) hnxx (.slice A1 n1 c1)
              have ry := ry.setNe (p := ⟨gx, 1, none⟩) hnyx (.slice A1 n1 c1)
              have hB := hB.setCell (p := ⟨gx, 1, none⟩) hkgx (.slice A1 n1 c1)
              have mx := set_blk (v := .int .i64 e1) (i := 2) mx rfl
              have ma := set_other (i := 2) ma (show w.heap.size ≠ gx by omega) (.int .i64 e1)
              have mb := set_other (i := 2) mb (show w.heap.size + 1 ≠ gx by omega) (.int .i64 e1)
              have my := set_other (i := 2) my (show gy ≠ gx by omega) (.int .i64 e1)
              have rx := rx.setNe (p := ⟨gx, 2, none⟩) hnxx (.int .i64 e1)
              have ry := ry.setNe (p := ⟨gx, 2, none⟩) hnyx (.int .i64 e1)
              have hB := hB.setCell (p := ⟨gx, 2, none⟩) hkgx (.int .i64 e1)
              obtain ⟨x0, x1, x2⟩ := box3_of ma
              obtain ⟨x3, x4, x5⟩ := box3_of mb
              refine hK.out _ _ ⟨x0, x1, x2, x3, x4, x5⟩ (fun _ => ?_)
              clear hK K x0 x1 x2 x3 x4 x5
              try simp only [Act.put, List.setIfInBounds_toArray, List.set_cons_zero, List.set_cons_succ]
              refine wpAnyH_ready (rs := [7]) (by kernel_rfl) (by simp) (AllReadyH.cons (o := ⟨_, _, _, _, _, _⟩) rfl (fun K hK => ?_) AllReadyH.nil)
              obtain ⟨t0, t1, t2⟩ := box3_of my
              have f0 := frozen_of 0 my
              have f1 := frozen_of 1 my
              have f2 := frozen_of 2 my
              go_simp
              clear t0 t1 t2 f0 f1 f2
              have my := set_blk (v := .bool nb) (i := 0) my rfl
              have ma := set_other (i := 0) ma (show w.heap.size ≠ gy by omega) (.bool nb)
              have mb := set_other (i := 0) mb (show w.heap.size + 1 ≠ gy by omega) (.bool nb)
              have mx := set_other (i := 0) mx (show gx ≠ gy by omega) (.bool nb)
              have rx := rx.setNe (p := ⟨gy, 0, none⟩) hnxy (.bool nb)
              have ry := ry.setNe (p := ⟨gy, 0, none⟩) hnyy (.bool nb)
              have hB := hB.setCell (p := ⟨gy, 0, none⟩) hkgy (.bool nb)
              have my := set_blk (v := .slice A2 n2 c2) (i := 1) my rfl
              have ma := set_other (i := 1) ma (show w.heap.size ≠ gy by omega) (.slice A2 n2 c2)
              have mb := set_other (i := 1) mb (show w.heap.size + 1 ≠ gy by omega) (.slice A2 n2 c2)
              have mx := set_other (i := 1) mx (show gx ≠ gy by omega) (.slice A2 n2 c2)
              have rx := rx.setNe (p := ⟨gy, 1, none⟩) hnxy (.slice A2 n2 c2)
              have ry := ry.setNe (p := ⟨gy, 1, none⟩) hnyy (.slice A2 n2 c2)
              have hB := hB.setCell (p := ⟨gy, 1, none⟩) hkgy (.slice A2 n2 c2)
              have my := set_blk (v := .int .i64 e2) (i := 2) my rfl
              have ma := set_other (i := 2) ma (show w.heap.size ≠ gy by omega) (.int .i64 e2)
              have mb := set_other (i := 2) mb (show w.heap.size + 1 ≠ gy by omega) (.int .i64 e2)
              have mx := set_other (i := 2) mx (show gx ≠ gy by omega) (.int .i64 e2)
              have rx := rx.setNe (p := ⟨gy, 2, none⟩) hnxy (.int .i64 e2)
              have ry := ry.setNe (p := ⟨gy, 2, none⟩) hnyy (.int .i64 e2)
              have hB := hB.setCell (p := ⟨gy, 2, none⟩) hkgy (.int .i64 e2)
              obtain ⟨x0, x1, x2⟩ := box3_of ma
              obtain ⟨x3, x4, x5⟩ := box3_of mb
              refine hK.out _ _ ⟨x0, x1, x2, x3, x4, x5⟩ (fun _ => ?_)
              clear hK K x0 x1 x2 x3 x4 x5
              try simp only [Act.put, List.setIfInBounds_toArray, List.set_cons_zero, List.set_cons_succ]
              refine wpAnyH_done (by kernel_rfl) ?_ _
              go_wp2
              go_meet
              exact ⟨gx, gy, A1, n1, c1, ds, A2, n2, c2, es, rfl, rfl, hne, mx, my, hkgx, hkgy, rx, ry, d1, d2, v1, v2, l1, l2, hB⟩
          · go_simp
            obtain ⟨gy, hg⟩ : ∃ g, g = V7.heap.size := ⟨_, rfl⟩
            have ma := heldA (.cells #[.bool false, .slice none 0 0, .int .i64 0] 41) ma
            have mb := heldA (.cells #[.bool false, .slice none 0 0, .int .i64 0] 41) mb
            have mx := heldA (.cells #[.bool false, .slice none 0 0, .int .i64 0] 41) mx
            have my := World.alloc_heap_new V7 (.cells #[.bool false, .slice none 0 0, .int .i64 0] 41)
            rw [← hg] at my
            have rx := rx.below ((Below.refl V7.heap.size V7).alloc (Nat.le_refl _) (.cells #[.bool false, .slice none 0 0, .int .i64 0] 41)) (Nat.le_refl _)
            have hsz : (V7.alloc (.cells #[.bool false, .slice none 0 0, .int .i64 0] 41)).heap.size = V7.heap.size + 1 := by simp
            have hkgy : w1.heap.size ≤ gy := by have := hB.size; omega
            have hB := hB.alloc hB.size (.cells #[.bool false, .slice none 0 0, .int .i64 0] 41)
            have hW := hW.alloc hW.size (.cells #[.bool false, .slice none 0 0, .int .i64 0] 41)
            obtain ⟨x0, x1, x2⟩ := box3_of ma
            obtain ⟨x3, x4, x5⟩ := box3_of mb
            refine hK.out _ _ ⟨x0, x1, x2, x3, x4, x5⟩ (fun _ => ?_)
            clear hK K x0 x1 x2 x3 x4 x5
            try simp only [Act.put, List.setIfInBounds_toArray, List.set_cons_zero, List.set_cons_succ]
            try rw [← hg]
            generalize hU : V7.alloc (.cells #[.bool false, .slice none 0 0, .int .i64 0] 41) = V10 at *
            clear hU
            have hlgy : gy < V10.heap.size := by omega
            have hne : gx ≠ gy := by omega
            have hlgx : gx < V10.heap.size := by omega
            clear hg hsz
            have hBs0 : w1.heap.size ≤ V10.heap.size := hB.size
            refine wpAnyH_ready (rs := [3]) (by kernel_rfl) (by simp) ?_
            refine (AllReadyH.cons (o := ⟨_, _, _, _, _, _⟩) rfl (fun K hK => ?_) AllReadyH.nil)
            · go_simp
              refine (OF2.out V10 (hb.below hW hS) (fun b h => up hW b h)).mono ?_
              rintro e V11 ⟨A2, n2, c2, es, rfl, ry, d2, v2, l2, hb0⟩
              have ma := heldz hb0 ma
              have mb := heldz hb0 mb
              have mx := heldz hb0 mx
              have my := heldz hb0 my
              have rx := rx.below hb0 (Nat.le_refl _)
              have hB := hB.trans (hb0.mono hB.size)
              have hW := hW.trans (hb0.mono hW.size)
              have ry := ry.more (base' := w1.heap.size) hBs0
              (try dsimp only)
              obtain ⟨x0, x1, x2⟩ := box3_of ma
              obtain ⟨x3, x4, x5⟩ := box3_of mb
              refine hK.out _ _ ⟨x0, x1, x2, x3, x4, x5⟩ (fun _ => ?_)
              clear hK K x0 x1 x2 x3 x4 x5
              try simp only [Act.put, List.setIfInBounds_toArray, List.set_cons_zero, List.set_cons_succ]
              have hlgx : gx < V11.heap.size := Nat.lt_of_lt_of_le hlgx hb0.size
              have hlgy : gy < V11.heap.size := Nat.lt_of_lt_of_le hlgy hb0.size
              clear hb0
              have hBs0 : w1.heap.size ≤ V11.heap.size := hB.size
              have hnxx := rx.ne_box mx ty_ne65
              have hnxy := rx.ne_box my ty_ne65
              have hnyx := ry.ne_box mx ty_ne65
              have hnyy := ry.ne_box my ty_ne65
              refine wpAnyH_ready (rs := [6]) (by kernel_rfl) (by simp) (AllReadyH.cons (o := ⟨_, _, _, _, _, _⟩) rfl (fun K hK => ?_) AllReadyH.nil)
              obtain ⟨t0, t1, t2⟩ := box3_of mx
              have f0 := frozen_of 0 mx
              have f1 := frozen_of 1 mx
              have f2 := frozen_of 2 mx
              go_simp
              clear t0 t1 t2 f0 f1 f2
              have mx := set_blk (v := .bool na) (i := 0) mx rfl
              have ma := set_other (i := 0) ma (show w.heap.size ≠ gx by omega) (.bool na)
              have mb := set_other (i := 0) mb (show w.heap.size + 1 ≠ gx by omega) (.bool na)
              have my := set_other (i := 0) my (show gy ≠ gx by omega) (.bool na)
              have rx := rx.setNe (p := ⟨gx, 0, none⟩) hnxx (.bool na)
              have ry := ry.setNe (p := ⟨gx, 0, none⟩) hnyx (.bool na)
              have hB := hB.setCell (p := ⟨gx, 0, none⟩) hkgx (.bool na)
              have mx := set_blk (v := .slice A1 n1 c1) (i := 1) mx rfl
              have ma := set_other (i := 1) ma (show w.heap.size ≠ gx by omega) (.slice A1 n1 c1)
              have mb := set_other (i := 1) mb (show w.heap.size + 1 ≠ gx by omega) (.slice A1 n1 c1)
              have my := set_other (i := 1) my (show gy ≠ gx by omega) (.slice A1 n1 c1)
              have rx := rx.setNe (p := ⟨gx, 1, none⟩) hnxx (.slice A1 n1 c1)
              have ry := ry.setNe (p := ⟨gx, 1, none⟩) hnyx (.slice A1 n1 c1)
              have hB := hB.setCell (p := ⟨gx, 1, none⟩) hkgx (.slice A1 n1 c1)
              have mx := set_blk (v := .int .i64 e1) (i := 2) mx rfl
              have ma := set_other (i := 2) ma (show w.heap.size ≠ gx by omega) (.int .i64 e1)
              have mb := set_other (i := 2) mb (show w.heap.size + 1 ≠ gx by omega) (.int .i64 e1)
              have my := set_other (i := 2) my (show gy ≠ gx by omega) (.int .i64 e1)
              have rx := rx.setNe (p := ⟨gx, 2, none⟩) hnxx (.int .i64 e1)
              have ry := ry.setNe (p := ⟨gx, 2, none⟩) hnyx (.int .i64 e1)
              have hB := hB.setCell (p := ⟨gx, 2, none⟩) hkgx (.int .i64 e1)
              obtain ⟨x0, x1, x2⟩ := box3_of ma
              obtain ⟨x3, x4, x5⟩ := box3_of mb
              refine hK.out _ _ ⟨x0, x1, x2, x3, x4, x5⟩ (fun _ => ?_)
              clear hK K x0 x1 x2 x3 x4 x5
              try simp only [Act.put, List.setIfInBounds_toArray, List.set_cons_zero, List.set_cons_succ]
              refine wpAnyH_ready (rs := [7]) (by kernel_rfl) (by simp) (AllReadyH.cons (o := ⟨_, _, _, _, _, _⟩) rfl (fun K hK => ?_) AllReadyH.nil)
              obtain ⟨t0, t1, t2⟩ := box3_of my
              have f0 := frozen_of 0 my
              have f1 := frozen_of 1 my
              have f2 := frozen_of 2 my
              go_simp
              clear t0 t1 t2 f0 f1 f2
              have my := set_blk (v := .bool nb) (i := 0) my rfl
              have ma := set_other (i := 0) ma (show w.heap.size ≠ gy by omega) (.bool nb)
              have mb := set_other (i := 0) mb (show w.heap.size + 1 ≠ gy by omega) (.bool nb)
              have mx := set_other (i := 0) mx (show gx ≠ gy by omega) (.bool nb)
              have rx := rx.setNe (p := ⟨gy, 0, none⟩) hnxy (.bool nb)
              have ry := ry.setNe (p := ⟨gy, 0, none⟩) hnyy (.bool nb)
              have hB := hB.setCell (p := ⟨gy, 0, none⟩) hkgy (.bool nb)
              have my := set_blk (v := .slice A2 n2 c2) (i := 1) my rfl
              have ma := set_other (i := 1) ma (show w.heap.size ≠ gy by omega) (.slice A2 n2 c2)
              have mb := set_other (i := 1) mb (show w.heap.size + 1 ≠ gy by omega) (.slice A2 n2 c2)
              have mx := set_other (i := 1) mx (show gx ≠ gy by omega) (.slice A2 n2 c2)
              have rx := rx.setNe (p := ⟨gy, 1, none⟩) hnxy (.slice A2 n2 c2)
              have ry := ry.setNe (p := ⟨gy, 1, none⟩) hnyy (.slice A2 n2 c2)
              have hB := hB.setCell (p := ⟨gy, 1, none⟩) hkgy (.slice A2 n2 c2)
              have my := set_blk (v := .int .i64 e2) (i := 2) my rfl
              have ma := set_other (i := 2) ma (show w.heap.size ≠ gy by omega) (.int .i64 e2)
              have mb := set_other (i := 2) mb (show w.heap.size + 1 ≠ gy by omega) (.int .i64 e2)
              have mx := set_other (i := 2) mx (show gx ≠ gy by omega) (.int .i64 e2)
              have rx := rx.setNe (p := ⟨gy, 2, none⟩) hnxy (.int .i64 e2)
              have ry := ry.setNe (p := ⟨gy, 2, none⟩) hnyy (.int .i64 e2)
              have hB := hB.setCell (p := ⟨gy, 2, none⟩) hkgy (.int .i64 e2)
              obtain ⟨x0, x1, x2⟩ := box3_of ma
              obtain ⟨x3, x4, x5⟩ := box3_of mb
              refine hK.out _ _ ⟨x0, x1, x2, x3, x4, x5⟩ (fun _ => ?_)
              clear hK K x0 x1 x2 x3 x4 x5
              try simp only [Act.put, List.setIfInBounds_toArray, List.set_cons_zero, List.set_cons_succ]
              refine wpAnyH_done (by kernel_rfl) ?_ _
              go_wp2
              go_meet
              exact ⟨gx, gy, A1, n1, c1, ds, A2, n2, c2, es, rfl, rfl, hne, mx, my, hkgx, hkgy, rx, ry, d1, d2, v1, v2, l1, l2, hB⟩
        · go_simp
          obtain ⟨gy, hg⟩ : ∃ g, g = V1.heap.size := ⟨_, rfl⟩
          have ma := heldA (.cells #[.bool false, .slice none 0 0, .int .i64 0] 41) ma
          have mb := heldA (.cells #[.bool false, .slice none 0 0, .int .i64 0] 41) mb
          have my := World.alloc_heap_new V1 (.cells #[.bool false, .slice none 0 0, .int .i64 0] 41)
          rw [← hg] at my
          have rx := rx.below ((Below.refl V1.heap.size V1).alloc (Nat.le_refl _) (.cells #[.bool false, .slice none 0 0, .int .i64 0] 41)) (Nat.le_refl _)
          have hsz : (V1.alloc (.cells #[.bool false, .slice none 0 0, .int .i64 0] 41)).heap.size = V1.heap.size + 1 := by simp
          have hkgy : w1.heap.size ≤ gy := by have := hB.size; omega
          have hB := hB.alloc hB.size (.cells #[.bool false, .slice none 0 0, .int .i64 0] 41)
          have hW := hW.alloc hW.size (.cells #[.bool false, .slice none 0 0, .int .i64 0] 41)
          obtain ⟨x0, x1, x2⟩ := box3_of ma
          obtain ⟨x3, x4, x5⟩ := box3_of mb
          refine hK.out _ _ ⟨x0, x1, x2, x3, x4, x5⟩ (fun _ => ?_)
          clear hK K x0 x1 x2 x3 x4 x5
          try simp only [Act.put, List.setIfInBounds_toArray, List.set_cons_zero, List.set_cons_succ]
          try rw [← hg]
          generalize hU : V1.alloc (.cells #[.bool false, .slice none 0 0, .int .i64 0] 41) = V12 at *
          clear hU
          have hlgy : gy < V12.heap.size := by omega
          clear hg hsz
          have hBs0 : w1.heap.size ≤ V12.heap.size := hB.size
          refine wpAnyH_ready (rs := [3, 4]) (by kernel_rfl) (by simp) ?_
          refine (AllReadyH.cons (o := ⟨_, _, _, _, _, _⟩) rfl (fun K hK => ?_) (AllReadyH.cons (o := ⟨_, _, _, _, _, _⟩) rfl (fun K hK => ?_) AllReadyH.nil))
          · go_simp
            refine (OF2.out V12 (hb.below hW hS) (fun b h => up hW b h)).mono ?_
            rintro e V13 ⟨A2, n2, c2, es, rfl, ry, d2, v2, l2, hb0⟩
            have ma := heldz hb0 ma
            have mb := heldz hb0 mb
            have my := heldz hb0 my
            have rx := rx.below hb0 (Nat.le_refl _)
            have hB := hB.trans (hb0.mono hB.size)
            have hW := hW.trans (hb0.mono hW.size)
            have ry := ry.more (base' := w1.heap.size) hBs0
            (try dsimp only)
            obtain ⟨x0, x1, x2⟩ := box3_of ma
            obtain ⟨x3, x4, x5⟩ := box3_of mb
            refine hK.out _ _ ⟨x0, x1, x2, x3, x4, x5⟩ (fun _ => ?_)
            clear hK K x0 x1 x2 x3 x4 x5
            try simp only [Act.put, List.setIfInBounds_toArray, List.set_cons_zero, List.set_cons_succ]
            have hlgy : gy < V13.heap.size := Nat.lt_of_lt_of_le hlgy hb0.size
            clear hb0
            have hBs0 : w1.heap.size ≤ V13.heap.size := hB.size
            refine wpAnyH_ready (rs := [4]) (by kernel_rfl) (by simp) ?_
            refine (AllReadyH.cons (o := ⟨_, _, _, _, _, _⟩) rfl (fun K hK => ?_) AllReadyH.nil)
            · go_simp
              obtain ⟨gx, hg⟩ : ∃ g, g = V13.heap.size := ⟨_, rfl⟩
              have ma := heldA (.cells #[.bool false, .slice none 0 0, .int .i64 0] 41) ma
              have mb := heldA (.cells #[.bool false, .slice none 0 0, .int .i64 0] 41) mb
              have my := heldA (.cells #[.bool false, .slice none 0 0, .int .i64 0] 41) my
              have mx := World.alloc_heap_new V13 (.cells #[.bool false, .slice none 0 0, .int .i64 0] 41)
              rw [← hg] at mx
              have rx := rx.below ((Below.refl V13.heap.size V13).alloc (Nat.le_refl _) (.cells #[.bool false, .slice none 0 0, .int .i64 0] 41)) (Nat.le_refl _)
              have ry := ry.below ((Below.refl V13.heap.size V13).alloc (Nat.le_refl _) (.cells #[.bool false, .slice none 0 0, .int .i64 0] 41)) (Nat.le_refl _)
              have hsz : (V13.alloc (.cells #[.bool false, .slice none 0 0, .int .i64 0] 41)).heap.size = V13.heap.size + 1 := by simp
              have hkgx : w1.heap.size ≤ gx := by have := hB.size; omega
              have hB := hB.alloc hB.size (.cells #[.bool false, .slice none 0 0, .int .i64 0] 41)
              have hW := hW.alloc hW.size (.cells #[.bool false, .slice none 0 0, .int .i64 0] 41)
              obtain ⟨x0, x1, x2⟩ := box3_of ma
              obtain ⟨x3, x4, x5⟩ := box3_of mb
              refine hK.out _ _ ⟨x0, x1, x2, x3, x4, x5⟩ (fun _ => ?_)
              clear hK K x0 x1 x2 x3 x4 x5
              try simp only [Act.put, List.setIfInBounds_toArray, List.set_cons_zero, List.set_cons_succ]
              try rw [← hg]
              generalize hU : V13.alloc (.cells #[.bool false, .slice none 0 0, .int .i64 0] 41) = V14 at *
              clear hU
              have hlgx : gx < V14.heap.size := by omega
              have hne : gx ≠ gy := by omega
              have hlgy : gy < V14.heap.size := by omega
              clear hg hsz
              have hBs0 : w1.heap.size ≤ V14.heap.size := hB.size
              have hnxx := rx.ne_box mx ty_ne65
              have hnxy := rx.ne_box my ty_ne65
              have hnyx := ry.ne_box mx ty_ne65
              have hnyy := ry.ne_box my ty_ne65
              refine wpAnyH_ready (rs := [6]) (by kernel_rfl) (by simp) (AllReadyH.cons (o := ⟨_, _, _, _, _, _⟩) rfl (fun K hK => ?_) AllReadyH.nil)
              obtain ⟨t0, t1, t2⟩ := box3_of mx
              have f0 := frozen_of 0 mx
              have f1 := frozen_of 1 mx
              have f2 := frozen_of 2 mx
              go_simp
              clear t0 t1 t2 f0 f1 f2
              have mx := set_blk (v := .bool na) (i := 0) mx rfl
              have ma := set_other (i := 0) ma (show w.heap.size ≠ gx by omega) (.bool na)
              have mb := set_other (i := 0) mb (show w.heap.size + 1 ≠ gx by omega) (.bool na)
              have my := set_other (i := 0) my (show gy ≠ gx by omega) (.bool na)
              have rx := rx.setNe (p := ⟨gx, 0, none⟩) hnxx (.bool na)
              have ry := ry.setNe (p := ⟨gx, 0, none⟩) hnyx (.bool na)
              have hB := hB.setCell (p := ⟨gx, 0, none⟩) hkgx (.bool na)
              have mx := set_blk (v := .slice A1 n1 c1) (i := 1) mx rfl
              have ma := set_other (i := 1) ma (show w.heap.size ≠ gx by omega) (.slice A1 n1 c1)
              have mb := set_other (i := 1) mb (show w.heap.size + 1 ≠ gx by omega) (.slice A1 n1 c1)
              have my := set_other (i := 1) my (show gy ≠ gx by omega) (.slice A1 n1 c1)
              have rx := rx.setNe (p := ⟨gx, 1, none⟩) hnxx (.slice A1 n1 c1)
              have ry := ry.setNe (p := ⟨gx, 1, none⟩) hnyx (.slice A1 n1 c1)
              have hB := hB.setCell (p := ⟨gx, 1, none⟩) hkgx (.slice A1 n1 c1)
              have mx := set_blk (v := .int .i64 e1) (i := 2) mx rfl
              have ma := set_other (i := 2) ma (show w.heap.size ≠ gx by omega) (.int .i64 e1)
              have mb := set_other (i := 2) mb (show w.heap.size + 1 ≠ gx by omega) (.int .i64 e1)
              have my := set_other (i := 2) my (show gy ≠ gx by omega) (.int .i64 e1)
              have rx := rx.setNe (p := ⟨gx, 2, none⟩) hnxx (.int .i64 e1)
              have ry := ry.setNe (p := ⟨gx, 2, none⟩) hnyx (.int .i64 e1)
              have hB := hB.setCell (p := ⟨gx, 2, none⟩) hkgx (.int .i64 e1)
              obtain ⟨x0, x1, x2⟩ := box3_of ma
              obtain ⟨x3, x4, x5⟩ := box3_of mb
              refine hK.out _ _ ⟨x0, x1, x2, x3, x4, x5⟩ (fun _ => ?_)
              clear hK K x0 x1 x2 x3 x4 x5
              try simp only [Act.put, List.setIfInBounds_toArray, List.set_cons_zero, List.set_cons_succ]
              refine wpAnyH_ready (rs := [7]) (by kernel_rfl) (by simp) (AllReadyH.cons (o := ⟨_, _, _, _, _, _⟩) rfl (fun K hK => ?_) AllReadyH.nil)
              obtain ⟨t0, t1, t2⟩ := box3_of my
              have f0 := frozen_of 0 my
              have f1 := frozen_of 1 my
              have f2 := frozen_of 2 my
              go_simp
              clear t0 t1 t2 f0 f1 f2
              have my := set_blk (v := .bool nb) (i := 0) my rfl
              have ma := set_other (i := 0) ma (show w.heap.size ≠ gy by omega) (.bool nb)
              have mb := set_other (i := 0) mb (show w.heap.size + 1 ≠ gy by omega) (.bool nb)
              have mx := set_other (i := 0) mx (show gx ≠ gy by omega) (.bool nb)
              have rx := rx.setNe (p := ⟨gy, 0, none⟩) hnxy (.bool nb)
              have ry := ry.setNe (p := ⟨gy, 0, none⟩) hnyy (.bool nb)
              have hB := hB.setCell (p := ⟨gy, 0, none⟩) hkgy (.bool nb)
              have my := set_blk (v := .slice A2 n2 c2) (i := 1) my rfl
              have ma := set_other (i := 1) ma (show w.heap.size ≠ gy by omega) (.slice A2 n2 c2)
              have mb := set_other (i := 1) mb (show w.heap.size + 1 ≠ gy by omega) (.slice A2 n2 c2)
              have mx := set_other (i := 1) mx (show gx ≠ gy by omega) (.slice A2 n2 c2)
              have rx := rx.setNe (p := ⟨gy, 1, none⟩) hnxy (.slice A2 n2 c2)
              have ry := ry.setNe (p := ⟨gy, 1, none⟩) hnyy (.slice A2 n2 c2)
              have hB := hB.setCell (p := ⟨gy, 1, none⟩) hkgy (.slice A2 n2 c2)
              have my := set_blk (v := .int .i64 e2) (i := 2) my rfl
              have ma := set_other (i := 2) ma (show w.heap.size ≠ gy by omega) (.int .i64 e2)
              have mb := set_other (i := 2) mb (show w.heap.size + 1 ≠ gy by omega) (.int .i64 e2)
              have mx := set_other (i := 2) mx (show gx ≠ gy by omega) (.int .i64 e2)
              have rx := rx.setNe (p := ⟨gy, 2, none⟩) hnxy (.int .i64 e2)
              have ry := ry.setNe (p := ⟨gy, 2, none⟩) hnyy (.int .i64 e2)
              have hB := hB.setCell (p := ⟨gy, 2, none⟩) hkgy (.int .i64 e2)
              obtain ⟨x0, x1, x2⟩ := box3_of ma
              obtain ⟨x3, x4, x5⟩ := box3_of mb
              refine hK.out _ _ ⟨x0, x1, x2, x3, x4, x5⟩ (fun _ => ?_)
              clear hK K x0 x1 x2 x3 x4 x5
              try simp only [Act.put, List.setIfInBounds_toArray, List.set_cons_zero, List.set_cons_succ]
              refine wpAnyH_done (by kernel_rfl) ?_ _
              go_wp2
              go_meet
              exact ⟨gx, gy, A1, n1, c1, ds, A2, n2, c2, es, rfl, rfl, hne, mx, my, hkgx, hkgy, rx, ry, d1, d2, v1, v2, l1, l2, hB⟩
          · go_simp
            obtain ⟨gx, hg⟩ : ∃ g, g = V12.heap.size := ⟨_, rfl⟩
            have ma := heldA (.cells #[.bool false, .slice none 0 0, .int .i64 0] 41) ma
            have mb := heldA (.cells #[.bool false, .slice none 0 0, .int .i64 0] 41) mb
            have my := heldA (.cells #[.bool false, .slice none 0 0, .int .i64 0] 41) my
            have mx := World.alloc_heap_new V12 (.cells #[.bool false, .slice none 0 0, .int .i64 0] 41)
            rw [← hg] at mx
            have rx := rx.below ((Below.refl V12.heap.size V12).alloc (Nat.le_refl _) (.cells #[.bool false, .slice none 0 0, .int .i64 0] 41)) (Nat.le_refl _)
            have hsz : (V12.alloc (.cells #[.bool false, .slice none 0 0, .int .i64 0] 41)).heap.size = V12.heap.size + 1 := by simp
            have hkgx : w1.heap.size ≤ gx := by have := hB.size; omega
            have hB := hB.alloc hB.size (.cells #[.bool false, .slice none 0 0, .int .i64 0] 41)
            have hW := hW.alloc hW.size (.cells #[.bool false, .slice none 0 0, .int .i64 0] 41)
            obtain ⟨x0, x1, x2⟩ := box3_of ma
            obtain ⟨x3, x4, x5⟩ := box3_of mb
            refine hK.out _ _ ⟨x0, x1, x2, x3, x4, x5⟩ (fun _ => ?_)
            clear hK K x0 x1 x2 x3 x4 x5
            try simp only [Act.put, List.setIfInBounds_toArray, List.set_cons_zero, List.set_cons_succ]
            try rw [← hg]
            generalize hU : V12.alloc (.cells #[.bool false, .slice none 0 0, .int .i64 0] 41) = V15 at *
            clear hU
            have hlgx : gx < V15.heap.size := by omega
            have hne : gx ≠ gy := by omega
            have hlgy : gy < V15.heap.size := by omega
            clear hg hsz
            have hBs0 : w1.heap.size ≤ V15.heap.size := hB.size
            refine wpAnyH_ready (rs := [3]) (by kernel_rfl) (by simp) ?_
            refine (AllReadyH.cons (o := ⟨_, _, _, _, _, _⟩) rfl (fun K hK => ?_) AllReadyH.nil)
            · go_simp
              refine (OF2.out V15 (hb.below hW hS) (fun b h => up hW b h)).mono ?_
              rintro e V16 ⟨A2, n2, c2, es, rfl, ry, d2, v2, l2, hb0⟩
              have ma := heldz hb0 ma
              have mb := heldz hb0 mb
              have mx := heldz hb0 mx
              have my := heldz hb0 my
              have rx := rx.below hb0 (Nat.le_refl _)
              have hB := hB.trans (hb0.mono hB.size)
              have hW := hW.trans (hb0.mono hW.size)
              have ry := ry.more (base' := w1.heap.size) hBs0
              (try dsimp only)
              obtain ⟨x0, x1, x2⟩ := box3_of ma
              obtain ⟨x3, x4, x5⟩ := box3_of mb
              refine hK.out _ _ ⟨x0, x1, x2, x3, x4, x5⟩ (fun _ => ?_)
              clear hK K x0 x1 x2 x3 x4 x5
              try simp only [Act.put, List.setIfInBounds_toArray, List.set_cons_zero, List.set_cons_succ]
              have hlgx : gx < V16.heap.size := Nat.lt_of_lt_of_le hlgx hb0.size
              have hlgy : gy < V16.heap.size := Nat.lt_of_lt_of_le hlgy hb0.size
              clear hb0
              have hBs0 : w1.heap.size ≤ V16.heap.size := hB.size
              have hnxx := rx.ne_box mx ty_ne65
              have hnxy := rx.ne_box my ty_ne65
              have hnyx := ry.ne_box mx ty_ne65
              have hnyy := ry.ne_box my ty_ne65
              refine wpAnyH_ready (rs := [6]) (by kernel_rfl) (by simp) (AllReadyH.cons (o := ⟨_, _, _, _, _, _⟩) rfl (fun K hK => ?_) AllReadyH.nil)
              obtain ⟨t0, t1, t2⟩ := box3_of mx
              have f0 := frozen_of 0 mx
              have f1 := frozen_of 1 mx
              have f2 := frozen_of 2 mx
              go_simp
              clear t0 t1 t2 f0 f1 f2
              have mx := set_blk (v := .bool na) (i := 0) mx rfl
              have ma := set_other (i := 0) ma (show w.heap.size ≠ gx by omega) (.bool na)
              have mb := set_other (i := 0) mb (show w.heap.size + 1 ≠ gx by omega) (.bool na)
              have my := set_other (i := 0) my (show gy ≠ gx by omega) (.bool na)
              have rx := rx.setNe (p := ⟨gx, 0, none⟩) hnxx (.bool na)
              have ry := ry.setNe (p := ⟨gx, 0, none⟩) hnyx (.bool na)
              have hB := hB.setCell (p := ⟨gx, 0, none⟩) hkgx (.bool na)
              have mx := set_blk (v := .slice A1 n1 c1) (i := 1) mx rfl
              have ma := set_other (i := 1) ma (show w.heap.size ≠ gx by omega) (.slice A1 n1 c1)
              have mb := set_other (i := 1) mb (show w.heap.size + 1 ≠ gx by omega) (.slice A1 n1 c1)
              have my := set_other (i := 1) my (show gy ≠ gx by omega) (.slice A1 n1 c1)
              have rx := rx.setNe (p := ⟨gx, 1, none⟩) hnxx (.slice A1 n1 c1)
              have ry := ry.setNe (p := ⟨gx, 1, none⟩) hnyx (.slice A1 n1 c1)
              have hB := hB.setCell (p := ⟨gx, 1, none⟩) hkgx (.slice A1 n1 c1)
              have mx := set_blk (v := .int .i64 e1) (i := 2) mx rfl
              have ma := set_other (i := 2) ma (show w.heap.size ≠ gx by omega) (.int .i64 e1)
              have mb := set_other (i := 2) mb (show w.heap.size + 1 ≠ gx by omega) (.int .i64 e1)
              have my := set_other (i := 2) my (show gy ≠ gx by omega) (.int .i64 e1)
              have rx := rx.setNe (p := ⟨gx, 2, none⟩) hnxx (.int .i64 e1)
              have ry := ry.setNe (p := ⟨gx, 2, none⟩) hnyx (.int .i64 e1)
              have hB := hB.setCell (p := ⟨gx, 2, none⟩) hkgx (.int .i64 e1)
              obtain ⟨x0, x1, x2⟩ := box3_of ma
              obtain ⟨x3, x4, x5⟩ := box3_of mb
              refine hK.out _ _ ⟨x0, x1, x2, x3, x4, x5⟩ (fun _ => ?_)
              clear hK K x0 x1 x2 x3 x4 x5
              try simp only [Act.put, List.setIfInBounds_toArray, List.set_cons_zero, List.set_cons_succ]
              refine wpAnyH_ready (rs := [7]) (by kernel_rfl) (by simp) (AllReadyH.cons (o := ⟨_, _, _, _, _, _⟩) rfl (fun K hK => ?_) AllReadyH.nil)
              obtain ⟨t0, t1, t2⟩ := box3_of my
              have f0 := frozen_of 0 my
              have f1 := frozen_of 1 my
              have f2 := frozen_of 2 my
              go_simp
              clear t0 t1 t2 f0 f1 f2
              have my := set_blk (v := .bool nb) (i := 0) my rfl
              have ma := set_other (i := 0) ma (show w.heap.size ≠ gy by omega) (.bool nb)
              have mb := set_other (i := 0) mb (show w.heap.size + 1 ≠ gy by omega) (.bool nb)
              have mx := set_other (i := 0) mx (show gx ≠ gy by omega) (.bool nb)
              have rx := rx.setNe (p := ⟨gy, 0, none⟩) hnxy (.bool nb)
              have ry := ry.setNe (p := ⟨gy, 0, none⟩) hnyy (.bool nb)
              have hB := hB.setCell (p := ⟨gy, 0, none⟩) hkgy (.bool nb)
              have my := set_blk (v := .slice A2 n2 c2) (i := 1) my rfl
              have ma := set_other (i := 1) ma (show w.heap.size ≠ gy by omega) (.slice A2 n2 c2)
              have mb := set_other (i := 1) mb (show w.heap.size + 1 ≠ gy by omega) (.slice A2 n2 c2)
              have mx := set_other (i := 1) mx (show gx ≠ gy by omega) (.slice A2 n2 c2)
              have rx := rx.setNe (p := ⟨gy, 1, none⟩) hnxy (.slice A2 n2 c2)
              have ry := ry.setNe (p := ⟨gy, 1, none⟩) hnyy (.slice A2 n2 c2)
              have hB := hB.setCell (p := ⟨gy, 1, none⟩) hkgy (.slice A2 n2 c2)
              have my := set_blk (v := .int .i64 e2) (i := 2) my rfl
              have ma := set_other (i := 2) ma (show w.heap.size ≠ gy by omega) (.int .i64 e2)
              have mb := set_other (i := 2) mb (show w.heap.size + 1 ≠ gy by omega) (.int .i64 e2)
              have mx := set_other (i := 2) mx (show gx ≠ gy by omega) (.int .i64 e2)
              have rx := rx.setNe (p := ⟨gy, 2, none⟩) hnxy (.int .i64 e2)
              have ry := ry.setNe (p := ⟨gy, 2, none⟩) hnyy (.int .i64 e2)
              have hB := hB.setCell (p := ⟨gy, 2, none⟩) hkgy (.int .i64 e2)
              obtain ⟨x0, x1, x2⟩ := box3_of ma
              obtain ⟨x3, x4, x5⟩ := box3_of mb
              refine hK.out _ _ ⟨x0, x1, x2, x3, x4, x5⟩ (fun _ => ?_)
              clear hK K x0 x1 x2 x3 x4 x5
              try simp only [Act.put, List.setIfInBounds_toArray, List.set_cons_zero, List.set_cons_succ]
              refine wpAnyH_done (by kernel_rfl) ?_ _
              go_wp2
              go_meet
              exact ⟨gx, gy, A1, n1, c1, ds, A2, n2, c2, es, rfl, rfl, hne, mx, my, hkgx, hkgy, rx, ry, d1, d2, v1, v2, l1, l2, hB⟩
      · go_simp
        obtain ⟨gx, hg⟩ : ∃ g, g = V0.heap.size := ⟨_, rfl⟩
        have ma := heldA (.cells #[.bool false, .slice none 0 0, .int .i64 0] 41) ma
        have mb := heldA (.cells #[.bool false, .slice none 0 0, .int .i64 0] 41) mb
        have mx := World.alloc_heap_new V0 (.cells #[.bool false, .slice none 0 0, .int .i64 0] 41)
        rw [← hg] at mx
        have hsz : (V0.alloc (.cells #[.bool false, .slice none 0 0, .int .i64 0] 41)).heap.size = V0.heap.size + 1 := by simp
        have hkgx : w1.heap.size ≤ gx := by have := hB.size; omega
        have hB := hB.alloc hB.size (.cells #[.bool false, .slice none 0 0, .int .i64 0] 41)
        have hW := hW.alloc hW.size (.cells #[.bool false, .slice none 0 0, .int .i64 0] 41)
        obtain ⟨x0, x1, x2⟩ := box3_of ma
        obtain ⟨x3, x4, x5⟩ := box3_of mb
        refine hK.out _ _ ⟨x0, x1, x2, x3, x4, x5⟩ (fun _ => ?_)
        clear hK K x0 x1 x2 x3 x4 x5
        try simp only [Act.put, List.setIfInBounds_toArray, List.set_cons_zero, List.set_cons_succ]
        try rw [← hg]
        generalize hU : V0.alloc (.cells #[.bool false, .slice none 0 0, .int .i64 0] 41) = V17 at *
        clear hU
        have hlgx : gx < V17.heap.size := by omega
        clear hg hsz
        have hBs0 : w1.heap.size ≤ V17.heap.size := hB.size
        refine wpAnyH_ready (rs := [1, 5]) (by kernel_rfl) (by simp) ?_
        refine (AllReadyH.cons (o := ⟨_, _, _, _, _, _⟩) rfl (fun K hK => ?_) (AllReadyH.cons (o := ⟨_, _, _, _, _, _⟩) rfl (fun K hK => ?_) AllReadyH.nil))
        · go_simp
          refine (OF1.out V17 (ha.below hW hS) (fun b h => up hW b h)).mono ?_
          rintro e V18 ⟨A1, n1, c1, ds, rfl, rx, d1, v1, l1, hb0⟩
          have ma := heldz hb0 ma
          have mb := heldz hb0 mb
          have mx := heldz hb0 mx
          have hB := hB.trans (hb0.mono hB.size)
          have hW := hW.trans (hb0.mono hW.size)
          have rx := rx.more (base' := w1.heap.size) hBs0
          (try dsimp only)
          obtain ⟨x0, x1, x2⟩ := box3_of ma
          obtain ⟨x3, x4, x5⟩ := box3_of mb
          refine hK.out _ _ ⟨x0, x1, x2, x3, x4, x5⟩ (fun _ => ?_)
          clear hK K x0 x1 x2 x3 x4 x5
          try simp only [Act.put, List.setIfInBounds_toArray, List.set_cons_zero, List.set_cons_succ]
          have hlgx : gx < V18.heap.size := Nat.lt_of_lt_of_le hlgx hb0.size
          clear hb0
          have hBs0 : w1.heap.size ≤ V18.heap.size := hB.size
          refine wpAnyH_ready (rs := [3, 5]) (by kernel_rfl) (by simp) ?_
          refine (AllReadyH.cons (o := ⟨_, _, _, _, _, _⟩) rfl (fun K hK => ?_) (AllReadyH.cons (o := ⟨_, _, _, _, _, _⟩) rfl (fun K hK => ?_) AllReadyH.nil))
          · go_simp
            refine (OF2.out V18 (hb.below hW hS) (fun b h => up hW b h)).mono ?_
            rintro e V19 ⟨A2, n2, c2, es, rfl, ry, d2, v2, l2, hb0⟩
            have ma := heldz hb0 ma
            have mb := heldz hb0 mb
            have mx := heldz hb0 mx
            have rx := rx.below hb0 (Nat.le_refl _)
            have hB := hB.trans (hb0.mono hB.size)
            have hW := hW.trans (hb0.mono hW.size)
            have ry := ry.more (base' := w1.heap.size) hBs0
            (try dsimp only)
            obtain ⟨x0, x1, x2⟩ := box3_of ma
            obtain ⟨x3, x4, x5⟩ := box3_of mb
            refine hK.out _ _ ⟨x0, x1, x2, x3, x4, x5⟩ (fun _ => ?_)
            clear hK K x0 x1 x2 x3 x4 x5
            try simp only [Act.put, List.setIfInBounds_toArray, List.set_cons_zero, List.set_cons_succ]
            have hlgx : gx < V19.heap.size := Nat.lt_of_lt_of_le hlgx hb0.size
            clear hb0
            have hBs0 : w1.heap.size ≤ V19.heap.size := hB.size
            refine wpAnyH_ready (rs := [5]) (by kernel_rfl) (by simp) ?_
            refine (AllReadyH.cons (o := ⟨_, _, _, _, _, _⟩) rfl (fun K hK => ?_) AllReadyH.nil)
            · go_simp
              obtain ⟨gy, hg⟩ : ∃ g, g = V19.heap.size := ⟨_, rfl⟩
              have ma := heldA (.cells #[.bool false, .slice none 0 0, .int .i64 0] 41) ma
              have mb := heldA (.cells #[.bool false, .slice none 0 0, .int .i64 0] 41) mb
              have mx := heldA (.cells #[.bool false, .slice none 0 0, .int .i64 0] 41) mx
              have my := World.alloc_heap_new V19 (.cells #[.bool false, .slice none 0 0, .int .i64 0] 41)
              rw [← hg] at my
              have rx := rx.below ((Below.refl V19.heap.size V19).alloc (Nat.le_refl _) (.cells #[.bool false, .slice none 0 0, .int .i64 0] 41)) (Nat.le_refl _)
              have ry := ry.below ((Below.refl V19.heap.size V19).alloc (Nat.le_refl _) (.cells #[.bool false, .slice none 0 0, .int .i64 0] 41)) (Nat.le_refl _)
              have hsz : (V19.alloc (.cells #[.bool false, .slice none 0 0, .int .i64 0] 41)).heap.size = V19.heap.size + 1 := by simp
              have hkgy : w1.heap.size ≤ gy := by have := hB.size; omega
              have hB := hB.alloc hB.size (.cells #[.bool false, .slice none 0 0, .int .i64 0] 41)
              have hW := hW.alloc hW.size (.cells #[.bool false, .slice none 0 0, .int .i64 0] 41)
              obtain ⟨x0, x1, x2⟩ := box3_of ma
              obtain ⟨x3, x4, x5⟩ := box3_of mb
              refine hK.out _ _ ⟨x0, x1, x2, x3, x4, x5⟩ (fun _ => ?_)
              clear hK K x0 x1 x2 x3 x4 x5
              try simp only [Act.put, List.setIfInBounds_toArray, List.set_cons_zero, List.set_cons_succ]
              try rw [← hg]
              generalize hU : V19.alloc (.cells #[.bool false, .slice none 0 0, .int .i64 0] 41) = V20 at *
              clear hU
              have hlgy : gy < V20.heap.size := by omega
              have hne : gx ≠ gy := by omega
              have hlgx : gx < V20.heap.size := by omega
              clear hg hsz
              have hBs0 : w1.heap.size ≤ V20.heap.size := hB.size
              have hnxx := rx.ne_box mx ty_ne65
              have hnxy := rx.ne_box my ty_ne65
              have hnyx := ry.ne_box mx ty_ne65
              have hnyy := ry.ne_box my ty_ne65
              refine wpAnyH_ready (rs := [6]) (by kernel_rfl) (by simp) (AllReadyH.cons (o := ⟨_, _, _, _, _, _⟩) rfl (fun K hK => ?_) AllReadyH.nil)
              obtain ⟨t0, t1, t2⟩ := box3_of mx
              have f0 := frozen_of 0 mx
              have f1 := frozen_of 1 mx
              have f2 := frozen_of 2 mx
              go_simp
              clear t0 t1 t2 f0 f1 f2
              have mx := set_blk (v := .bool na) (i := 0) mx rfl
              have ma := set_other (i := 0) ma (show w.heap.size ≠ gx by omega) (.bool na)
              have mb := set_other (i := 0) mb (show w.heap.size + 1 ≠ gx by omega) (.bool na)
              have my := set_other (i := 0) my (show gy ≠ gx by omega) (.bool na)
              have rx := rx.setNe (p := ⟨gx, 0, none⟩) hnxx (.bool na)
              have ry := ry.setNe (p := ⟨gx, 0, none⟩) hnyx (.bool na)
              have hB := hB.setCell (p := ⟨gx, 0, none⟩) hkgx (.bool na)
              have mx := set_blk (v := .slice A1 n1 c1) (i := 1) mx rfl
              have ma := set_other (i := 1) ma (show w.heap.size ≠ gx by omega) (.slice A1 n1 c1)
              have mb := set_other (i := 1) mb (show w.heap.size + 1 ≠ gx by omega) (.slice A1 n1 c1)
              have my := set_other (i := 1) my (show gy ≠ gx by omega) (.slice A1 n1 c1)
              have rx := rx.setNe (p := ⟨gx, 1, none⟩) hnxx (.slice A1 n1 c1)
              have ry := ry.setNe (p := ⟨gx, 1, none⟩) hnyx (.slice A1 n1 c1)
              have hB := hB.setCell (p := ⟨gx, 1, none⟩) hkgx (.slice A1 n1 c1)
              have mx := set_blk (v := .int .i64 e1) (i := 2) mx rfl
              have ma := set_other (i := 2) ma (show w.heap.size ≠ gx by omega) (.int .i64 e1)
              have mb := set_other (i := 2) mb (show w.heap.size + 1 ≠ gx by omega) (.int .i64 e1)
              have my := set_other (i := 2) my (show gy ≠ gx by omega) (.int .i64 e1)
              have rx := rx.setNe (p := ⟨gx, 2, none⟩) hnxx (.int .i64 e1)
              have ry := ry.setNe (p := ⟨gx, 2, none⟩) hnyx (.int .i64 e1)
              have hB := hB.setCell (p := ⟨gx, 2, none⟩) hkgx (.int .i64 e1)
              obtain ⟨x0, x1, x2⟩ := box3_of ma
              obtain ⟨x3, x4, x5⟩ := box3_of mb
              refine hK.out _ _ ⟨x0, x1, x2, x3, x4, x5⟩ (fun _ => ?_)
              clear hK K x0 x1 x2 x3 x4 x5
              try simp only [Act.put, List.setIfInBounds_toArray, List.set_cons_zero, List.set_cons_succ]
              refine wpAnyH_ready (rs := [7]) (by kernel_rfl) (by simp) (AllReadyH.cons (o := ⟨_, _, _, _, _, _⟩) rfl (fun K hK => ?_) AllReadyH.nil)
              obtain ⟨t0, t1, t2⟩ := box3_of my
              have f0 := frozen_of 0 my
              have f1 := frozen_of 1 my
              have f2 := frozen_of 2 my
              go_simp
              clear t0 t1 t2 f0 f1 f2
              have my := set_blk (v := .bool nb) (i := 0) my rfl
              have ma := set_other (i := 0) ma (show w.heap.size ≠ gy by omega) (.bool nb)
              have mb := set_other (i := 0) mb (show w.heap.size + 1 ≠ gy by omega) (.bool nb)
              have mx := set_other (i := 0) mx (show gx ≠ gy by omega) (.bool nb)
              have rx := rx.setNe (p := ⟨gy, 0, none⟩) hnxy (.bool nb)
              have ry := ry.setNe (p := ⟨gy, 0, none⟩) hnyy (.bool nb)
              have hB := hB.setCell (p := ⟨gy, 0, none⟩) hkgy (.bool nb)
              have my := set_blk (v := .slice A2 n2 c2) (i := 1) my rfl
              have ma := set_other (i := 1) ma (show w.heap.size ≠ gy by omega) (.slice A2 n2 c2)
              have mb := set_other (i := 1) mb (show w.heap.size + 1 ≠ gy by omega) (.slice A2 n2 c2)
              have mx := set_other (i := 1) mx (show gx ≠ gy by omega) (.slice A2 n2 c2)
              have rx := rx.setNe (p := ⟨gy, 1, none⟩) hnxy (.slice A2 n2 c2)
              have ry := ry.setNe (p := ⟨gy, 1, none⟩) hnyy (.slice A2 n2 c2)
              have hB := hB.setCell (p := ⟨gy, 1, none⟩) hkgy (.slice A2 n2 c2)
              have my := set_blk (v := .int .i64 e2) (i := 2) my rfl
              have ma := set_other (i := 2) ma (show w.heap.size ≠ gy by omega) (.int .i64 e2)
              have mb := set_other (i := 2) mb (show w.heap.size + 1 ≠ gy by omega) (.int .i64 e2)
              have mx := set_other (i := 2) mx (show gx ≠ gy by omega) (.int .i64 e2)
              have rx := rx.setNe (p := ⟨gy, 2, none⟩) hnxy (.int .i64 e2)
              have ry := ry.setNe (p := ⟨gy, 2, none⟩) hnyy (.int .i64 e2)
              have hB := hB.setCell (p := ⟨gy, 2, none⟩) hkgy (.int .i64 e2)
              obtain ⟨x0, x1, x2⟩ := box3_of ma
              obtain ⟨x3, x4, x5⟩ := box3_of mb
              refine hK.out _ _ ⟨x0, x1, x2, x3, x4, x5⟩ (fun _ => ?_)
              clear hK K x0 x1 x2 x3 x4 x5
              try simp only [Act.put, List.setIfInBounds_toArray, List.set_cons_zero, List.set_cons_succ]
              refine wpAnyH_done (by kernel_rfl) ?_ _
              go_wp2
              go_meet
              exact ⟨gx, gy, A1, n1, c1, ds, A2, n2, c2, es, rfl, rfl, hne, mx, my, hkgx, hkgy, rx, ry, d1, d2, v1, v2, l1, l2, hB⟩
          · go_simp
            obtain ⟨gy, hg⟩ : ∃ g, g = V18.heap.size := ⟨_, rfl⟩
            have ma := heldA (.cells #[.bool false, .slice none 0 0, .int .i64 0] 41) ma
            have mb := heldA (.cells #[.bool false, .slice none 0 0, .int .i64 0] 41) mb
            have mx := heldA (.cells #[.bool false, .slice none 0 0, .int .i64 0] 41) mx
            have my := World.alloc_heap_new V18 (.cells #[.bool false, .slice none 0 0, .int .i64 0] 41)
            rw [← hg] at my
            have rx := rx.below ((Below.refl V18.heap.size V18).alloc (Nat.le_refl _) (.cells #[.bool false, .slice none 0 0, .int .i64 0] 41)) (Nat.le_refl _)
            have hsz : (V18.alloc (.cells #[.bool false, .slice none 0 0, .int .i64 0] 41)).heap.size = V18.heap.size + 1 := by simp
            have hkgy : w1.heap.size ≤ gy := by have := hB.size; omega
            have hB := hB.alloc hB.size (.cells #[.bool false, .slice none 0 0, .int .i64 0] 41)
            have hW := hW.alloc hW.size (.cells #[.bool false, .slice none 0 0, .int .i64 0] 41)
            obtain ⟨x0, x1, x2⟩ := box3_of ma
            obtain ⟨x3, x4, x5⟩ := box3_of mb
            refine hK.out _ _ ⟨x0, x1, x2, x3, x4, x5⟩ (fun _ => ?_)
            clear hK K x0 x1 x2 x3 x4 x5
            try simp only [Act.put, List.setIfInBounds_toArray, List.set_cons_zero, List.set_cons_succ]
            try rw [← hg]
            generalize hU : V18.alloc (.cells #[.bool false, .slice none 0 0, .int .i64 0] 41) = V21 at *
            clear hU
            have hlgy : gy < V21.heap.size := by omega
            have hne : gx ≠ gy := by omega
            have hlgx : gx < V21.heap.size := by omega
            clear hg hsz
            have hBs0 : w1.heap.size ≤ V21.heap.size := hB.size
            refine wpAnyH_ready (rs := [3]) (by kernel_rfl) (by simp) ?_
            refine (AllReadyH.cons (o := ⟨_, _, _, _, _, _⟩) rfl (fun K hK => ?_) AllReadyH.nil)
            · go_simp
              refine (OF2.out V21 (hb.below hW hS) (fun b h => up hW b h)).mono ?_
              rintro e V22 ⟨A2, n2, c2, es, rfl, ry, d2, v2, l2, hb0⟩
              have ma := heldz hb0 ma
              have mb := heldz hb0 mb
              have mx := heldz hb0 mx
              have my := heldz hb0 my
              have rx := rx.below hb0 (Nat.le_refl _)
              have hB := hB.trans (hb0.mono hB.size)
              have hW := hW.trans (hb0.mono hW.size)
              have ry := ry.more (base' := w1.heap.size) hBs0
              (try dsimp only)
              obtain ⟨x0, x1, x2⟩ := box3_of ma
              obtain ⟨x3, x4, x5⟩ := box3_of mb
              refine hK.out _ _ ⟨x0, x1, x2, x3, x4, x5⟩ (fun _ => ?_)
              clear hK K x0 x1 x2 x3 x4 x5
              try simp only [Act.put, List.setIfInBounds_toArray, List.set_cons_zero, List.set_cons_succ]
              have hlgx : gx < V22.heap.size := Nat.lt_of_lt_of_le hlgx hb0.size
              have hlgy : gy < V22.heap.size := Nat.lt_of_lt_of_le hlgy hb0.size
              clear hb0
              have hBs0 : w1.heap.size ≤ V22.heap.size := hB.size
              have hnxx := rx.ne_box mx ty_ne65
              have hnxy := rx.ne_box my ty_ne65
              have hnyx := ry.ne_box mx ty_ne65
              have hnyy := ry.ne_box my ty_ne65
              refine wpAnyH_ready (rs := [6]) (by kernel_rfl) (by simp) (AllReadyH.cons (o := ⟨_, _, _, _, _, _⟩) rfl (fun K hK => ?_) AllReadyH.nil)
              obtain ⟨t0, t1, t2⟩ := box3_of mx
              have f0 := frozen_of 0 mx
              have f1 := frozen_of 1 mx
              have f2 := frozen_of 2 mx
              go_simp
              clear t0 t1 t2 f0 f1 f2
              have mx := set_blk (v := .bool na) (i := 0) mx rfl
              have ma := set_other (i := 0) ma (show w.heap.size ≠ gx by omega) (.bool na)
              have mb := set_other (i := 0) mb (show w.heap.size + 1 ≠ gx by omega) (.bool na)
              have my := set_other (i := 0) my (show gy ≠ gx by omega) (.bool na)
              have rx := rx.setNe (p := ⟨gx, 0, none⟩) hnxx (.bool na)
              have ry := ry.setNe (p := ⟨gx, 0, none⟩) hnyx (.bool na)
              have hB := hB.setCell (p := ⟨gx, 0, none⟩) hkgx (.bool na)
              have mx := set_blk (v := .slice A1 n1 c1) (i := 1) mx rfl
              have ma := set_other (i := 1) ma (show w.heap.size ≠ gx by omega) (.slice A1 n1 c1)
              have mb := set_other (i := 1) mb (show w.heap.size + 1 ≠ gx by omega) (.slice A1 n1 c1)
              have my := set_other (i := 1) my (show gy ≠ gx by omega) (.slice A1 n1 c1)
              have rx := rx.setNe (p := ⟨gx, 1, none⟩) hnxx (.slice A1 n1 c1)
              have ry := ry.setNe (p := ⟨gx, 1, none⟩) hnyx (.slice A1 n1 c1)
              have hB := hB.setCell (p := ⟨gx, 1, none⟩) hkgx (.slice A1 n1 c1)
              have mx := set_blk (v := .int .i64 e1) (i := 2) mx rfl
              have ma := set_other (i := 2) ma (show w.heap.size ≠ gx by omega) (.int .i64 e1)
              have mb := set_other (i := 2) mb (show w.heap.size + 1 ≠ gx by omega) (.int .i64 e1)
              have my := set_other (i := 2) my (show gy ≠ gx by omega) (.int .i64 e1)
              have rx := rx.setNe (p := ⟨gx, 2, none⟩) hnxx (.int .i64 e1)
              have ry := ry.setNe (p := ⟨gx, 2, none⟩) hnyx (.int .i64 e1)
              have hB := hB.setCell (p := ⟨gx, 2, none⟩) hkgx (.int .i64 e1)
              obtain ⟨x0, x1, x2⟩ := box3_of ma
              obtain ⟨x3, x4, x5⟩ := box3_of mb
              refine hK.out _ _ ⟨x0, x1, x2, x3, x4, x5⟩ (fun _ => ?_)
              clear hK K x0 x1 x2 x3 x4 x5
              try simp only [Act.put, List.setIfInBounds_toArray, List.set_cons_zero, List.set_cons_succ]
              refine wpAnyH_ready (rs := [7]) (by kernel_rfl) (by simp) (AllReadyH.cons (o := ⟨_, _, _, _, _, _⟩) rfl (fun K hK => ?_) AllReadyH.nil)
              obtain ⟨t0, t1, t2⟩ := box3_of my
              have f0 := frozen_of 0 my
              have f1 := frozen_of 1 my
              have f2 := frozen_of 2 my
              go_simp
              clear t0 t1 t2 f0 f1 f2
              have my := set_blk (v := .bool nb) (i := 0) my rfl
              have ma := set_other (i := 0) ma (show w.heap.size ≠ gy by omega) (.bool nb)
              have mb := set_other (i := 0) mb (show w.heap.size + 1 ≠ gy by omega) (.bool nb)
              have mx := set_other (i := 0) mx (show gx ≠ gy by omega) (.bool nb)
              have rx := rx.setNe (p := ⟨gy, 0, none⟩) hnxy (.bool nb)
              have ry := ry.setNe (p := ⟨gy, 0, none⟩) hnyy (.bool nb)
              have hB := hB.setCell (p := ⟨gy, 0, none⟩) hkgy (.bool nb)
              have my := set_blk (v := .slice A2 n2 c2) (i := 1) my rfl
              have ma := set_other (i := 1) ma (show w.heap.size ≠ gy by omega) (.slice A2 n2 c2)
              have mb := set_other (i := 1) mb (show w.heap.size + 1 ≠ gy by omega) (.slice A2 n2 c2)
              have mx := set_other (i := 1) mx (show gx ≠ gy by omega) (.slice A2 n2 c2)
              have rx := rx.setNe (p := ⟨gy, 1, none⟩) hnxy (.slice A2 n2 c2)
              have ry := ry.setNe (p := ⟨gy, 1, none⟩) hnyy (.slice A2 n2 c2)
              have hB := hB.setCell (p := ⟨gy, 1, none⟩) hkgy (.slice A2 n2 c2)
              have my := set_blk (v := .int .i64 e2) (i := 2) my rfl
              have ma := set_other (i := 2) ma (show w.heap.size ≠ gy by omega) (.int .i64 e2)
              have mb := set_other (i := 2) mb (show w.heap.size + 1 ≠ gy by omega) (.int .i64 e2)
              have mx := set_other (i := 2) mx (show gx ≠ gy by omega) (.int .i64 e2)
              have rx := rx.setNe (p := ⟨gy, 2, none⟩) hnxy (.int .i64 e2)
              have ry := ry.setNe (p := ⟨gy, 2, none⟩) hnyy (.int .i64 e2)
              have hB := hB.setCell (p := ⟨gy, 2, none⟩) hkgy (.int .i64 e2)
              obtain ⟨x0, x1, x2⟩ := box3_of ma
              obtain ⟨x3, x4, x5⟩ := box3_of mb
              refine hK.out _ _ ⟨x0, x1, x2, x3, x4, x5⟩ (fun _ => ?_)
              clear hK K x0 x1 x2 x3 x4 x5
              try simp only [Act.put, List.setIfInBounds_toArray, List.set_cons_zero, List.set_cons_succ]
              refine wpAnyH_done (by kernel_rfl) ?_ _
              go_wp2
              go_meet
              exact ⟨gx, gy, A1, n1, c1, ds, A2, n2, c2, es, rfl, rfl, hne, mx, my, hkgx, hkgy, rx, ry, d1, d2, v1, v2, l1, l2, hB⟩
        · go_simp
          obtain ⟨gy, hg⟩ : ∃ g, g = V17.heap.size := ⟨_, rfl⟩
          have ma := heldA (.cells #[.bool false, .slice none 0 0, .int .i64 0] 41) ma
          have mb := heldA (.cells #[.bool false, .slice none 0 0, .int .i64 0] 41) mb
          have mx := heldA (.cells #[.bool false, .slice none 0 0, .int .i64 0] 41) mx
          have my := World.alloc_heap_new V17 (.cells #[.bool false, .slice none 0 0, .int .i64 0] 41)
          rw [← hg] at my
          have hsz : (V17.alloc (.cells #[.bool false, .slice none 0 0, .int .i64 0] 41)).heap.size = V17.heap.size + 1 := by simp
          have hkgy : w1.heap.size ≤ gy := by have := hB.size; omega
          have hB := hB.alloc hB.size (.cells #[.bool false, .slice none 0 0, .int .i64 0] 41)
          have hW := hW.alloc hW.size (.cells #[.bool false, .slice none 0 0, .int .i64 0] 41)
          obtain ⟨x0, x1, x2⟩ := box3_of ma
          obtain ⟨x3, x4, x5⟩ := box3_of mb
          refine hK.out _ _ ⟨x0, x1, x2, x3, x4, x5⟩ (fun _ => ?_)
          clear hK K x0 x1 x2 x3 x4 x5
          try simp only [Act.put, List.setIfInBounds_toArray, List.set_cons_zero, List.set_cons_succ]
          try rw [← hg]
          generalize hU : V17.alloc (.cells #[.bool false, .slice none 0 0, .int .i64 0] 41) = V23 at *
          clear hU
          have hlgy : gy < V23.heap.size := by omega
          have hne : gx ≠ gy := by omega
          have hlgx : gx < V23.heap.size := by omega
          clear hg hsz
          have hBs0 : w1.heap.size ≤ V23.heap.size := hB.size
          refine wpAnyH_ready (rs := [1]) (by kernel_rfl) (by simp) ?_
          refine (AllReadyH.cons (o := ⟨_, _, _, _, _, _⟩) rfl (fun K hK => ?_) AllReadyH.nil)
          · go_simp
            refine (OF1.out V23 (ha.below hW hS) (fun b h => up hW b h)).mono ?_
            rintro e V24 ⟨A1, n1, c1, ds, rfl, rx, d1, v1, l1, hb0⟩
            have ma := heldz hb0 ma
            have mb := heldz hb0 mb
            have mx := heldz hb0 mx
            have my := heldz hb0 my
            have hB := hB.trans (hb0.mono hB.size)
            have hW := hW.trans (hb0.mono hW.size)
            have rx := rx.more (base' := w1.heap.size) hBs0
            (try dsimp only)
            obtain ⟨x0, x1, x2⟩ := box3_of ma
            obtain ⟨x3, x4, x5⟩ := box3_of mb
            refine hK.out _ _ ⟨x0, x1, x2, x3, x4, x5⟩ (fun _ => ?_)
            clear hK K x0 x1 x2 x3 x4 x5
            try simp only [Act.put, List.setIfInBounds_toArray, List.set_cons_zero, List.set_cons_succ]
            have hlgx : gx < V24.heap.size := Nat.lt_of_lt_of_le hlgx hb0.size
            have hlgy : gy < V24.heap.size := Nat.lt_of_lt_of_le hlgy hb0.size
            clear hb0
            have hBs0 : w1.heap.size ≤ V24.heap.size := hB.size
            refine wpAnyH_ready (rs := [3]) (by kernel_rfl) (by simp) ?_
            refine (AllReadyH.cons (o := ⟨_, _, _, _, _, _⟩) rfl (fun K hK => ?_) AllReadyH.nil)
            · go_simp
              refine (OF2.out V24 (hb.below hW hS) (fun b h => up hW b h)).mono ?_
              rintro e V25 ⟨A2, n2, c2, es, rfl, ry, d2, v2, l2, hb0⟩
              have ma := heldz hb0 ma
              have mb := heldz hb0 mb
              have mx := heldz hb0 mx
              have my := heldz hb0 my
              have rx := rx.below hb0 (Nat.le_refl _)
              have hB := hB.trans (hb0.mono hB.size)
              have hW := hW.trans (hb0.mono hW.size)
              have ry := ry.more (base' := w1.heap.size) hBs0
              (try dsimp only)
              obtain ⟨x0, x1, x2⟩ := box3_of ma
              obtain ⟨x3, x4, x5⟩ := box3_of mb
              refine hK.out _ _ ⟨x0, x1, x2, x3, x4, x5⟩ (fun _ => ?_)
              clear hK K x0 x1 x2 x3 x4 x5
              try simp only [Act.put, List.setIfInBounds_toArray, List.set_cons_zero, List.set_cons_succ]
              have hlgx : gx < V25.heap.size := Nat.lt_of_lt_of_le hlgx hb0.size
              have hlgy : gy < V25.heap.size := Nat.lt_of_lt_of_le hlgy hb0.size
              clear hb0
              have hBs0 : w1.heap.size ≤ V25.heap.size := hB.size
              have hnxx := rx.ne_box mx ty_ne65
              have hnxy := rx.ne_box my ty_ne65
              have hnyx := ry.ne_box mx ty_ne65
              have hnyy := ry.ne_box my ty_ne65
              refine wpAnyH_ready (rs := [6]) (by kernel_rfl) (by simp) (AllReadyH.cons (o := ⟨_, _, _, _, _, _⟩) rfl (fun K hK => ?_) AllReadyH.nil)
              obtain ⟨t0, t1, t2⟩ := box3_of mx
              have f0 := frozen_of 0 mx
              have f1 := frozen_of 1 mx
              have f2 := frozen_of 2 mx
              go_simp
              clear t0 t1 t2 f0 f1 f2
              have mx := set_blk (v := .bool na) (i := 0) mx rfl
              have ma := set_other (i := 0) ma (show w.heap.size ≠ gx by omega) (.bool na)
              have mb := set_other (i := 0) mb (show w.heap.size + 1 ≠ gx by omega) (.bool na)
              have my := set_other (i := 0) my (show gy ≠ gx by omega) (.bool na)
              have rx := rx.setNe (p := ⟨gx, 0, none⟩) hnxx (.bool na)
              have ry := ry.setNe (p := ⟨gx, 0, none⟩) hnyx (.bool na)
              have hB := hB.setCell (p := ⟨gx, 0, none⟩) hkgx (.bool na)
              have mx := set_blk (v := .slice A1 n1 c1) (i := 1) mx rfl
              have ma := set_other (i := 1) ma (show w.heap.size ≠ gx by omega) (.slice A1 n1 c1)
              have mb := set_other (i := 1) mb (show w.heap.size + 1 ≠ gx by omega) (.slice A1 n1 c1)
              have my := set_other (i := 1) my (show gy ≠ gx by omega) (.slice A1 n1 c1)
              have rx := rx.setNe (p := ⟨gx, 1, none⟩) hnxx (.slice A1 n1 c1)
              have ry := ry.setNe (p := ⟨gx, 1, none⟩) hnyx (.slice A1 n1 c1)
              have hB := hB.setCell (p := ⟨gx, 1, none⟩) hkgx (.slice A1 n1 c1)
              have mx := set_blk (v := .int .i64 e1) (i := 2) mx rfl
              have ma := set_other (i := 2) ma (show w.heap.size ≠ gx by omega) (.int .i64 e1)
              have mb := set_other (i := 2) mb (show w.heap.size + 1 ≠ gx by omega) (.int .i64 e1)
              have my := set_other (i := 2) my (show gy ≠ gx by omega) (.int .i64 e1)
              have rx := rx.setNe (p := ⟨gx, 2, none⟩) hnxx (.int .i64 e1)
              have ry := ry.setNe (p := ⟨gx, 2, none⟩) hnyx (.int .i64 e1)
              have hB := hB.setCell (p := ⟨gx, 2, none⟩) hkgx (.int .i64 e1)
              obtain ⟨x0, x1, x2⟩ := box3_of ma
              obtain ⟨x3, x4, x5⟩ := box3_of mb
              refine hK.out _ _ ⟨x0, x1, x2, x3, x4, x5⟩ (fun _ => ?_)
              clear hK K x0 x1 x2 x3 x4 x5
              try simp only [Act.put, List.setIfInBounds_toArray, List.set_cons_zero, List.set_cons_succ]
              refine wpAnyH_ready (rs := [7]) (by kernel_rfl) (by simp) (AllReadyH.cons (o := ⟨_, _, _, _, _, _⟩) rfl (fun K hK => ?_) AllReadyH.nil)
              obtain ⟨t0, t1, t2⟩ := box3_of my
              have f0 := frozen_of 0 my
              have f1 := frozen_of 1 my
              have f2 := frozen_of 2 my
              go_simp
              clear t0 t1 t2 f0 f1 f2
              have my := set_blk (v := .bool nb) (i := 0) my rfl
              have ma := set_other (i := 0) ma (show w.heap.size ≠ gy by omega) (.bool nb)
              have mb := set_other (i := 0) mb (show w.heap.size + 1 ≠ gy by omega) (.bool nb)
              have mx := set_other (i := 0) mx (show gx ≠ gy by omega) (.bool nb)
              have rx := rx.setNe (p := ⟨gy, 0, none⟩) hnxy (.bool nb)
              have ry := ry.setNe (p := ⟨gy, 0, none⟩) hnyy (.bool nb)
              have hB := hB.setCell (p := ⟨gy, 0, none⟩) hkgy (.bool nb)
              have my := set_blk (v := .slice A2 n2 c2) (i := 1) my rfl
              have ma := set_other (i := 1) ma (show w.heap.size ≠ gy by omega) (.slice A2 n2 c2)
              have mb := set_other (i := 1) mb (show w.heap.size + 1 ≠ gy by omega) (.slice A2 n2 c2)
              have mx := set_other (i := 1) mx (show gx ≠ gy by omega) (.slice A2 n2 c2)
              have rx := rx.setNe (p := ⟨gy, 1, none⟩) hnxy (.slice A2 n2 c2)
              have ry := ry.setNe (p := ⟨gy, 1, none⟩) hnyy (.slice A2 n2 c2)
              have hB := hB.setCell (p := ⟨gy, 1, none⟩) hkgy (.slice A2 n2 c2)
              have my := set_blk (v := .int .i64 e2) (i := 2) my rfl
              have ma := set_other (i := 2) ma (show w.heap.size ≠ gy by omega) (.int .i64 e2)
              have mb := set_other (i := 2) mb (show w.heap.size + 1 ≠ gy by omega) (.int .i64 e2)
              have mx := set_other (i := 2) mx (show gx ≠ gy by omega) (.int .i64 e2)
              have rx := rx.setNe (p := ⟨gy, 2, none⟩) hnxy (.int .i64 e2)
              have ry := ry.setNe (p := ⟨gy, 2, none⟩) hnyy (.int .i64 e2)
              have hB := hB.setCell (p := ⟨gy, 2, none⟩) hkgy (.int .i64 e2)
              obtain ⟨x0, x1, x2⟩ := box3_of ma
              obtain ⟨x3, x4, x5⟩ := box3_of mb
              refine hK.out _ _ ⟨x0, x1, x2, x3, x4, x5⟩ (fun _ => ?_)
              clear hK K x0 x1 x2 x3 x4 x5
              try simp only [Act.put, List.setIfInBounds_toArray, List.set_cons_zero, List.set_cons_succ]
              refine wpAnyH_done (by kernel_rfl) ?_ _
              go_wp2
              go_meet
              exact ⟨gx, gy, A1, n1, c1, ds, A2, n2, c2, es, rfl, rfl, hne, mx, my, hkgx, hkgy, rx, ry, d1, d2, v1, v2, l1, l2, hB⟩
      · go_simp
        obtain ⟨gy, hg⟩ : ∃ g, g = V0.heap.size := ⟨_, rfl⟩
        have ma := heldA (.cells #[.bool false, .slice none 0 0, .int .i64 0] 41) ma
        have mb := heldA (.cells #[.bool false, .slice none 0 0, .int .i64 0] 41) mb
        have my := World.alloc_heap_new V0 (.cells #[.bool false, .slice none 0 0, .int .i64 0] 41)
        rw [← hg] at my
        have hsz : (V0.alloc (.cells #[.bool false, .slice none 0 0, .int .i64 0] 41)).heap.size = V0.heap.size + 1 := by simp
        have hkgy : w1.heap.size ≤ gy := by have := hB.size; omega
        have hB := hB.alloc hB.size (.cells #[.bool false, .slice none 0 0, .int .i64 0] 41)
        have hW := hW.alloc hW.size (.cells #[.bool false, .slice none 0 0, .int .i64 0] 41)
        obtain ⟨x0, x1, x2⟩ := box3_of ma
        obtain ⟨x3, x4, x5⟩ := box3_of mb
        refine hK.out _ _ ⟨x0, x1, x2, x3, x4, x5⟩ (fun _ => ?_)
        clear hK K x0 x1 x2 x3 x4 x5
        try simp only [Act.put, List.setIfInBounds_toArray, List.set_cons_zero, List.set_cons_succ]
        try rw [← hg]
        generalize hU : V0.alloc (.cells #[.bool false, .slice none 0 0, .int .i64 0] 41) = V26 at *
        clear hU
        have hlgy : gy < V26.heap.size := by omega
        clear hg hsz
        have hBs0 : w1.heap.size ≤ V26.heap.size := hB.size
        refine wpAnyH_ready (rs := [1, 4]) (by kernel_rfl) (by simp) ?_
        refine (AllReadyH.cons (o := ⟨_, _, _, _, _, _⟩) rfl (fun K hK => ?_) (AllReadyH.cons (o := ⟨_, _, _, _, _, _⟩) rfl (fun K hK => ?_) AllReadyH.nil))
        · go_simp
          refine (OF1.out V26 (ha.below hW hS) (fun b h => up hW b h)).mono ?_
          rintro e V27 ⟨A1, n1, c1, ds, rfl, rx, d1, v1, l1, hb0⟩
          have ma := heldz hb0 ma
          have mb := heldz hb0 mb
          have my := heldz hb0 my
          have hB := hB.trans (hb0.mono hB.size)
          have hW := hW.trans (hb0.mono hW.size)
          have rx := rx.more (base' := w1.heap.size) hBs0
          (try dsimp only)
          obtain ⟨x0, x1, x2⟩ := box3_of ma
          obtain ⟨x3, x4, x5⟩ := box3_of mb
          refine hK.out _ _ ⟨x0, x1, x2, x3, x4, x5⟩ (fun _ => ?_)
          clear hK K x0 x1 x2 x3 x4 x5
          try simp only [Act.put, List.setIfInBounds_toArray, List.set_cons_zero, List.set_cons_succ]
          have hlgy : gy < V27.heap.size := Nat.lt_of_lt_of_le hlgy hb0.size
          clear hb0
          have hBs0 : w1.heap.size ≤ V27.heap.size := hB.size
          refine wpAnyH_ready (rs := [3, 4]) (by kernel_rfl) (by simp) ?_
          refine (AllReadyH.cons (o := ⟨_, _, _, _, _, _⟩) rfl (fun K hK => ?_) (AllReadyH.cons (o := ⟨_, _, _, _, _, _⟩) rfl (fun K hK => ?_) AllReadyH.nil))
          · go_simp
            refine (OF2.out V27 (hb.below hW hS) (fun b h => up hW b h)).mono ?_
            rintro e V28 ⟨A2, n2, c2, es, rfl, ry, d2, v2, l2, hb0⟩
            have ma := heldz hb0 ma
            have mb := heldz hb0 mb
            have my := heldz hb0 my
            have rx := rx.below hb0 (Nat.le_refl _)
            have hB := hB.trans (hb0.mono hB.size)
            have hW := hW.trans (hb0.mono hW.size)
            have ry := ry.more (base' := w1.heap.size) hBs0
            (try dsimp only)
            obtain ⟨x0, x1, x2⟩ := box3_of ma
            obtain ⟨x3, x4, x5⟩ := box3_of mb
            refine hK.out _ _ ⟨x0, x1, x2, x3, x4, x5⟩ (fun _ => ?_)
            clear hK K x0 x1 x2 x3 x4 x5
            try simp only [Act.put, List.setIfInBounds_toArray, List.set_cons_zero, List.set_cons_succ]
            have hlgy : gy < V28.heap.size := Nat.lt_of_lt_of_le hlgy hb0.size
            clear hb0
            have hBs0 : w1.heap.size ≤ V28.heap.size := hB.size
            refine wpAnyH_ready (rs := [4]) (by kernel_rfl) (by simp) ?_
            refine (AllReadyH.cons (o := ⟨_, _, _, _, _, _⟩) rfl (fun K hK => ?_) AllReadyH.nil)
            · go_simp
              obtain ⟨gx, hg⟩ : ∃ g, g = V28.heap.size := ⟨_, rfl⟩
              have ma := heldA (.cells #[.bool false, .slice none 0 0, .int .i64 0] 41) ma
              have mb := heldA (.cells #[.bool false, .slice none 0 0, .int .i64 0] 41) mb
              have my := heldA (.cells #[.bool false, .slice none 0 0, .int .i64 0] 41) my
              have mx := World.alloc_heap_new V28 (.cells #[.bool false, .slice none 0 0, .int .i64 0] 41)
              rw [← hg] at mx
              have rx := rx.below ((Below.refl V28.heap.size V28).alloc (Nat.le_refl _) (.cells #[.bool false, .slice none 0 0, .int .i64 0] 41)) (Nat.le_refl _)
              have ry := ry.below ((Below.refl V28.heap.size V28).alloc (Nat.le_refl _) (.cells #[.bool false, .slice none 0 0, .int .i64 0] 41)) (Nat.le_refl _)
              have hsz : (V28.alloc (.cells #[.bool false, .slice none 0 0, .int .i64 0] 41)).heap.size = V28.heap.size + 1 := by simp
              have hkgx : w1.heap.size ≤ gx := by have := hB.size; omega
              have hB := hB.alloc hB.size (.cells #[.bool false, .slice none 0 0, .int .i64 0] 41)
              have hW := hW.alloc hW.size (.cells #[.bool false, .slice none 0 0, .int .i64 0] 41)
              obtain ⟨x0, x1, x2⟩ := box3_of ma
              obtain ⟨x3, x4, x5⟩ := box3_of mb
              refine hK.out _ _ ⟨x0, x1, x2, x3, x4, x5⟩ (fun _ => ?_)
              clear hK K x0 x1 x2 x3 x4 x5
              try simp only [Act.put, List.setIfInBounds_toArray, List.set_cons_zero, List.set_cons_succ]
              try rw [← hg]
              generalize hU : V28.alloc (.cells #[.bool false, .slice none 0 0, .int .i64 0] 41) = V29 at *
              clear hU
              have hlgx : gx < V29.heap.size := by omega
              have hne : gx ≠ gy := by omega
              have hlgy : gy < V29.heap.size := by omega
              clear hg hsz
              have hBs0 : w1.heap.size ≤ V29.heap.size := hB.size
              have hnxx := rx.ne_box mx ty_ne65
              have hnxy := rx.ne_box my ty_ne65
              have hnyx := ry.ne_box mx ty_ne65
              have hnyy := ry.ne_box my ty_ne65
              refine wpAnyH_ready (rs := [6]) (by kernel_rfl) (by simp) (AllReadyH.cons (o := ⟨_, _, _, _, _, _⟩) rfl (fun K hK => ?_) AllReadyH.nil)
              obtain ⟨t0, t1, t2⟩ := box3_of mx
              have f0 := frozen_of 0 mx
              have f1 := frozen_of 1 mx
              have f2 := frozen_of 2 mx
              go_simp
              clear t0 t1 t2 f0 f1 f2
              have mx := set_blk (v := .bool na) (i := 0) mx rfl
              have ma := set_other (i := 0) ma (show w.heap.size ≠ gx by omega) (.bool na)
              have mb := set_other (i := 0) mb (show w.heap.size + 1 ≠ gx by omega) (.bool na)
              have my := set_other (i := 0) my (show gy ≠ gx by omega) (.bool na)
              have rx := rx.setNe (p := ⟨gx, 0, none⟩) hnxx (.bool na)
              have ry := ry.setNe (p := ⟨gx, 0, none⟩) hnyx (.bool na)
              have hB := hB.setCell (p := ⟨gx, 0, none⟩) hkgx (.bool na)
              have mx := set_blk (v := .slice A1 n1 c1) (i := 1) mx rfl
              have ma := set_other (i := 1) ma (show w.heap.size ≠ gx by omega) (.slice A1 n1 c1)
              have mb := set_other (i := 1) mb (show w.heap.size + 1 ≠ gx by omega) (.slice A1 n1 c1)
              have my := set_other (i := 1) my (show gy ≠ gx by omega) (.slice A1 n1 c1)
              have rx := rx.setNe (p := ⟨gx, 1, none⟩) hnxx (.slice A1 n1 c1)
              have ry := ry.setNe (p := ⟨gx, 1, none⟩) hnyx (.slice A1 n1 c1)
              have hB := hB.setCell (p := ⟨gx, 1, none⟩) hkgx (.slice A1 n1 c1)
              have mx := set_blk (v := .int .i64 e1) (i := 2) mx rfl
              have ma := set_other (i := 2) ma (show w.heap.size ≠ gx by omega) (.int .i64 e1)
              have mb := set_other (i := 2) mb (show w.heap.size + 1 ≠ gx by omega) (.int .i64 e1)
              have my := set_other (i := 2) my (show gy ≠ gx by omega) (.int .i64 e1)
              have rx := rx.setNe (p := ⟨gx, 2, none⟩) hnxx (.int .i64 e1)
              have ry := ry.setNe (p := ⟨gx, 2, none⟩) hnyx (.int .i64 e1)
              have hB := hB.setCell (p := ⟨gx, 2, none⟩) hkgx (.int .i64 e1)
              obtain ⟨x0, x1, x2⟩ := box3_of ma
              obtain ⟨x3, x4, x5⟩ := box3_of mb
              refine hK.out _ _ ⟨x0, x1, x2, x3, x4, x5⟩ (fun _ => ?_)
              clear hK K x0 x1 x2 x3 x4 x5
              try simp only [Act.put, List.setIfInBounds_toArray, List.set_cons_zero, List.set_cons_succ]
              refine wpAnyH_ready (rs := [7]) (by kernel_rfl) (by simp) (AllReadyH.cons (o := ⟨_, _, _, _, _, _⟩) rfl (fun K hK => ?_) AllReadyH.nil)
              obtain ⟨t0, t1, t2⟩ := box3_of my
              have f0 := frozen_of 0 my
              have f1 := frozen_of 1 my
              have f2 := frozen_of 2 my
              go_simp
              clear t0 t1 t2 f0 f1 f2
              have my := set_blk (v := .bool nb) (i := 0) my rfl
              have ma := set_other (i := 0) ma (show w.heap.size ≠ gy by omega) (.bool nb)
              have mb := set_other (i := 0) mb (show w.heap.size + 1 ≠ gy by omega) (.bool nb)
              have mx := set_other (i := 0) mx (show gx ≠ gy by omega) (.bool nb)
              have rx := rx.setNe (p := ⟨gy, 0, none⟩) hnxy (.bool nb)
              have ry := ry.setNe (p := ⟨gy, 0, none⟩) hnyy (.bool nb)
              have hB := hB.setCell (p := ⟨gy, 0, none⟩) hkgy (.bool nb)
              have my := set_blk (v := .slice A2 n2 c2) (i := 1) my rfl
              have ma := set_other (i := 1) ma (show w.heap.size ≠ gy by omega) (.slice A2 n2 c2)
              have mb := set_other (i := 1) mb (show w.heap.size + 1 ≠ gy by omega) (.slice A2 n2 c2)
              have mx := set_other (i := 1) mx (show gx ≠ gy by omega) (.slice A2 n2 c2)
              have rx := rx.setNe (p := ⟨gy, 1, none⟩) hnxy (.slice A2 n2 c2)
              have ry := ry.setNe (p := ⟨gy, 1, none⟩) hnyy (.slice A2 n2 c2)
              have hB := hB.setCell (p := ⟨gy, 1, none⟩) hkgy (.slice A2 n2 c2)
              have my := set_blk (v := .int .i64 e2) (i := 2) my rfl
              have ma := set_other (i := 2) ma (show w.heap.size ≠ gy by omega) (.int .i64 e2)
              have mb := set_other (i := 2) mb (show w.heap.size + 1 ≠ gy by omega) (.int .i64 e2)
              have mx := set_other (i := 2) mx (show gx ≠ gy by omega) (.int .i64 e2)
              have rx := rx.setNe (p := ⟨gy, 2, none⟩) hnxy (.int .i64 e2)
              have ry := ry.setNe (p := ⟨gy, 2, none⟩) hnyy (.int .i64 e2)
              have hB := hB.setCell (p := ⟨gy, 2, none⟩) hkgy (.int .i64 e2)
              obtain ⟨x0, x1, x2⟩ := box3_of ma
              obtain ⟨x3, x4, x5⟩ := box3_of mb
              refine hK.out _ _ ⟨x0, x1, x2, x3, x4, x5⟩ (fun _ => ?_)
              clear hK K x0 x1 x2 x3 x4 x5
              try simp only [Act.put, List.setIfInBounds_toArray, List.set_cons_zero, List.set_cons_succ]
              refine wpAnyH_done (by kernel_rfl) ?_ _
              go_wp2
              go_meet
              exact ⟨gx, gy, A1, n1, c1, ds, A2, n2, c2, es, rfl, rfl, hne, mx, my, hkgx, hkgy, rx, ry, d1, d2, v1, v2, l1, l2, hB⟩
          · go_simp
            obtain ⟨gx, hg⟩ : ∃ g, g = V27.heap.size := ⟨_, rfl⟩
            have ma := heldA (.cells #[.bool false, .slice none 0 0, .int .i64 0] 41) ma
            have mb := heldA (.cells #[.bool false, .slice none 0 0, .int .i64 0] 41) mb
            have my := heldA (.cells #[.bool false, .slice none 0 0, .int .i64 0] 41) my
            have mx := World.alloc_heap_new V27 (.cells #[.bool false, .slice none 0 0, .int .i64 0] 41)
            rw [← hg] at mx
            have rx := rx.below ((Below.refl V27.heap.size V27).alloc (Nat.le_refl _) (.cells #[.bool false, .slice none 0 0, .int .i64 0] 41)) (Nat.le_refl _)
            have hsz : (V27.alloc (.cells #[.bool false, .slice none 0 0, .int .i64 0] 41)).heap.size = V27.heap.size + 1 := by simp
            have hkgx : w1.heap.size ≤ gx := by have := hB.size; omega
            have hB := hB.alloc hB.size (.cells #[.bool false, .slice none 0 0, .int .i64 0] 41)
            have hW := hW.alloc hW.size (.cells #[.bool false, .slice none 0 0, .int .i64 0] 41)
            obtain ⟨x0, x1, x2⟩ := box3_of ma
            obtain ⟨x3, x4, x5⟩ := box3_of mb
            refine hK.out _ _ ⟨x0, x1, x2, x3, x4, x5⟩ (fun _ => ?_)
            clear hK K x0 x1 x2 x3 x4 x5
            try simp only [Act.put, List.setIfInBounds_toArray, List.set_cons_zero, List.set_cons_succ]
            try rw [← hg]
            generalize hU : V27.alloc (.cells #[.bool false, .slice none 0 0, .int .i64 0] 41) = V30 at *
            clear hU
            have hlgx : gx < V30.heap.size := by omega
            have hne : gx ≠ gy := by omega
            have hlgy : gy < V30.heap.size := by omega
            clear hg hsz
            have hBs0 : w1.heap.size ≤ V30.heap.size := hB.size
            refine wpAnyH_ready (rs := [3]) (by kernel_rfl) (by simp) ?_
            refine (AllReadyH.cons (o := ⟨_, _, _, _, _, _⟩) rfl (fun K hK => ?_) AllReadyH.nil)
            · go_simp
              refine (OF2.out V30 (hb.below hW hS) (fun b h => up hW b h)).mono ?_
              rintro e V31 ⟨A2, n2, c2, es, rfl, ry, d2, v2, l2, hb0⟩
              have ma := heldz hb0 ma
              have mb := heldz hb0 mb
              have mx := heldz hb0 mx
              have my := heldz hb0 my
              have rx := rx.below hb0 (Nat.le_refl _)
              have hB := hB.trans (hb0.mono hB.size)
              have hW := hW.trans (hb0.mono hW.size)
              have ry := ry.more (base' := w1.heap.size) hBs0
              (try dsimp only)
              obtain ⟨x0, x1, x2⟩ := box3_of ma
              obtain ⟨x3, x4, x5⟩ := box3_of mb
              refine hK.out _ _ ⟨x0, x1, x2, x3, x4, x5⟩ (fun _ => ?_)
              clear hK K x0 x1 x2 x3 x4 x5
              try simp only [Act.put, List.setIfInBounds_toArray, List.set_cons_zero, List.set_cons_succ]
              have hlgx : gx < V31.heap.size := Nat.lt_of_lt_of_le hlgx hb0.size
              have hlgy : gy < V31.heap.size := Nat.lt_of_lt_of_le hlgy hb0.size
              clear hb0
              have hBs0 : w1.heap.size ≤ V31.heap.size := hB.size
              have hnxx := rx.ne_box mx ty_ne65
              have hnxy := rx.ne_box my ty_ne65
              have hnyx := ry.ne_box mx ty_ne65
              have hnyy := ry.ne_box my ty_ne65
              refine wpAnyH_ready (rs := [6]) (by kernel_rfl) (by simp) (AllReadyH.cons (o := ⟨_, _, _, _, _, _⟩) rfl (fun K hK => ?_) AllReadyH.nil)
              obtain ⟨t0, t1, t2⟩ := box3_of mx
              have f0 := frozen_of 0 mx
              have f1 := frozen_of 1 mx
              have f2 := frozen_of 2 mx
              go_simp
              clear t0 t1 t2 f0 f1 f2
              have mx := set_blk (v := .bool na) (i := 0) mx rfl
              have ma := set_other (i := 0) ma (show w.heap.size ≠ gx by omega) (.bool na)
              have mb := set_other (i := 0) mb (show w.heap.size + 1 ≠ gx by omega) (.bool na)
              have my := set_other (i := 0) my (show gy ≠ gx by omega) (.bool na)
              have rx := rx.setNe (p := ⟨gx, 0, none⟩) hnxx (.bool na)
              have ry := ry.setNe (p := ⟨gx, 0, none⟩) hnyx (.bool na)
              have hB := hB.setCell (p := ⟨gx, 0, none⟩) hkgx (.bool na)
              have mx := set_blk (v := .slice A1 n1 c1) (i := 1) mx rfl
              have ma := set_other (i := 1) ma (show w.heap.size ≠ gx by omega) (.slice A1 n1 c1)
              have mb := set_other (i := 1) mb (show w.heap.size + 1 ≠ gx by omega) (.slice A1 n1 c1)
              have my := set_other (i := 1) my (show gy ≠ gx by omega) (.slice A1 n1 c1)
              have rx := rx.setNe (p := ⟨gx, 1, none⟩) hnxx (.slice A1 n1 c1)
              have ry := ry.setNe (p := ⟨gx, 1, none⟩) hnyx (.slice A1 n1 c1)
              have hB := hB.setCell (p := ⟨gx, 1, none⟩) hkgx (.slice A1 n1 c1)
              have mx := set_blk (v := .int .i64 e1) (i := 2) mx rfl
              have ma := set_other (i := 2) ma (show w.heap.size ≠ gx by omega) (.int .i64 e1)
              have mb := set_other (i := 2) mb (show w.heap.size + 1 ≠ gx by omega) (.int .i64 e1)
              have my := set_other (i := 2) my (show gy ≠ gx by omega) (.int .i64 e1)
              have rx := rx.setNe (p := ⟨gx, 2, none⟩) hnxx (.int .i64 e1)
              have ry := ry.setNe (p := ⟨gx, 2, none⟩) hnyx (.int .i64 e1)
              have hB := hB.setCell (p := ⟨gx, 2, none⟩) hkgx (.int .i64 e1)
              obtain ⟨x0, x1, x2⟩ := box3_of ma
              obtain ⟨x3, x4, x5⟩ := box3_of mb
              refine hK.out _ _ ⟨x0, x1, x2, x3, x4, x5⟩ (fun _ => ?_)
              clear hK K x0 x1 x2 x3 x4 x5
              try simp only [Act.put, List.setIfInBounds_toArray, List.set_cons_zero, List.set_cons_succ]
              refine wpAnyH_ready (rs := [7]) (by kernel_rfl) (by simp) (AllReadyH.cons (o := ⟨_, _, _, _, _, _⟩) rfl (fun K hK => ?_) AllReadyH.nil)
              obtain ⟨t0, t1, t2⟩ := box3_of my
              have f0 := frozen_of 0 my
              have f1 := frozen_of 1 my
              have f2 := frozen_of 2 my
              go_simp
              clear t0 t1 t2 f0 f1 f2
              have my := set_blk (v := .bool nb) (i := 0) my rfl
              have ma := set_other (i := 0) ma (show w.heap.size ≠ gy by omega) (.bool nb)
              have mb := set_other (i := 0) mb (show w.heap.size + 1 ≠ gy by omega) (.bool nb)
              have mx := set_other (i := 0) mx (show gx ≠ gy by omega) (.bool nb)
              have rx := rx.setNe (p := ⟨gy, 0, none⟩) hnxy (.bool nb)
              have ry := ry.setNe (p := ⟨gy, 0, none⟩) hnyy (.bool nb)
              have hB := hB.setCell (p := ⟨gy, 0, none⟩) hkgy (.bool nb)
              have my := set_blk (v := .slice A2 n2 c2) (i := 1) my rfl
              have ma := set_other (i := 1) ma (show w.heap.size ≠ gy by omega) (.slice A2 n2 c2)
              have mb := set_other (i := 1) mb (show w.heap.size + 1 ≠ gy by omega) (.slice A2 n2 c2)
              have mx := set_other (i := 1) mx (show gx ≠ gy by omega) (.slice A2 n2 c2)
              have rx := rx.setNe (p := ⟨gy, 1, none⟩) hnxy (.slice A2 n2 c2)
              have ry := ry.setNe (p := ⟨gy, 1, none⟩) hnyy (.slice A2 n2 c2)
              have hB := hB.setCell (p := ⟨gy, 1, none⟩) hkgy (.slice A2 n2 c2)
              have my := set_blk (v := .int .i64 e2) (i := 2) my rfl
              have ma := set_other (i := 2) ma (show w.heap.size ≠ gy by omega) (.int .i64 e2)
              have mb := set_other (i := 2) mb (show w.heap.size + 1 ≠ gy by omega) (.int .i64 e2)
              have mx := set_other (i := 2) mx (show gx ≠ gy by omega) (.int .i64 e2)
              have rx := rx.setNe (p := ⟨gy, 2, none⟩) hnxy (.int .i64 e2)
              have ry := ry.setNe (p := ⟨gy, 2, none⟩) hnyy (.int .i64 e2)
              have hB := hB.setCell (p := ⟨gy, 2, none⟩) hkgy (.int .i64 e2)
              obtain ⟨x0, x1, x2⟩ := box3_of ma
              obtain ⟨x3, x4, x5⟩ := box3_of mb
              refine hK.out _ _ ⟨x0, x1, x2, x3, x4, x5⟩ (fun _ => ?_)
              clear hK K x0 x1 x2 x3 x4 x5
              try simp only [Act.put, List.setIfInBounds_toArray, List.set_cons_zero, List.set_cons_succ]
              refine wpAnyH_done (by kernel_rfl) ?_ _
              go_wp2
              go_meet
              exact ⟨gx, gy, A1, n1, c1, ds, A2, n2, c2, es, rfl, rfl, hne, mx, my, hkgx, hkgy, rx, ry, d1, d2, v1, v2, l1, l2, hB⟩
        · go_simp
          obtain ⟨gx, hg⟩ : ∃ g, g = V26.heap.size := ⟨_, rfl⟩
          have ma := heldA (.cells #[.bool false, .slice none 0 0, .int .i64 0] 41) ma
          have mb := heldA (.cells #[.bool false, .slice none 0 0, .int .i64 0] 41) mb
          have my := heldA (.cells #[.bool false, .slice none 0 0, .int .i64 0] 41) my
          have mx := World.alloc_heap_new V26 (.cells #[.bool false, .slice none 0 0, .int .i64 0] 41)
          rw [← hg] at mx
          have hsz : (V26.alloc (.cells #[.bool false, .slice none 0 0, .int .i64 0] 41)).heap.size = V26.heap.size + 1 := by simp
          have hkgx : w1.heap.size ≤ gx := by have := hB.size; omega
          have hB := hB.alloc hB.size (.cells #[.bool false, .slice none 0 0, .int .i64 0] 41)
          have hW := hW.alloc hW.size (.cells #[.bool false, .slice none 0 0, .int .i64 0] 41)
          obtain ⟨x0, x1, x2⟩ := box3_of ma
          obtain ⟨x3, x4, x5⟩ := box3_of mb
          refine hK.out _ _ ⟨x0, x1, x2, x3, x4, x5⟩ (fun _ => ?_)
          clear hK K x0 x1 x2 x3 x4 x5
          try simp only [Act.put, List.setIfInBounds_toArray, List.set_cons_zero, List.set_cons_succ]
          try rw [← hg]
          generalize hU : V26.alloc (.cells #[.bool false, .slice none 0 0, .int .i64 0] 41) = V32 at *
          clear hU
          have hlgx : gx < V32.heap.size := by omega
          have hne : gx ≠ gy := by omega
          have hlgy : gy < V32.heap.size := by omega
          clear hg hsz
          have hBs0 : w1.heap.size ≤ V32.heap.size := hB.size
          refine wpAnyH_ready (rs := [1]) (by kernel_rfl) (by simp) ?_
          refine (AllReadyH.cons (o := ⟨_, _, _, _, _, _⟩) rfl (fun K hK => ?_) AllReadyH.nil)
          · go_simp
            refine (OF1.out V32 (ha.below hW hS) (fun b h => up hW b h)).mono ?_
            rintro e V33 ⟨A1, n1, c1, ds, rfl, rx, d1, v1, l1, hb0⟩
            have ma := heldz hb0 ma
            have mb := heldz hb0 mb
            have mx := heldz hb0 mx
            have my := heldz hb0 my
            have hB := hB.trans (hb0.mono hB.size)
            have hW := hW.trans (hb0.mono hW.size)
            have rx := rx.more (base' := w1.heap.size) hBs0
            (try dsimp only)
            obtain ⟨x0, x1, x2⟩ := box3_of ma
            obtain ⟨x3, x4, x5⟩ := box3_of mb
            refine hK.out _ _ ⟨x0, x1, x2, x3, x4, x5⟩ (fun _ => ?_)
            clear hK K x0 x1 x2 x3 x4 x5
            try simp only [Act.put, List.setIfInBounds_toArray, List.set_cons_zero, List.set_cons_succ]
            have hlgx : gx < V33.heap.size := Nat.lt_of_lt_of_le hlgx hb0.size
            have hlgy : gy < V33.heap.size := Nat.lt_of_lt_of_le hlgy hb0.size
            clear hb0
            have hBs0 : w1.heap.size ≤ V33.heap.size := hB.size
            refine wpAnyH_ready (rs := [3]) (by kernel_rfl) (by simp) ?_
            refine (AllReadyH.cons (o := ⟨_, _, _, _, _, _⟩) rfl (fun K hK => ?_) AllReadyH.nil)
            · go_simp
              refine (OF2.out V33 (hb.below hW hS) (fun b h => up hW b h)).mono ?_
              rintro e V34 ⟨A2, n2, c2, es, rfl, ry, d2, v2, l2, hb0⟩
              have ma := heldz hb0 ma
              have mb := heldz hb0 mb
              have mx := heldz hb0 mx
              have my := heldz hb0 my
              have rx := rx.below hb0 (Nat.le_refl _)
              have hB := hB.trans (hb0.mono hB.size)
              have hW := hW.trans (hb0.mono hW.size)
              have ry := ry.more (base' := w1.heap.size) hBs0
              (try dsimp only)
              obtain ⟨x0, x1, x2⟩ := box3_of ma
              obtain ⟨x3, x4, x5⟩ := box3_of mb
              refine hK.out _ _ ⟨x0, x1, x2, x3, x4, x5⟩ (fun _ => ?_)
              clear hK K x0 x1 x2 x3 x4 x5
              try simp only [Act.put, List.setIfInBounds_toArray, List.set_cons_zero, List.set_cons_succ]
              have hlgx : gx < V34.heap.size := Nat.lt_of_lt_of_le hlgx hb0.size
              have hlgy : gy < V34.heap.size := Nat.lt_of_lt_of_le hlgy hb0.size
              clear hb0
              have hBs0 : w1.heap.size ≤ V34.heap.size := hB.size
              have hnxx := rx.ne_box mx ty_ne65
              have hnxy := rx.ne_box my ty_ne65
              have hnyx := ry.ne_box mx ty_ne65
              have hnyy := ry.ne_box my ty_ne65
              refine wpAnyH_ready (rs := [6]) (by kernel_rfl) (by simp) (AllReadyH.cons (o := ⟨_, _, _, _, _, _⟩) rfl (fun K hK => ?_) AllReadyH.nil)
              obtain ⟨t0, t1, t2⟩ := box3_of mx
              have f0 := frozen_of 0 mx
              have f1 := frozen_of 1 mx
              have f2 := frozen_of 2 mx
              go_simp
              clear t0 t1 t2 f0 f1 f2
              have mx := set_blk (v := .bool na) (i := 0) mx rfl
              have ma := set_other (i := 0) ma (show w.heap.size ≠ gx by omega) (.bool na)
              have mb := set_other (i := 0) mb (show w.heap.size + 1 ≠ gx by omega) (.bool na)
              have my := set_other (i := 0) my (show gy ≠ gx by omega) (.bool na)
              have rx := rx.setNe (p := ⟨gx, 0, none⟩) hnxx (.bool na)
              have ry := ry.setNe (p := ⟨gx, 0, none⟩) hnyx (.bool na)
              have hB := hB.setCell (p := ⟨gx, 0, none⟩) hkgx (.bool na)
              have mx := set_blk (v := .slice A1 n1 c1) (i := 1) mx rfl
              have ma := set_other (i := 1) ma (show w.heap.size ≠ gx by omega) (.slice A1 n1 c1)
              have mb := set_other (i := 1) mb (show w.heap.size + 1 ≠ gx by omega) (.slice A1 n1 c1)
              have my := set_other (i := 1) my (show gy ≠ gx by omega) (.slice A1 n1 c1)
              have rx := rx.setNe (p := ⟨gx, 1, none⟩) hnxx (.slice A1 n1 c1)
              have ry := ry.setNe (p := ⟨gx, 1, none⟩) hnyx (.slice A1 n1 c1)
              have hB := hB.setCell (p := ⟨gx, 1, none⟩) hkgx (.slice A1 n1 c1)
              have mx := set_blk (v := .int .i64 e1) (i := 2) mx rfl
              have ma := set_other (i := 2) ma (show w.heap.size ≠ gx by omega) (.int .i64 e1)
              have mb := set_other (i := 2) mb (show w.heap.size + 1 ≠ gx by omega) (.int .i64 e1)
              have my := set_other (i := 2) my (show gy ≠ gx by omega) (.int .i64 e1)
              have rx := rx.setNe (p := ⟨gx, 2, none⟩) hnxx (.int .i64 e1)
              have ry := ry.setNe (p := ⟨gx, 2, none⟩) hnyx (.int .i64 e1)
              have hB := hB.setCell (p := ⟨gx, 2, none⟩) hkgx (.int .i64 e1)
              obtain ⟨x0, x1, x2⟩ := box3_of ma
              obtain ⟨x3, x4, x5⟩ := box3_of mb
              refine hK.out _ _ ⟨x0, x1, x2, x3, x4, x5⟩ (fun _ => ?_)
              clear hK K x0 x1 x2 x3 x4 x5
              try simp only [Act.put, List.setIfInBounds_toArray, List.set_cons_zero, List.set_cons_succ]
              refine wpAnyH_ready (rs := [7]) (by kernel_rfl) (by simp) (AllReadyH.cons (o := ⟨_, _, _, _, _, _⟩) rfl (fun K hK => ?_) AllReadyH.nil)
              obtain ⟨t0, t1, t2⟩ := box3_of my
              have f0 := frozen_of 0 my
              have f1 := frozen_of 1 my
              have f2 := frozen_of 2 my
              go_simp
              clear t0 t1 t2 f0 f1 f2
              have my := set_blk (v := .bool nb) (i := 0) my rfl
              have ma := set_other (i := 0) ma (show w.heap.size ≠ gy by omega) (.bool nb)
              have mb := set_other (i := 0) mb (show w.heap.size + 1 ≠ gy by omega) (.bool nb)
              have mx := set_other (i := 0) mx (show gx ≠ gy by omega) (.bool nb)
              have rx := rx.setNe (p := ⟨gy, 0, none⟩) hnxy (.bool nb)
              have ry := ry.setNe (p := ⟨gy, 0, none⟩) hnyy (.bool nb)
              have hB := hB.setCell (p := ⟨gy, 0, none⟩) hkgy (.bool nb)
              have my := set_blk (v := .slice A2 n2 c2) (i := 1) my rfl
              have ma := set_other (i := 1) ma (show w.heap.size ≠ gy by omega) (.slice A2 n2 c2)
              have mb := set_other (i := 1) mb (show w.heap.size + 1 ≠ gy by omega) (.slice A2 n2 c2)
              have mx := set_other (i := 1) mx (show gx ≠ gy by omega) (.slice A2 n2 c2)
              have rx := rx.setNe (p := ⟨gy, 1, none⟩) hnxy (.slice A2 n2 c2)
              have ry := ry.setNe (p := ⟨gy, 1, none⟩) hnyy (.slice A2 n2 c2)
              have hB := hB.setCell (p := ⟨gy, 1, none⟩) hkgy (.slice A2 n2 c2)
              have my := set_blk (v := .int .i64 e2) (i := 2) my rfl
              have ma := set_other (i := 2) ma (show w.heap.size ≠ gy by omega) (.int .i64 e2)
              have mb := set_other (i := 2) mb (show w.heap.size + 1 ≠ gy by omega) (.int .i64 e2)
              have mx := set_other (i := 2) mx (show gx ≠ gy by omega) (.int .i64 e2)
              have rx := rx.setNe (p := ⟨gy, 2, none⟩) hnxy (.int .i64 e2)
              have ry := ry.setNe (p := ⟨gy, 2, none⟩) hnyy (.int .i64 e2)
              have hB := hB.setCell (p := ⟨gy, 2, none⟩) hkgy (.int .i64 e2)
              obtain ⟨x0, x1, x2⟩ := box3_of ma
              obtain ⟨x3, x4, x5⟩ := box3_of mb
              refine hK.out _ _ ⟨x0, x1, x2, x3, x4, x5⟩ (fun _ => ?_)
              clear hK K x0 x1 x2 x3 x4 x5
              try simp only [Act.put, List.setIfInBounds_toArray, List.set_cons_zero, List.set_cons_succ]
              refine wpAnyH_done (by kernel_rfl) ?_ _
              go_wp2
              go_meet
              exact ⟨gx, gy, A1, n1, c1, ds, A2, n2, c2, es, rfl, rfl, hne, mx, my, hkgx, hkgy, rx, ry, d1, d2, v1, v2, l1, l2, hB⟩
    case rest =>
      obtain ⟨gx, gy, A1, n1, c1, ds, A2, n2, c2, es, rfl, rfl, hne, mx, my, hkgx, hkgy, rx, ry, d1, d2, v1, v2, l1, l2, hB⟩ := hcut
      have hwc := hw.trans (hB.mono hw.size)
      have m2c := held hB (show w.heap.size + 1 + 1 < w1.heap.size from hsw1) m2
      rename_i wc
      obtain ⟨q0, q1, q2⟩ := box3_of mx
      obtain ⟨q3, q4, q5⟩ := box3_of my
      have hpr := Product_c (c := c1) (d := c2) wc.drew (rx.rd.keep (fun _ _ => rfl)) (ry.rd.keep (fun _ _ => rfl)) (fun b h => h.2) (fun b h => h.2) d1.1 d2.1 (by omega) (by omega)
      have HPR := Lib.hid hpr
      have HV1 := Lib.hid v1
      have HV2 := Lib.hid v2
      have hl1 : ds.length ≤ 2731 := by rw [rx.len]; exact l1
      have hl2 : es.length ≤ 2731 := by rw [ry.len]; exact l2
      have HD1 := Lib.hid d1
      have HD2 := Lib.hid d2
      clear hpr v1 v2 d1 d2 p0 p1 p2 p3 p4 p5 ma mb m2
      have hwa : IntKind.i64.wrap (e1 + e2) = lo := by rw [HLO.out]; exact IntWalk.i64_in _ (by omega)
      have hne1 : (na != nb) = SG := HSG.out
      have hne2 : (!(na == nb)) = SG := HSG.out
      go_wp2_with fail
      refine wp_region_held_drew (S := fun w' => w'.cell? ⟨gx, 0, none⟩ = some (.bool na) ∧ w'.cell? ⟨gx, 1, none⟩ = some (.slice A1 n1 c1) ∧ w'.cell? ⟨gx, 2, none⟩ = some (.int .i64 e1) ∧ w'.cell? ⟨gy, 0, none⟩ = some (.bool nb) ∧ w'.cell? ⟨gy, 1, none⟩ = some (.slice A2 n2 c2) ∧ w'.cell? ⟨gy, 2, none⟩ = some (.int .i64 e2)) (by kernel_rfl) ⟨q0, q1, q2, q3, q4, q5⟩ (fun hHeld => ?_)
      (try simp only [List.size_toArray, List.length_cons, List.length_nil, Nat.reduceAdd, Array.replicate_succ, Array.replicate_zero, List.push_toArray, List.append_toArray, List.nil_append, List.cons_append])
      refine wpAnyH_take (i := 0) (oi := ⟨_, _, _, _, _, _⟩) (v := ?_) rfl (by kernel_rfl) (by kernel_rfl) (by kernel_rfl) (fun _ _ _ h => h) (Or.inl ⟨by rfl, ?_⟩) (by assumption) ?_
      rotate_left
      · intro w hSw
        (try dsimp only at hSw)
        go_split_ands
        go_simp
        try with_reducible rfl
      try simp only [Act.put, List.setIfInBounds_toArray, List.set_cons_zero, List.set_cons_succ]
      refine wpAnyH_take (i := 1) (oi := ⟨_, _, _, _, _, _⟩) (v := ?_) rfl (by kernel_rfl) (by kernel_rfl) (by kernel_rfl) (fun _ _ _ h => h) (Or.inl ⟨by rfl, ?_⟩) (by assumption) ?_
      rotate_left
      · intro w hSw
        (try dsimp only at hSw)
        go_split_ands
        go_simp
        try with_reducible rfl
      try simp only [Act.put, List.setIfInBounds_toArray, List.set_cons_zero, List.set_cons_succ]
      refine wpAnyH_take (i := 2) (oi := ⟨_, _, _, _, _, _⟩) (v := ?_) rfl (by kernel_rfl) (by kernel_rfl) (by kernel_rfl) (fun _ _ _ h => h) (Or.inl ⟨by rfl, ?_⟩) (by assumption) ?_
      rotate_left
      · intro w hSw
        (try dsimp only at hSw)
        go_split_ands
        go_simp
        try with_reducible rfl
      try simp only [Act.put, List.setIfInBounds_toArray, List.set_cons_zero, List.set_cons_succ]
      refine wpAnyH_take (i := 3) (oi := ⟨_, _, _, _, _, _⟩) (v := ?_) rfl (by kernel_rfl) (by kernel_rfl) (by kernel_rfl) (fun _ _ _ h => h) (Or.inl ⟨by rfl, ?_⟩) (by assumption) ?_
      rotate_left
      · intro w hSw
        (try dsimp only at hSw)
        go_split_ands
        go_simp
        try with_reducible rfl
      try simp only [Act.put, List.setIfInBounds_toArray, List.set_cons_zero, List.set_cons_succ]
      refine wpAnyH_take (i := 4) (oi := ⟨_, _, _, _, _, _⟩) (v := ?_) rfl (by kernel_rfl) (by kernel_rfl) (by kernel_rfl) (fun _ _ _ h => h) (Or.inl ⟨by rfl, ?_⟩) (by assumption) ?_
      rotate_left
      · intro w hSw
        (try dsimp only at hSw)
        go_split_ands
        go_simp
        try with_reducible rfl
      try simp only [Act.put, List.setIfInBounds_toArray, List.set_cons_zero, List.set_cons_succ]
      refine wpAnyH_take (i := 5) (oi := ⟨_, _, _, _, _, _⟩) (v := ?_) rfl (by kernel_rfl) (by kernel_rfl) (by kernel_rfl) (fun _ _ _ h => h) (Or.inl ⟨by rfl, ?_⟩) (by assumption) ?_
      rotate_left
      · intro w hSw
        (try dsimp only at hSw)
        go_split_ands
        go_simp
        try with_reducible rfl
      try simp only [Act.put, List.setIfInBounds_toArray, List.set_cons_zero, List.set_cons_succ]
      refine wpAnyH_take (i := 6) (oi := ⟨_, _, _, _, _, _⟩) (v := ?_) rfl (by kernel_rfl) (by kernel_rfl) (by kernel_rfl) (fun _ _ _ h => h) (Or.inl ⟨by rfl, ?_⟩) (by assumption) ?_
      rotate_left
      · intro w hSw
        (try dsimp only at hSw)
        go_split_ands
        go_simp
        try with_reducible rfl
      try simp only [Act.put, List.setIfInBounds_toArray, List.set_cons_zero, List.set_cons_succ]
      refine wpAnyH_take (i := 7) (oi := ⟨_, _, _, _, _, _⟩) (v := ?_) rfl (by kernel_rfl) (by kernel_rfl) (by kernel_rfl) (fun _ _ _ h => h) (Or.inl ⟨by rfl, ?_⟩) (by assumption) ?_
      rotate_left
      · intro w hSw
        (try dsimp only at hSw)
        go_split_ands
        go_simp
        try with_reducible rfl
      try simp only [Act.put, List.setIfInBounds_toArray, List.set_cons_zero, List.set_cons_succ]
      refine wpAnyH_take (i := 8) (oi := ⟨_, _, _, _, _, _⟩) (v := ?_) rfl (by kernel_rfl) (by kernel_rfl) (by kernel_rfl) (fun _ _ _ h => h) (Or.inl ⟨by rfl, ?_⟩) (by assumption) ?_
      rotate_left
      · intro w hSw
        (try dsimp only at hSw)
        go_split_ands
        go_simp
        try with_reducible rfl
      try simp only [Act.put, List.setIfInBounds_toArray, List.set_cons_zero, List.set_cons_succ]
      refine wpAnyH_take (i := 10) (oi := ⟨_, _, _, _, _, _⟩) (v := ?_) rfl (by kernel_rfl) (by kernel_rfl) (by kernel_rfl) (fun _ _ _ h => h) (Or.inl ⟨by rfl, ?_⟩) (by assumption) ?_
      rotate_left
      · intro w hSw
        (try dsimp only at hSw)
        go_split_ands
        go_simp
        try with_reducible rfl
      try simp only [Act.put, List.setIfInBounds_toArray, List.set_cons_zero, List.set_cons_succ]
      refine wpAnyH_take (i := 11) (oi := ⟨_, _, _, _, _, _⟩) (v := ?_) rfl (by kernel_rfl) (by kernel_rfl) (by kernel_rfl) (fun _ _ _ h => h) (Or.inl ⟨by rfl, ?_⟩) (by assumption) ?_
      rotate_left
      · intro w hSw
        (try dsimp only at hSw)
        go_split_ands
        go_simp
        try with_reducible rfl
      try simp only [Act.put, List.setIfInBounds_toArray, List.set_cons_zero, List.set_cons_succ]
      refine wpAnyH_take (i := 12) (oi := ⟨_, _, _, _, _, _⟩) (v := ?_) rfl (by kernel_rfl) (by kernel_rfl) (by kernel_rfl) (fun _ _ _ h => h) (Or.inl ⟨by rfl, ?_⟩) (by assumption) ?_
      rotate_left
      · intro w hSw
        (try dsimp only at hSw)
        go_split_ands
        go_simp
        try with_reducible rfl
      try simp only [Act.put, List.setIfInBounds_toArray, List.set_cons_zero, List.set_cons_succ]
      refine wpAnyH_take (i := 13) (oi := ⟨_, _, _, _, _, _⟩) (v := ?_) rfl (by kernel_rfl) (by kernel_rfl) (by kernel_rfl) (fun _ _ _ h => h) (Or.inl ⟨by rfl, ?_⟩) (by assumption) ?_
      rotate_left
      · intro w hSw
        (try dsimp only at hSw)
        go_split_ands
        go_simp
        try with_reducible rfl
      try simp only [Act.put, List.setIfInBounds_toArray, List.set_cons_zero, List.set_cons_succ]
      refine wpAnyH_take (i := 14) (oi := ⟨_, _, _, _, _, _⟩) (v := ?_) rfl (by kernel_rfl) (by kernel_rfl) (by kernel_rfl) (fun _ _ _ h => h) (Or.inl ⟨by rfl, ?_⟩) (by assumption) ?_
      rotate_left
      · intro w hSw
        (try dsimp only at hSw)
        go_split_ands
        go_simp
        try with_reducible rfl
      try simp only [Act.put, List.setIfInBounds_toArray, List.set_cons_zero, List.set_cons_succ]
      refine wpAnyH_ready (rs := [9]) (by kernel_rfl) (by simp) (AllReadyH.cons (o := ⟨_, _, _, _, _, _⟩) rfl (fun K hK => ?_) AllReadyH.nil)
      go_simp
      refine HPR.out.mono ?_
      rintro e w5 ⟨A3, n3, c3, rs, rfl, hr3, d3, v3, hb5⟩
      have hlx : gx < wc.drew.heap.size := (Array.getElem?_eq_some_iff.1 mx).1
      have hly : gy < wc.drew.heap.size := (Array.getElem?_eq_some_iff.1 my).1
      have hlr : w.heap.size + 1 + 1 < wc.drew.heap.size := (Array.getElem?_eq_some_iff.1 m2c).1
      have hwc := only_drewB hwc
      have v3b : dval rs = Z := by rw [v3, HV1.out, HV2.out]; exact HZ.out.symm
      have hl3 : n3 ≤ 6000 := by
        rw [← hr3.len]
        refine dlen_le d3 ?_
        obtain ⟨T, hT⟩ : ∃ T, T = 3000 := ⟨_, rfl⟩
        have g1 := dval_pow (k := T) HD1.out.1 (by omega)
        have g2 := dval_pow (k := T) HD2.out.1 (by omega)
        rw [v3, show 6000 = T + T by omega, Nat.pow_add]
        exact Nat.mul_lt_mul'' g1 g2
      have HV3 := Lib.hid v3b
      have HD3 := Lib.hid d3
      clear v3 v3b d3
      have mx := held hb5 (show gx < _ from hlx) mx
      have my := held hb5 (show gy < _ from hly) my
      have m2c := held hb5 (show w.heap.size + 1 + 1 < _ from hlr) m2c
      have hwc := hwc.trans (hb5.mono hwc.size)
      have hlx := Nat.lt_of_lt_of_le hlx hb5.size
      have hly := Nat.lt_of_lt_of_le hly hb5.size
      have hlr := Nat.lt_of_lt_of_le hlr hb5.size
      obtain ⟨x0, x1, x2⟩ := box3_of mx
      obtain ⟨x3, x4, x5⟩ := box3_of my
      (try dsimp only)
      refine hK.out _ _ ⟨x0, x1, x2, x3, x4, x5⟩ (fun _ => ?_)
      clear hK K x0 x1 x2 x3 x4 x5
      try simp only [Act.put, List.setIfInBounds_toArray, List.set_cons_zero, List.set_cons_succ]
      have hn3 := hr3.n_le
      unfold maxLen at hn3
      have hmade := Made_c (c := c3) SG lo w5 hr3.rd (fun b h => h.2) HD3.out.1 (by omega) hn3.1 (by omega) (by omega)
      rw [HV3.out] at hmade
      unfold nv dv at hmade
      have HMADE := Lib.hid hmade
      clear hmade
      refine wpAnyH_take (i := 15) (oi := ⟨_, _, _, _, _, _⟩) (v := ?_) rfl (by kernel_rfl) (by kernel_rfl) (by kernel_rfl) (fun _ _ _ h => h) (Or.inl ⟨by rfl, ?_⟩) (by assumption) ?_
      rotate_left
      · intro w hSw
        (try dsimp only at hSw)
        go_split_ands
        go_simp
        try with_reducible rfl
      try simp only [Act.put, List.setIfInBounds_toArray, List.set_cons_zero, List.set_cons_succ]
      refine wpAnyH_ready (rs := [16]) (by kernel_rfl) (by simp) (AllReadyH.cons (o := ⟨_, _, _, _, _, _⟩) rfl (fun K hK => ?_) AllReadyH.nil)
      go_simp
      refine HMADE.out.mono ?_
      rintro e w6 ⟨A4, n4, c4, rfl, hr4, hb6⟩
      have hlr5 := hlr
      have mx := held hb6 (show gx < _ from hlx) mx
      have my := held hb6 (show gy < _ from hly) my
      have m2c := held hb6 (show w.heap.size + 1 + 1 < _ from hlr) m2c
      have hwc := hwc.trans (hb6.mono hwc.size)
      have hlx := Nat.lt_of_lt_of_le hlx hb6.size
      have hly := Nat.lt_of_lt_of_le hly hb6.size
      have hlr := Nat.lt_of_lt_of_le hlr hb6.size
      obtain ⟨x0, x1, x2⟩ := box3_of mx
      obtain ⟨x3, x4, x5⟩ := box3_of my
      (try dsimp only)
      refine hK.out _ _ ⟨x0, x1, x2, x3, x4, x5⟩ (fun _ => ?_)
      clear hK K x0 x1 x2 x3 x4 x5
      try simp only [Act.put, List.setIfInBounds_toArray, List.set_cons_zero, List.set_cons_succ]
      refine wpAnyH_take (i := 17) (oi := ⟨_, _, _, _, _, _⟩) (v := ?_) rfl (by kernel_rfl) (by kernel_rfl) (by kernel_rfl) (fun _ _ _ h => h) (Or.inl ⟨by rfl, ?_⟩) (by assumption) ?_
      rotate_left
      · intro w hSw
        (try dsimp only at hSw)
        go_split_ands
        go_simp
        try with_reducible rfl
      try simp only [Act.put, List.setIfInBounds_toArray, List.set_cons_zero, List.set_cons_succ]
      refine wpAnyH_take (i := 18) (oi := ⟨_, _, _, _, _, _⟩) (v := ?_) rfl (by kernel_rfl) (by kernel_rfl) (by kernel_rfl) (fun _ _ _ h => h) (Or.inl ⟨by rfl, ?_⟩) (by assumption) ?_
      rotate_left
      · intro w hSw
        (try dsimp only at hSw)
        go_split_ands
        go_simp
        try with_reducible rfl
      try simp only [Act.put, List.setIfInBounds_toArray, List.set_cons_zero, List.set_cons_succ]
      obtain ⟨y0, y1, y2⟩ := box3_of m2c
      have f0 := frozen_of 0 m2c
      have f1 := frozen_of 1 m2c
      have f2 := frozen_of 2 m2c
      obtain ⟨g0, g1, g2⟩ := box3_of mx
      obtain ⟨g3, g4, g5⟩ := box3_of my
      refine wpAnyH_ready (rs := [19]) (by kernel_rfl) (by simp) (AllReadyH.cons (o := ⟨_, _, _, _, _, _⟩) rfl (fun K hK => ?_) AllReadyH.nil)
      go_simp
      refine hK.out _ _ (by refine ⟨?_, ?_, ?_, ?_, ?_, ?_⟩ <;> (rw [World.cell?_setCell_far _ _ _ _ (by dsimp only; omega), World.cell?_setCell_far _ _ _ _ (by dsimp only; omega), World.cell?_setCell_far _ _ _ _ (by dsimp only; omega)]; assumption)) (fun _ => ?_)
      clear hK K
      try simp only [Act.put, List.setIfInBounds_toArray, List.set_cons_zero, List.set_cons_succ]
      refine wpAnyH_take (i := 20) (oi := ⟨_, _, _, _, _, _⟩) (v := ?_) rfl (by kernel_rfl) (by kernel_rfl) (by kernel_rfl) (fun _ _ _ h => h) (Or.inl ⟨by rfl, ?_⟩) (by assumption) ?_
      rotate_left
      · intro w hSw
        (try dsimp only at hSw)
        go_split_ands
        go_simp
        try with_reducible rfl
      try simp only [Act.put, List.setIfInBounds_toArray, List.set_cons_zero, List.set_cons_succ]
      refine wpAnyH_done (by kernel_rfl) ?_ _
      go_wp2
      refine bodyPost_ret (v := .tuple #[.agg #[.bool (stN SG Z lo), .slice A4 n4 c4, .int .i64 (stX Z lo)], .int .i64 (stE Z lo : Int)]) (by simp [results, Tryz.results34, go_sem, y0, y1, y2]) rfl ?_
      refine ⟨told_of (fun h => absurd rfl h) (fun _ => ⟨A4, n4, c4, rfl, ?_⟩), ?_⟩
      · exact (((hr4.setOther (p := ⟨w.heap.size + 1 + 1, 0, none⟩) hlr5 _).setOther (p := ⟨w.heap.size + 1 + 1, 1, none⟩) hlr5 _).setOther (p := ⟨w.heap.size + 1 + 1, 2, none⟩) hlr5 _).more (by omega)
      · exact ((hwc.setCell (p := ⟨w.heap.size + 1 + 1, 0, none⟩) (by simp; omega) _).setCell (p := ⟨w.heap.size + 1 + 1, 1, none⟩) (by simp; omega) _).setCell (p := ⟨w.heap.size + 1 + 1, 2, none⟩) (by simp; omega) _
  · have hE9 : E = 9 := by
      rcases okE2_val na nb xs ys e1 e2 with h | h
      · exact absurd (HE.out.trans h) h0
      · exact HE.out.trans h
    subst hE9
    obtain ⟨y0, y1, y2⟩ := box3_of m2
    have f0 := frozen_of 0 m2
    have f1 := frozen_of 1 m2
    have f2 := frozen_of 2 m2
    go_wp2
    refine bodyPost_ret (v := .tuple #[.agg #[.bool false, .slice none 0 0, .int .i64 0], .int .i64 9]) (by simp [results, Tryz.results34, go_sem, y0, y1, y2]) rfl ?_
    refine ⟨told_of (fun _ => rfl) (fun h => absurd h (by decide)), ?_⟩
    exact ((hw.setCell (p := ⟨w.heap.size + 1 + 1, 0, none⟩) (by simp; omega) _).setCell (p := ⟨w.heap.size + 1 + 1, 1, none⟩) (by simp; omega) _).setCell (p := ⟨w.heap.size + 1 + 1, 2, none⟩) (by simp; omega) _
end Go.Proofs.YtbbafggejnjjiaaGreatDoor
