/-
  Contract of bolterref03's Div. Written by gen_rdiv.py.
-/
import Derived.Test.YtbbafggejnjjiaaGreatDoorQdivm
import Derived.Deep.CutRange
set_option linter.unusedVariables false
set_option linter.unusedSimpArgs false
namespace Go.Proofs.YtbbafggejnjjiaaGreatDoor
open Go.RowKit

theorem set_blkd {w : World} {b i : Nat} {vs us : Array Value} {t : TypeId} {v : Value} (h : w.heap[b]? = some (.cells vs t)) (hu : vs.setIfInBounds i v = us) : (w.setCell ⟨b, i, none⟩ v).heap[b]? = some (.cells us t) := by
  rw [← hu]; exact set_cells h v
theorem ty_ned : (41 : Nat) ≠ 3 := by decide
theorem ResI.ne_boxd {w : World} {base n c b : Nat} {A : Option Addr} {zs : List Nat} {vs : Array Value} {t : TypeId} (h : ResI w base A n c zs) (hb : w.heap[b]? = some (.cells vs t)) (ht : t ≠ 3) : ∀ g, A = some ⟨g, 0, none⟩ → g ≠ b := by
  intro g e hgb
  rcases h.own.2 with ⟨h1, _⟩ | ⟨g2, cap, cur, h1, h2, hh, _⟩
  · injection h1 with h1; rw [h1] at e; cases e
  · injection h1 with h1
    rw [h1] at e
    injection e with e
    injection e with e
    rw [e, hgb, hb] at hh
    injection hh with hh
    injection hh with _ hh
    exact ht hh
theorem ResI.setNed {w : World} {base n c : Nat} {A : Option Addr} {zs : List Nat} (h : ResI w base A n c zs) {p : Addr} (hne : ∀ g, A = some ⟨g, 0, none⟩ → g ≠ p.block) (u : Value) : ResI (w.setCell p u) base A n c zs :=
  h.keep fun g e => Below.heap_setCell _ _ _ _ (hne g e)

set_option maxRecDepth 100000 in
set_option maxHeartbeats 8000000 in
theorem RDiv_c {S : Nat → Prop} {n m c d : Nat} {A B : Option Addr} {xs ys : List Nat} (na nb : Bool) (e1 e2 : Int) (w : World) (ha : Rd w S A n xs) (hb : Rd w S B m ys) (hS : ∀ b, S b → b < w.heap.size) (hn : n ≤ 9223372036854775807) (hm : m ≤ 9223372036854775807) :
    Calls Tryz.prog 14 #[dv na A n c e1, dv nb B m d e2] w fun e w' => Told e w' w.heap.size (eDiv na xs e1 nb ys e2) (na != nb) (qZ (val xs) (val ys)) (qX (val xs) (val ys) e1 e2) ∧ Below w.heap.size w w' := by
  have up : ∀ {V : World}, Below w.heap.size w V → ∀ b, b < w.heap.size → b < V.heap.size := fun h b hb => by have := h.size; omega
  have HC1 := Lib.hid (fun V (h1 : Rd V S A n xs) hs => RCheck_c (c := c) na e1 V h1 hs hn)
  have HC2 := Lib.hid (fun V (h1 : Rd V S B m ys) hs => RCheck_c (c := d) nb e2 V h1 hs hm)
  unfold dv at HC1 HC2
  have hB : Below w.heap.size w (((w.alloc (.cells #[.bool na, .slice A n c, .int .i64 e1] 24)).alloc (.cells #[.bool nb, .slice B m d, .int .i64 e2] 24)).alloc (.cells #[.bool false, .slice none 0 0, .int .i64 0] 24)) := (((Below.refl w.heap.size w).alloc (Nat.le_refl _) _).alloc (by simp) _).alloc (by simp; omega) _
  obtain ⟨ma, mb, mr⟩ := three_newq w (.cells #[.bool na, .slice A n c, .int .i64 e1] 24) (.cells #[.bool nb, .slice B m d, .int .i64 e2] 24) (.cells #[.bool false, .slice none 0 0, .int .i64 0] 24)
  unfold dv
  go_enter Tryz.func14, Tryz.ntmps14
  go_upto_region 1 with fail
  generalize (((w.alloc (.cells #[.bool na, .slice A n c, .int .i64 e1] 24)).alloc (.cells #[.bool nb, .slice B m d, .int .i64 e2] 24)).alloc (.cells #[.bool false, .slice none 0 0, .int .i64 0] 24)) = W at ma mb mr hB ⊢
  obtain ⟨x0, x1, x2⟩ := box3_of ma
  obtain ⟨y0, y1, y2⟩ := box3_of mb
  rcases okE_cases na xs e1 with ⟨hok1, k1⟩ | ⟨hok1, k1⟩
  rotate_left
  · have hE : Hid (okE2 na xs e1 nb ys e2 = 9) := by show _ = _; unfold okE2; rw [k1]; rfl
    rw [hok1] at HC1
    clear x0 x1 x2 y0 y1 y2
    obtain ⟨x0, x1, x2⟩ := box3_of ma
    obtain ⟨y0, y1, y2⟩ := box3_of mb
    go_wp2_with fail
    refine (HC1.out W (ha.below hB hS) (fun b h => up hB b (hS b h))).mono ?_
    rintro e w1 ⟨rfl, hb0⟩
    have ma := heldz hb0 ma
    have mb := heldz hb0 mb
    have mr := heldz hb0 mr
    have hB := hB.trans (hb0.mono hB.size)
    clear x0 x1 x2 y0 y1 y2
    clear hb0
    obtain ⟨g0, g1, g2⟩ := box3_of mr
    have f0 := frozen_of 0 mr
    have f1 := frozen_of 1 mr
    have f2 := frozen_of 2 mr
    go_wp2
    refine bodyPost_ret (v := .tuple #[.agg #[.bool false, .slice none 0 0, .int .i64 0], .int .i64 9]) (by simp [results, Tryz.results14, go_sem, g0, g1, g2]) rfl ?_
    exact ⟨told_as (eDiv_err hE.out) (by decide), ((hB.setCell (p := ⟨w.heap.size + 1 + 1, 0, none⟩) (by simp; omega) _).setCell (p := ⟨w.heap.size + 1 + 1, 1, none⟩) (by simp; omega) _).setCell (p := ⟨w.heap.size + 1 + 1, 2, none⟩) (by simp; omega) _⟩
  rw [hok1] at HC1
  go_wp2_with fail
  refine (HC1.out W (ha.below hB hS) (fun b h => up hB b (hS b h))).mono ?_
  rintro e w1 ⟨rfl, hb0⟩
  have ma := heldz hb0 ma
  have mb := heldz hb0 mb
  have mr := heldz hb0 mr
  have hB := hB.trans (hb0.mono hB.size)
  clear x0 x1 x2 y0 y1 y2
  clear hb0
  obtain ⟨x0, x1, x2⟩ := box3_of ma
  obtain ⟨y0, y1, y2⟩ := box3_of mb
  rcases okE_cases nb ys e2 with ⟨hok2, k2⟩ | ⟨hok2, k2⟩
  rotate_left
  · have hE : Hid (okE2 na xs e1 nb ys e2 = 9) := by show _ = _; unfold okE2; rw [if_pos k1, hok2]
    rw [hok2] at HC2
    go_wp2_with fail
    refine (HC2.out w1 (hb.below hB hS) (fun b h => up hB b (hS b h))).mono ?_
    rintro e w2 ⟨rfl, hb0⟩
    have ma := heldz hb0 ma
    have mb := heldz hb0 mb
    have mr := heldz hb0 mr
    have hB := hB.trans (hb0.mono hB.size)
    clear x0 x1 x2 y0 y1 y2
    clear hb0
    obtain ⟨g0, g1, g2⟩ := box3_of mr
    have f0 := frozen_of 0 mr
    have f1 := frozen_of 1 mr
    have f2 := frozen_of 2 mr
    go_wp2
    refine bodyPost_ret (v := .tuple #[.agg #[.bool false, .slice none 0 0, .int .i64 0], .int .i64 9]) (by simp [results, Tryz.results14, go_sem, g0, g1, g2]) rfl ?_
    exact ⟨told_as (eDiv_err hE.out) (by decide), ((hB.setCell (p := ⟨w.heap.size + 1 + 1, 0, none⟩) (by simp; omega) _).setCell (p := ⟨w.heap.size + 1 + 1, 1, none⟩) (by simp; omega) _).setCell (p := ⟨w.heap.size + 1 + 1, 2, none⟩) (by simp; omega) _⟩
  rw [hok2] at HC2
  have hE : Hid (okE2 na xs e1 nb ys e2 = 0) := Lib.hid (okE2_zero'.2 ⟨k1, k2⟩)
  go_wp2_with fail
  refine (HC2.out w1 (hb.below hB hS) (fun b h => up hB b (hS b h))).mono ?_
  rintro e w2 ⟨rfl, hb0⟩
  have ma := heldz hb0 ma
  have mb := heldz hb0 mb
  have mr := heldz hb0 mr
  have hB := hB.trans (hb0.mono hB.size)
  clear x0 x1 x2 y0 y1 y2
  clear hb0
  obtain ⟨x0, x1, x2⟩ := box3_of ma
  obtain ⟨y0, y1, y2⟩ := box3_of mb
  by_cases hm0 : m = 0
  · have hv0 : val ys = 0 := by
      rw [List.eq_nil_of_length_eq_zero (hb.len.trans hm0)]; rfl
    have HE := Lib.hid (show eDiv na xs e1 nb ys e2 = 53 by unfold eDiv; rw [if_pos hE.out, if_pos hv0])
    subst hm0
    obtain ⟨g0, g1, g2⟩ := box3_of mr
    have f0 := frozen_of 0 mr
    have f1 := frozen_of 1 mr
    have f2 := frozen_of 2 mr
    go_wp2
    refine bodyPost_ret (v := .tuple #[.agg #[.bool false, .slice none 0 0, .int .i64 0], .int .i64 53]) (by simp [results, Tryz.results14, go_sem, g0, g1, g2]) rfl ?_
    exact ⟨told_as HE.out (by decide), ((hB.setCell (p := ⟨w.heap.size + 1 + 1, 0, none⟩) (by simp; omega) _).setCell (p := ⟨w.heap.size + 1 + 1, 1, none⟩) (by simp; omega) _).setCell (p := ⟨w.heap.size + 1 + 1, 2, none⟩) (by simp; omega) _⟩
  have hmb : ((m : Int) == 0) = false := by rw [beq_eq_false_iff_ne]; omega
  obtain ⟨a1, a2, a3, a4, _, _⟩ := okB_true ha.l32 k1
  obtain ⟨b1, b2, b3, b4, _, _⟩ := okB_true hb.l32 k2
  have hyp : 0 < val ys := by
    rcases Nat.eq_zero_or_pos (val ys) with h2 | h2
    · exfalso
      have hl := hb.len
      rw [b1.val_zero h2] at hl; simp at hl; omega
    · exact h2
  have HE := Lib.hid (show eDiv na xs e1 nb ys e2 = 0 by unfold eDiv; rw [if_pos hE.out, if_neg (by omega)])
  have hn2 : n ≤ 256 := by rw [← ha.len]; exact a2
  have hm2 : m ≤ 256 := by rw [← hb.len]; exact b2
  have OF1 := Lib.hid (fun V (h1 : Rd V S A n xs) hs => Of_c (c := c) na e1 V h1 hs hn2)
  have OF2 := Lib.hid (fun V (h1 : Rd V S B m ys) hs => Of_c (c := d) nb e2 V h1 hs hm2)
  unfold dv nv at OF1 OF2
  have HL1 := Lib.hid (okB_len k1)
  have HL2 := Lib.hid (okB_len k2)
  have HYP := Lib.hid hyp
  have HAB := Lib.hid (And.intro a4 b4)
  have hw := hB
  have hsw1 : w.heap.size + 1 + 1 < w2.heap.size := (Array.getElem?_eq_some_iff.1 mr).1
  have up2 : ∀ {W' : World}, Below w.heap.size w W' → ∀ b, S b → b < W'.heap.size := fun hW b h => up hW b (hS b h)
  clear k1 k2 a1 a2 a3 b1 b2 b3 hm0 hyp hok1 hok2
  rename_i w1z
  go_upto_region 5 with fail
  obtain ⟨p0, p1, p2⟩ := box3_of ma
  obtain ⟨p3, p4, p5⟩ := box3_of mb
  clear x0 x1 x2 y0 y1 y2
  go_cut [6, 7] from 34 to 37 (fun s5 s6 wc => ∃ gx gy A1 n1 c1 ds A2 n2 c2 es, s5 = .pointer (some ⟨gx, 0, none⟩) ∧ s6 = .pointer (some ⟨gy, 0, none⟩) ∧ gx ≠ gy ∧ wc.heap[gx]? = some (.cells #[.bool na, .slice A1 n1 c1, .int .i64 e1] 41) ∧ wc.heap[gy]? = some (.cells #[.bool nb, .slice A2 n2 c2, .int .i64 e2] 41) ∧ w2.heap.size ≤ gx ∧ w2.heap.size ≤ gy ∧ ResI wc w2.heap.size A1 n1 c1 ds ∧ ResI wc w2.heap.size A2 n2 c2 es ∧ DCan ds ∧ DCan es ∧ dval ds = val xs ∧ dval es = val ys ∧ n1 ≤ 2731 ∧ n2 ≤ 2731 ∧ Below w2.heap.size w2 wc)
  case first =>
    go_wp2_with fail
    refine wp_region_held_drew (S := fun w' => w'.cell? ⟨w.heap.size, 0, none⟩ = some (.bool na) ∧ w'.cell? ⟨w.heap.size, 1, none⟩ = some (.slice A n c) ∧ w'.cell? ⟨w.heap.size, 2, none⟩ = some (.int .i64 e1) ∧ w'.cell? ⟨w.heap.size + 1, 0, none⟩ = some (.bool nb) ∧ w'.cell? ⟨w.heap.size + 1, 1, none⟩ = some (.slice B m d) ∧ w'.cell? ⟨w.heap.size + 1, 2, none⟩ = some (.int .i64 e2)) (by kernel_rfl) ⟨p0, p1, p2, p3, p4, p5⟩ (fun hHeld => ?_)
    (try simp only [List.size_toArray, List.length_cons, List.length_nil, Nat.reduceAdd, Array.replicate_succ, Array.replicate_zero, List.push_toArray, List.append_toArray, List.nil_append, List.cons_append])
    refine wpAnyH_take (i := 0) (oi := ⟨_, _, _, _, _, _⟩) (v := ?_) rfl (by kernel_rfl) (by kernel_rfl) (by kernel_rfl) (fun _ _ _ h => h) (Or.inl ⟨by rfl, ?_⟩) (by assumption) ?_
    rotate_left
    · intro w hSw
      (try dsimp only at hSw)
      go_split_ands
      go_simp
      try with_reducible rfl
    try simp only [Act.put, List.setIfInBounds_toArray, List.set_cons_zero, List.set_cons_succ]
    refine wpAnyH_take (i := 2) (oi := ⟨_, _, _, _, _, _⟩) (v := ?_) rfl (by kernel_rfl) (by kernel_rfl) (by kernel_rfl) (fun _ _ _ h => h) (Or.inl ⟨by rfl, ?_⟩) (by assumption) ?_
    rotate_left
    · intro w hSw
      (try dsimp only at hSw)
      go_split_ands
      go_simp
      try with_reducible rfl
    try simp only [Act.put, List.setIfInBounds_toArray, List.set_cons_zero, List.set_cons_succ]
    clear p0 p1 p2 p3 p4 p5
    have ma : w2.drew.heap[w.heap.size]? = _ := ma
    have mb : w2.drew.heap[w.heap.size + 1]? = _ := mb
    have hB : Below w2.heap.size w2 w2.drew := only_drewB (Below.refl _ _)
    have hW : Below w.heap.size w w2.drew := only_drewB hw
    have hBs0 : w2.heap.size ≤ w2.drew.heap.size := Nat.le_refl _
    generalize hV0 : w2.drew = V0 at *
    clear hV0 hHeld
    refine wpAnyH_ready (rs := [1, 4, 5]) (by kernel_rfl) (by simp) ?_
    refine (AllReadyH.cons (o := ⟨_, _, _, _, _, _⟩) rfl (fun K hK => ?_) (AllReadyH.cons (o := ⟨_, _, _, _, _, _⟩) rfl (fun K hK => ?_) (AllReadyH.cons (o := ⟨_, _, _, _, _, _⟩) rfl (fun K hK => ?_) AllReadyH.nil)))
    · go_simp
      refine (OF1.out V0 (ha.below hW hS) (fun b h => up2 hW b h)).mono ?_
      rintro e V1 ⟨A1, n1, c1, ds, rfl, rx, d1, v1, l1, hb0⟩
      have ma := heldz hb0 ma
      have mb := heldz hb0 mb
      have hB := hB.trans (hb0.mono hB.size)
      have hW := hW.trans (hb0.mono hW.size)
      have rx := rx.more (base' := w2.heap.size) hBs0
      (try dsimp only)
      obtain ⟨x0, x1, x2⟩ := box3_of ma
      obtain ⟨x3, x4, x5⟩ := box3_of mb
      refine hK.out _ _ ⟨x0, x1, x2, x3, x4, x5⟩ (fun _ => ?_)
      clear hK K x0 x1 x2 x3 x4 x5
      try simp only [Act.put, List.setIfInBounds_toArray, List.set_cons_zero, List.set_cons_succ]
      clear hb0
      have hBs0 : w2.heap.size ≤ V1.heap.size := hB.size
      refine wpAnyH_ready (rs := [3, 4, 5]) (by kernel_rfl) (by simp) ?_
      refine (AllReadyH.cons (o := ⟨_, _, _, _, _, _⟩) rfl (fun K hK => ?_) (AllReadyH.cons (o := ⟨_, _, _, _, _, _⟩) rfl (fun K hK => ?_) (AllReadyH.cons (o := ⟨_, _, _, _, _, _⟩) rfl (fun K hK => ?_) AllReadyH.nil)))
      · go_simp
        refine (OF2.out V1 (hb.below hW hS) (fun b h => up2 hW b h)).mono ?_
        rintro e V2 ⟨A2, n2, c2, es, rfl, ry, d2, v2, l2, hb0⟩
        have ma := heldz hb0 ma
        have mb := heldz hb0 mb
        have rx := rx.below hb0 (Nat.le_refl _)
        have hB := hB.trans (hb0.mono hB.size)
        have hW := hW.trans (hb0.mono hW.size)
        have ry := ry.more (base' := w2.heap.size) hBs0
        (try dsimp only)
        obtain ⟨x0, x1, x2⟩ := box3_of ma
        obtain ⟨x3, x4, x5⟩ := box3_of mb
        refine hK.out _ _ ⟨x0, x1, x2, x3, x4, x5⟩ (fun _ => ?_)
        clear hK K x0 x1 x2 x3 x4 x5
        try simp only [Act.put, List.setIfInBounds_toArray, List.set_cons_zero, List.set_cons_succ]
        clear hb0
        have hBs0 : w2.heap.size ≤ V2.heap.size := hB.size
        refine wpAnyH_ready (rs := [4, 5]) (by kernel_rfl) (by simp) ?_
        refine (AllReadyH.cons (o := ⟨_, _, _, _, _, _⟩) rfl (fun K hK => ?_) (AllReadyH.cons (o := ⟨_, _, _, _, _, _⟩) rfl (fun K hK => ?_) AllReadyH.nil))
        · go_simp
          obtain ⟨gx, hg⟩ : ∃ g, g = V2.heap.size := ⟨_, rfl⟩
          have ma := heldA (.cells #[.bool false, .slice none 0 0, .int .i64 0] 41) ma
          have mb := heldA (.cells #[.bool false, .slice none 0 0, .int .i64 0] 41) mb
          have mx := World.alloc_heap_new V2 (.cells #[.bool false, .slice none 0 0, .int .i64 0] 41)
          rw [← hg] at mx
          have rx := rx.below ((Below.refl V2.heap.size V2).alloc (Nat.le_refl _) (.cells #[.bool false, .slice none 0 0, .int .i64 0] 41)) (Nat.le_refl _)
          have ry := ry.below ((Below.refl V2.heap.size V2).alloc (Nat.le_refl _) (.cells #[.bool false, .slice none 0 0, .int .i64 0] 41)) (Nat.le_refl _)
          have hsz : (V2.alloc (.cells #[.bool false, .slice none 0 0, .int .i64 0] 41)).heap.size = V2.heap.size + 1 := by simp
          have hkgx : w2.heap.size ≤ gx := by have := hB.size; omega
          have hB := hB.alloc hB.size (.cells #[.bool false, .slice none 0 0, .int .i64 0] 41)
          have hW := hW.alloc hW.size (.cells #[.bool false, .slice none 0 0, .int .i64 0] 41)
          obtain ⟨x0, x1, x2⟩ := box3_of ma
          obtain ⟨x3, x4, x5⟩ := box3_of mb
          refine hK.out _ _ ⟨x0, x1, x2, x3, x4, x5⟩ (fun _ => ?_)
          clear hK K x0 x1 x2 x3 x4 x5
          try simp only [Act.put, List.setIfInBounds_toArray, List.set_cons_zero, List.set_cons_succ]
          try rw [← hg]
          generalize hU : V2.alloc (.cells #[.bool false, .slice none 0 0, .int .i64 0] 41) = V3 at *
          clear hU
          have hlgx : gx < V3.heap.size := by omega
          clear hg hsz
          have hBs0 : w2.heap.size ≤ V3.heap.size := hB.size
          refine wpAnyH_ready (rs := [5]) (by kernel_rfl) (by simp) ?_
          refine (AllReadyH.cons (o := ⟨_, _, _, _, _, _⟩) rfl (fun K hK => ?_) AllReadyH.nil)
          · go_simp
            obtain ⟨gy, hg⟩ : ∃ g, g = V3.heap.size := ⟨_, rfl⟩
            have ma := heldA (.cells #[.bool false, .slice none 0 0, .int .i64 0] 41) ma
            have mb := heldA (.cells #[.bool false, .slice none 0 0, .int .i64 0] 41) mb
            have mx := heldA (.cells #[.bool false, .slice none 0 0, .int .i64 0] 41) mx
            have my := World.alloc_heap_new V3 (.cells #[.bool false, .slice none 0 0, .int .i64 0] 41)
            rw [← hg] at my
            have rx := rx.below ((Below.refl V3.heap.size V3).alloc (Nat.le_refl _) (.cells #[.bool false, .slice none 0 0, .int .i64 0] 41)) (Nat.le_refl _)
            have ry := ry.below ((Below.refl V3.heap.size V3).alloc (Nat.le_refl _) (.cells #[.bool false, .slice none 0 0, .int .i64 0] 41)) (Nat.le_refl _)
            have hsz : (V3.alloc (.cells #[.bool false, .slice none 0 0, .int .i64 0] 41)).heap.size = V3.heap.size + 1 := by simp
            have hkgy : w2.heap.size ≤ gy := by have := hB.size; omega
            have hB := hB.alloc hB.size (.cells #[.bool false, .slice none 0 0, .int .i64 0] 41)
            have hW := hW.alloc hW.size (.cells #[.bool false, .slice none 0 0, .int .i64 0] 41)
            obtain ⟨x0, x1, x2⟩ := box3_of ma
            obtain ⟨x3, x4, x5⟩ := box3_of mb
            refine hK.out _ _ ⟨x0, x1, x2, x3, x4, x5⟩ (fun _ => ?_)
            clear hK K x0 x1 x2 x3 x4 x5
            try simp only [Act.put, List.setIfInBounds_toArray, List.set_cons_zero, List.set_cons_succ]
            try rw [← hg]
            generalize hU : V3.alloc (.cells #[.bool false, .slice none 0 0, .int .i64 0] 41) = V4 at *
            clear hU
            have hlgy : gy < V4.heap.size := by omega
            have hne : gx ≠ gy := by omega
            have hlgx : gx < V4.heap.size := by omega
            clear hg hsz
            have hBs0 : w2.heap.size ≤ V4.heap.size := hB.size
            have hnxx := rx.ne_boxd mx ty_ned
            have hnxy := rx.ne_boxd my ty_ned
            have hnyx := ry.ne_boxd mx ty_ned
            have hnyy := ry.ne_boxd my ty_ned
            refine wpAnyH_ready (rs := [6]) (by kernel_rfl) (by simp) (AllReadyH.cons (o := ⟨_, _, _, _, _, _⟩) rfl (fun K hK => ?_) AllReadyH.nil)
            obtain ⟨t0, t1, t2⟩ := box3_of mx
            have f0 := frozen_of 0 mx
            have f1 := frozen_of 1 mx
            have f2 := frozen_of 2 mx
            go_simp
            clear t0 t1 t2 f0 f1 f2
            have mx := set_blkd (v := .bool na) (i := 0) mx rfl
            have ma := set_other (i := 0) ma (show w.heap.size ≠ gx by omega) (.bool na)
            have mb := set_other (i := 0) mb (show w.heap.size + 1 ≠ gx by omega) (.bool na)
            have my := set_other (i := 0) my (show gy ≠ gx by omega) (.bool na)
            have rx := rx.setNed (p := ⟨gx, 0, none⟩) hnxx (.bool na)
            have ry := ry.setNed (p := ⟨gx, 0, none⟩) hnyx (.bool na)
            have hB := hB.setCell (p := ⟨gx, 0, none⟩) hkgx (.bool na)
            have mx := set_blkd (v := .slice A1 n1 c1) (i := 1) mx rfl
            have ma := set_other (i := 1) ma (show w.heap.size ≠ gx by omega) (.slice A1 n1 c1)
            have mb := set_other (i := 1) mb (show w.heap.size + 1 ≠ gx by omega) (.slice A1 n1 c1)
            have my := set_other (i := 1) my (show gy ≠ gx by omega) (.slice A1 n1 c1)
            have rx := rx.setNed (p := ⟨gx, 1, none⟩) hnxx (.slice A1 n1 c1)
            have ry := ry.setNed (p := ⟨gx, 1, none⟩) hnyx (.slice A1 n1 c1)
            have hB := hB.setCell (p := ⟨gx, 1, none⟩) hkgx (.slice A1 n1 c1)
            have mx := set_blkd (v := .int .i64 e1) (i := 2) mx rfl
            have ma := set_other (i := 2) ma (show w.heap.size ≠ gx by omega) (.int .i64 e1)
            have mb := set_other (i := 2) mb (show w.heap.size + 1 ≠ gx by omega) (.int .i64 e1)
            have my := set_other (i := 2) my (show gy ≠ gx by omega) (.int .i64 e1)
            have rx := rx.setNed (p := ⟨gx, 2, none⟩) hnxx (.int .i64 e1)
            have ry := ry.setNed (p := ⟨gx, 2, none⟩) hnyx (.int .i64 e1)
            have hB := hB.setCell (p := ⟨gx, 2, none⟩) hkgx (.int .i64 e1)
            obtain ⟨x0, x1, x2⟩ := box3_of ma
            obtain ⟨x3, x4, x5⟩ := box3_of mb
            refine hK.out _ _ ⟨x0, x1, x2, x3, x4, x5⟩ (fun _ => ?_)
            clear hK K x0 x1 x2 x3 x4 x5
            try simp only [Act.put, List.setIfInBounds_toArray, List.set_cons_zero, List.set_cons_succ]
            refine wpAnyH_ready (rs := [7]) (by kernel_rfl) (by simp) (AllReadyH.cons (o := ⟨_, _, _, _, _, _⟩) rfl (fun K hK => ?_) AllReadyH.nil)
            obtain ⟨t0, t1, t2⟩ := box3_of my
            have f0 := frozen_of 0 my
            have f1 := frozen_of 1 my
            have f2 := frozen_of 2 my
            go_simp
            clear t0 t1 t2 f0 f1 f2
            have my := set_blkd (v := .bool nb) (i := 0) my rfl
            have ma := set_other (i := 0) ma (show w.heap.size ≠ gy by omega) (.bool nb)
            have mb := set_other (i := 0) mb (show w.heap.size + 1 ≠ gy by omega) (.bool nb)
            have mx := set_other (i := 0) mx (show gx ≠ gy by omega) (.bool nb)
            have rx := rx.setNed (p := ⟨gy, 0, none⟩) hnxy (.bool nb)
            have ry := ry.setNed (p := ⟨gy, 0, none⟩) hnyy (.bool nb)
            have hB := hB.setCell (p := ⟨gy, 0, none⟩) hkgy (.bool nb)
            have my := set_blkd (v := .slice A2 n2 c2) (i := 1) my rfl
            have ma := set_other (i := 1) ma (show w.heap.size ≠ gy by omega) (.slice A2 n2 c2)
            have mb := set_other (i := 1) mb (show w.heap.size + 1 ≠ gy by omega) (.slice A2 n2 c2)
            have mx := set_other (i := 1) mx (show gx ≠ gy by omega) (.slice A2 n2 c2)
            have rx := rx.setNed (p := ⟨gy, 1, none⟩) hnxy (.slice A2 n2 c2)
            have ry := ry.setNed (p := ⟨gy, 1, none⟩) hnyy (.slice A2 n2 c2)
            have hB := hB.setCell (p := ⟨gy, 1, none⟩) hkgy (.slice A2 n2 c2)
            have my := set_blkd (v := .int .i64 e2) (i := 2) my rfl
            have ma := set_other (i := 2) ma (show w.heap.size ≠ gy by omega) (.int .i64 e2)
            have mb := set_other (i := 2) mb (show w.heap.size + 1 ≠ gy by omega) (.int .i64 e2)
            have mx := set_other (i := 2) mx (show gx ≠ gy by omega) (.int .i64 e2)
            have rx := rx.setNed (p := ⟨gy, 2, none⟩) hnxy (.int .i64 e2)
            have ry := ry.setNed (p := ⟨gy, 2, none⟩) hnyy (.int .i64 e2)
            have hB := hB.setCell (p := ⟨gy, 2, none⟩) hkgy (.int .i64 e2)
            obtain ⟨x0, x1, x2⟩ := box3_of ma
            obtain ⟨x3, x4, x5⟩ := box3_of mb
            refine hK.out _ _ ⟨x0, x1, x2, x3, x4, x5⟩ (fun _ => ?_)
            clear hK K x0 x1 x2 x3 x4 x5
            try simp only [Act.put, List.setIfInBounds_toArray, List.set_cons_zero, List.set_cons_succ]
            refine wpAnyH_done (by kernel_rfl) ?_ _
            go_wp2
            go_meet
            exact ⟨gx, gy, A1, n1, c1, ds, A2, n2, c2, es, rfl, rfl, hne, mx, my, hkgx, hkgy, rx, ry, d1, d2, v1, v2, l1, l2, hB⟩
        · go_simp
          obtain ⟨gy, hg⟩ : ∃ g, g = V2.heap.size := ⟨_, rfl⟩
          have ma := heldA (.cells #[.bool false, .slice none 0 0, .int .i64 0] 41) ma
          have mb := heldA (.cells #[.bool false, .slice none 0 0, .int .i64 0] 41) mb
          have my := World.alloc_heap_new V2 (.cells #[.bool false, .slice none 0 0, .int .i64 0] 41)
          rw [← hg] at my
          have rx := rx.below ((Below.refl V2.heap.size V2).alloc (Nat.le_refl _) (.cells #[.bool false, .slice none 0 0, .int .i64 0] 41)) (Nat.le_refl _)
          have ry := ry.below ((Below.refl V2.heap.size V2).alloc (Nat.le_refl _) (.cells #[.bool false, .slice none 0 0, .int .i64 0] 41)) (Nat.le_refl _)
          have hsz : (V2.alloc (.cells #[.bool false, .slice none 0 0, .int .i64 0] 41)).heap.size = V2.heap.size + 1 := by simp
          have hkgy : w2.heap.size ≤ gy := by have := hB.size; omega
          have hB := hB.alloc hB.size (.cells #[.bool false, .slice none 0 0, .int .i64 0] 41)
          have hW := hW.alloc hW.size (.cells #[.bool false, .slice none 0 0, .int .i64 0] 41)
          obtain ⟨x0, x1, x2⟩ := box3_of ma
          obtain ⟨x3, x4, x5⟩ := box3_of mb
          refine hK.out _ _ ⟨x0, x1, x2, x3, x4, x5⟩ (fun _ => ?_)
          clear hK K x0 x1 x2 x3 x4 x5
          try simp only [Act.put, List.setIfInBounds_toArray, List.set_cons_zero, List.set_cons_succ]
          try rw [← hg]
          generalize hU : V2.alloc (.cells #[.bool false, .slice none 0 0, .int .i64 0] 41) = V5 at *
          clear hU
          have hlgy : gy < V5.heap.size := by omega
          clear hg hsz
          have hBs0 : w2.heap.size ≤ V5.heap.size := hB.size
          refine wpAnyH_ready (rs := [4]) (by kernel_rfl) (by simp) ?_
          refine (AllReadyH.cons (o := ⟨_, _, _, _, _, _⟩) rfl (fun K hK => ?_) AllReadyH.nil)
          · go_simp
            obtain ⟨gx, hg⟩ : ∃ g, g = V5.heap.size := ⟨_, rfl⟩
            have ma := heldA (.cells #[.bool false, .slice none 0 0, .int .i64 0] 41) ma
            have mb := heldA (.cells #[.bool false, .slice none 0 0, .int .i64 0] 41) mb
            have my := heldA (.cells #[.bool false, .slice none 0 0, .int .i64 0] 41) my
            have mx := World.alloc_heap_new V5 (.cells #[.bool false, .slice none 0 0, .int .i64 0] 41)
            rw [← hg] at mx
            have rx := rx.below ((Below.refl V5.heap.size V5).alloc (Nat.le_refl _) (.cells #[.bool false, .slice none 0 0, .int .i64 0] 41)) (Nat.le_refl _)
            have ry := ry.below ((Below.refl V5.heap.size V5).alloc (Nat.le_refl _) (.cells #[.bool false, .slice none 0 0, .int .i64 0] 41)) (Nat.le_refl _)
            have hsz : (V5.alloc (.cells #[.bool false, .slice none 0 0, .int .i64 0] 41)).heap.size = V5.heap.size + 1 := by simp
            have hkgx : w2.heap.size ≤ gx := by have := hB.size; omega
            have hB := hB.alloc hB.size (.cells #[.bool false, .slice none 0 0, .int .i64 0] 41)
            have hW := hW.alloc hW.size (.cells #[.bool false, .slice none 0 0, .int .i64 0] 41)
            obtain ⟨x0, x1, x2⟩ := box3_of ma
            obtain ⟨x3, x4, x5⟩ := box3_of mb
            refine hK.out _ _ ⟨x0, x1, x2, x3, x4, x5⟩ (fun _ => ?_)
            clear hK K x0 x1 x2 x3 x4 x5
            try simp only [Act.put, List.setIfInBounds_toArray, List.set_cons_zero, List.set_cons_succ]
            try rw [← hg]
            generalize hU : V5.alloc (.cells #[.bool false, .slice none 0 0, .int .i64 0] 41) = V6 at *
            clear hU
            have hlgx : gx < V6.heap.size := by omega
            have hne : gx ≠ gy := by omega
            have hlgy : gy < V6.heap.size := by omega
            clear hg hsz
            have hBs0 : w2.heap.size ≤ V6.heap.size := hB.size
            have hnxx := rx.ne_boxd mx ty_ned
            have hnxy := rx.ne_boxd my ty_ned
            have hnyx := ry.ne_boxd mx ty_ned
            have hnyy := ry.ne_boxd my ty_ned
            refine wpAnyH_ready (rs := [6]) (by kernel_rfl) (by simp) (AllReadyH.cons (o := ⟨_, _, _, _, _, _⟩) rfl (fun K hK => ?_) AllReadyH.nil)
            obtain ⟨t0, t1, t2⟩ := box3_of mx
            have f0 := frozen_of 0 mx
            have f1 := frozen_of 1 mx
            have f2 := frozen_of 2 mx
            go_simp
            clear t0 t1 t2 f0 f1 f2
            have mx := set_blkd (v := .bool na) (i := 0) mx rfl
            have ma := set_other (i := 0) ma (show w.heap.size ≠ gx by omega) (.bool na)
            have mb := set_other (i := 0) mb (show w.heap.size + 1 ≠ gx by omega) (.bool na)
            have my := set_other (i := 0) my (show gy ≠ gx by omega) (.bool na)
            have rx := rx.setNed (p := ⟨gx, 0, none⟩) hnxx (.bool na)
            have ry := ry.setNed (p := ⟨gx, 0, none⟩) hnyx (.bool na)
            have hB := hB.setCell (p := ⟨gx, 0, none⟩) hkgx (.bool na)
            have mx := set_blkd (v := .slice A1 n1 c1) (i := 1) mx rfl
            have ma := set_other (i := 1) ma (show w.heap.size ≠ gx by omega) (.slice A1 n1 c1)
            have mb := set_other (i := 1) mb (show w.heap.size + 1 ≠ gx by omega) (.slice A1 n1 c1)
            have my := set_other (i := 1) my (show gy ≠ gx by omega) (.slice A1 n1 c1)
            have rx := rx.setNed (p := ⟨gx, 1, none⟩) hnxx (.slice A1 n1 c1)
            have ry := ry.setNed (p := ⟨gx, 1, none⟩) hnyx (.slice A1 n1 c1)
            have hB := hB.setCell (p := ⟨gx, 1, none⟩) hkgx (.slice A1 n1 c1)
            have mx := set_blkd (v := .int .i64 e1) (i := 2) mx rfl
            have ma := set_other (i := 2) ma (show w.heap.size ≠ gx by omega) (.int .i64 e1)
            have mb := set_other (i := 2) mb (show w.heap.size + 1 ≠ gx by omega) (.int .i64 e1)
            have my := set_other (i := 2) my (show gy ≠ gx by omega) (.int .i64 e1)
            have rx := rx.setNed (p := ⟨gx, 2, none⟩) hnxx (.int .i64 e1)
            have ry := ry.setNed (p := ⟨gx, 2, none⟩) hnyx (.int .i64 e1)
            have hB := hB.setCell (p := ⟨gx, 2, none⟩) hkgx (.int .i64 e1)
            obtain ⟨x0, x1, x2⟩ := box3_of ma
            obtain ⟨x3, x4, x5⟩ := box3_of mb
            refine hK.out _ _ ⟨x0, x1, x2, x3, x4, x5⟩ (fun _ => ?_)
            clear hK K x0 x1 x2 x3 x4 x5
            try simp only [Act.put, List.setIfInBounds_toArray, List.set_cons_zero, List.set_cons_succ]
            refine wpAnyH_ready (rs := [7]) (by kernel_rfl) (by simp) (AllReadyH.cons (o := ⟨_, _, _, _, _, _⟩) rfl (fun K hK => ?_) AllReadyH.nil)
            obtain ⟨t0, t1, t2⟩ := box3_of my
            have f0 := frozen_of 0 my
            have f1 := frozen_of 1 my
            have f2 := frozen_of 2 my
            go_simp
            clear t0 t1 t2 f0 f1 f2
            have my := set_blkd (v := .bool nb) (i := 0) my rfl
            have ma := set_other (i := 0) ma (show w.heap.size ≠ gy by omega) (.bool nb)
            have mb := set_other (i := 0) mb (show w.heap.size + 1 ≠ gy by omega) (.bool nb)
            have mx := set_other (i := 0) mx (show gx ≠ gy by omega) (.bool nb)
            have rx := rx.setNed (p := ⟨gy, 0, none⟩) hnxy (.bool nb)
            have ry := ry.setNed (p := ⟨gy, 0, none⟩) hnyy (.bool nb)
            have hB := hB.setCell (p := ⟨gy, 0, none⟩) hkgy (.bool nb)
            have my := set_blkd (v := .slice A2 n2 c2) (i := 1) my rfl
            have ma := set_other (i := 1) ma (show w.heap.size ≠ gy by omega) (.slice A2 n2 c2)
            have mb := set_other (i := 1) mb (show w.heap.size + 1 ≠ gy by omega) (.slice A2 n2 c2)
            have mx := set_other (i := 1) mx (show gx ≠ gy by omega) (.slice A2 n2 c2)
            have rx := rx.setNed (p := ⟨gy, 1, none⟩) hnxy (.slice A2 n2 c2)
            have ry := ry.setNed (p := ⟨gy, 1, none⟩) hnyy (.slice A2 n2 c2)
            have hB := hB.setCell (p := ⟨gy, 1, none⟩) hkgy (.slice A2 n2 c2)
            have my := set_blkd (v := .int .i64 e2) (i := 2) my rfl
            have ma := set_other (i := 2) ma (show w.heap.size ≠ gy by omega) (.int .i64 e2)
            have mb := set_other (i := 2) mb (show w.heap.size + 1 ≠ gy by omega) (.int .i64 e2)
            have mx := set_other (i := 2) mx (show gx ≠ gy by omega) (.int .i64 e2)
            have rx := rx.setNed (p := ⟨gy, 2, none⟩) hnxy (.int .i64 e2)
            have ry := ry.setNed (p := ⟨gy, 2, none⟩) hnyy (.int .i64 e2)
            have hB := hB.setCell (p := ⟨gy, 2, none⟩) hkgy (.int .i64 e2)
            obtain ⟨x0, x1, x2⟩ := box3_of ma
            obtain ⟨x3, x4, x5⟩ := box3_of mb
            refine hK.out _ _ ⟨x0, x1, x2, x3, x4, x5⟩ (fun _ => ?_)
            clear hK K x0 x1 x2 x3 x4 x5
            try simp only [Act.put, List.setIfInBounds_toArray, List.set_cons_zero, List.set_cons_succ]
            refine wpAnyH_done (by kernel_rfl) ?_ _
            go_wp2
            go_meet
            exact ⟨gx, gy, A1, n1, c1, ds, A2, n2, c2, es, rfl, rfl, hne, mx, my, hkgx, hkgy, rx, ry, d1, d2, v1, v2, l1, l2, hB⟩
      · go_simp
        obtain ⟨gx, hg⟩ : ∃ g, g = V1.heap.size := ⟨_, rfl⟩
        have ma := heldA (.cells #[.bool false, .slice none 0 0, .int .i64 0] 41) ma
        have mb := heldA (.cells #[.bool false, .slice none 0 0, .int .i64 0] 41) mb
        have mx := World.alloc_heap_new V1 (.cells #[.bool false, .slice none 0 0, .int .i64 0] 41)
        rw [← hg] at mx
        have rx := rx.below ((Below.refl V1.heap.size V1).alloc (Nat.le_refl _) (.cells #[.bool false, .slice none 0 0, .int .i64 0] 41)) (Nat.le_refl _)
        have hsz : (V1.alloc (.cells #[.bool false, .slice none 0 0, .int .i64 0] 41)).heap.size = V1.heap.size + 1 := by simp
        have hkgx : w2.heap.size ≤ gx := by have := hB.size; omega
        have hB := hB.alloc hB.size (.cells #[.bool false, .slice none 0 0, .int .i64 0] 41)
        have hW := hW.alloc hW.size (.cells #[.bool false, .slice none 0 0, .int .i64 0] 41)
        obtain ⟨x0, x1, x2⟩ := box3_of ma
        obtain ⟨x3, x4, x5⟩ := box3_of mb
        refine hK.out _ _ ⟨x0, x1, x2, x3, x4, x5⟩ (fun _ => ?_)
        clear hK K x0 x1 x2 x3 x4 x5
        try simp only [Act.put, List.setIfInBounds_toArray, List.set_cons_zero, List.set_cons_succ]
        try rw [← hg]
        generalize hU : V1.alloc (.cells #[.bool false, .slice none 0 0, .int .i64 0] 41) = V7 at *
        clear hU
        have hlgx : gx < V7.heap.size := by omega
        clear hg hsz
        have hBs0 : w2.heap.size ≤ V7.heap.size := hB.size
        refine wpAnyH_ready (rs := [3, 5]) (by kernel_rfl) (by simp) ?_
        refine (AllReadyH.cons (o := ⟨_, _, _, _, _, _⟩) rfl (fun K hK => ?_) (AllReadyH.cons (o := ⟨_, _, _, _, _, _⟩) rfl (fun K hK => ?_) AllReadyH.nil))
        · go_simp
          refine (OF2.out V7 (hb.below hW hS) (fun b h => up2 hW b h)).mono ?_
          rintro e V8 ⟨A2, n2, c2, es, rfl, ry, d2, v2, l2, hb0⟩
          have ma := heldz hb0 ma
          have mb := heldz hb0 mb
          have mx := heldz hb0 mx
          have rx := rx.below hb0 (Nat.le_refl _)
          have hB := hB.trans (hb0.mono hB.size)
          have hW := hW.trans (hb0.mono hW.size)
          have ry := ry.more (base' := w2.heap.size) hBs0
          (try dsimp only)
          obtain ⟨x0, x1, x2⟩ := box3_of ma
          obtain ⟨x3, x4, x5⟩ := box3_of mb
          refine hK.out _ _ ⟨x0, x1, x2, x3, x4, x5⟩ (fun _ => ?_)
          clear hK K x0 x1 x2 x3 x4 x5
          try simp only [Act.put, List.setIfInBounds_toArray, List.set_cons_zero, List.set_cons_succ]
          have hlgx : gx < V8.heap.size := Nat.lt_of_lt_of_le hlgx hb0.size
          clear hb0
          have hBs0 : w2.heap.size ≤ V8.heap.size := hB.size
          refine wpAnyH_ready (rs := [5]) (by kernel_rfl) (by simp) ?_
          refine (AllReadyH.cons (o := ⟨_, _, _, _, _, _⟩) rfl (fun K hK => ?_) AllReadyH.nil)
          · go_simp
            obtain ⟨gy, hg⟩ : ∃ g, g = V8.heap.size := ⟨_, rfl⟩
            have ma := heldA (.cells #[.bool false, .slice none 0 0, .int .i64 0] 41) ma
            have mb := heldA (.cells #[.bool false, .slice none 0 0, .int .i64 0] 41) mb
            have mx := heldA (.cells #[.bool false, .slice none 0 0, .int .i64 0] 41) mx
            have my := World.alloc_heap_new V8 (.cells #[.bool false, .slice none 0 0, .int .i64 0] 41)
            rw [← hg] at my
            have rx := rx.below ((Below.refl V8.heap.size V8).alloc (Nat.le_refl _) (.cells #[.bool false, .slice none 0 0, .int .i64 0] 41)) (Nat.le_refl _)
            have ry := ry.below ((Below.refl V8.heap.size V8).alloc (Nat.le_refl _) (.cells #[.bool false, .slice none 0 0, .int .i64 0] 41)) (Nat.le_refl _)
            have hsz : (V8.alloc (.cells #[.bool false, .slice none 0 0, .int .i64 0] 41)).heap.size = V8.heap.size + 1 := by simp
            have hkgy : w2.heap.size ≤ gy := by have := hB.size; omega
            have hB := hB.alloc hB.size (.cells #[.bool false, .slice none 0 0, .int .i64 0] 41)
            have hW := hW.alloc hW.size (.cells #[.bool false, .slice none 0 0, .int .i64 0] 41)
            obtain ⟨x0, x1, x2⟩ := box3_of ma
            obtain ⟨x3, x4, x5⟩ := box3_of mb
            refine hK.out _ _ ⟨x0, x1, x2, x3, x4, x5⟩ (fun _ => ?_)
            clear hK K x0 x1 x2 x3 x4 x5
            try simp only [Act.put, List.setIfInBounds_toArray, List.set_cons_zero, List.set_cons_succ]
            try rw [← hg]
            generalize hU : V8.alloc (.cells #[.bool false, .slice none 0 0, .int .i64 0] 41) = V9 at *
            clear hU
            have hlgy : gy < V9.heap.size := by omega
            have hne : gx ≠ gy := by omega
            have hlgx : gx < V9.heap.size := by omega
            clear hg hsz
            have hBs0 : w2.heap.size ≤ V9.heap.size := hB.size
            have hnxx := rx.ne_boxd mx ty_ned
            have hnxy := rx.ne_boxd my ty_ned
            have hnyx := ry.ne_boxd mx ty_ned
            have hnyy := ry.ne_boxd my ty_ned
            refine wpAnyH_ready (rs := [6]) (by kernel_rfl) (by simp) (AllReadyH.cons (o := ⟨_, _, _, _, _, _⟩) rfl (fun K hK => ?_) AllReadyH.nil)
            obtain ⟨t0, t1, t2⟩ := box3_of mx
            have f0 := frozen_of 0 mx
            have f1 := frozen_of 1 mx
            have f2 := frozen_of 2 mx
            go_simp
            clear t0 t1 t2 f0 f1 f2
            have mx := set_blkd (v := .bool na) (i := 0) mx rfl
            have ma := set_other (i := 0) ma (show w.heap.size ≠ gx by omega) (.bool na)
            have mb := set_other (i := 0) mb (show w.heap.size + 1 ≠ gx by omega) (.bool na)
            have my := set_other (i := 0) my (show gy ≠ gx by omega) (.bool na)
            have rx := rx.setNed (p := ⟨gx, 0, none⟩) hnxx (.bool na)
            have ry := ry.setNed (p := ⟨gx, 0, none⟩) hnyx (.bool na)
            have hB := hB.setCell (p := ⟨gx, 0, none⟩) hkgx (.bool na)
            have mx := set_blkd (v := .slice A1 n1 c1) (i := 1) mx rfl
            have ma := set_other (i := 1) ma (show w.heap.size ≠ gx by omega) (.slice A1 n1 c1)
            have mb := set_other (i := 1) mb (show w.heap.size + 1 ≠ gx by omega) (.slice A1 n1 c1)
            have my := set_other (i := 1) my (show gy ≠ gx by omega) (.slice A1 n1 c1)
            have rx := rx.setNed (p := ⟨gx, 1, none⟩) hnxx (.slice A1 n1 c1)
            have ry := ry.setNed (p := ⟨gx, 1, none⟩) hnyx (.slice A1 n1 c1)
            have hB := hB.setCell (p := ⟨gx, 1, none⟩) hkgx (.slice A1 n1 c1)
            have mx := set_blkd (v := .int .i64 e1) (i := 2) mx rfl
            have ma := set_other (i := 2) ma (show w.heap.size ≠ gx by omega) (.int .i64 e1)
            have mb := set_other (i := 2) mb (show w.heap.size + 1 ≠ gx by omega) (.int .i64 e1)
            have my := set_other (i := 2) my (show gy ≠ gx by omega) (.int .i64 e1)
            have rx := rx.setNed (p := ⟨gx, 2, none⟩) hnxx (.int .i64 e1)
            have ry := ry.setNed (p := ⟨gx, 2, none⟩) hnyx (.int .i64 e1)
            have hB := hB.setCell (p := ⟨gx, 2, none⟩) hkgx (.int .i64 e1)
            obtain ⟨x0, x1, x2⟩ := box3_of ma
            obtain ⟨x3, x4, x5⟩ := box3_of mb
            refine hK.out _ _ ⟨x0, x1, x2, x3, x4, x5⟩ (fun _ => ?_)
            clear hK K x0 x1 x2 x3 x4 x5
            try simp only [Act.put, List.setIfInBounds_toArray, List.set_cons_zero, List.set_cons_succ]
            refine wpAnyH_ready (rs := [7]) (by kernel_rfl) (by simp) (AllReadyH.cons (o := ⟨_, _, _, _, _, _⟩) rfl (fun K hK => ?_) AllReadyH.nil)
            obtain ⟨t0, t1, t2⟩ := box3_of my
            have f0 := frozen_of 0 my
            have f1 := frozen_of 1 my
            have f2 := frozen_of 2 my
            go_simp
            clear t0 t1 t2 f0 f1 f2
            have my := set_blkd (v := .bool nb) (i := 0) my rfl
            have ma := set_other (i := 0) ma (show w.heap.size ≠ gy by omega) (.bool nb)
            have mb := set_other (i := 0) mb (show w.heap.size + 1 ≠ gy by omega) (.bool nb)
            have mx := set_other (i := 0) mx (show gx ≠ gy by omega) (.bool nb)
            have rx := rx.setNed (p := ⟨gy, 0, none⟩) hnxy (.bool nb)
            have ry := ry.setNed (p := ⟨gy, 0, none⟩) hnyy (.bool nb)
            have hB := hB.setCell (p := ⟨gy, 0, none⟩) hkgy (.bool nb)
            have my := set_blkd (v := .slice A2 n2 c2) (i := 1) my rfl
            have ma := set_other (i := 1) ma (show w.heap.size ≠ gy by omega) (.slice A2 n2 c2)
            have mb := set_other (i := 1) mb (show w.heap.size + 1 ≠ gy by omega) (.slice A2 n2 c2)
            have mx := set_other (i := 1) mx (show gx ≠ gy by omega) (.slice A2 n2 c2)
            have rx := rx.setNed (p := ⟨gy, 1, none⟩) hnxy (.slice A2 n2 c2)
            have ry := ry.setNed (p := ⟨gy, 1, none⟩) hnyy (.slice A2 n2 c2)
            have hB := hB.setCell (p := ⟨gy, 1, none⟩) hkgy (.slice A2 n2 c2)
            have my := set_blkd (v := .int .i64 e2) (i := 2) my rfl
            have ma := set_other (i := 2) ma (show w.heap.size ≠ gy by omega) (.int .i64 e2)
            have mb := set_other (i := 2) mb (show w.heap.size + 1 ≠ gy by omega) (.int .i64 e2)
            have mx := set_other (i := 2) mx (show gx ≠ gy by omega) (.int .i64 e2)
            have rx := rx.setNed (p := ⟨gy, 2, none⟩) hnxy (.int .i64 e2)
            have ry := ry.setNed (p := ⟨gy, 2, none⟩) hnyy (.int .i64 e2)
            have hB := hB.setCell (p := ⟨gy, 2, none⟩) hkgy (.int .i64 e2)
            obtain ⟨x0, x1, x2⟩ := box3_of ma
            obtain ⟨x3, x4, x5⟩ := box3_of mb
            refine hK.out _ _ ⟨x0, x1, x2, x3, x4, x5⟩ (fun _ => ?_)
            clear hK K x0 x1 x2 x3 x4 x5
            try simp only [Act.put, List.setIfInBounds_toArray, List.set_cons_zero, List.set_cons_succ]
            refine wpAnyH_done (by kernel_rfl) ?_ _
            go_wp2
            go_meet
            exact ⟨gx, gy, A1, n1, c1, ds, A2, n2, c2, es, rfl, rfl, hne, mx, my, hkgx, hkgy, rx, ry, d1, d2, v1, v2, l1, l2, hB⟩
        · go_simp
          obtain ⟨gy, hg⟩ : ∃ g, g = V7.heap.size := ⟨_, rfl⟩
          have ma := heldA (.cells #[.bool false, .slice none 0 0, .int .i64 0] 41) ma
          have mb := heldA (.cells #[.bool false, .slice none 0 0, .int .i64 0] 41) mb
          have mx := heldA (.cells #[.bool false, .slice none 0 0, .int .i64 0] 41) mx
          have my := World.alloc_heap_new V7 (.cells #[.bool false, .slice none 0 0, .int .i64 0] 41)
          rw [← hg] at my
          have rx := rx.below ((Below.refl V7.heap.size V7).alloc (Nat.le_refl _) (.cells #[.bool false, .slice none 0 0, .int .i64 0] 41)) (Nat.le_refl _)
          have hsz : (V7.alloc (.cells #[.bool false, .slice none 0 0, .int .i64 0] 41)).heap.size = V7.heap.size + 1 := by simp
          have hkgy : w2.heap.size ≤ gy := by have := hB.size; omega
          have hB := hB.alloc hB.size (.cells #[.bool false, .slice none 0 0, .int .i64 0] 41)
          have hW := hW.alloc hW.size (.cells #[.bool false, .slice none 0 0, .int .i64 0] 41)
          obtain ⟨x0, x1, x2⟩ := box3_of ma
          obtain ⟨x3, x4, x5⟩ := box3_of mb
          refine hK.out _ _ ⟨x0, x1, x2, x3, x4, x5⟩ (fun _ => ?_)
          clear hK K x0 x1 x2 x3 x4 x5
          try simp only [Act.put, List.setIfInBounds_toArray, List.set_cons_zero, List.set_cons_succ]
          try rw [← hg]
          generalize hU : V7.alloc (.cells #[.bool false, .slice none 0 0, .int .i64 0] 41) = V10 at *
          clear hU
          have hlgy : gy < V10.heap.size := by omega
          have hne : gx ≠ gy := by omega
          have hlgx : gx < V10.heap.size := by omega
          clear hg hsz
          have hBs0 : w2.heap.size ≤ V10.heap.size := hB.size
          refine wpAnyH_ready (rs := [3]) (by kernel_rfl) (by simp) ?_
          refine (AllReadyH.cons (o := ⟨_, _, _, _, _, _⟩) rfl (fun K hK => ?_) AllReadyH.nil)
          · go_simp
            refine (OF2.out V10 (hb.below hW hS) (fun b h => up2 hW b h)).mono ?_
            rintro e V11 ⟨A2, n2, c2, es, rfl, ry, d2, v2, l2, hb0⟩
            have ma := heldz hb0 ma
            have mb := heldz hb0 mb
            have mx := heldz hb0 mx
            have my := heldz hb0 my
            have rx := rx.below hb0 (Nat.le_refl _)
            have hB := hB.trans (hb0.mono hB.size)
            have hW := hW.trans (hb0.mono hW.size)
            have ry := ry.more (base' := w2.heap.size) hBs0
            (try dsimp only)
            obtain ⟨x0, x1, x2⟩ := box3_of ma
            obtain ⟨x3, x4, x5⟩ := box3_of mb
            refine hK.out _ _ ⟨x0, x1, x2, x3, x4, x5⟩ (fun _ => ?_)
            clear hK K x0 x1 x2 x3 x4 x5
            try simp only [Act.put, List.setIfInBounds_toArray, List.set_cons_zero, List.set_cons_succ]
            have hlgx : gx < V11.heap.size := Nat.lt_of_lt_of_le hlgx hb0.size
            have hlgy : gy < V11.heap.size := Nat.lt_of_lt_of_le hlgy hb0.size
            clear hb0
            have hBs0 : w2.heap.size ≤ V11.heap.size := hB.size
            have hnxx := rx.ne_boxd mx ty_ned
            have hnxy := rx.ne_boxd my ty_ned
            have hnyx := ry.ne_boxd mx ty_ned
            have hnyy := ry.ne_boxd my ty_ned
            refine wpAnyH_ready (rs := [6]) (by kernel_rfl) (by simp) (AllReadyH.cons (o := ⟨_, _, _, _, _, _⟩) rfl (fun K hK => ?_) AllReadyH.nil)
            obtain ⟨t0, t1, t2⟩ := box3_of mx
            have f0 := frozen_of 0 mx
            have f1 := frozen_of 1 mx
            have f2 := frozen_of 2 mx
            go_simp
            clear t0 t1 t2 f0 f1 f2
            have mx := set_blkd (v := .bool na) (i := 0) mx rfl
            have ma := set_other (i := 0) ma (show w.heap.size ≠ gx by omega) (.bool na)
            have mb := set_other (i := 0) mb (show w.heap.size + 1 ≠ gx by omega) (.bool na)
            have my := set_other (i := 0) my (show gy ≠ gx by omega) (.bool na)
            have rx := rx.setNed (p := ⟨gx, 0, none⟩) hnxx (.bool na)
            have ry := ry.setNed (p := ⟨gx, 0, none⟩) hnyx (.bool na)
            have hB := hB.setCell (p := ⟨gx, 0, none⟩) hkgx (.bool na)
            have mx := set_blkd (v := .slice A1 n1 c1) (i := 1) mx rfl
            have ma := set_other (i := 1) ma (show w.heap.size ≠ gx by omega) (.slice A1 n1 c1)
            have mb := set_other (i := 1) mb (show w.heap.size + 1 ≠ gx by omega) (.slice A1 n1 c1)
            have my := set_other (i := 1) my (show gy ≠ gx by omega) (.slice A1 n1 c1)
            have rx := rx.setNed (p := ⟨gx, 1, none⟩) hnxx (.slice A1 n1 c1)
            have ry := ry.setNed (p := ⟨gx, 1, none⟩) hnyx (.slice A1 n1 c1)
            have hB := hB.setCell (p := ⟨gx, 1, none⟩) hkgx (.slice A1 n1 c1)
            have mx := set_blkd (v := .int .i64 e1) (i := 2) mx rfl
            have ma := set_other (i := 2) ma (show w.heap.size ≠ gx by omega) (.int .i64 e1)
            have mb := set_other (i := 2) mb (show w.heap.size + 1 ≠ gx by omega) (.int .i64 e1)
            have my := set_other (i := 2) my (show gy ≠ gx by omega) (.int .i64 e1)
            have rx := rx.setNed (p := ⟨gx, 2, none⟩) hnxx (.int .i64 e1)
            have ry := ry.setNed (p := ⟨gx, 2, none⟩) hnyx (.int .i64 e1)
            have hB := hB.setCell (p := ⟨gx, 2, none⟩) hkgx (.int .i64 e1)
            obtain ⟨x0, x1, x2⟩ := box3_of ma
            obtain ⟨x3, x4, x5⟩ := box3_of mb
            refine hK.out _ _ ⟨x0, x1, x2, x3, x4, x5⟩ (fun _ => ?_)
            clear hK K x0 x1 x2 x3 x4 x5
            try simp only [Act.put, List.setIfInBounds_toArray, List.set_cons_zero, List.set_cons_succ]
            refine wpAnyH_ready (rs := [7]) (by kernel_rfl) (by simp) (AllReadyH.cons (o := ⟨_, _, _, _, _, _⟩) rfl (fun K hK => ?_) AllReadyH.nil)
            obtain ⟨t0, t1, t2⟩ := box3_of my
            have f0 := frozen_of 0 my
            have f1 := frozen_of 1 my
            have f2 := frozen_of 2 my
            go_simp
            clear t0 t1 t2 f0 f1 f2
            have my := set_blkd (v := .bool nb) (i := 0) my rfl
            have ma := set_other (i := 0) ma (show w.heap.size ≠ gy by omega) (.bool nb)
            have mb := set_other (i := 0) mb (show w.heap.size + 1 ≠ gy by omega) (.bool nb)
            have mx := set_other (i := 0) mx (show gx ≠ gy by omega) (.bool nb)
            have rx := rx.setNed (p := ⟨gy, 0, none⟩) hnxy (.bool nb)
            have ry := ry.setNed (p := ⟨gy, 0, none⟩) hnyy (.bool nb)
            have hB := hB.setCell (p := ⟨gy, 0, none⟩) hkgy (.bool nb)
            have my := set_blkd (v := .slice A2 n2 c2) (i := 1) my rfl
            have ma := set_other (i := 1) ma (show w.heap.size ≠ gy by omega) (.slice A2 n2 c2)
            have mb := set_other (i := 1) mb (show w.heap.size + 1 ≠ gy by omega) (.slice A2 n2 c2)
            have mx := set_other (i := 1) mx (show gx ≠ gy by omega) (.slice A2 n2 c2)
            have rx := rx.setNed (p := ⟨gy, 1, none⟩) hnxy (.slice A2 n2 c2)
            have ry := ry.setNed (p := ⟨gy, 1, none⟩) hnyy (.slice A2 n2 c2)
            have hB := hB.setCell (p := ⟨gy, 1, none⟩) hkgy (.slice A2 n2 c2)
            have my := set_blkd (v := .int .i64 e2) (i := 2) my rfl
            have ma := set_other (i := 2) ma (show w.heap.size ≠ gy by omega) (.int .i64 e2)
            have mb := set_other (i := 2) mb (show w.heap.size + 1 ≠ gy by omega) (.int .i64 e2)
            have mx := set_other (i := 2) mx (show gx ≠ gy by omega) (.int .i64 e2)
            have rx := rx.setNed (p := ⟨gy, 2, none⟩) hnxy (.int .i64 e2)
            have ry := ry.setNed (p := ⟨gy, 2, none⟩) hnyy (.int .i64 e2)
            have hB := hB.setCell (p := ⟨gy, 2, none⟩) hkgy (.int .i64 e2)
            obtain ⟨x0, x1, x2⟩ := box3_of ma
            obtain ⟨x3, x4, x5⟩ := box3_of mb
            refine hK.out _ _ ⟨x0, x1, x2, x3, x4, x5⟩ (fun _ => ?_)
            clear hK K x0 x1 x2 x3 x4 x5
            try simp only [Act.put, List.setIfInBounds_toArray, List.set_cons_zero, List.set_cons_succ]
            refine wpAnyH_done (by kernel_rfl) ?_ _
            go_wp2
            go_meet
            exact ⟨gx, gy, A1, n1, c1, ds, A2, n2, c2, es, rfl, rfl, hne, mx, my, hkgx, hkgy, rx, ry, d1, d2, v1, v2, l1, l2, hB⟩
      · go_simp
        obtain ⟨gy, hg⟩ : ∃ g, g = V1.heap.size := ⟨_, rfl⟩
        have ma := heldA (.cells #[.bool false, .slice none 0 0, .int .i64 0] 41) ma
        have mb := heldA (.cells #[.bool false, .slice none 0 0, .int .i64 0] 41) mb
        have my := World.alloc_heap_new V1 (.cells #[.bool false, .slice none 0 0, .int .i64 0] 41)
        rw [← hg] at my
        have rx := rx.below ((Below.refl V1.heap.size V1).alloc (Nat.le_refl _) (.cells #[.bool false, .slice none 0 0, .int .i64 0] 41)) (Nat.le_refl _)
        have hsz : (V1.alloc (.cells #[.bool false, .slice none 0 0, .int .i64 0] 41)).heap.size = V1.heap.size + 1 := by simp
        have hkgy : w2.heap.size ≤ gy := by have := hB.size; omega
        have hB := hB.alloc hB.size (.cells #[.bool false, .slice none 0 0, .int .i64 0] 41)
        have hW := hW.alloc hW.size (.cells #[.bool false, .slice none 0 0, .int .i64 0] 41)
        obtain ⟨x0, x1, x2⟩ := box3_of ma
        obtain ⟨x3, x4, x5⟩ := box3_of mb
        refine hK.out _ _ ⟨x0, x1, x2, x3, x4, x5⟩ (fun _ => ?_)
        clear hK K x0 x1 x2 x3 x4 x5
        try simp only [Act.put, List.setIfInBounds_toArray, List.set_cons_zero, List.set_cons_succ]
        try rw [← hg]
        generalize hU : V1.alloc (.cells #[.bool false, .slice none 0 0, .int .i64 0] 41) = V12 at *
        clear hU
        have hlgy : gy < V12.heap.size := by omega
        clear hg hsz
        have hBs0 : w2.heap.size ≤ V12.heap.size := hB.size
        refine wpAnyH_ready (rs := [3, 4]) (by kernel_rfl) (by simp) ?_
        refine (AllReadyH.cons (o := ⟨_, _, _, _, _, _⟩) rfl (fun K hK => ?_) (AllReadyH.cons (o := ⟨_, _, _, _, _, _⟩) rfl (fun K hK => ?_) AllReadyH.nil))
        · go_simp
          refine (OF2.out V12 (hb.below hW hS) (fun b h => up2 hW b h)).mono ?_
          rintro e V13 ⟨A2, n2, c2, es, rfl, ry, d2, v2, l2, hb0⟩
          have ma := heldz hb0 ma
          have mb := heldz hb0 mb
          have my := heldz hb0 my
          have rx := rx.below hb0 (Nat.le_refl _)
          have hB := hB.trans (hb0.mono hB.size)
          have hW := hW.trans (hb0.mono hW.size)
          have ry := ry.more (base' := w2.heap.size) hBs0
          (try dsimp only)
          obtain ⟨x0, x1, x2⟩ := box3_of ma
          obtain ⟨x3, x4, x5⟩ := box3_of mb
          refine hK.out _ _ ⟨x0, x1, x2, x3, x4, x5⟩ (fun _ => ?_)
          clear hK K x0 x1 x2 x3 x4 x5
          try simp only [Act.put, List.setIfInBounds_toArray, List.set_cons_zero, List.set_cons_succ]
          have hlgy : gy < V13.heap.size := Nat.lt_of_lt_of_le hlgy hb0.size
          clear hb0
          have hBs0 : w2.heap.size ≤ V13.heap.size := hB.size
          refine wpAnyH_ready (rs := [4]) (by kernel_rfl) (by simp) ?_
          refine (AllReadyH.cons (o := ⟨_, _, _, _, _, _⟩) rfl (fun K hK => ?_) AllReadyH.nil)
          · go_simp
            obtain ⟨gx, hg⟩ : ∃ g, g = V13.heap.size := ⟨_, rfl⟩
            have ma := heldA (.cells #[.bool false, .slice none 0 0, .int .i64 0] 41) ma
            have mb := heldA (.cells #[.bool false, .slice none 0 0, .int .i64 0] 41) mb
            have my := heldA (.cells #[.bool false, .slice none 0 0, .int .i64 0] 41) my
            have mx := World.alloc_heap_new V13 (.cells #[.bool false, .slice none 0 0, .int .i64 0] 41)
            rw [← hg] at mx
            have rx := rx.below ((Below.refl V13.heap.size V13).alloc (Nat.le_refl _) (.cells #[.bool false, .slice none 0 0, .int .i64 0] 41)) (Nat.le_refl _)
            have ry := ry.below ((Below.refl V13.heap.size V13).alloc (Nat.le_refl _) (.cells #[.bool false, .slice none 0 0, .int .i64 0] 41)) (Nat.le_refl _)
            have hsz : (V13.alloc (.cells #[.bool false, .slice none 0 0, .int .i64 0] 41)).heap.size = V13.heap.size + 1 := by simp
            have hkgx : w2.heap.size ≤ gx := by have := hB.size; omega
            have hB := hB.alloc hB.size (.cells #[.bool false, .slice none 0 0, .int .i64 0] 41)
            have hW := hW.alloc hW.size (.cells #[.bool false, .slice none 0 0, .int .i64 0] 41)
            obtain ⟨x0, x1, x2⟩ := box3_of ma
            obtain ⟨x3, x4, x5⟩ := box3_of mb
            refine hK.out _ _ ⟨x0, x1, x2, x3, x4, x5⟩ (fun _ => ?_)
            clear hK K x0 x1 x2 x3 x4 x5
            try simp only [Act.put, List.setIfInBounds_toArray, List.set_cons_zero, List.set_cons_succ]
            try rw [← hg]
            generalize hU : V13.alloc (.cells #[.bool false, .slice none 0 0, .int .i64 0] 41) = V14 at *
            clear hU
            have hlgx : gx < V14.heap.size := by omega
            have hne : gx ≠ gy := by omega
            have hlgy : gy < V14.heap.size := by omega
            clear hg hsz
            have hBs0 : w2.heap.size ≤ V14.heap.size := hB.size
            have hnxx := rx.ne_boxd mx ty_ned
            have hnxy := rx.ne_boxd my ty_ned
            have hnyx := ry.ne_boxd mx ty_ned
            have hnyy := ry.ne_boxd my ty_ned
            refine wpAnyH_ready (rs := [6]) (by kernel_rfl) (by simp) (AllReadyH.cons (o := ⟨_, _, _, _, _, _⟩) rfl (fun K hK => ?_) AllReadyH.nil)
            obtain ⟨t0, t1, t2⟩ := box3_of mx
            have f0 := frozen_of 0 mx
            have f1 := frozen_of 1 mx
            have f2 := frozen_of 2 mx
            go_simp
            clear t0 t1 t2 f0 f1 f2
            have mx := set_blkd (v := .bool na) (i := 0) mx rfl
            have ma := set_other (i := 0) ma (show w.heap.size ≠ gx by omega) (.bool na)
            have mb := set_other (i := 0) mb (show w.heap.size + 1 ≠ gx by omega) (.bool na)
            have my := set_other (i := 0) my (show gy ≠ gx by omega) (.bool na)
            have rx := rx.setNed (p := ⟨gx, 0, none⟩) hnxx (.bool na)
            have ry := ry.setNed (p := ⟨gx, 0, none⟩) hnyx (.bool na)
            have hB := hB.setCell (p := ⟨gx, 0, none⟩) hkgx (.bool na)
            have mx := set_blkd (v := .slice A1 n1 c1) (i := 1) mx rfl
            have ma := set_other (i := 1) ma (show w.heap.size ≠ gx by omega) (.slice A1 n1 c1)
            have mb := set_other (i := 1) mb (show w.heap.size + 1 ≠ gx by omega) (.slice A1 n1 c1)
            have my := set_other (i := 1) my (show gy ≠ gx by omega) (.slice A1 n1 c1)
            have rx := rx.setNed (p := ⟨gx, 1, none⟩) hnxx (.slice A1 n1 c1)
            have ry := ry.setNed (p := ⟨gx, 1, none⟩) hnyx (.slice A1 n1 c1)
            have hB := hB.setCell (p := ⟨gx, 1, none⟩) hkgx (.slice A1 n1 c1)
            have mx := set_blkd (v := .int .i64 e1) (i := 2) mx rfl
            have ma := set_other (i := 2) ma (show w.heap.size ≠ gx by omega) (.int .i64 e1)
            have mb := set_other (i := 2) mb (show w.heap.size + 1 ≠ gx by omega) (.int .i64 e1)
            have my := set_other (i := 2) my (show gy ≠ gx by omega) (.int .i64 e1)
            have rx := rx.setNed (p := ⟨gx, 2, none⟩) hnxx (.int .i64 e1)
            have ry := ry.setNed (p := ⟨gx, 2, none⟩) hnyx (.int .i64 e1)
            have hB := hB.setCell (p := ⟨gx, 2, none⟩) hkgx (.int .i64 e1)
            obtain ⟨x0, x1, x2⟩ := box3_of ma
            obtain ⟨x3, x4, x5⟩ := box3_of mb
            refine hK.out _ _ ⟨x0, x1, x2, x3, x4, x5⟩ (fun _ => ?_)
            clear hK K x0 x1 x2 x3 x4 x5
            try simp only [Act.put, List.setIfInBounds_toArray, List.set_cons_zero, List.set_cons_succ]
            refine wpAnyH_ready (rs := [7]) (by kernel_rfl) (by simp) (AllReadyH.cons (o := ⟨_, _, _, _, _, _⟩) rfl (fun K hK => ?_) AllReadyH.nil)
            obtain ⟨t0, t1, t2⟩ := box3_of my
            have f0 := frozen_of 0 my
            have f1 := frozen_of 1 my
            have f2 := frozen_of 2 my
            go_simp
            clear t0 t1 t2 f0 f1 f2
            have my := set_blkd (v := .bool nb) (i := 0) my rfl
            have ma := set_other (i := 0) ma (show w.heap.size ≠ gy by omega) (.bool nb)
            have mb := set_other (i := 0) mb (show w.heap.size + 1 ≠ gy by omega) (.bool nb)
            have mx := set_other (i := 0) mx (show gx ≠ gy by omega) (.bool nb)
            have rx := rx.setNed (p := ⟨gy, 0, none⟩) hnxy (.bool nb)
            have ry := ry.setNed (p := ⟨gy, 0, none⟩) hnyy (.bool nb)
            have hB := hB.setCell (p := ⟨gy, 0, none⟩) hkgy (.bool nb)
            have my := set_blkd (v := .slice A2 n2 c2) (i := 1) my rfl
            have ma := set_other (i := 1) ma (show w.heap.size ≠ gy by omega) (.slice A2 n2 c2)
            have mb := set_other (i := 1) mb (show w.heap.size + 1 ≠ gy by omega) (.slice A2 n2 c2)
            have mx := set_other (i := 1) mx (show gx ≠ gy by omega) (.slice A2 n2 c2)
            have rx := rx.setNed (p := ⟨gy, 1, none⟩) hnxy (.slice A2 n2 c2)
            have ry := ry.setNed (p := ⟨gy, 1, none⟩) hnyy (.slice A2 n2 c2)
            have hB := hB.setCell (p := ⟨gy, 1, none⟩) hkgy (.slice A2 n2 c2)
            have my := set_blkd (v := .int .i64 e2) (i := 2) my rfl
            have ma := set_other (i := 2) ma (show w.heap.size ≠ gy by omega) (.int .i64 e2)
            have mb := set_other (i := 2) mb (show w.heap.size + 1 ≠ gy by omega) (.int .i64 e2)
            have mx := set_other (i := 2) mx (show gx ≠ gy by omega) (.int .i64 e2)
            have rx := rx.setNed (p := ⟨gy, 2, none⟩) hnxy (.int .i64 e2)
            have ry := ry.setNed (p := ⟨gy, 2, none⟩) hnyy (.int .i64 e2)
            have hB := hB.setCell (p := ⟨gy, 2, none⟩) hkgy (.int .i64 e2)
            obtain ⟨x0, x1, x2⟩ := box3_of ma
            obtain ⟨x3, x4, x5⟩ := box3_of mb
            refine hK.out _ _ ⟨x0, x1, x2, x3, x4, x5⟩ (fun _ => ?_)
            clear hK K x0 x1 x2 x3 x4 x5
            try simp only [Act.put, List.setIfInBounds_toArray, List.set_cons_zero, List.set_cons_succ]
            refine wpAnyH_done (by kernel_rfl) ?_ _
            go_wp2
            go_meet
            exact ⟨gx, gy, A1, n1, c1, ds, A2, n2, c2, es, rfl, rfl, hne, mx, my, hkgx, hkgy, rx, ry, d1, d2, v1, v2, l1, l2, hB⟩
        · go_simp
          obtain ⟨gx, hg⟩ : ∃ g, g = V12.heap.size := ⟨_, rfl⟩
          have ma := heldA (.cells #[.bool false, .slice none 0 0, .int .i64 0] 41) ma
          have mb := heldA (.cells #[.bool false, .slice none 0 0, .int .i64 0] 41) mb
          have my := heldA (.cells #[.bool false, .slice none 0 0, .int .i64 0] 41) my
          have mx := World.alloc_heap_new V12 (.cells #[.bool false, .slice none 0 0, .int .i64 0] 41)
          rw [← hg] at mx
          have rx := rx.below ((Below.refl V12.heap.size V12).alloc (Nat.le_refl _) (.cells #[.bool false, .slice none 0 0, .int .i64 0] 41)) (Nat.le_refl _)
          have hsz : (V12.alloc (.cells #[.bool false, .slice none 0 0, .int .i64 0] 41)).heap.size = V12.heap.size + 1 := by simp
          have hkgx : w2.heap.size ≤ gx := by have := hB.size; omega
          have hB := hB.alloc hB.size (.cells #[.bool false, .slice none 0 0, .int .i64 0] 41)
          have hW := hW.alloc hW.size (.cells #[.bool false, .slice none 0 0, .int .i64 0] 41)
          obtain ⟨x0, x1, x2⟩ := box3_of ma
          obtain ⟨x3, x4, x5⟩ := box3_of mb
          refine hK.out _ _ ⟨x0, x1, x2, x3, x4, x5⟩ (fun _ => ?_)
          clear hK K x0 x1 x2 x3 x4 x5
          try simp only [Act.put, List.setIfInBounds_toArray, List.set_cons_zero, List.set_cons_succ]
          try rw [← hg]
          generalize hU : V12.alloc (.cells #[.bool false, .slice none 0 0, .int .i64 0] 41) = V15 at *
          clear hU
          have hlgx : gx < V15.heap.size := by omega
          have hne : gx ≠ gy := by omega
          have hlgy : gy < V15.heap.size := by omega
          clear hg hsz
          have hBs0 : w2.heap.size ≤ V15.heap.size := hB.size
          refine wpAnyH_ready (rs := [3]) (by kernel_rfl) (by simp) ?_
          refine (AllReadyH.cons (o := ⟨_, _, _, _, _, _⟩) rfl (fun K hK => ?_) AllReadyH.nil)
          · go_simp
            refine (OF2.out V15 (hb.below hW hS) (fun b h => up2 hW b h)).mono ?_
            rintro e V16 ⟨A2, n2, c2, es, rfl, ry, d2, v2, l2, hb0⟩
            have ma := heldz hb0 ma
            have mb := heldz hb0 mb
            have mx := heldz hb0 mx
            have my := heldz hb0 my
            have rx := rx.below hb0 (Nat.le_refl _)
            have hB := hB.trans (hb0.mono hB.size)
            have hW := hW.trans (hb0.mono hW.size)
            have ry := ry.more (base' := w2.heap.size) hBs0
            (try dsimp only)
            obtain ⟨x0, x1, x2⟩ := box3_of ma
            obtain ⟨x3, x4, x5⟩ := box3_of mb
            refine hK.out _ _ ⟨x0, x1, x2, x3, x4, x5⟩ (fun _ => ?_)
            clear hK K x0 x1 x2 x3 x4 x5
            try simp only [Act.put, List.setIfInBounds_toArray, List.set_cons_zero, List.set_cons_succ]
            have hlgx : gx < V16.heap.size := Nat.lt_of_lt_of_le hlgx hb0.size
            have hlgy : gy < V16.heap.size := Nat.lt_of_lt_of_le hlgy hb0.size
            clear hb0
            have hBs0 : w2.heap.size ≤ V16.heap.size := hB.size
            have hnxx := rx.ne_boxd mx ty_ned
            have hnxy := rx.ne_boxd my ty_ned
            have hnyx := ry.ne_boxd mx ty_ned
            have hnyy := ry.ne_boxd my ty_ned
            refine wpAnyH_ready (rs := [6]) (by kernel_rfl) (by simp) (AllReadyH.cons (o := ⟨_, _, _, _, _, _⟩) rfl (fun K hK => ?_) AllReadyH.nil)
            obtain ⟨t0, t1, t2⟩ := box3_of mx
            have f0 := frozen_of 0 mx
            have f1 := frozen_of 1 mx
            have f2 := frozen_of 2 mx
            go_simp
            clear t0 t1 t2 f0 f1 f2
            have mx := set_blkd (v := .bool na) (i := 0) mx rfl
            have ma := set_other (i := 0) ma (show w.heap.size ≠ gx by omega) (.bool na)
            have mb := set_other (i := 0) mb (show w.heap.size + 1 ≠ gx by omega) (.bool na)
            have my := set_other (i := 0) my (show gy ≠ gx by omega) (.bool na)
            have rx := rx.setNed (p := ⟨gx, 0, none⟩) hnxx (.bool na)
            have ry := ry.setNed (p := ⟨gx, 0, none⟩) hnyx (.bool na)
            have hB := hB.setCell (p := ⟨gx, 0, none⟩) hkgx (.bool na)
            have mx := set_blkd (v := .slice A1 n1 c1) (i := 1) mx rfl
            have ma := set_other (i := 1) ma (show w.heap.size ≠ gx by omega) (.slice A1 n1 c1)
            have mb := set_other (i := 1) mb (show w.heap.size + 1 ≠ gx by omega) (.slice A1 n1 c1)
            have my := set_other (i := 1) my (show gy ≠ gx by omega) (.slice A1 n1 c1)
            have rx := rx.setNed (p := ⟨gx, 1, none⟩) hnxx (.slice A1 n1 c1)
            have ry := ry.setNed (p := ⟨gx, 1, none⟩) hnyx (.slice A1 n1 c1)
            have hB := hB.setCell (p := ⟨gx, 1, none⟩) hkgx (.slice A1 n1 c1)
            have mx := set_blkd (v := .int .i64 e1) (i := 2) mx rfl
            have ma := set_other (i := 2) ma (show w.heap.size ≠ gx by omega) (.int .i64 e1)
            have mb := set_other (i := 2) mb (show w.heap.size + 1 ≠ gx by omega) (.int .i64 e1)
            have my := set_other (i := 2) my (show gy ≠ gx by omega) (.int .i64 e1)
            have rx := rx.setNed (p := ⟨gx, 2, none⟩) hnxx (.int .i64 e1)
            have ry := ry.setNed (p := ⟨gx, 2, none⟩) hnyx (.int .i64 e1)
            have hB := hB.setCell (p := ⟨gx, 2, none⟩) hkgx (.int .i64 e1)
            obtain ⟨x0, x1, x2⟩ := box3_of ma
            obtain ⟨x3, x4, x5⟩ := box3_of mb
            refine hK.out _ _ ⟨x0, x1, x2, x3, x4, x5⟩ (fun _ => ?_)
            clear hK K x0 x1 x2 x3 x4 x5
            try simp only [Act.put, List.setIfInBounds_toArray, List.set_cons_zero, List.set_cons_succ]
            refine wpAnyH_ready (rs := [7]) (by kernel_rfl) (by simp) (AllReadyH.cons (o := ⟨_, _, _, _, _, _⟩) rfl (fun K hK => ?_) AllReadyH.nil)
            obtain ⟨t0, t1, t2⟩ := box3_of my
            have f0 := frozen_of 0 my
            have f1 := frozen_of 1 my
            have f2 := frozen_of 2 my
            go_simp
            clear t0 t1 t2 f0 f1 f2
            have my := set_blkd (v := .bool nb) (i := 0) my rfl
            have ma := set_other (i := 0) ma (show w.heap.size ≠ gy by omega) (.bool nb)
            have mb := set_other (i := 0) mb (show w.heap.size + 1 ≠ gy by omega) (.bool nb)
            have mx := set_other (i := 0) mx (show gx ≠ gy by omega) (.bool nb)
            have rx := rx.setNed (p := ⟨gy, 0, none⟩) hnxy (.bool nb)
            have ry := ry.setNed (p := ⟨gy, 0, none⟩) hnyy (.bool nb)
            have hB := hB.setCell (p := ⟨gy, 0, none⟩) hkgy (.bool nb)
            have my := set_blkd (v := .slice A2 n2 c2) (i := 1) my rfl
            have ma := set_other (i := 1) ma (show w.heap.size ≠ gy by omega) (.slice A2 n2 c2)
            have mb := set_other (i := 1) mb (show w.heap.size + 1 ≠ gy by omega) (.slice A2 n2 c2)
            have mx := set_other (i := 1) mx (show gx ≠ gy by omega) (.slice A2 n2 c2)
            have rx := rx.setNed (p := ⟨gy, 1, none⟩) hnxy (.slice A2 n2 c2)
            have ry := ry.setNed (p := ⟨gy, 1, none⟩) hnyy (.slice A2 n2 c2)
            have hB := hB.setCell (p := ⟨gy, 1, none⟩) hkgy (.slice A2 n2 c2)
            have my := set_blkd (v := .int .i64 e2) (i := 2) my rfl
            have ma := set_other (i := 2) ma (show w.heap.size ≠ gy by omega) (.int .i64 e2)
            have mb := set_other (i := 2) mb (show w.heap.size + 1 ≠ gy by omega) (.int .i64 e2)
            have mx := set_other (i := 2) mx (show gx ≠ gy by omega) (.int .i64 e2)
            have rx := rx.setNed (p := ⟨gy, 2, none⟩) hnxy (.int .i64 e2)
            have ry := ry.setNed (p := ⟨gy, 2, none⟩) hnyy (.int .i64 e2)
            have hB := hB.setCell (p := ⟨gy, 2, none⟩) hkgy (.int .i64 e2)
            obtain ⟨x0, x1, x2⟩ := box3_of ma
            obtain ⟨x3, x4, x5⟩ := box3_of mb
            refine hK.out _ _ ⟨x0, x1, x2, x3, x4, x5⟩ (fun _ => ?_)
            clear hK K x0 x1 x2 x3 x4 x5
            try simp only [Act.put, List.setIfInBounds_toArray, List.set_cons_zero, List.set_cons_succ]
            refine wpAnyH_done (by kernel_rfl) ?_ _
            go_wp2
            go_meet
            exact ⟨gx, gy, A1, n1, c1, ds, A2, n2, c2, es, rfl, rfl, hne, mx, my, hkgx, hkgy, rx, ry, d1, d2, v1, v2, l1, l2, hB⟩
    · go_simp
      obtain ⟨gx, hg⟩ : ∃ g, g = V0.heap.size := ⟨_, rfl⟩
      have ma := heldA (.cells #[.bool false, .slice none 0 0, .int .i64 0] 41) ma
      have mb := heldA (.cells #[.bool false, .slice none 0 0, .int .i64 0] 41) mb
      have mx := World.alloc_heap_new V0 (.cells #[.bool false, .slice none 0 0, .int .i64 0] 41)
      rw [← hg] at mx
      have hsz : (V0.alloc (.cells #[.bool false, .slice none 0 0, .int .i64 0] 41)).heap.size = V0.heap.size + 1 := by simp
      have hkgx : w2.heap.size ≤ gx := by have := hB.size; omega
      have hB := hB.alloc hB.size (.cells #[.bool false, .slice none 0 0, .int .i64 0] 41)
      have hW := hW.alloc hW.size (.cells #[.bool false, .slice none 0 0, .int .i64 0] 41)
      obtain ⟨x0, x1, x2⟩ := box3_of ma
      obtain ⟨x3, x4, x5⟩ := box3_of mb
      refine hK.out _ _ ⟨x0, x1, x2, x3, x4, x5⟩ (fun _ => ?_)
      clear hK K x0 x1 x2 x3 x4 x5
      try simp only [Act.put, List.setIfInBounds_toArray, List.set_cons_zero, List.set_cons_succ]
      try rw [← hg]
      generalize hU : V0.alloc (.cells #[.bool false, .slice none 0 0, .int .i64 0] 41) = V17 at *
      clear hU
      have hlgx : gx < V17.heap.size := by omega
      clear hg hsz
      have hBs0 : w2.heap.size ≤ V17.heap.size := hB.size
      refine wpAnyH_ready (rs := [1, 5]) (by kernel_rfl) (by simp) ?_
      refine (AllReadyH.cons (o := ⟨_, _, _, _, _, _⟩) rfl (fun K hK => ?_) (AllReadyH.cons (o := ⟨_, _, _, _, _, _⟩) rfl (fun K hK => ?_) AllReadyH.nil))
      · go_simp
        refine (OF1.out V17 (ha.below hW hS) (fun b h => up2 hW b h)).mono ?_
        rintro e V18 ⟨A1, n1, c1, ds, rfl, rx, d1, v1, l1, hb0⟩
        have ma := heldz hb0 ma
        have mb := heldz hb0 mb
        have mx := heldz hb0 mx
        have hB := hB.trans (hb0.mono hB.size)
        have hW := hW.trans (hb0.mono hW.size)
        have rx := rx.more (base' := w2.heap.size) hBs0
        (try dsimp only)
        obtain ⟨x0, x1, x2⟩ := box3_of ma
        obtain ⟨x3, x4, x5⟩ := box3_of mb
        refine hK.out _ _ ⟨x0, x1, x2, x3, x4, x5⟩ (fun _ => ?_)
        clear hK K x0 x1 x2 x3 x4 x5
        try simp only [Act.put, List.setIfInBounds_toArray, List.set_cons_zero, List.set_cons_succ]
        have hlgx : gx < V18.heap.size := Nat.lt_of_lt_of_le hlgx hb0.size
        clear hb0
        have hBs0 : w2.heap.size ≤ V18.heap.size := hB.size
        refine wpAnyH_ready (rs := [3, 5]) (by kernel_rfl) (by simp) ?_
        refine (AllReadyH.cons (o := ⟨_, _, _, _, _, _⟩) rfl (fun K hK => ?_) (AllReadyH.cons (o := ⟨_, _, _, _, _, _⟩) rfl (fun K hK => ?_) AllReadyH.nil))
        · go_simp
          refine (OF2.out V18 (hb.below hW hS) (fun b h => up2 hW b h)).mono ?_
          rintro e V19 ⟨A2, n2, c2, es, rfl, ry, d2, v2, l2, hb0⟩
          have ma := heldz hb0 ma
          have mb := heldz hb0 mb
          have mx := heldz hb0 mx
          have rx := rx.below hb0 (Nat.le_refl _)
          have hB := hB.trans (hb0.mono hB.size)
          have hW := hW.trans (hb0.mono hW.size)
          have ry := ry.more (base' := w2.heap.size) hBs0
          (try dsimp only)
          obtain ⟨x0, x1, x2⟩ := box3_of ma
          obtain ⟨x3, x4, x5⟩ := box3_of mb
          refine hK.out _ _ ⟨x0, x1, x2, x3, x4, x5⟩ (fun _ => ?_)
          clear hK K x0 x1 x2 x3 x4 x5
          try simp only [Act.put, List.setIfInBounds_toArray, List.set_cons_zero, List.set_cons_succ]
          have hlgx : gx < V19.heap.size := Nat.lt_of_lt_of_le hlgx hb0.size
          clear hb0
          have hBs0 : w2.heap.size ≤ V19.heap.size := hB.size
          refine wpAnyH_ready (rs := [5]) (by kernel_rfl) (by simp) ?_
          refine (AllReadyH.cons (o := ⟨_, _, _, _, _, _⟩) rfl (fun K hK => ?_) AllReadyH.nil)
          · go_simp
            obtain ⟨gy, hg⟩ : ∃ g, g = V19.heap.size := ⟨_, rfl⟩
            have ma := heldA (.cells #[.bool false, .slice none 0 0, .int .i64 0] 41) ma
            have mb := heldA (.cells #[.bool false, .slice none 0 0, .int .i64 0] 41) mb
            have mx := heldA (.cells #[.bool false, .slice none 0 0, .int .i64 0] 41) mx
            have my := World.alloc_heap_new V19 (.cells #[.bool false, .slice none 0 0, .int .i64 0] 41)
            rw [← hg] at my
            have rx := rx.below ((Below.refl V19.heap.size V19).alloc (Nat.le_refl _) (.cells #[.bool false, .slice none 0 0, .int .i64 0] 41)) (Nat.le_refl _)
            have ry := ry.below ((Below.refl V19.heap.size V19).alloc (Nat.le_refl _) (.cells #[.bool false, .slice none 0 0, .int .i64 0] 41)) (Nat.le_refl _)
            have hsz : (V19.alloc (.cells #[.bool false, .slice none 0 0, .int .i64 0] 41)).heap.size = V19.heap.size + 1 := by simp
            have hkgy : w2.heap.size ≤ gy := by have := hB.size; omega
            have hB := hB.alloc hB.size (.cells #[.bool false, .slice none 0 0, .int .i64 0] 41)
            have hW := hW.alloc hW.size (.cells #[.bool false, .slice none 0 0, .int .i64 0] 41)
            obtain ⟨x0, x1, x2⟩ := box3_of ma
            obtain ⟨x3, x4, x5⟩ := box3_of mb
            refine hK.out _ _ ⟨x0, x1, x2, x3, x4, x5⟩ (fun _ => ?_)
            clear hK K x0 x1 x2 x3 x4 x5
            try simp only [Act.put, List.setIfInBounds_toArray, List.set_cons_zero, List.set_cons_succ]
            try rw [← hg]
            generalize hU : V19.alloc (.cells #[.bool false, .slice none 0 0, .int .i64 0] 41) = V20 at *
            clear hU
            have hlgy : gy < V20.heap.size := by omega
            have hne : gx ≠ gy := by omega
            have hlgx : gx < V20.heap.size := by omega
            clear hg hsz
            have hBs0 : w2.heap.size ≤ V20.heap.size := hB.size
            have hnxx := rx.ne_boxd mx ty_ned
            have hnxy := rx.ne_boxd my ty_ned
            have hnyx := ry.ne_boxd mx ty_ned
            have hnyy := ry.ne_boxd my ty_ned
            refine wpAnyH_ready (rs := [6]) (by kernel_rfl) (by simp) (AllReadyH.cons (o := ⟨_, _, _, _, _, _⟩) rfl (fun K hK => ?_) AllReadyH.nil)
            obtain ⟨t0, t1, t2⟩ := box3_of mx
            have f0 := frozen_of 0 mx
            have f1 := frozen_of 1 mx
            have f2 := frozen_of 2 mx
            go_simp
            clear t0 t1 t2 f0 f1 f2
            have mx := set_blkd (v := .bool na) (i := 0) mx rfl
            have ma := set_other (i := 0) ma (show w.heap.size ≠ gx by omega) (.bool na)
            have mb := set_other (i := 0) mb (show w.heap.size + 1 ≠ gx by omega) (.bool na)
            have my := set_other (i := 0) my (show gy ≠ gx by omega) (.bool na)
            have rx := rx.setNed (p := ⟨gx, 0, none⟩) hnxx (.bool na)
            have ry := ry.setNed (p := ⟨gx, 0, none⟩) hnyx (.bool na)
            have hB := hB.setCell (p := ⟨gx, 0, none⟩) hkgx (.bool na)
            have mx := set_blkd (v := .slice A1 n1 c1) (i := 1) mx rfl
            have ma := set_other (i := 1) ma (show w.heap.size ≠ gx by omega) (.slice A1 n1 c1)
            have mb := set_other (i := 1) mb (show w.heap.size + 1 ≠ gx by omega) (.slice A1 n1 c1)
            have my := set_other (i := 1) my (show gy ≠ gx by omega) (.slice A1 n1 c1)
            have rx := rx.setNed (p := ⟨gx, 1, none⟩) hnxx (.slice A1 n1 c1)
            have ry := ry.setNed (p := ⟨gx, 1, none⟩) hnyx (.slice A1 n1 c1)
            have hB := hB.setCell (p := ⟨gx, 1, none⟩) hkgx (.slice A1 n1 c1)
            have mx := set_blkd (v := .int .i64 e1) (i := 2) mx rfl
            have ma := set_other (i := 2) ma (show w.heap.size ≠ gx by omega) (.int .i64 e1)
            have mb := set_other (i := 2) mb (show w.heap.size + 1 ≠ gx by omega) (.int .i64 e1)
            have my := set_other (i := 2) my (show gy ≠ gx by omega) (.int .i64 e1)
            have rx := rx.setNed (p := ⟨gx, 2, none⟩) hnxx (.int .i64 e1)
            have ry := ry.setNed (p := ⟨gx, 2, none⟩) hnyx (.int .i64 e1)
            have hB := hB.setCell (p := ⟨gx, 2, none⟩) hkgx (.int .i64 e1)
            obtain ⟨x0, x1, x2⟩ := box3_of ma
            obtain ⟨x3, x4, x5⟩ := box3_of mb
            refine hK.out _ _ ⟨x0, x1, x2, x3, x4, x5⟩ (fun _ => ?_)
            clear hK K x0 x1 x2 x3 x4 x5
            try simp only [Act.put, List.setIfInBounds_toArray, List.set_cons_zero, List.set_cons_succ]
            refine wpAnyH_ready (rs := [7]) (by kernel_rfl) (by simp) (AllReadyH.cons (o := ⟨_, _, _, _, _, _⟩) rfl (fun K hK => ?_) AllReadyH.nil)
            obtain ⟨t0, t1, t2⟩ := box3_of my
            have f0 := frozen_of 0 my
            have f1 := frozen_of 1 my
            have f2 := frozen_of 2 my
            go_simp
            clear t0 t1 t2 f0 f1 f2
            have my := set_blkd (v := .bool nb) (i := 0) my rfl
            have ma := set_other (i := 0) ma (show w.heap.size ≠ gy by omega) (.bool nb)
            have mb := set_other (i := 0) mb (show w.heap.size + 1 ≠ gy by omega) (.bool nb)
            have mx := set_other (i := 0) mx (show gx ≠ gy by omega) (.bool nb)
            have rx := rx.setNed (p := ⟨gy, 0, none⟩) hnxy (.bool nb)
            have ry := ry.setNed (p := ⟨gy, 0, none⟩) hnyy (.bool nb)
            have hB := hB.setCell (p := ⟨gy, 0, none⟩) hkgy (.bool nb)
            have my := set_blkd (v := .slice A2 n2 c2) (i := 1) my rfl
            have ma := set_other (i := 1) ma (show w.heap.size ≠ gy by omega) (.slice A2 n2 c2)
            have mb := set_other (i := 1) mb (show w.heap.size + 1 ≠ gy by omega) (.slice A2 n2 c2)
            have mx := set_other (i := 1) mx (show gx ≠ gy by omega) (.slice A2 n2 c2)
            have rx := rx.setNed (p := ⟨gy, 1, none⟩) hnxy (.slice A2 n2 c2)
            have ry := ry.setNed (p := ⟨gy, 1, none⟩) hnyy (.slice A2 n2 c2)
            have hB := hB.setCell (p := ⟨gy, 1, none⟩) hkgy (.slice A2 n2 c2)
            have my := set_blkd (v := .int .i64 e2) (i := 2) my rfl
            have ma := set_other (i := 2) ma (show w.heap.size ≠ gy by omega) (.int .i64 e2)
            have mb := set_other (i := 2) mb (show w.heap.size + 1 ≠ gy by omega) (.int .i64 e2)
            have mx := set_other (i := 2) mx (show gx ≠ gy by omega) (.int .i64 e2)
            have rx := rx.setNed (p := ⟨gy, 2, none⟩) hnxy (.int .i64 e2)
            have ry := ry.setNed (p := ⟨gy, 2, none⟩) hnyy (.int .i64 e2)
            have hB := hB.setCell (p := ⟨gy, 2, none⟩) hkgy (.int .i64 e2)
            obtain ⟨x0, x1, x2⟩ := box3_of ma
            obtain ⟨x3, x4, x5⟩ := box3_of mb
            refine hK.out _ _ ⟨x0, x1, x2, x3, x4, x5⟩ (fun _ => ?_)
            clear hK K x0 x1 x2 x3 x4 x5
            try simp only [Act.put, List.setIfInBounds_toArray, List.set_cons_zero, List.set_cons_succ]
            refine wpAnyH_done (by kernel_rfl) ?_ _
            go_wp2
            go_meet
            exact ⟨gx, gy, A1, n1, c1, ds, A2, n2, c2, es, rfl, rfl, hne, mx, my, hkgx, hkgy, rx, ry, d1, d2, v1, v2, l1, l2, hB⟩
        · go_simp
          obtain ⟨gy, hg⟩ : ∃ g, g = V18.heap.size := ⟨_, rfl⟩
          have ma := heldA (.cells #[.bool false, .slice none 0 0, .int .i64 0] 41) ma
          have mb := heldA (.cells #[.bool false, .slice none 0 0, .int .i64 0] 41) mb
          have mx := heldA (.cells #[.bool false, .slice none 0 0, .int .i64 0] 41) mx
          have my := World.alloc_heap_new V18 (.cells #[.bool false, .slice none 0 0, .int .i64 0] 41)
          rw [← hg] at my
          have rx := rx.below ((Below.refl V18.heap.size V18).alloc (Nat.le_refl _) (.cells #[.bool false, .slice none 0 0, .int .i64 0] 41)) (Nat.le_refl _)
          have hsz : (V18.alloc (.cells #[.bool false, .slice none 0 0, .int .i64 0] 41)).heap.size = V18.heap.size + 1 := by simp
          have hkgy : w2.heap.size ≤ gy := by have := hB.size; omega
          have hB := hB.alloc hB.size (.cells #[.bool false, .slice none 0 0, .int .i64 0] 41)
          have hW := hW.alloc hW.size (.cells #[.bool false, .slice none 0 0, .int .i64 0] 41)
          obtain ⟨x0, x1, x2⟩ := box3_of ma
          obtain ⟨x3, x4, x5⟩ := box3_of mb
          refine hK.out _ _ ⟨x0, x1, x2, x3, x4, x5⟩ (fun _ => ?_)
          clear hK K x0 x1 x2 x3 x4 x5
          try simp only [Act.put, List.setIfInBounds_toArray, List.set_cons_zero, List.set_cons_succ]
          try rw [← hg]
          generalize hU : V18.alloc (.cells #[.bool false, .slice none 0 0, .int .i64 0] 41) = V21 at *
          clear hU
          have hlgy : gy < V21.heap.size := by omega
          have hne : gx ≠ gy := by omega
          have hlgx : gx < V21.heap.size := by omega
          clear hg hsz
          have hBs0 : w2.heap.size ≤ V21.heap.size := hB.size
          refine wpAnyH_ready (rs := [3]) (by kernel_rfl) (by simp) ?_
          refine (AllReadyH.cons (o := ⟨_, _, _, _, _, _⟩) rfl (fun K hK => ?_) AllReadyH.nil)
          · go_simp
            refine (OF2.out V21 (hb.below hW hS) (fun b h => up2 hW b h)).mono ?_
            rintro e V22 ⟨A2, n2, c2, es, rfl, ry, d2, v2, l2, hb0⟩
            have ma := heldz hb0 ma
            have mb := heldz hb0 mb
            have mx := heldz hb0 mx
            have my := heldz hb0 my
            have rx := rx.below hb0 (Nat.le_refl _)
            have hB := hB.trans (hb0.mono hB.size)
            have hW := hW.trans (hb0.mono hW.size)
            have ry := ry.more (base' := w2.heap.size) hBs0
            (try dsimp only)
            obtain ⟨x0, x1, x2⟩ := box3_of ma
            obtain ⟨x3, x4, x5⟩ := box3_of mb
            refine hK.out _ _ ⟨x0, x1, x2, x3, x4, x5⟩ (fun _ => ?_)
            clear hK K x0 x1 x2 x3 x4 x5
            try simp only [Act.put, List.setIfInBounds_toArray, List.set_cons_zero, List.set_cons_succ]
            have hlgx : gx < V22.heap.size := Nat.lt_of_lt_of_le hlgx hb0.size
            have hlgy : gy < V22.heap.size := Nat.lt_of_lt_of_le hlgy hb0.size
            clear hb0
            have hBs0 : w2.heap.size ≤ V22.heap.size := hB.size
            have hnxx := rx.ne_boxd mx ty_ned
            have hnxy := rx.ne_boxd my ty_ned
            have hnyx := ry.ne_boxd mx ty_ned
            have hnyy := ry.ne_boxd my ty_ned
            refine wpAnyH_ready (rs := [6]) (by kernel_rfl) (by simp) (AllReadyH.cons (o := ⟨_, _, _, _, _, _⟩) rfl (fun K hK => ?_) AllReadyH.nil)
            obtain ⟨t0, t1, t2⟩ := box3_of mx
            have f0 := frozen_of 0 mx
            have f1 := frozen_of 1 mx
            have f2 := frozen_of 2 mx
            go_simp
            clear t0 t1 t2 f0 f1 f2
            have mx := set_blkd (v := .bool na) (i := 0) mx rfl
            have ma := set_other (i := 0) ma (show w.heap.size ≠ gx by omega) (.bool na)
            have mb := set_other (i := 0) mb (show w.heap.size + 1 ≠ gx by omega) (.bool na)
            have my := set_other (i := 0) my (show gy ≠ gx by omega) (.bool na)
            have rx := rx.setNed (p := ⟨gx, 0, none⟩) hnxx (.bool na)
            have ry := ry.setNed (p := ⟨gx, 0, none⟩) hnyx (.bool na)
            have hB := hB.setCell (p := ⟨gx, 0, none⟩) hkgx (.bool na)
            have mx := set_blkd (v := .slice A1 n1 c1) (i := 1) mx rfl
            have ma := set_other (i := 1) ma (show w.heap.size ≠ gx by omega) (.slice A1 n1 c1)
            have mb := set_other (i := 1) mb (show w.heap.size + 1 ≠ gx by omega) (.slice A1 n1 c1)
            have my := set_other (i := 1) my (show gy ≠ gx by omega) (.slice A1 n1 c1)
            have rx := rx.setNed (p := ⟨gx, 1, none⟩) hnxx (.slice A1 n1 c1)
            have ry := ry.setNed (p := ⟨gx, 1, none⟩) hnyx (.slice A1 n1 c1)
            have hB := hB.setCell (p := ⟨gx, 1, none⟩) hkgx (.slice A1 n1 c1)
            have mx := set_blkd (v := .int .i64 e1) (i := 2) mx rfl
            have ma := set_other (i := 2) ma (show w.heap.size ≠ gx by omega) (.int .i64 e1)
            have mb := set_other (i := 2) mb (show w.heap.size + 1 ≠ gx by omega) (.int .i64 e1)
            have my := set_other (i := 2) my (show gy ≠ gx by omega) (.int .i64 e1)
            have rx := rx.setNed (p := ⟨gx, 2, none⟩) hnxx (.int .i64 e1)
            have ry := ry.setNed (p := ⟨gx, 2, none⟩) hnyx (.int .i64 e1)
            have hB := hB.setCell (p := ⟨gx, 2, none⟩) hkgx (.int .i64 e1)
            obtain ⟨x0, x1, x2⟩ := box3_of ma
            obtain ⟨x3, x4, x5⟩ := box3_of mb
            refine hK.out _ _ ⟨x0, x1, x2, x3, x4, x5⟩ (fun _ => ?_)
            clear hK K x0 x1 x2 x3 x4 x5
            try simp only [Act.put, List.setIfInBounds_toArray, List.set_cons_zero, List.set_cons_succ]
            refine wpAnyH_ready (rs := [7]) (by kernel_rfl) (by simp) (AllReadyH.cons (o := ⟨_, _, _, _, _, _⟩) rfl (fun K hK => ?_) AllReadyH.nil)
            obtain ⟨t0, t1, t2⟩ := box3_of my
            have f0 := frozen_of 0 my
            have f1 := frozen_of 1 my
            have f2 := frozen_of 2 my
            go_simp
            clear t0 t1 t2 f0 f1 f2
            have my := set_blkd (v := .bool nb) (i := 0) my rfl
            have ma := set_other (i := 0) ma (show w.heap.size ≠ gy by omega) (.bool nb)
            have mb := set_other (i := 0) mb (show w.heap.size + 1 ≠ gy by omega) (.bool nb)
            have mx := set_other (i := 0) mx (show gx ≠ gy by omega) (.bool nb)
            have rx := rx.setNed (p := ⟨gy, 0, none⟩) hnxy (.bool nb)
            have ry := ry.setNed (p := ⟨gy, 0, none⟩) hnyy (.bool nb)
            have hB := hB.setCell (p := ⟨gy, 0, none⟩) hkgy (.bool nb)
            have my := set_blkd (v := .slice A2 n2 c2) (i := 1) my rfl
            have ma := set_other (i := 1) ma (show w.heap.size ≠ gy by omega) (.slice A2 n2 c2)
            have mb := set_other (i := 1) mb (show w.heap.size + 1 ≠ gy by omega) (.slice A2 n2 c2)
            have mx := set_other (i := 1) mx (show gx ≠ gy by omega) (.slice A2 n2 c2)
            have rx := rx.setNed (p := ⟨gy, 1, none⟩) hnxy (.slice A2 n2 c2)
            have ry := ry.setNed (p := ⟨gy, 1, none⟩) hnyy (.slice A2 n2 c2)
            have hB := hB.setCell (p := ⟨gy, 1, none⟩) hkgy (.slice A2 n2 c2)
            have my := set_blkd (v := .int .i64 e2) (i := 2) my rfl
            have ma := set_other (i := 2) ma (show w.heap.size ≠ gy by omega) (.int .i64 e2)
            have mb := set_other (i := 2) mb (show w.heap.size + 1 ≠ gy by omega) (.int .i64 e2)
            have mx := set_other (i := 2) mx (show gx ≠ gy by omega) (.int .i64 e2)
            have rx := rx.setNed (p := ⟨gy, 2, none⟩) hnxy (.int .i64 e2)
            have ry := ry.setNed (p := ⟨gy, 2, none⟩) hnyy (.int .i64 e2)
            have hB := hB.setCell (p := ⟨gy, 2, none⟩) hkgy (.int .i64 e2)
            obtain ⟨x0, x1, x2⟩ := box3_of ma
            obtain ⟨x3, x4, x5⟩ := box3_of mb
            refine hK.out _ _ ⟨x0, x1, x2, x3, x4, x5⟩ (fun _ => ?_)
            clear hK K x0 x1 x2 x3 x4 x5
            try simp only [Act.put, List.setIfInBounds_toArray, List.set_cons_zero, List.set_cons_succ]
            refine wpAnyH_done (by kernel_rfl) ?_ _
            go_wp2
            go_meet
            exact ⟨gx, gy, A1, n1, c1, ds, A2, n2, c2, es, rfl, rfl, hne, mx, my, hkgx, hkgy, rx, ry, d1, d2, v1, v2, l1, l2, hB⟩
      · go_simp
        obtain ⟨gy, hg⟩ : ∃ g, g = V17.heap.size := ⟨_, rfl⟩
        have ma := heldA (.cells #[.bool false, .slice none 0 0, .int .i64 0] 41) ma
        have mb := heldA (.cells #[.bool false, .slice none 0 0, .int .i64 0] 41) mb
        have mx := heldA (.cells #[.bool false, .slice none 0 0, .int .i64 0] 41) mx
        have my := World.alloc_heap_new V17 (.cells #[.bool false, .slice none 0 0, .int .i64 0] 41)
        rw [← hg] at my
        have hsz : (V17.alloc (.cells #[.bool false, .slice none 0 0, .int .i64 0] 41)).heap.size = V17.heap.size + 1 := by simp
        have hkgy : w2.heap.size ≤ gy := by have := hB.size; omega
        have hB := hB.alloc hB.size (.cells #[.bool false, .slice none 0 0, .int .i64 0] 41)
        have hW := hW.alloc hW.size (.cells #[.bool false, .slice none 0 0, .int .i64 0] 41)
        obtain ⟨x0, x1, x2⟩ := box3_of ma
        obtain ⟨x3, x4, x5⟩ := box3_of mb
        refine hK.out _ _ ⟨x0, x1, x2, x3, x4, x5⟩ (fun _ => ?_)
        clear hK K x0 x1 x2 x3 x4 x5
        try simp only [Act.put, List.setIfInBounds_toArray, List.set_cons_zero, List.set_cons_succ]
        try rw [← hg]
        generalize hU : V17.alloc (.cells #[.bool false, .slice none 0 0, .int .i64 0] 41) = V23 at *
        clear hU
        have hlgy : gy < V23.heap.size := by omega
        have hne : gx ≠ gy := by omega
        have hlgx : gx < V23.heap.size := by omega
        clear hg hsz
        have hBs0 : w2.heap.size ≤ V23.heap.size := hB.size
        refine wpAnyH_ready (rs := [1]) (by kernel_rfl) (by simp) ?_
        refine (AllReadyH.cons (o := ⟨_, _, _, _, _, _⟩) rfl (fun K hK => ?_) AllReadyH.nil)
        · go_simp
          refine (OF1.out V23 (ha.below hW hS) (fun b h => up2 hW b h)).mono ?_
          rintro e V24 ⟨A1, n1, c1, ds, rfl, rx, d1, v1, l1, hb0⟩
          have ma := heldz hb0 ma
          have mb := heldz hb0 mb
          have mx := heldz hb0 mx
          have my := heldz hb0 my
          have hB := hB.trans (hb0.mono hB.size)
          have hW := hW.trans (hb0.mono hW.size)
          have rx := rx.more (base' := w2.heap.size) hBs0
          (try dsimp only)
          obtain ⟨x0, x1, x2⟩ := box3_of ma
          obtain ⟨x3, x4, x5⟩ := box3_of mb
          refine hK.out _ _ ⟨x0, x1, x2, x3, x4, x5⟩ (fun _ => ?_)
          clear hK K x0 x1 x2 x3 x4 x5
          try simp only [Act.put, List.setIfInBounds_toArray, List.set_cons_zero, List.set_cons_succ]
          have hlgx : gx < V24.heap.size := Nat.lt_of_lt_of_le hlgx hb0.size
          have hlgy : gy < V24.heap.size := Nat.lt_of_lt_of_le hlgy hb0.size
          clear hb0
          have hBs0 : w2.heap.size ≤ V24.heap.size := hB.size
          refine wpAnyH_ready (rs := [3]) (by kernel_rfl) (by simp) ?_
          refine (AllReadyH.cons (o := ⟨_, _, _, _, _, _⟩) rfl (fun K hK => ?_) AllReadyH.nil)
          · go_simp
            refine (OF2.out V24 (hb.below hW hS) (fun b h => up2 hW b h)).mono ?_
            rintro e V25 ⟨A2, n2, c2, es, rfl, ry, d2, v2, l2, hb0⟩
            have ma := heldz hb0 ma
            have mb := heldz hb0 mb
            have mx := heldz hb0 mx
            have my := heldz hb0 my
            have rx := rx.below hb0 (Nat.le_refl _)
            have hB := hB.trans (hb0.mono hB.size)
            have hW := hW.trans (hb0.mono hW.size)
            have ry := ry.more (base' := w2.heap.size) hBs0
            (try dsimp only)
            obtain ⟨x0, x1, x2⟩ := box3_of ma
            obtain ⟨x3, x4, x5⟩ := box3_of mb
            refine hK.out _ _ ⟨x0, x1, x2, x3, x4, x5⟩ (fun _ => ?_)
            clear hK K x0 x1 x2 x3 x4 x5
            try simp only [Act.put, List.setIfInBounds_toArray, List.set_cons_zero, List.set_cons_succ]
            have hlgx : gx < V25.heap.size := Nat.lt_of_lt_of_le hlgx hb0.size
            have hlgy : gy < V25.heap.size := Nat.lt_of_lt_of_le hlgy hb0.size
            clear hb0
            have hBs0 : w2.heap.size ≤ V25.heap.size := hB.size
            have hnxx := rx.ne_boxd mx ty_ned
            have hnxy := rx.ne_boxd my ty_ned
            have hnyx := ry.ne_boxd mx ty_ned
            have hnyy := ry.ne_boxd my ty_ned
            refine wpAnyH_ready (rs := [6]) (by kernel_rfl) (by simp) (AllReadyH.cons (o := ⟨_, _, _, _, _, _⟩) rfl (fun K hK => ?_) AllReadyH.nil)
            obtain ⟨t0, t1, t2⟩ := box3_of mx
            have f0 := frozen_of 0 mx
            have f1 := frozen_of 1 mx
            have f2 := frozen_of 2 mx
            go_simp
            clear t0 t1 t2 f0 f1 f2
            have mx := set_blkd (v := .bool na) (i := 0) mx rfl
            have ma := set_other (i := 0) ma (show w.heap.size ≠ gx by omega) (.bool na)
            have mb := set_other (i := 0) mb (show w.heap.size + 1 ≠ gx by omega) (.bool na)
            have my := set_other (i := 0) my (show gy ≠ gx by omega) (.bool na)
            have rx := rx.setNed (p := ⟨gx, 0, none⟩) hnxx (.bool na)
            have ry := ry.setNed (p := ⟨gx, 0, none⟩) hnyx (.bool na)
            have hB := hB.setCell (p := ⟨gx, 0, none⟩) hkgx (.bool na)
            have mx := set_blkd (v := .slice A1 n1 c1) (i := 1) mx rfl
            have ma := set_other (i := 1) ma (show w.heap.size ≠ gx by omega) (.slice A1 n1 c1)
            have mb := set_other (i := 1) mb (show w.heap.size + 1 ≠ gx by omega) (.slice A1 n1 c1)
            have my := set_other (i := 1) my (show gy ≠ gx by omega) (.slice A1 n1 c1)
            have rx := rx.setNed (p := ⟨gx, 1, none⟩) hnxx (.slice A1 n1 c1)
            have ry := ry.setNed (p := ⟨gx, 1, none⟩) hnyx (.slice A1 n1 c1)
            have hB := hB.setCell (p := ⟨gx, 1, none⟩) hkgx (.slice A1 n1 c1)
            have mx := set_blkd (v := .int .i64 e1) (i := 2) mx rfl
            have ma := set_other (i := 2) ma (show w.heap.size ≠ gx by omega) (.int .i64 e1)
            have mb := set_other (i := 2) mb (show w.heap.size + 1 ≠ gx by omega) (.int .i64 e1)
            have my := set_other (i := 2) my (show gy ≠ gx by omega) (.int .i64 e1)
            have rx := rx.setNed (p := ⟨gx, 2, none⟩) hnxx (.int .i64 e1)
            have ry := ry.setNed (p := ⟨gx, 2, none⟩) hnyx (.int .i64 e1)
            have hB := hB.setCell (p := ⟨gx, 2, none⟩) hkgx (.int .i64 e1)
            obtain ⟨x0, x1, x2⟩ := box3_of ma
            obtain ⟨x3, x4, x5⟩ := box3_of mb
            refine hK.out _ _ ⟨x0, x1, x2, x3, x4, x5⟩ (fun _ => ?_)
            clear hK K x0 x1 x2 x3 x4 x5
            try simp only [Act.put, List.setIfInBounds_toArray, List.set_cons_zero, List.set_cons_succ]
            refine wpAnyH_ready (rs := [7]) (by kernel_rfl) (by simp) (AllReadyH.cons (o := ⟨_, _, _, _, _, _⟩) rfl (fun K hK => ?_) AllReadyH.nil)
            obtain ⟨t0, t1, t2⟩ := box3_of my
            have f0 := frozen_of 0 my
            have f1 := frozen_of 1 my
            have f2 := frozen_of 2 my
            go_simp
            clear t0 t1 t2 f0 f1 f2
            have my := set_blkd (v := .bool nb) (i := 0) my rfl
            have ma := set_other (i := 0) ma (show w.heap.size ≠ gy by omega) (.bool nb)
            have mb := set_other (i := 0) mb (show w.heap.size + 1 ≠ gy by omega) (.bool nb)
            have mx := set_other (i := 0) mx (show gx ≠ gy by omega) (.bool nb)
            have rx := rx.setNed (p := ⟨gy, 0, none⟩) hnxy (.bool nb)
            have ry := ry.setNed (p := ⟨gy, 0, none⟩) hnyy (.bool nb)
            have hB := hB.setCell (p := ⟨gy, 0, none⟩) hkgy (.bool nb)
            have my := set_blkd (v := .slice A2 n2 c2) (i := 1) my rfl
            have ma := set_other (i := 1) ma (show w.heap.size ≠ gy by omega) (.slice A2 n2 c2)
            have mb := set_other (i := 1) mb (show w.heap.size + 1 ≠ gy by omega) (.slice A2 n2 c2)
            have mx := set_other (i := 1) mx (show gx ≠ gy by omega) (.slice A2 n2 c2)
            have rx := rx.setNed (p := ⟨gy, 1, none⟩) hnxy (.slice A2 n2 c2)
            have ry := ry.setNed (p := ⟨gy, 1, none⟩) hnyy (.slice A2 n2 c2)
            have hB := hB.setCell (p := ⟨gy, 1, none⟩) hkgy (.slice A2 n2 c2)
            have my := set_blkd (v := .int .i64 e2) (i := 2) my rfl
            have ma := set_other (i := 2) ma (show w.heap.size ≠ gy by omega) (.int .i64 e2)
            have mb := set_other (i := 2) mb (show w.heap.size + 1 ≠ gy by omega) (.int .i64 e2)
            have mx := set_other (i := 2) mx (show gx ≠ gy by omega) (.int .i64 e2)
            have rx := rx.setNed (p := ⟨gy, 2, none⟩) hnxy (.int .i64 e2)
            have ry := ry.setNed (p := ⟨gy, 2, none⟩) hnyy (.int .i64 e2)
            have hB := hB.setCell (p := ⟨gy, 2, none⟩) hkgy (.int .i64 e2)
            obtain ⟨x0, x1, x2⟩ := box3_of ma
            obtain ⟨x3, x4, x5⟩ := box3_of mb
            refine hK.out _ _ ⟨x0, x1, x2, x3, x4, x5⟩ (fun _ => ?_)
            clear hK K x0 x1 x2 x3 x4 x5
            try simp only [Act.put, List.setIfInBounds_toArray, List.set_cons_zero, List.set_cons_succ]
            refine wpAnyH_done (by kernel_rfl) ?_ _
            go_wp2
            go_meet
            exact ⟨gx, gy, A1, n1, c1, ds, A2, n2, c2, es, rfl, rfl, hne, mx, my, hkgx, hkgy, rx, ry, d1, d2, v1, v2, l1, l2, hB⟩
    · go_simp
      obtain ⟨gy, hg⟩ : ∃ g, g = V0.heap.size := ⟨_, rfl⟩
      have ma := heldA (.cells #[.bool false, .slice none 0 0, .int .i64 0] 41) ma
      have mb := heldA (.cells #[.bool false, .slice none 0 0, .int .i64 0] 41) mb
      have my := World.alloc_heap_new V0 (.cells #[.bool false, .slice none 0 0, .int .i64 0] 41)
      rw [← hg] at my
      have hsz : (V0.alloc (.cells #[.bool false, .slice none 0 0, .int .i64 0] 41)).heap.size = V0.heap.size + 1 := by simp
      have hkgy : w2.heap.size ≤ gy := by have := hB.size; omega
      have hB := hB.alloc hB.size (.cells #[.bool false, .slice none 0 0, .int .i64 0] 41)
      have hW := hW.alloc hW.size (.cells #[.bool false, .slice none 0 0, .int .i64 0] 41)
      obtain ⟨x0, x1, x2⟩ := box3_of ma
      obtain ⟨x3, x4, x5⟩ := box3_of mb
      refine hK.out _ _ ⟨x0, x1, x2, x3, x4, x5⟩ (fun _ => ?_)
      clear hK K x0 x1 x2 x3 x4 x5
      try simp only [Act.put, List.setIfInBounds_toArray, List.set_cons_zero, List.set_cons_succ]
      try rw [← hg]
      generalize hU : V0.alloc (.cells #[.bool false, .slice none 0 0, .int .i64 0] 41) = V26 at *
      clear hU
      have hlgy : gy < V26.heap.size := by omega
      clear hg hsz
      have hBs0 : w2.heap.size ≤ V26.heap.size := hB.size
      refine wpAnyH_ready (rs := [1, 4]) (by kernel_rfl) (by simp) ?_
      refine (AllReadyH.cons (o := ⟨_, _, _, _, _, _⟩) rfl (fun K hK => ?_) (AllReadyH.cons (o := ⟨_, _, _, _, _, _⟩) rfl (fun K hK => ?_) AllReadyH.nil))
      · go_simp
        refine (OF1.out V26 (ha.below hW hS) (fun b h => up2 hW b h)).mono ?_
        rintro e V27 ⟨A1, n1, c1, ds, rfl, rx, d1, v1, l1, hb0⟩
        have ma := heldz hb0 ma
        have mb := heldz hb0 mb
        have my := heldz hb0 my
        have hB := hB.trans (hb0.mono hB.size)
        have hW := hW.trans (hb0.mono hW.size)
        have rx := rx.more (base' := w2.heap.size) hBs0
        (try dsimp only)
        obtain ⟨x0, x1, x2⟩ := box3_of ma
        obtain ⟨x3, x4, x5⟩ := box3_of mb
        refine hK.out _ _ ⟨x0, x1, x2, x3, x4, x5⟩ (fun _ => ?_)
        clear hK K x0 x1 x2 x3 x4 x5
        try simp only [Act.put, List.setIfInBounds_toArray, List.set_cons_zero, List.set_cons_succ]
        have hlgy : gy < V27.heap.size := Nat.lt_of_lt_of_le hlgy hb0.size
        clear hb0
        have hBs0 : w2.heap.size ≤ V27.heap.size := hB.size
        refine wpAnyH_ready (rs := [3, 4]) (by kernel_rfl) (by simp) ?_
        refine (AllReadyH.cons (o := ⟨_, _, _, _, _, _⟩) rfl (fun K hK => ?_) (AllReadyH.cons (o := ⟨_, _, _, _, _, _⟩) rfl (fun K hK => ?_) AllReadyH.nil))
        · go_simp
          refine (OF2.out V27 (hb.below hW hS) (fun b h => up2 hW b h)).mono ?_
          rintro e V28 ⟨A2, n2, c2, es, rfl, ry, d2, v2, l2, hb0⟩
          have ma := heldz hb0 ma
          have mb := heldz hb0 mb
          have my := heldz hb0 my
          have rx := rx.below hb0 (Nat.le_refl _)
          have hB := hB.trans (hb0.mono hB.size)
          have hW := hW.trans (hb0.mono hW.size)
          have ry := ry.more (base' := w2.heap.size) hBs0
          (try dsimp only)
          obtain ⟨x0, x1, x2⟩ := box3_of ma
          obtain ⟨x3, x4, x5⟩ := box3_of mb
          refine hK.out _ _ ⟨x0, x1, x2, x3, x4, x5⟩ (fun _ => ?_)
          clear hK K x0 x1 x2 x3 x4 x5
          try simp only [Act.put, List.setIfInBounds_toArray, List.set_cons_zero, List.set_cons_succ]
          have hlgy : gy < V28.heap.size := Nat.lt_of_lt_of_le hlgy hb0.size
          clear hb0
          have hBs0 : w2.heap.size ≤ V28.heap.size := hB.size
          refine wpAnyH_ready (rs := [4]) (by kernel_rfl) (by simp) ?_
          refine (AllReadyH.cons (o := ⟨_, _, _, _, _, _⟩) rfl (fun K hK => ?_) AllReadyH.nil)
          · go_simp
            obtain ⟨gx, hg⟩ : ∃ g, g = V28.heap.size := ⟨_, rfl⟩
            have ma := heldA (.cells #[.bool false, .slice none 0 0, .int .i64 0] 41) ma
            have mb := heldA (.cells #[.bool false, .slice none 0 0, .int .i64 0] 41) mb
            have my := heldA (.cells #[.bool false, .slice none 0 0, .int .i64 0] 41) my
            have mx := World.alloc_heap_new V28 (.cells #[.bool false, .slice none 0 0, .int .i64 0] 41)
            rw [← hg] at mx
            have rx := rx.below ((Below.refl V28.heap.size V28).alloc (Nat.le_refl _) (.cells #[.bool false, .slice none 0 0, .int .i64 0] 41)) (Nat.le_refl _)
            have ry := ry.below ((Below.refl V28.heap.size V28).alloc (Nat.le_refl _) (.cells #[.bool false, .slice none 0 0, .int .i64 0] 41)) (Nat.le_refl _)
            have hsz : (V28.alloc (.cells #[.bool false, .slice none 0 0, .int .i64 0] 41)).heap.size = V28.heap.size + 1 := by simp
            have hkgx : w2.heap.size ≤ gx := by have := hB.size; omega
            have hB := hB.alloc hB.size (.cells #[.bool false, .slice none 0 0, .int .i64 0] 41)
            have hW := hW.alloc hW.size (.cells #[.bool false, .slice none 0 0, .int .i64 0] 41)
            obtain ⟨x0, x1, x2⟩ := box3_of ma
            obtain ⟨x3, x4, x5⟩ := box3_of mb
            refine hK.out _ _ ⟨x0, x1, x2, x3, x4, x5⟩ (fun _ => ?_)
            clear hK K x0 x1 x2 x3 x4 x5
            try simp only [Act.put, List.setIfInBounds_toArray, List.set_cons_zero, List.set_cons_succ]
            try rw [← hg]
            generalize hU : V28.alloc (.cells #[.bool false, .slice none 0 0, .int .i64 0] 41) = V29 at *
            clear hU
            have hlgx : gx < V29.heap.size := by omega
            have hne : gx ≠ gy := by omega
            have hlgy : gy < V29.heap.size := by omega
            clear hg hsz
            have hBs0 : w2.heap.size ≤ V29.heap.size := hB.size
            have hnxx := rx.ne_boxd mx ty_ned
            have hnxy := rx.ne_boxd my ty_ned
            have hnyx := ry.ne_boxd mx ty_ned
            have hnyy := ry.ne_boxd my ty_ned
            refine wpAnyH_ready (rs := [6]) (by kernel_rfl) (by simp) (AllReadyH.cons (o := ⟨_, _, _, _, _, _⟩) rfl (fun K hK => ?_) AllReadyH.nil)
            obtain ⟨t0, t1, t2⟩ := box3_of mx
            have f0 := frozen_of 0 mx
            have f1 := frozen_of 1 mx
            have f2 := frozen_of 2 mx
            go_simp
            clear t0 t1 t2 f0 f1 f2
            have mx := set_blkd (v := .bool na) (i := 0) mx rfl
            have ma := set_other (i := 0) ma (show w.heap.size ≠ gx by omega) (.bool na)
            have mb := set_other (i := 0) mb (show w.heap.size + 1 ≠ gx by omega) (.bool na)
            have my := set_other (i := 0) my (show gy ≠ gx by omega) (.bool na)
            have rx := rx.setNed (p := ⟨gx, 0, none⟩) hnxx (.bool na)
            have ry := ry.setNed (p := ⟨gx, 0, none⟩) hnyx (.bool na)
            have hB := hB.setCell (p := ⟨gx, 0, none⟩) hkgx (.bool na)
            have mx := set_blkd (v := .slice A1 n1 c1) (i := 1) mx rfl
            have ma := set_other (i := 1) ma (show w.heap.size ≠ gx by omega) (.slice A1 n1 c1)
            have mb := set_other (i := 1) mb (show w.heap.size + 1 ≠ gx by omega) (.slice A1 n1 c1)
            have my := set_other (i := 1) my (show gy ≠ gx by omega) (.slice A1 n1 c1)
            have rx := rx.setNed (p := ⟨gx, 1, none⟩) hnxx (.slice A1 n1 c1)
            have ry := ry.setNed (p := ⟨gx, 1, none⟩) hnyx (.slice A1 n1 c1)
            have hB := hB.setCell (p := ⟨gx, 1, none⟩) hkgx (.slice A1 n1 c1)
            have mx := set_blkd (v := .int .i64 e1) (i := 2) mx rfl
            have ma := set_other (i := 2) ma (show w.heap.size ≠ gx by omega) (.int .i64 e1)
            have mb := set_other (i := 2) mb (show w.heap.size + 1 ≠ gx by omega) (.int .i64 e1)
            have my := set_other (i := 2) my (show gy ≠ gx by omega) (.int .i64 e1)
            have rx := rx.setNed (p := ⟨gx, 2, none⟩) hnxx (.int .i64 e1)
            have ry := ry.setNed (p := ⟨gx, 2, none⟩) hnyx (.int .i64 e1)
            have hB := hB.setCell (p := ⟨gx, 2, none⟩) hkgx (.int .i64 e1)
            obtain ⟨x0, x1, x2⟩ := box3_of ma
            obtain ⟨x3, x4, x5⟩ := box3_of mb
            refine hK.out _ _ ⟨x0, x1, x2, x3, x4, x5⟩ (fun _ => ?_)
            clear hK K x0 x1 x2 x3 x4 x5
            try simp only [Act.put, List.setIfInBounds_toArray, List.set_cons_zero, List.set_cons_succ]
            refine wpAnyH_ready (rs := [7]) (by kernel_rfl) (by simp) (AllReadyH.cons (o := ⟨_, _, _, _, _, _⟩) rfl (fun K hK => ?_) AllReadyH.nil)
            obtain ⟨t0, t1, t2⟩ := box3_of my
            have f0 := frozen_of 0 my
            have f1 := frozen_of 1 my
            have f2 := frozen_of 2 my
            go_simp
            clear t0 t1 t2 f0 f1 f2
            have my := set_blkd (v := .bool nb) (i := 0) my rfl
            have ma := set_other (i := 0) ma (show w.heap.size ≠ gy by omega) (.bool nb)
            have mb := set_other (i := 0) mb (show w.heap.size + 1 ≠ gy by omega) (.bool nb)
            have mx := set_other (i := 0) mx (show gx ≠ gy by omega) (.bool nb)
            have rx := rx.setNed (p := ⟨gy, 0, none⟩) hnxy (.bool nb)
            have ry := ry.setNed (p := ⟨gy, 0, none⟩) hnyy (.bool nb)
            have hB := hB.setCell (p := ⟨gy, 0, none⟩) hkgy (.bool nb)
            have my := set_blkd (v := .slice A2 n2 c2) (i := 1) my rfl
            have ma := set_other (i := 1) ma (show w.heap.size ≠ gy by omega) (.slice A2 n2 c2)
            have mb := set_other (i := 1) mb (show w.heap.size + 1 ≠ gy by omega) (.slice A2 n2 c2)
            have mx := set_other (i := 1) mx (show gx ≠ gy by omega) (.slice A2 n2 c2)
            have rx := rx.setNed (p := ⟨gy, 1, none⟩) hnxy (.slice A2 n2 c2)
            have ry := ry.setNed (p := ⟨gy, 1, none⟩) hnyy (.slice A2 n2 c2)
            have hB := hB.setCell (p := ⟨gy, 1, none⟩) hkgy (.slice A2 n2 c2)
            have my := set_blkd (v := .int .i64 e2) (i := 2) my rfl
            have ma := set_other (i := 2) ma (show w.heap.size ≠ gy by omega) (.int .i64 e2)
            have mb := set_other (i := 2) mb (show w.heap.size + 1 ≠ gy by omega) (.int .i64 e2)
            have mx := set_other (i := 2) mx (show gx ≠ gy by omega) (.int .i64 e2)
            have rx := rx.setNed (p := ⟨gy, 2, none⟩) hnxy (.int .i64 e2)
            have ry := ry.setNed (p := ⟨gy, 2, none⟩) hnyy (.int .i64 e2)
            have hB := hB.setCell (p := ⟨gy, 2, none⟩) hkgy (.int .i64 e2)
            obtain ⟨x0, x1, x2⟩ := box3_of ma
            obtain ⟨x3, x4, x5⟩ := box3_of mb
            refine hK.out _ _ ⟨x0, x1, x2, x3, x4, x5⟩ (fun _ => ?_)
            clear hK K x0 x1 x2 x3 x4 x5
            try simp only [Act.put, List.setIfInBounds_toArray, List.set_cons_zero, List.set_cons_succ]
            refine wpAnyH_done (by kernel_rfl) ?_ _
            go_wp2
            go_meet
            exact ⟨gx, gy, A1, n1, c1, ds, A2, n2, c2, es, rfl, rfl, hne, mx, my, hkgx, hkgy, rx, ry, d1, d2, v1, v2, l1, l2, hB⟩
        · go_simp
          obtain ⟨gx, hg⟩ : ∃ g, g = V27.heap.size := ⟨_, rfl⟩
          have ma := heldA (.cells #[.bool false, .slice none 0 0, .int .i64 0] 41) ma
          have mb := heldA (.cells #[.bool false, .slice none 0 0, .int .i64 0] 41) mb
          have my := heldA (.cells #[.bool false, .slice none 0 0, .int .i64 0] 41) my
          have mx := World.alloc_heap_new V27 (.cells #[.bool false, .slice none 0 0, .int .i64 0] 41)
          rw [← hg] at mx
          have rx := rx.below ((Below.refl V27.heap.size V27).alloc (Nat.le_refl _) (.cells #[.bool false, .slice none 0 0, .int .i64 0] 41)) (Nat.le_refl _)
          have hsz : (V27.alloc (.cells #[.bool false, .slice none 0 0, .int .i64 0] 41)).heap.size = V27.heap.size + 1 := by simp
          have hkgx : w2.heap.size ≤ gx := by have := hB.size; omega
          have hB := hB.alloc hB.size (.cells #[.bool false, .slice none 0 0, .int .i64 0] 41)
          have hW := hW.alloc hW.size (.cells #[.bool false, .slice none 0 0, .int .i64 0] 41)
          obtain ⟨x0, x1, x2⟩ := box3_of ma
          obtain ⟨x3, x4, x5⟩ := box3_of mb
          refine hK.out _ _ ⟨x0, x1, x2, x3, x4, x5⟩ (fun _ => ?_)
          clear hK K x0 x1 x2 x3 x4 x5
          try simp only [Act.put, List.setIfInBounds_toArray, List.set_cons_zero, List.set_cons_succ]
          try rw [← hg]
          generalize hU : V27.alloc (.cells #[.bool false, .slice none 0 0, .int .i64 0] 41) = V30 at *
          clear hU
          have hlgx : gx < V30.heap.size := by omega
          have hne : gx ≠ gy := by omega
          have hlgy : gy < V30.heap.size := by omega
          clear hg hsz
          have hBs0 : w2.heap.size ≤ V30.heap.size := hB.size
          refine wpAnyH_ready (rs := [3]) (by kernel_rfl) (by simp) ?_
          refine (AllReadyH.cons (o := ⟨_, _, _, _, _, _⟩) rfl (fun K hK => ?_) AllReadyH.nil)
          · go_simp
            refine (OF2.out V30 (hb.below hW hS) (fun b h => up2 hW b h)).mono ?_
            rintro e V31 ⟨A2, n2, c2, es, rfl, ry, d2, v2, l2, hb0⟩
            have ma := heldz hb0 ma
            have mb := heldz hb0 mb
            have mx := heldz hb0 mx
            have my := heldz hb0 my
            have rx := rx.below hb0 (Nat.le_refl _)
            have hB := hB.trans (hb0.mono hB.size)
            have hW := hW.trans (hb0.mono hW.size)
            have ry := ry.more (base' := w2.heap.size) hBs0
            (try dsimp only)
            obtain ⟨x0, x1, x2⟩ := box3_of ma
            obtain ⟨x3, x4, x5⟩ := box3_of mb
            refine hK.out _ _ ⟨x0, x1, x2, x3, x4, x5⟩ (fun _ => ?_)
            clear hK K x0 x1 x2 x3 x4 x5
            try simp only [Act.put, List.setIfInBounds_toArray, List.set_cons_zero, List.set_cons_succ]
            have hlgx : gx < V31.heap.size := Nat.lt_of_lt_of_le hlgx hb0.size
            have hlgy : gy < V31.heap.size := Nat.lt_of_lt_of_le hlgy hb0.size
            clear hb0
            have hBs0 : w2.heap.size ≤ V31.heap.size := hB.size
            have hnxx := rx.ne_boxd mx ty_ned
            have hnxy := rx.ne_boxd my ty_ned
            have hnyx := ry.ne_boxd mx ty_ned
            have hnyy := ry.ne_boxd my ty_ned
            refine wpAnyH_ready (rs := [6]) (by kernel_rfl) (by simp) (AllReadyH.cons (o := ⟨_, _, _, _, _, _⟩) rfl (fun K hK => ?_) AllReadyH.nil)
            obtain ⟨t0, t1, t2⟩ := box3_of mx
            have f0 := frozen_of 0 mx
            have f1 := frozen_of 1 mx
            have f2 := frozen_of 2 mx
            go_simp
            clear t0 t1 t2 f0 f1 f2
            have mx := set_blkd (v := .bool na) (i := 0) mx rfl
            have ma := set_other (i := 0) ma (show w.heap.size ≠ gx by omega) (.bool na)
            have mb := set_other (i := 0) mb (show w.heap.size + 1 ≠ gx by omega) (.bool na)
            have my := set_other (i := 0) my (show gy ≠ gx by omega) (.bool na)
            have rx := rx.setNed (p := ⟨gx, 0, none⟩) hnxx (.bool na)
            have ry := ry.setNed (p := ⟨gx, 0, none⟩) hnyx (.bool na)
            have hB := hB.setCell (p := ⟨gx, 0, none⟩) hkgx (.bool na)
            have mx := set_blkd (v := .slice A1 n1 c1) (i := 1) mx rfl
            have ma := set_other (i := 1) ma (show w.heap.size ≠ gx by omega) (.slice A1 n1 c1)
            have mb := set_other (i := 1) mb (show w.heap.size + 1 ≠ gx by omega) (.slice A1 n1 c1)
            have my := set_other (i := 1) my (show gy ≠ gx by omega) (.slice A1 n1 c1)
            have rx := rx.setNed (p := ⟨gx, 1, none⟩) hnxx (.slice A1 n1 c1)
            have ry := ry.setNed (p := ⟨gx, 1, none⟩) hnyx (.slice A1 n1 c1)
            have hB := hB.setCell (p := ⟨gx, 1, none⟩) hkgx (.slice A1 n1 c1)
            have mx := set_blkd (v := .int .i64 e1) (i := 2) mx rfl
            have ma := set_other (i := 2) ma (show w.heap.size ≠ gx by omega) (.int .i64 e1)
            have mb := set_other (i := 2) mb (show w.heap.size + 1 ≠ gx by omega) (.int .i64 e1)
            have my := set_other (i := 2) my (show gy ≠ gx by omega) (.int .i64 e1)
            have rx := rx.setNed (p := ⟨gx, 2, none⟩) hnxx (.int .i64 e1)
            have ry := ry.setNed (p := ⟨gx, 2, none⟩) hnyx (.int .i64 e1)
            have hB := hB.setCell (p := ⟨gx, 2, none⟩) hkgx (.int .i64 e1)
            obtain ⟨x0, x1, x2⟩ := box3_of ma
            obtain ⟨x3, x4, x5⟩ := box3_of mb
            refine hK.out _ _ ⟨x0, x1, x2, x3, x4, x5⟩ (fun _ => ?_)
            clear hK K x0 x1 x2 x3 x4 x5
            try simp only [Act.put, List.setIfInBounds_toArray, List.set_cons_zero, List.set_cons_succ]
            refine wpAnyH_ready (rs := [7]) (by kernel_rfl) (by simp) (AllReadyH.cons (o := ⟨_, _, _, _, _, _⟩) rfl (fun K hK => ?_) AllReadyH.nil)
            obtain ⟨t0, t1, t2⟩ := box3_of my
            have f0 := frozen_of 0 my
            have f1 := frozen_of 1 my
            have f2 := frozen_of 2 my
            go_simp
            clear t0 t1 t2 f0 f1 f2
            have my := set_blkd (v := .bool nb) (i := 0) my rfl
            have ma := set_other (i := 0) ma (show w.heap.size ≠ gy by omega) (.bool nb)
            have mb := set_other (i := 0) mb (show w.heap.size + 1 ≠ gy by omega) (.bool nb)
            have mx := set_other (i := 0) mx (show gx ≠ gy by omega) (.bool nb)
            have rx := rx.setNed (p := ⟨gy, 0, none⟩) hnxy (.bool nb)
            have ry := ry.setNed (p := ⟨gy, 0, none⟩) hnyy (.bool nb)
            have hB := hB.setCell (p := ⟨gy, 0, none⟩) hkgy (.bool nb)
            have my := set_blkd (v := .slice A2 n2 c2) (i := 1) my rfl
            have ma := set_other (i := 1) ma (show w.heap.size ≠ gy by omega) (.slice A2 n2 c2)
            have mb := set_other (i := 1) mb (show w.heap.size + 1 ≠ gy by omega) (.slice A2 n2 c2)
            have mx := set_other (i := 1) mx (show gx ≠ gy by omega) (.slice A2 n2 c2)
            have rx := rx.setNed (p := ⟨gy, 1, none⟩) hnxy (.slice A2 n2 c2)
            have ry := ry.setNed (p := ⟨gy, 1, none⟩) hnyy (.slice A2 n2 c2)
            have hB := hB.setCell (p := ⟨gy, 1, none⟩) hkgy (.slice A2 n2 c2)
            have my := set_blkd (v := .int .i64 e2) (i := 2) my rfl
            have ma := set_other (i := 2) ma (show w.heap.size ≠ gy by omega) (.int .i64 e2)
            have mb := set_other (i := 2) mb (show w.heap.size + 1 ≠ gy by omega) (.int .i64 e2)
            have mx := set_other (i := 2) mx (show gx ≠ gy by omega) (.int .i64 e2)
            have rx := rx.setNed (p := ⟨gy, 2, none⟩) hnxy (.int .i64 e2)
            have ry := ry.setNed (p := ⟨gy, 2, none⟩) hnyy (.int .i64 e2)
            have hB := hB.setCell (p := ⟨gy, 2, none⟩) hkgy (.int .i64 e2)
            obtain ⟨x0, x1, x2⟩ := box3_of ma
            obtain ⟨x3, x4, x5⟩ := box3_of mb
            refine hK.out _ _ ⟨x0, x1, x2, x3, x4, x5⟩ (fun _ => ?_)
            clear hK K x0 x1 x2 x3 x4 x5
            try simp only [Act.put, List.setIfInBounds_toArray, List.set_cons_zero, List.set_cons_succ]
            refine wpAnyH_done (by kernel_rfl) ?_ _
            go_wp2
            go_meet
            exact ⟨gx, gy, A1, n1, c1, ds, A2, n2, c2, es, rfl, rfl, hne, mx, my, hkgx, hkgy, rx, ry, d1, d2, v1, v2, l1, l2, hB⟩
      · go_simp
        obtain ⟨gx, hg⟩ : ∃ g, g = V26.heap.size := ⟨_, rfl⟩
        have ma := heldA (.cells #[.bool false, .slice none 0 0, .int .i64 0] 41) ma
        have mb := heldA (.cells #[.bool false, .slice none 0 0, .int .i64 0] 41) mb
        have my := heldA (.cells #[.bool false, .slice none 0 0, .int .i64 0] 41) my
        have mx := World.alloc_heap_new V26 (.cells #[.bool false, .slice none 0 0, .int .i64 0] 41)
        rw [← hg] at mx
        have hsz : (V26.alloc (.cells #[.bool false, .slice none 0 0, .int .i64 0] 41)).heap.size = V26.heap.size + 1 := by simp
        have hkgx : w2.heap.size ≤ gx := by have := hB.size; omega
        have hB := hB.alloc hB.size (.cells #[.bool false, .slice none 0 0, .int .i64 0] 41)
        have hW := hW.alloc hW.size (.cells #[.bool false, .slice none 0 0, .int .i64 0] 41)
        obtain ⟨x0, x1, x2⟩ := box3_of ma
        obtain ⟨x3, x4, x5⟩ := box3_of mb
        refine hK.out _ _ ⟨x0, x1, x2, x3, x4, x5⟩ (fun _ => ?_)
        clear hK K x0 x1 x2 x3 x4 x5
        try simp only [Act.put, List.setIfInBounds_toArray, List.set_cons_zero, List.set_cons_succ]
        try rw [← hg]
        generalize hU : V26.alloc (.cells #[.bool false, .slice none 0 0, .int .i64 0] 41) = V32 at *
        clear hU
        have hlgx : gx < V32.heap.size := by omega
        have hne : gx ≠ gy := by omega
        have hlgy : gy < V32.heap.size := by omega
        clear hg hsz
        have hBs0 : w2.heap.size ≤ V32.heap.size := hB.size
        refine wpAnyH_ready (rs := [1]) (by kernel_rfl) (by simp) ?_
        refine (AllReadyH.cons (o := ⟨_, _, _, _, _, _⟩) rfl (fun K hK => ?_) AllReadyH.nil)
        · go_simp
          refine (OF1.out V32 (ha.below hW hS) (fun b h => up2 hW b h)).mono ?_
          rintro e V33 ⟨A1, n1, c1, ds, rfl, rx, d1, v1, l1, hb0⟩
          have ma := heldz hb0 ma
          have mb := heldz hb0 mb
          have mx := heldz hb0 mx
          have my := heldz hb0 my
          have hB := hB.trans (hb0.mono hB.size)
          have hW := hW.trans (hb0.mono hW.size)
          have rx := rx.more (base' := w2.heap.size) hBs0
          (try dsimp only)
          obtain ⟨x0, x1, x2⟩ := box3_of ma
          obtain ⟨x3, x4, x5⟩ := box3_of mb
          refine hK.out _ _ ⟨x0, x1, x2, x3, x4, x5⟩ (fun _ => ?_)
          clear hK K x0 x1 x2 x3 x4 x5
          try simp only [Act.put, List.setIfInBounds_toArray, List.set_cons_zero, List.set_cons_succ]
          have hlgx : gx < V33.heap.size := Nat.lt_of_lt_of_le hlgx hb0.size
          have hlgy : gy < V33.heap.size := Nat.lt_of_lt_of_le hlgy hb0.size
          clear hb0
          have hBs0 : w2.heap.size ≤ V33.heap.size := hB.size
          refine wpAnyH_ready (rs := [3]) (by kernel_rfl) (by simp) ?_
          refine (AllReadyH.cons (o := ⟨_, _, _, _, _, _⟩) rfl (fun K hK => ?_) AllReadyH.nil)
          · go_simp
            refine (OF2.out V33 (hb.below hW hS) (fun b h => up2 hW b h)).mono ?_
            rintro e V34 ⟨A2, n2, c2, es, rfl, ry, d2, v2, l2, hb0⟩
            have ma := heldz hb0 ma
            have mb := heldz hb0 mb
            have mx := heldz hb0 mx
            have my := heldz hb0 my
            have rx := rx.below hb0 (Nat.le_refl _)
            have hB := hB.trans (hb0.mono hB.size)
            have hW := hW.trans (hb0.mono hW.size)
            have ry := ry.more (base' := w2.heap.size) hBs0
            (try dsimp only)
            obtain ⟨x0, x1, x2⟩ := box3_of ma
            obtain ⟨x3, x4, x5⟩ := box3_of mb
            refine hK.out _ _ ⟨x0, x1, x2, x3, x4, x5⟩ (fun _ => ?_)
            clear hK K x0 x1 x2 x3 x4 x5
            try simp only [Act.put, List.setIfInBounds_toArray, List.set_cons_zero, List.set_cons_succ]
            have hlgx : gx < V34.heap.size := Nat.lt_of_lt_of_le hlgx hb0.size
            have hlgy : gy < V34.heap.size := Nat.lt_of_lt_of_le hlgy hb0.size
            clear hb0
            have hBs0 : w2.heap.size ≤ V34.heap.size := hB.size
            have hnxx := rx.ne_boxd mx ty_ned
            have hnxy := rx.ne_boxd my ty_ned
            have hnyx := ry.ne_boxd mx ty_ned
            have hnyy := ry.ne_boxd my ty_ned
            refine wpAnyH_ready (rs := [6]) (by kernel_rfl) (by simp) (AllReadyH.cons (o := ⟨_, _, _, _, _, _⟩) rfl (fun K hK => ?_) AllReadyH.nil)
            obtain ⟨t0, t1, t2⟩ := box3_of mx
            have f0 := frozen_of 0 mx
            have f1 := frozen_of 1 mx
            have f2 := frozen_of 2 mx
            go_simp
            clear t0 t1 t2 f0 f1 f2
            have mx := set_blkd (v := .bool na) (i := 0) mx rfl
            have ma := set_other (i := 0) ma (show w.heap.size ≠ gx by omega) (.bool na)
            have mb := set_other (i := 0) mb (show w.heap.size + 1 ≠ gx by omega) (.bool na)
            have my := set_other (i := 0) my (show gy ≠ gx by omega) (.bool na)
            have rx := rx.setNed (p := ⟨gx, 0, none⟩) hnxx (.bool na)
            have ry := ry.setNed (p := ⟨gx, 0, none⟩) hnyx (.bool na)
            have hB := hB.setCell (p := ⟨gx, 0, none⟩) hkgx (.bool na)
            have mx := set_blkd (v := .slice A1 n1 c1) (i := 1) mx rfl
            have ma := set_other (i := 1) ma (show w.heap.size ≠ gx by omega) (.slice A1 n1 c1)
            have mb := set_other (i := 1) mb (show w.heap.size + 1 ≠ gx by omega) (.slice A1 n1 c1)
            have my := set_other (i := 1) my (show gy ≠ gx by omega) (.slice A1 n1 c1)
            have rx := rx.setNed (p := ⟨gx, 1, none⟩) hnxx (.slice A1 n1 c1)
            have ry := ry.setNed (p := ⟨gx, 1, none⟩) hnyx (.slice A1 n1 c1)
            have hB := hB.setCell (p := ⟨gx, 1, none⟩) hkgx (.slice A1 n1 c1)
            have mx := set_blkd (v := .int .i64 e1) (i := 2) mx rfl
            have ma := set_other (i := 2) ma (show w.heap.size ≠ gx by omega) (.int .i64 e1)
            have mb := set_other (i := 2) mb (show w.heap.size + 1 ≠ gx by omega) (.int .i64 e1)
            have my := set_other (i := 2) my (show gy ≠ gx by omega) (.int .i64 e1)
            have rx := rx.setNed (p := ⟨gx, 2, none⟩) hnxx (.int .i64 e1)
            have ry := ry.setNed (p := ⟨gx, 2, none⟩) hnyx (.int .i64 e1)
            have hB := hB.setCell (p := ⟨gx, 2, none⟩) hkgx (.int .i64 e1)
            obtain ⟨x0, x1, x2⟩ := box3_of ma
            obtain ⟨x3, x4, x5⟩ := box3_of mb
            refine hK.out _ _ ⟨x0, x1, x2, x3, x4, x5⟩ (fun _ => ?_)
            clear hK K x0 x1 x2 x3 x4 x5
            try simp only [Act.put, List.setIfInBounds_toArray, List.set_cons_zero, List.set_cons_succ]
            refine wpAnyH_ready (rs := [7]) (by kernel_rfl) (by simp) (AllReadyH.cons (o := ⟨_, _, _, _, _, _⟩) rfl (fun K hK => ?_) AllReadyH.nil)
            obtain ⟨t0, t1, t2⟩ := box3_of my
            have f0 := frozen_of 0 my
            have f1 := frozen_of 1 my
            have f2 := frozen_of 2 my
            go_simp
            clear t0 t1 t2 f0 f1 f2
            have my := set_blkd (v := .bool nb) (i := 0) my rfl
            have ma := set_other (i := 0) ma (show w.heap.size ≠ gy by omega) (.bool nb)
            have mb := set_other (i := 0) mb (show w.heap.size + 1 ≠ gy by omega) (.bool nb)
            have mx := set_other (i := 0) mx (show gx ≠ gy by omega) (.bool nb)
            have rx := rx.setNed (p := ⟨gy, 0, none⟩) hnxy (.bool nb)
            have ry := ry.setNed (p := ⟨gy, 0, none⟩) hnyy (.bool nb)
            have hB := hB.setCell (p := ⟨gy, 0, none⟩) hkgy (.bool nb)
            have my := set_blkd (v := .slice A2 n2 c2) (i := 1) my rfl
            have ma := set_other (i := 1) ma (show w.heap.size ≠ gy by omega) (.slice A2 n2 c2)
            have mb := set_other (i := 1) mb (show w.heap.size + 1 ≠ gy by omega) (.slice A2 n2 c2)
            have mx := set_other (i := 1) mx (show gx ≠ gy by omega) (.slice A2 n2 c2)
            have rx := rx.setNed (p := ⟨gy, 1, none⟩) hnxy (.slice A2 n2 c2)
            have ry := ry.setNed (p := ⟨gy, 1, none⟩) hnyy (.slice A2 n2 c2)
            have hB := hB.setCell (p := ⟨gy, 1, none⟩) hkgy (.slice A2 n2 c2)
            have my := set_blkd (v := .int .i64 e2) (i := 2) my rfl
            have ma := set_other (i := 2) ma (show w.heap.size ≠ gy by omega) (.int .i64 e2)
            have mb := set_other (i := 2) mb (show w.heap.size + 1 ≠ gy by omega) (.int .i64 e2)
            have mx := set_other (i := 2) mx (show gx ≠ gy by omega) (.int .i64 e2)
            have rx := rx.setNed (p := ⟨gy, 2, none⟩) hnxy (.int .i64 e2)
            have ry := ry.setNed (p := ⟨gy, 2, none⟩) hnyy (.int .i64 e2)
            have hB := hB.setCell (p := ⟨gy, 2, none⟩) hkgy (.int .i64 e2)
            obtain ⟨x0, x1, x2⟩ := box3_of ma
            obtain ⟨x3, x4, x5⟩ := box3_of mb
            refine hK.out _ _ ⟨x0, x1, x2, x3, x4, x5⟩ (fun _ => ?_)
            clear hK K x0 x1 x2 x3 x4 x5
            try simp only [Act.put, List.setIfInBounds_toArray, List.set_cons_zero, List.set_cons_succ]
            refine wpAnyH_done (by kernel_rfl) ?_ _
            go_wp2
            go_meet
            exact ⟨gx, gy, A1, n1, c1, ds, A2, n2, c2, es, rfl, rfl, hne, mx, my, hkgx, hkgy, rx, ry, d1, d2, v1, v2, l1, l2, hB⟩
  case rest =>
    obtain ⟨gx, gy, A1, n1, c1, ds, A2, n2, c2, es, rfl, rfl, hne, mx, my, hkgx, hkgy, rx, ry, d1, d2, v1, v2, l1, l2, hb0⟩ := hcut
    have mr := heldz hb0 mr
    have hB := hB.trans (hb0.mono hB.size)
    have HV1 := Lib.hid v1
    have HV2 := Lib.hid v2
    have HD1 := Lib.hid d1
    have HD2 := Lib.hid d2
    have hn1 : n1 = (dOf (val xs)).length := by rw [← v1, ← eq_dOf d1]; exact rx.len.symm
    have hn2' : n2 = (dOf (val ys)).length := by rw [← v2, ← eq_dOf d2]; exact ry.len.symm
    have HN1 := Lib.hid hn1
    have HN2 := Lib.hid hn2'
    have hl1 : n1 ≤ 300 := by rw [hn1]; exact HL1.out
    have hl2 : n2 ≤ 300 := by rw [hn2']; exact HL2.out
    have rx : RdI wc (fun b => b < wc.heap.size) A1 n1 ds := rx.rd.more (fun b h => h.2)
    have ry : RdI wc (fun b => b < wc.heap.size) A2 n2 es := ry.rd.more (fun b h => h.2)
    obtain ⟨k, hk⟩ : ∃ k : Nat, max 0 ((n2 : Int) - (n1 : Int) + 40 + 2) = (k : Int) := ⟨(max 0 ((n2 : Int) - (n1 : Int) + 40 + 2)).toNat, by omega⟩
    have hkb : k ≤ 400 := by omega
    have HK := Lib.hid (show (n2 : Int) + 42 ≤ (n1 : Int) + (k : Int) by omega)
    clear hb0 v1 v2 d1 d2 hn1 hn2' p0 p1 p2 p3 p4 p5 ma mb
    obtain ⟨x0, x1, x2⟩ := box3_of mx
    obtain ⟨y0, y1, y2⟩ := box3_of my
    go_upto_region 7 with fail
    clear hk
    go_wp2_with fail
    refine wp_region_held_drew (S := fun w' => w'.cell? ⟨gx, 0, none⟩ = some (.bool na) ∧ w'.cell? ⟨gx, 1, none⟩ = some (.slice A1 n1 c1) ∧ w'.cell? ⟨gx, 2, none⟩ = some (.int .i64 e1) ∧ w'.cell? ⟨gy, 0, none⟩ = some (.bool nb) ∧ w'.cell? ⟨gy, 1, none⟩ = some (.slice A2 n2 c2) ∧ w'.cell? ⟨gy, 2, none⟩ = some (.int .i64 e2)) (by kernel_rfl) ⟨x0, x1, x2, y0, y1, y2⟩ (fun hHeld => ?_)
    (try simp only [List.size_toArray, List.length_cons, List.length_nil, Nat.reduceAdd, Array.replicate_succ, Array.replicate_zero, List.push_toArray, List.append_toArray, List.nil_append, List.cons_append])
    refine wpAnyH_take (i := 0) (oi := ⟨_, _, _, _, _, _⟩) (v := ?_) rfl (by kernel_rfl) (by kernel_rfl) (by kernel_rfl) (fun _ _ _ h => h) (Or.inl ⟨by rfl, ?_⟩) (by assumption) ?_
    rotate_left
    · intro w hSw
      (try dsimp only at hSw)
      go_split_ands
      go_simp
      try with_reducible rfl
    try simp only [Act.put, List.setIfInBounds_toArray, List.set_cons_zero, List.set_cons_succ]
    refine wpAnyH_take (i := 1) (oi := ⟨_, _, _, _, _, _⟩) (v := ?_) rfl (by kernel_rfl) (by kernel_rfl) (by kernel_rfl) (fun _ _ _ h => h) (Or.inl ⟨by rfl, ?_⟩) (by assumption) ?_
    rotate_left
    · intro w hSw
      (try dsimp only at hSw)
      go_split_ands
      go_simp
      try with_reducible rfl
    try simp only [Act.put, List.setIfInBounds_toArray, List.set_cons_zero, List.set_cons_succ]
    refine wpAnyH_take (i := 2) (oi := ⟨_, _, _, _, _, _⟩) (v := ?_) rfl (by kernel_rfl) (by kernel_rfl) (by kernel_rfl) (fun _ _ _ h => h) (Or.inl ⟨by rfl, ?_⟩) (by assumption) ?_
    rotate_left
    · intro w hSw
      (try dsimp only at hSw)
      go_split_ands
      go_simp
      try with_reducible rfl
    try simp only [Act.put, List.setIfInBounds_toArray, List.set_cons_zero, List.set_cons_succ]
    refine wpAnyH_take (i := 4) (oi := ⟨_, _, _, _, _, _⟩) (v := ?_) rfl (by kernel_rfl) (by kernel_rfl) (by kernel_rfl) (fun _ _ _ h => h) (Or.inl ⟨by rfl, ?_⟩) (by assumption) ?_
    rotate_left
    · intro w hSw
      (try dsimp only at hSw)
      go_split_ands
      go_simp
      try with_reducible rfl
    try simp only [Act.put, List.setIfInBounds_toArray, List.set_cons_zero, List.set_cons_succ]
    refine wpAnyH_take (i := 5) (oi := ⟨_, _, _, _, _, _⟩) (v := ?_) rfl (by kernel_rfl) (by kernel_rfl) (by kernel_rfl) (fun _ _ _ h => h) (Or.inl ⟨by rfl, ?_⟩) (by assumption) ?_
    rotate_left
    · intro w hSw
      (try dsimp only at hSw)
      go_split_ands
      go_simp
      try with_reducible rfl
    try simp only [Act.put, List.setIfInBounds_toArray, List.set_cons_zero, List.set_cons_succ]
    have mx : wc.drew.heap[gx]? = _ := mx
    have my : wc.drew.heap[gy]? = _ := my
    have mr : wc.drew.heap[w.heap.size + 1 + 1]? = _ := mr
    have rx : RdI wc.drew (fun b => b < wc.drew.heap.size) A1 n1 ds := rx.drew
    have ry : RdI wc.drew (fun b => b < wc.drew.heap.size) A2 n2 es := ry.drew
    have hB : Below w.heap.size w wc.drew := only_drewB hB
    generalize hV0 : wc.drew = V0 at *
    clear hV0 x0 x1 x2 y0 y1 y2
    refine wpAnyH_ready (rs := [3]) (by kernel_rfl) (by simp) ?_
    refine (AllReadyH.cons (o := ⟨_, _, _, _, _, _⟩) rfl (fun K hK => ?_) AllReadyH.nil)
    go_simp
    refine (Shift_c (c := c1) k V0 rx (fun b h => h) HD1.out (by omega) (by omega)).mono ?_
    rintro e V1 ⟨A3, n3, c3, os, rfl, r3, d3, v3, l3, hb0⟩
    have mx := heldz hb0 mx
    have my := heldz hb0 my
    have mr := heldz hb0 mr
    have ry := ry.step hb0
    have hB := hB.trans (hb0.mono hB.size)
    have r3 : RdI V1 (fun b => b < V1.heap.size) A3 n3 os := r3.rd.more (fun b h => h.2)
    have HV3 := Lib.hid v3
    clear hb0 v3
    obtain ⟨x0, x1, x2⟩ := box3_of mx
    obtain ⟨y0, y1, y2⟩ := box3_of my
    (try dsimp only)
    refine hK.out _ _ ⟨x0, x1, x2, y0, y1, y2⟩ (fun hHeld => ?_)
    clear hK K
    try simp only [Act.put, List.setIfInBounds_toArray, List.set_cons_zero, List.set_cons_succ]
    clear x0 x1 x2 y0 y1 y2
    refine wpAnyH_ready (rs := [6]) (by kernel_rfl) (by simp) ?_
    refine (AllReadyH.cons (o := ⟨_, _, _, _, _, _⟩) rfl (fun K hK => ?_) AllReadyH.nil)
    go_simp
    refine (Quotient_c (c := c3) (d := c2) V1 r3 ry (fun b h => h) (fun b h => h) d3.1 HD2.out (by rw [HV2.out]; exact HYP.out) (by omega) (by omega)).mono ?_
    rintro e V2 ⟨A4, n4, c4, A5, n5, c5, qs, rs, rfl, r4, r5, d4, d5, hq, hlt, l4, l5, hb0⟩
    have mx := heldz hb0 mx
    have my := heldz hb0 my
    have mr := heldz hb0 mr
    have hB := hB.trans (hb0.mono hB.size)
    have hc4 := r4.n_le
    unfold maxLen at hc4
    have r4 : RdI V2 (fun b => b < V2.heap.size) A4 n4 qs := r4.rd.more (fun b h => h.2)
    have r5 : RdI V2 (fun b => b < V2.heap.size) A5 n5 rs := r5.rd.more (fun b h => h.2)
    have HQ := Lib.hid (show val xs * 10 ^ k = dval qs * val ys + dval rs by rw [← HV2.out, ← hq, HV3.out, HV1.out]; unfold dp; exact Nat.mul_comm _ _)
    have HLT := Lib.hid (show dval rs < val ys by rw [← HV2.out]; exact hlt)
    clear hb0 hq hlt r3 ry rx
    obtain ⟨x0, x1, x2⟩ := box3_of mx
    obtain ⟨y0, y1, y2⟩ := box3_of my
    (try dsimp only)
    refine hK.out _ _ ⟨x0, x1, x2, y0, y1, y2⟩ (fun hHeld => ?_)
    clear hK K
    try simp only [Act.put, List.setIfInBounds_toArray, List.set_cons_zero, List.set_cons_succ]
    clear x0 x1 x2 y0 y1 y2
    refine wpAnyH_take (i := 7) (oi := ⟨_, _, _, _, _, _⟩) (v := ?_) rfl (by kernel_rfl) (by kernel_rfl) (by kernel_rfl) (fun _ _ _ h => h) (Or.inl ⟨by rfl, ?_⟩) (by assumption) ?_
    rotate_left
    · intro w hSw
      (try dsimp only at hSw)
      go_split_ands
      go_simp
      try with_reducible rfl
    try simp only [Act.put, List.setIfInBounds_toArray, List.set_cons_zero, List.set_cons_succ]
    refine wpAnyH_take (i := 8) (oi := ⟨_, _, _, _, _, _⟩) (v := ?_) rfl (by kernel_rfl) (by kernel_rfl) (by kernel_rfl) (fun _ _ _ h => h) (Or.inl ⟨by rfl, ?_⟩) (by assumption) ?_
    rotate_left
    · intro w hSw
      (try dsimp only at hSw)
      go_split_ands
      go_simp
      try with_reducible rfl
    try simp only [Act.put, List.setIfInBounds_toArray, List.set_cons_zero, List.set_cons_succ]
    refine wpAnyH_take (i := 9) (oi := ⟨_, _, _, _, _, _⟩) (v := ?_) rfl (by kernel_rfl) (by kernel_rfl) (by kernel_rfl) (fun _ _ _ h => h) (Or.inl ⟨by rfl, ?_⟩) (by assumption) ?_
    rotate_left
    · intro w hSw
      (try dsimp only at hSw)
      go_split_ands
      go_simp
      try with_reducible rfl
    try simp only [Act.put, List.setIfInBounds_toArray, List.set_cons_zero, List.set_cons_succ]
    refine wpAnyH_take (i := 10) (oi := ⟨_, _, _, _, _, _⟩) (v := ?_) rfl (by kernel_rfl) (by kernel_rfl) (by kernel_rfl) (fun _ _ _ h => h) (Or.inl ⟨by rfl, ?_⟩) (by assumption) ?_
    rotate_left
    · intro w hSw
      (try dsimp only at hSw)
      go_split_ands
      go_simp
      try with_reducible rfl
    try simp only [Act.put, List.setIfInBounds_toArray, List.set_cons_zero, List.set_cons_succ]
    refine wpAnyH_take (i := 11) (oi := ⟨_, _, _, _, _, _⟩) (v := ?_) rfl (by kernel_rfl) (by kernel_rfl) (by kernel_rfl) (fun _ _ _ h => h) (Or.inl ⟨by rfl, ?_⟩) (by assumption) ?_
    rotate_left
    · intro w hSw
      (try dsimp only at hSw)
      go_split_ands
      go_simp
      try with_reducible rfl
    try simp only [Act.put, List.setIfInBounds_toArray, List.set_cons_zero, List.set_cons_succ]
    refine wpAnyH_done (by kernel_rfl) ?_ _
    obtain ⟨SG, hSG⟩ : ∃ b, (!(na == nb)) = b := ⟨_, rfl⟩
    have HSG := Lib.hid (show (na != nb) = SG from hSG)
    have mo := World.alloc_heap_new V2 (.cells #[.bool SG, .slice A4 n4 c4, .int .i64 (e1 - e2 - (k : Int))] 41)
    have hal : Below V2.heap.size V2 (V2.alloc (.cells #[.bool SG, .slice A4 n4 c4, .int .i64 (e1 - e2 - (k : Int))] 41)) := (Below.refl _ _).alloc (Nat.le_refl _) _
    have mr0 := mr
    have mr := heldz hal mr
    have r4v := r4
    have r4 := r4.step hal
    have r5 := r5.step hal
    have hB := hB.trans (hal.mono hB.size)
    obtain ⟨⟨he1, he2⟩, he3, he4⟩ := HAB.out
    by_cases hv0 : val xs = 0
    · have hq0 : dval qs = 0 := by
        have h1 := HQ.out
        rw [hv0, Nat.zero_mul] at h1
        rcases Nat.eq_zero_or_pos (dval qs) with h | h
        · exact h
        · have := Nat.mul_pos h HYP.out; omega
      have hq1 : qs = [] := d4.inj DCan.nil hq0
      subst hq1
      obtain rfl : 0 = n4 := r4.len
      obtain ⟨x0, x1, x2⟩ := box3_of mx
      obtain ⟨y0, y1, y2⟩ := box3_of my
      go_upto_region 9 with fail
      clear hSG
      generalize V2.alloc (.cells #[.bool SG, .slice A4 0 c4, .int .i64 (e1 - e2 - (k : Int))] 41) = W2 at mo mr r4 r5 hB ⊢
      generalize V2.heap.size = go at mo ⊢
      obtain ⟨z0, z1, z2⟩ := box3_of mo
      have hmd := Made_c (c := c4) SG (e1 - e2 - (k : Int)) W2 r4 (fun b h => h) D10.nil (by omega) (by omega) (by omega) (by omega)
      rw [show dval [] = 0 from rfl] at hmd
      have hza := st_zero SG (e1 - e2 - (k : Int))
      rw [hza.1, hza.2.1, hza.2.2.1, hza.2.2.2] at hmd
      unfold nv dv at hmd
      have HMD := Lib.hid hmd
      have HV0 := Lib.hid hv0
      clear hmd hza hv0 hq0 x0 x1 x2 y0 y1 y2 hal
      go_wp2_with fail
      refine HMD.out.mono ?_
      rintro e w6 ⟨A7, n7, c7, rfl, hr, hb0⟩
      have hl5 := (Array.getElem?_eq_some_iff.1 mr).1
      have hBs := hB.size
      have mr := heldz hb0 mr
      have hB := hB.trans (hb0.mono hB.size)
      obtain ⟨g0, g1, g2⟩ := box3_of mr
      have f0 := frozen_of 0 mr
      have f1 := frozen_of 1 mr
      have f2 := frozen_of 2 mr
      clear z0 z1 z2 hb0
      go_wp2
      refine bodyPost_ret (v := .tuple #[.agg #[.bool false, .slice A7 n7 c7, .int .i64 0], .int .i64 0]) (by simp [results, Tryz.results14, go_sem, g0, g1, g2]) rfl ?_
      refine ⟨?_, ?_⟩
      · rw [HE.out, HV0.out, qZ_zero HYP.out]
        obtain ⟨t1, t2, t3, t4⟩ := st_zero (na != nb) (qX 0 (val ys) e1 e2)
        have hr2 := (((hr.setOther (p := ⟨w.heap.size + 1 + 1, 0, none⟩) (by simp; omega) (.bool false)).setOther (p := ⟨w.heap.size + 1 + 1, 1, none⟩) (by simp; omega) (.slice A7 n7 c7)).setOther (p := ⟨w.heap.size + 1 + 1, 2, none⟩) (by simp; omega) (.int .i64 0)).more (base' := w.heap.size) (by omega)
        refine ⟨A7, n7, c7, ?_, ?_⟩
        · unfold opN opX opE
          rw [if_pos rfl, if_pos rfl, if_pos rfl, t1, t2, t3]; rfl
        · unfold opZ
          rw [if_pos rfl, t4]; exact hr2
      · exact ((hB.setCell (p := ⟨w.heap.size + 1 + 1, 0, none⟩) (by simp; omega) _).setCell (p := ⟨w.heap.size + 1 + 1, 1, none⟩) (by simp; omega) _).setCell (p := ⟨w.heap.size + 1 + 1, 2, none⟩) (by simp; omega) _
    · have hx0 : 0 < val xs := by omega
      have hnd1 : n1 = nd (val xs) := by unfold nd; rw [if_neg hv0]; exact HN1.out
      have hnd2 : n2 = nd (val ys) := by unfold nd; rw [if_neg (by have := HYP.out; omega)]; exact HN2.out
      have hlong := quo_long hx0 HYP.out HQ.out HLT.out (by rw [← hnd1, ← hnd2]; have := HK.out; omega)
      have hn4 : 40 < n4 := by
        rcases Nat.lt_or_ge 40 n4 with h | h
        · exact h
        · exfalso
          have h1 := dval_lt d4.1
          rw [r4.len] at h1
          have h2 : dp n4 ≤ 10 ^ 40 := Nat.pow_le_pow_right (by omega) h
          omega
      obtain ⟨cu, rfl⟩ : ∃ cu, n4 = 40 + cu := ⟨n4 - 40, by omega⟩
      have hcu : 0 < cu := by omega
      have hlo : 10 ^ (39 + cu) ≤ dval qs := by
        have h1 := d4.ge (fun h => by rw [h] at hlong; simp [dval] at hlong)
        rw [r4.len] at h1
        unfold dp at h1
        rwa [show 40 + cu - 1 = 39 + cu by omega] at h1
      have hhi : dval qs < 10 ^ (40 + cu) := by
        have h1 := dval_lt d4.1
        rw [r4.len] at h1
        exact h1
      obtain ⟨m1, m2⟩ := div_match hx0 HYP.out HQ.out HLT.out hcu hlo hhi
      obtain ⟨t1, t2⟩ := dig_split d4.1 (k := cu) (by rw [r4.len]; omega)
      unfold dp at t1 t2
      rw [t1, t2] at m2
      have hhead : dval (qs.drop cu) % 2 = nth qs cu % 2 := by
        rw [drop_eq_nth (by rw [r4.len]; omega), dval_cons]; omega
      have M1 := Lib.hid (show qX (val xs) (val ys) e1 e2 = e1 - e2 - (k : Int) + (cu : Int) by unfold qX; omega)
      rw [hhead] at m2
      have M2 := Lib.hid m2
      obtain ⟨b4, o4, rfl, hb4, hcell⟩ := r4.at_ (k := cu) (by omega)
      have r4g := (r4v.keep (w' := V2.alloc (.cells #[.bool SG, .slice (some ⟨b4, o4, none⟩) (40 + cu) c4, .int .i64 (e1 - e2 - (k : Int))] 41)) (fun p hp => hal.cell hp)).more (S' := fun b => b < (V2.alloc (.cells #[.bool SG, .slice (some ⟨b4, o4, none⟩) (40 + cu) c4, .int .i64 (e1 - e2 - (k : Int))] 41)).heap.size ∧ b ≠ V2.heap.size) (fun b h => ⟨by simp; omega, by omega⟩)
      have hx10 := dth_lt d4.1 cu
      have RSL := Lib.hid r5.len
      obtain ⟨x0, x1, x2⟩ := box3_of mx
      obtain ⟨y0, y1, y2⟩ := box3_of my
      go_upto_region 9 with fail
      clear hSG
      generalize V2.alloc (.cells #[.bool SG, .slice (some ⟨b4, o4, none⟩) (40 + cu) c4, .int .i64 (e1 - e2 - (k : Int))] 41) = W2 at mo mr r4 r4g r5 hB hb4 hcell ⊢
      have hgo : w.heap.size + 1 + 1 < V2.heap.size := (Array.getElem?_eq_some_iff.1 mr0).1
      generalize V2.heap.size = go at mo hgo r4g ⊢
      obtain ⟨z0, z1, z2⟩ := box3_of mo
      clear hal r4v x0 x1 x2 y0 y1 y2 mx my m1 m2 t1 t2 hhead hlong hlo hhi hnd1 hnd2 hv0
      have hi40 : ¬ (((40 + cu : Nat) : Int) ≤ 40) := by omega
      have hcs : (((40 + cu : Nat) : Int) - 40) = (cu : Int) := by omega
      go_upto_region 12 with fail
      rw [show ((40 : Int) + (cu : Int) - 40) = (cu : Int) by omega]
      have hcne : c4 ≠ cu := by omega
      have hcui : (1 : Int) ≤ (cu : Int) := by omega
      clear hi40 hcs
      go_wp2_with fail
      go_quiet (fail)
      have hgs : go < W2.heap.size := (Array.getElem?_eq_some_iff.1 mo).1
      have r4 : RdI W2 (fun b => b < W2.heap.size ∧ b ≠ go) (some ⟨b4, o4, none⟩) (40 + cu) qs := r4g
      have hall : ∀ q, (W2.drewN q).heap[go]? = some (.cells #[.bool SG, .slice (some ⟨b4, o4, none⟩) (40 + cu) c4, .int .i64 (e1 - e2 - (k : Int))] 41) ∧ (W2.drewN q).heap[w.heap.size + 1 + 1]? = some (.cells #[.bool false, .slice none 0 0, .int .i64 0] 24) ∧
          RdI (W2.drewN q) (fun b => b < (W2.drewN q).heap.size ∧ b ≠ go) (some ⟨b4, o4, none⟩) (40 + cu) qs ∧ Below w.heap.size w (W2.drewN q) ∧
          RdI ((W2.drewN q).alloc (.cells #[.int .i64 5] 3)) (fun b => b < ((W2.drewN q).alloc (.cells #[.int .i64 5] 3)).heap.size) (some ⟨W2.heap.size, 0, none⟩) 1 [5] ∧ go < (W2.drewN q).heap.size := fun q => ⟨mo, mr, r4.drewN q, below_drewN hB q, RdI.one1 (W2.drewN q) 5 (by decide), hgs⟩
      go_wp2_with fail
      generalize hV9 : World.drewN W2 _ = V9
      obtain ⟨mo, mr, r4, hB, hone, hgs⟩ := hV9 ▸ hall _
      clear hall hV9 z0 z1 z2 hcell hb4 r5
      have stepq : ∀ {V V' : World} {A : Option Addr} {n : Nat} {L : List Nat}, RdI V (fun b => b < V.heap.size ∧ b ≠ go) A n L → Below V.heap.size V V' → RdI V' (fun b => b < V'.heap.size ∧ b ≠ go) A n L := fun h hb => (h.keep fun p hp => hb.cell hp.1).more (fun b h => ⟨Nat.lt_of_lt_of_le h.1 hb.size, h.2⟩)
      have hal : Below V9.heap.size V9 (V9.alloc (.cells #[.int .i64 5] 3)) := (Below.refl _ _).alloc (Nat.le_refl _) _
      have mo := heldz hal mo
      have mr := heldz hal mr
      have r4 := stepq r4 hal
      have hB := hB.trans (hal.mono hB.size)
      have hgs := Nat.lt_of_lt_of_le hgs hal.size
      generalize V9.alloc (.cells #[.int .i64 5] 3) = V10 at mo mr r4 hB hone hgs ⊢
      clear hal
      rw [show (cu : Int) - 1 = ((cu - 1 : Nat) : Int) by omega]
      refine (Shift_c (c := 1) (cu - 1) V10 hone (fun b h => h) ⟨by intro x hx; rw [List.mem_singleton.1 hx]; omega, .inr (by decide)⟩ (by omega) (by omega)).mono ?_
      rintro e V11 ⟨A6, n6, c6, hs, rfl, r6, d6, v6, l6, hb0⟩
      have mo := heldz hb0 mo
      have mr := heldz hb0 mr
      have r4 := stepq r4 hb0
      have hB := hB.trans (hb0.mono hB.size)
      have hgs := Nat.lt_of_lt_of_le hgs hb0.size
      have HV6 := Lib.hid (show dval hs = 5 * 10 ^ (cu - 1) by rw [v6]; unfold dp; rw [show dval [5] = 5 from rfl, Nat.mul_comm])
      have hlow := r4.take (k := cu) (by omega)
      clear hb0 v6 hone
      go_wp2_with fail
      refine (rTrim_c (c := c4) V11 hlow (by omega) (by omega)).mono ?_
      rintro e w' ⟨rfl, rfl⟩
      have htl : tl (qs.take cu) cu ≤ cu := tl_le _ _
      have htr : RdI V11 (fun b => b < V11.heap.size ∧ b ≠ go) (some ⟨b4, o4, none⟩) (tl (qs.take cu) cu) (trimmed (qs.take cu)) := by
        have h1 := hlow.take htl
        unfold trimmed
        rw [hlow.len]
        exact h1
      have hdt : DCan (trimmed (qs.take cu)) := trimmed_dcan (fun x hx => d4.1 x (List.mem_of_mem_take hx))
      have HTV := Lib.hid (trimmed_dval (qs.take cu))
      generalize trimmed (qs.take cu) = ts at *
      generalize tl (qs.take cu) cu = nt at *
      have hO := Order_c (c := c4) (d := c6) V11 htr r6.rd hdt d6 (by omega) (by omega)
      have HO := Lib.hid hO
      clear hO
      go_wp2_with fail
      refine HO.out.mono ?_
      rintro e w' ⟨rfl, q, rfl⟩
      have mo : (V11.drewN q).heap[go]? = _ := mo
      have mr : (V11.drewN q).heap[w.heap.size + 1 + 1]? = _ := mr
      have r4 := r4.drewN q
      have r4 : RdI (V11.drewN q) (fun b => b < (V11.drewN q).heap.size ∧ b ≠ go) (some ⟨b4, o4, none⟩) (40 + cu) qs := r4
      have hB := below_drewN hB q
      have hgs : go < (V11.drewN q).heap.size := hgs
      generalize V11.drewN q = V12 at mo mr r4 hB hgs ⊢
      clear HO htr hlow r6
      obtain ⟨b4', o4', ea, hb4, hcell⟩ := r4.at_ (k := cu) (by omega)
      rw [Option.some.injEq, Addr.mk.injEq] at ea
      obtain ⟨rfl, rfl, -⟩ := ea
      obtain ⟨UP, hUP⟩ : ∃ u, Hid (u = (decide (5 * 10 ^ (cu - 1) < dval (qs.take cu)) || (decide (dval (qs.take cu) = 5 * 10 ^ (cu - 1)) && (decide (0 < dval rs) || decide (nth qs cu % 2 = 1))))) := ⟨_, Lib.hid rfl⟩
      obtain ⟨CC, hCC⟩ : ∃ z, dcmp ts hs = z := ⟨_, rfl⟩
      rw [hCC]
      go_upto_region 15 with fail
      go_cut [17] from 96 to 113 (fun s17 wx => s17 = .bool UP ∧ V12 = wx)
      case first =>
        rw [← HTV.out, ← HV6.out] at hUP
        rcases Nat.lt_trichotomy (dval ts) (dval hs) with h | h | h
        · obtain rfl : CC = -1 := hCC.symm.trans (dcmp_lt h)
          clear hCC
          obtain rfl : UP = false := by
            rw [hUP.out, decide_eq_false (show ¬ dval hs < dval ts by omega), decide_eq_false (show ¬ dval ts = dval hs by omega)]; rfl
          clear h hUP
          go_wp2
          go_meet
          exact ⟨rfl, rfl⟩
        · obtain rfl : CC = 0 := hCC.symm.trans (dcmp_eq h)
          clear hCC
          have hu2 : UP = (decide (0 < dval rs) || decide (nth qs cu % 2 = 1)) := by
            rw [hUP.out, decide_eq_false (show ¬ dval hs < dval ts by omega), decide_eq_true h]; rfl
          by_cases hn5 : n5 = 0
          · have hr0 : dval rs = 0 := by rw [List.eq_nil_of_length_eq_zero (RSL.out.trans hn5)]; rfl
            have hw : Hid ((((nth qs cu : Nat) : Int) % 2 == 1) = UP) := by
              show _ = _
              rw [hu2, hr0, Bool.eq_iff_iff, beq_iff_eq]; simp; omega
            subst hn5
            clear h hUP hu2 hr0
            go_wp2
            go_meet
            exact ⟨by rw [← hw.out], rfl⟩
          · have hr0 : 0 < dval rs := by
              rcases Nat.eq_zero_or_pos (dval rs) with h3 | h3
              · exfalso
                have := d5.inj DCan.nil h3
                have h5 := RSL.out
                rw [this] at h5
                exact hn5 h5.symm
              · exact h3
            have hni : (0 : Int) < (n5 : Int) := by omega
            obtain rfl : UP = true := by rw [hu2, decide_eq_true hr0]; rfl
            clear h hUP hu2 hr0 hn5
            go_wp2
            go_meet
            exact ⟨rfl, rfl⟩
        · obtain rfl : CC = 1 := hCC.symm.trans (dcmp_gt h)
          clear hCC
          obtain rfl : UP = true := by rw [hUP.out, decide_eq_true h]; rfl
          clear h hUP
          go_wp2
          go_meet
          exact ⟨rfl, rfl⟩
      case rest =>
        obtain ⟨rfl, rfl⟩ := hcut
        have rdr := r4.drop (k := cu) (by omega)
        rw [show 40 + cu - cu = 40 by omega] at rdr
        have hm2 := Lib.hid (show qZ (val xs) (val ys) = dval (qs.drop cu) + if UP = true then 1 else 0 by rw [M2.out, ← hUP.out])
        have hdrl : (qs.drop cu).length = 40 := by rw [List.length_drop, r4.len]; omega
        have hdr10 := Lib.hid (d4.1.drop cu)
        have hdrv := Lib.hid (show dval (qs.drop cu) < 10 ^ 40 by have := dval_lt d4.1 |> fun _ => dval_lt (d4.1.drop cu); rw [hdrl] at this; exact this)
        have hc48 : 40 ≤ c4 - cu ∧ c4 - cu ≤ 9223372036854775807 := by omega
        clear hCC hb4 hcell r4 r4g hUP hcne hcui
        go_upto_if 114 with fail
        go_cut [14] from 115 to 117 (fun s14 wx => ∃ A8 n8 c8 us, s14 = .slice A8 n8 c8 ∧ RdI wx (fun b => b < wx.heap.size ∧ b ≠ go) A8 n8 us ∧ D10 us ∧ dval us = qZ (val xs) (val ys) ∧ n8 ≤ 100 ∧ n8 ≤ c8 ∧ c8 ≤ 9223372036854775807 ∧ wx.heap[go]? = some (.cells #[.bool SG, .slice (some ⟨b4, o4, none⟩) (40 + cu) c4, .int .i64 (e1 - e2 - (k : Int))] 41) ∧ wx.heap[w.heap.size + 1 + 1]? = some (.cells #[.bool false, .slice none 0 0, .int .i64 0] 24) ∧ Below w.heap.size w wx)
        case first =>
          rcases Bool.eq_false_or_eq_true UP with h | h
          · subst h
            have hone : RdI (V12.alloc (.cells #[.int .i64 1] 3)) (fun b => b < (V12.alloc (.cells #[.int .i64 1] 3)).heap.size) (some ⟨V12.heap.size, 0, none⟩) 1 [1] := RdI.one1 V12 1 (by decide)
            go_wp2_with fail
            have hal : Below V12.heap.size V12 (V12.alloc (.cells #[.int .i64 1] 3)) := (Below.refl _ _).alloc (Nat.le_refl _) _
            have mo := heldz hal mo
            have mr := heldz hal mr
            have rdr := stepq rdr hal
            have hB := hB.trans (hal.mono hB.size)
            have hgs := Nat.lt_of_lt_of_le hgs hal.size
            generalize V12.alloc (.cells #[.int .i64 1] 3) = V13 at mo mr rdr hB hone hgs ⊢
            clear hal
            refine (Plus_c (c := c4 - cu) (d := 1) V13 rdr hone (fun b h => h.1) (fun b h => h) hdr10.out (by intro x hx; rw [List.mem_singleton.1 hx]; omega) (by omega) (by omega)).mono ?_
            rintro e V14 ⟨A8, n8, c8, us, rfl, r8, d8, v8, hb0⟩
            have mo := heldz hb0 mo
            have mr := heldz hb0 mr
            have hB := hB.trans (hb0.mono hB.size)
            have hn8 : n8 ≤ 100 := by
              have h1 := hdrv.out
              rw [show dval [1] = 1 from rfl] at v8
              have h2 := d8.ge (fun h => by rw [h] at v8; simp [dval] at v8)
              rw [r8.len] at h2
              unfold dp at h2
              rcases Nat.lt_or_ge 100 n8 with h3 | h3
              · exfalso
                have h4 : 10 ^ 41 ≤ 10 ^ (n8 - 1) := Nat.pow_le_pow_right (by omega) (by omega)
                omega
              · exact h3
            have hc8 := r8.n_le
            unfold maxLen at hc8
            have r8 : RdI V14 (fun b => b < V14.heap.size ∧ b ≠ go) A8 n8 us := r8.rd.more (fun b h => ⟨h.2, by omega⟩)
            have hv8 := Lib.hid (show dval us = qZ (val xs) (val ys) by rw [hm2.out, v8]; rfl)
            clear hb0 rdr v8 hone
            go_wp2
            go_meet
            exact ⟨_, _, _, us, rfl, r8, d8.1, hv8.out, hn8, hc8.1, by omega, mo, mr, hB⟩
          · subst h
            go_wp2
            go_meet
            exact ⟨_, _, _, _, rfl, rdr, hdr10.out, by rw [hm2.out]; rfl, by omega, hc48.1, hc48.2, mo, mr, hB⟩
        case rest =>
          obtain ⟨A8, n8, c8, us, rfl, r8, d8, v8, l8, hc8, hc8b, mo, mr, hB⟩ := hcut
          have HD8 := Lib.hid d8
          have HV8 := Lib.hid v8
          clear d8 v8 rdr hm2 hdrl hdr10 hdrv
          have f1 := frozen_of 1 mo
          have f2 := frozen_of 2 mo
          obtain ⟨z0, z1, z2⟩ := box3_of mo
          go_upto_region 18 with fail
          go_upto_region 19 with fail
          have mo1 := set_cells (i := 1) mo (.slice A8 n8 c8)
          have mo2 := set_cells (i := 2) mo1 (.int .i64 (e1 - e2 - (k : Int) + (cu : Int)))
          have mo := set_blkd mo1 (i := 2) (v := .int .i64 (e1 - e2 - (k : Int) + (cu : Int))) (us := #[.bool SG, .slice A8 n8 c8, .int .i64 (e1 - e2 - (k : Int) + (cu : Int))]) rfl
          have mr := set_other (set_other mr (by omega) (.slice A8 n8 c8) (b' := go) (i := 1)) (by omega) (.int .i64 (e1 - e2 - (k : Int) + (cu : Int))) (b' := go) (i := 2)
          have hB := (hB.setCell (p := ⟨go, 1, none⟩) (by simp; omega) (.slice A8 n8 c8)).setCell (p := ⟨go, 2, none⟩) (by simp; omega) (.int .i64 (e1 - e2 - (k : Int) + (cu : Int)))
          have r8 := (r8.setOther (p := ⟨go, 1, none⟩) (fun h => h.2 rfl) (.slice A8 n8 c8)).setOther (p := ⟨go, 2, none⟩) (fun h => h.2 rfl) (.int .i64 (e1 - e2 - (k : Int) + (cu : Int)))
          have hsz : ((wc.setCell ⟨go, 1, none⟩ (.slice A8 n8 c8)).setCell ⟨go, 2, none⟩ (.int .i64 (e1 - e2 - (k : Int) + (cu : Int)))).heap.size = wc.heap.size := by simp
          have r8 := r8.more (S' := fun b => b < ((wc.setCell ⟨go, 1, none⟩ (.slice A8 n8 c8)).setCell ⟨go, 2, none⟩ (.int .i64 (e1 - e2 - (k : Int) + (cu : Int)))).heap.size) (fun b h => by have := h.1; omega)
          generalize (wc.setCell ⟨go, 1, none⟩ (.slice A8 n8 c8)).setCell ⟨go, 2, none⟩ (.int .i64 (e1 - e2 - (k : Int) + (cu : Int))) = V15 at mo mr hB r8 ⊢
          clear hsz mo1 mo2 f1 f2 z0 z1 z2
          obtain ⟨z0, z1, z2⟩ := box3_of mo
          have hmd := Made_c (c := c8) SG (e1 - e2 - (k : Int) + (cu : Int)) V15 r8 (fun b h => h) HD8.out (by omega) hc8 hc8b (by omega)
          rw [HV8.out] at hmd
          generalize hZX : e1 - e2 - (k : Int) + (cu : Int) = ZX at *
          obtain ⟨ZZ, hZZ⟩ : ∃ z, Hid (z = qZ (val xs) (val ys)) := ⟨_, Lib.hid rfl⟩
          rw [← hZZ.out] at hmd
          rw [show stN SG ZZ ZX = opN 0 SG ZZ ZX from rfl, show stX ZZ ZX = opX 0 ZZ ZX from rfl, show stE ZZ ZX = opE 0 ZZ ZX from rfl, show stZ ZZ ZX = opZ 0 ZZ ZX from rfl] at hmd
          unfold nv dv at hmd
          have HMD := Lib.hid hmd
          have M1z := Lib.hid (show qX (val xs) (val ys) e1 e2 = ZX by rw [M1.out])
          clear hmd hZX
          go_wp2_with fail
          refine HMD.out.mono ?_
          rintro e w6 ⟨A7, n7, c7, rfl, hr, hb0⟩
          have hl5 := (Array.getElem?_eq_some_iff.1 mr).1
          have hBs := hB.size
          have mr := heldz hb0 mr
          have hB := hB.trans (hb0.mono hB.size)
          obtain ⟨g0, g1, g2⟩ := box3_of mr
          have f0 := frozen_of 0 mr
          have f1 := frozen_of 1 mr
          have f2 := frozen_of 2 mr
          clear z0 z1 z2 hb0
          dsimp only [dv]
          go_wp2
          refine bodyPost_ret (v := .tuple #[.agg #[.bool (opN 0 SG ZZ ZX), .slice A7 n7 c7, .int .i64 (opX 0 ZZ ZX)], .int .i64 (opE 0 ZZ ZX : Int)]) (by simp [results, Tryz.results14, go_sem, g0, g1, g2]) rfl ?_
          refine ⟨?_, ?_⟩
          · rw [HE.out, ← hZZ.out, M1z.out, HSG.out]
            exact ⟨A7, n7, c7, rfl, (((hr.setOther (by simp; omega) _).setOther (by simp; omega) _).setOther (by simp; omega) _).more (by omega)⟩
          · exact ((hB.setCell (p := ⟨w.heap.size + 1 + 1, 0, none⟩) (by simp; omega) _).setCell (p := ⟨w.heap.size + 1 + 1, 1, none⟩) (by simp; omega) _).setCell (p := ⟨w.heap.size + 1 + 1, 2, none⟩) (by simp; omega) _
end Go.Proofs.YtbbafggejnjjiaaGreatDoor
