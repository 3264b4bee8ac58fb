/-
  Contracts of the reference's Order and Compare of decimals.
-/
import Derived.Test.YtnlkcjfedomcgaaGreatDoorDneg
set_option linter.unusedVariables false
set_option linter.unusedSimpArgs false
namespace Go.Proofs.YtnlkcjfedomcgaaGreatDoor
open Go.RowKit

theorem ty_ne65 : (62 : Nat) ≠ 3 := by decide
/-- The sign of a difference tells the order. -/
def ordN (s : Bool) (Z : Nat) : Int := if Z = 0 then 0 else if s = true then -1 else 1
theorem ordN_cmp {s : Bool} {Z k : Nat} {x y : Int} (hk : 0 < k) (h : sg s Z * (k : Int) = x - y) : ordN s Z = cmpI x y := by
  unfold ordN cmpI
  have hk2 : (0 : Int) < (k : Int) := by omega
  by_cases h0 : Z = 0
  · rw [if_pos h0]
    rw [h0, sg_zero, Int.zero_mul] at h
    rw [if_neg (by omega), if_neg (by omega)]
  · rw [if_neg h0]
    have hp : (0 : Int) < (Z : Int) * (k : Int) := Int.mul_pos (by omega) hk2
    cases s
    · have h1 : (Z : Int) * (k : Int) = x - y := h
      rw [if_neg (by decide), if_neg (by omega), if_pos (by omega)]
    · have h1 : -(Z : Int) * (k : Int) = x - y := h
      rw [Int.neg_mul] at h1
      rw [if_pos rfl, if_pos (by omega)]
theorem opp_sign {ys : List Nat} {nb : Bool} {e2 : Int} {es : List Nat} (hl : L32 ys) (k2 : okB nb ys e2 = true) (hd : DCan es) (hv : dval es = val ys) : ops nb es = ops nb ys := by
  unfold ops
  congr 1
  have he := eq_dOf hd
  rw [hv] at he
  have hiff : es = [] ↔ ys = [] := by
    constructor
    · intro h
      rw [h] at he
      have h3 := dOf_val (val ys)
      rw [← he, dval_nil] at h3
      rcases okB_cases hl k2 with ⟨z, _⟩ | ⟨z, _⟩
      · exact z
      · omega
    · intro h
      rw [he, h]; rfl
  simp only [ne_eq, hiff]

set_option maxRecDepth 100000 in
set_option maxHeartbeats 4000000 in
theorem ROrder_c {S : Nat → Prop} {n m c d : Nat} {A B : Option Addr} {xs ys : List Nat} (na nb : Bool) (e1 e2 : Int) (w : World) (ha : Rd w S A n xs) (hb : Rd w S B m ys) (hS : ∀ b, S b → b < w.heap.size) (k1 : okB na xs e1 = true) (k2 : okB nb ys e2 = true) :
    Calls Tryz.prog 61 #[dv na A n c e1, dv nb B m d e2] w fun e w' => e = .returned (.int .i64 (cmpI (sv na (val xs) e1) (sv nb (val ys) e2))) ∧ Below w.heap.size w w' := by
  obtain ⟨a1, a2, a3, a4, _, _⟩ := okB_true ha.l32 k1
  obtain ⟨b1, b2, b3, b4, _, _⟩ := okB_true hb.l32 k2
  have hn2 : n ≤ 256 := by rw [← ha.len]; exact a2
  have hm2 : m ≤ 256 := by rw [← hb.len]; exact b2
  obtain ⟨SG, hSG⟩ : ∃ s, s = addS na (val xs) e1 (ops nb ys) (val ys) e2 := ⟨_, rfl⟩
  obtain ⟨Z, hZ⟩ : ∃ s, s = addZ na (val xs) e1 (ops nb ys) (val ys) e2 := ⟨_, rfl⟩
  obtain ⟨lo, hlo⟩ : ∃ s, s = lo2 e1 e2 := ⟨_, rfl⟩
  have hres : cmpI (sv na (val xs) e1) (sv nb (val ys) e2) = ordN SG Z := by
    refine (ordN_cmp (sp_pos lo) ?_).symm
    rw [hSG, hZ, hlo, add_sv _ _ _ _ _ _ (by omega) (by omega), ops_sv]
    omega
  rw [hres]
  have hof1 := fun V (h1 : Rd V S A n xs) hs => Of_c (c := c) na e1 V h1 hs hn2
  have hof2 := fun V (h1 : Rd V S B m ys) hs => Of_c (c := d) nb e2 V h1 hs hm2
  have hopp := fun V A' n' c' es (hl : es.length = n') (hd : DCan es) (hv : dval es = val ys) => (ropp_c (A := A') (n := n') (c := c') (ds := es) nb e2 V hl).mono fun e w' ⟨h, hbb⟩ => (⟨h.trans (by rw [opp_sign hb.l32 k2 hd hv]), hbb⟩ : e = Ending.returned (nv (ops nb ys) A' n' c' e2) ∧ Below V.heap.size V w')
  have hsum := fun V A1 n1 c1 ds A2 n2 c2 es (h1 : RdI V (fun b => b < V.heap.size) A1 n1 ds) (h2 : RdI V (fun b => b < V.heap.size) A2 n2 es) (d1 : DCan ds) (d2 : DCan es) (q1 : n1 ≤ 10000) (q2 : n2 ≤ 10000) (v1 : dval ds = val xs) (v2 : dval es = val ys) =>
    (RSum_c (S := fun b => b < V.heap.size) (c := c1) (d := c2) na (ops nb ys) e1 e2 lo (p1 e1 e2) (p1 e2 e1) V h1 h2 (fun b h => h) d1 d2 q1 q2 a4 b4 (by rw [hlo]; rfl) (by rw [hlo]; unfold p1 lo2; omega) (by rw [hlo]; unfold p1 lo2; omega)).mono fun e w' ⟨A3, n3, c3, rs, he, hr, hd, hv, hl, hb⟩ =>
      (⟨A3, n3, c3, rs, he.trans (by rw [v1, v2, hSG]; rfl), hr, hd, hv.trans (by rw [v1, v2, hZ]; rfl), hb⟩ : ∃ A3 n3 c3 rs, e = Ending.returned (nv SG A3 n3 c3 lo) ∧ ResI w' V.heap.size A3 n3 c3 rs ∧ DCan rs ∧ dval rs = Z ∧ Below V.heap.size V w')
  unfold dv nv at *
  have OF1 := Lib.hid hof1
  have OF2 := Lib.hid hof2
  have OPP := Lib.hid hopp
  have SUM := Lib.hid hsum
  obtain ⟨ma, mb⟩ := two_new w (.cells #[.bool na, .slice A n c, .int .i64 e1] 24) (.cells #[.bool nb, .slice B m d, .int .i64 e2] 24)
  have hw : Below w.heap.size w ((w.alloc (.cells #[.bool na, .slice A n c, .int .i64 e1] 24)).alloc (.cells #[.bool nb, .slice B m d, .int .i64 e2] 24)) := ((Below.refl _ w).alloc (Nat.le_refl _) _).alloc (by simp) _
  have HMA := Lib.hid ma
  have HMB := Lib.hid mb
  clear hof1 hof2 hopp hsum hres ma mb hSG hZ hlo k1 k2 a1 a2 a3 a4 b1 b2 b3 b4
  go_enter Tryz.func61, Tryz.ntmps61
  go_upto_region 1 with fail
  have ma := HMA.out
  have mb := HMB.out
  clear HMA HMB
  generalize ((w.alloc (.cells #[.bool na, .slice A n c, .int .i64 e1] 24)).alloc (.cells #[.bool nb, .slice B m d, .int .i64 e2] 24)) = W at ma mb hw ⊢
  have up : ∀ {W' : World}, Below w.heap.size w W' → ∀ b, S b → b < W'.heap.size := fun hW b h => by have := hS b h; have := hW.size; omega
  obtain ⟨p0, p1, p2⟩ := box3_of ma
  obtain ⟨p3, p4, p5⟩ := box3_of mb
  go_cut [5] from 6 to 11 (fun s5 wc => ∃ gn A3 n3 c3 rs, s5 = .pointer (some ⟨gn, 0, none⟩) ∧ wc.heap[gn]? = some (.cells #[.bool SG, .slice A3 n3 c3, .int .i64 lo] 62) ∧ rs.length = n3 ∧ DCan rs ∧ dval rs = Z ∧ Below w.heap.size w wc)
  case first =>
    go_wp2_with fail
    refine wp_region_held_drew (S := fun w' => w'.cell? ⟨w.heap.size, 0, none⟩ = some (.bool na) ∧ w'.cell? ⟨w.heap.size, 1, none⟩ = some (.slice A n c) ∧ w'.cell? ⟨w.heap.size, 2, none⟩ = some (.int .i64 e1) ∧ w'.cell? ⟨w.heap.size + 1, 0, none⟩ = some (.bool nb) ∧ w'.cell? ⟨w.heap.size + 1, 1, none⟩ = some (.slice B m d) ∧ w'.cell? ⟨w.heap.size + 1, 2, none⟩ = some (.int .i64 e2)) (by kernel_rfl) ⟨p0, p1, p2, p3, p4, p5⟩ (fun hHeld => ?_)
    (try simp only [List.size_toArray, List.length_cons, List.length_nil, Nat.reduceAdd, Array.replicate_succ, Array.replicate_zero, List.push_toArray, List.append_toArray, List.nil_append, List.cons_append])
    refine wpAnyH_take (i := 0) (oi := ⟨_, _, _, _, _, _⟩) (v := ?_) rfl (by kernel_rfl) (by kernel_rfl) (by kernel_rfl) (fun _ _ _ h => h) (Or.inl ⟨by rfl, ?_⟩) (by assumption) ?_
    rotate_left
    · intro w hSw
      (try dsimp only at hSw)
      go_split_ands
      go_simp
      try with_reducible rfl
    try simp only [Act.put, List.setIfInBounds_toArray, List.set_cons_zero, List.set_cons_succ]
    refine wpAnyH_take (i := 2) (oi := ⟨_, _, _, _, _, _⟩) (v := ?_) rfl (by kernel_rfl) (by kernel_rfl) (by kernel_rfl) (fun _ _ _ h => h) (Or.inl ⟨by rfl, ?_⟩) (by assumption) ?_
    rotate_left
    · intro w hSw
      (try dsimp only at hSw)
      go_split_ands
      go_simp
      try with_reducible rfl
    try simp only [Act.put, List.setIfInBounds_toArray, List.set_cons_zero, List.set_cons_succ]
    clear p0 p1 p2 p3 p4 p5
    have ma : W.drew.heap[w.heap.size]? = _ := ma
    have mb : W.drew.heap[w.heap.size + 1]? = _ := mb
    have hW : Below w.heap.size w W.drew := only_drewB hw
    have hWs0 : w.heap.size + 2 ≤ W.drew.heap.size := by have := (Array.getElem?_eq_some_iff.1 mb).1; omega
    generalize hV0 : W.drew = V0 at *
    have mb0 := mb
    clear hV0 hHeld
    refine wpAnyH_ready (rs := [1, 6]) (by kernel_rfl) (by simp) ?_
    refine (AllReadyH.cons (o := ⟨_, _, _, _, _, _⟩) rfl (fun K hK => ?_) (AllReadyH.cons (o := ⟨_, _, _, _, _, _⟩) rfl (fun K hK => ?_) AllReadyH.nil))
    · go_simp
      refine (OF1.out V0 (ha.below hW hS) (fun b h => up hW b h)).mono ?_
      rintro e V1 ⟨A1, n1, c1, ds, rfl, r1, d1, v1, l1, hb0⟩
      have ma := heldz hb0 ma
      have mb := heldz hb0 mb
      have hW := hW.trans (hb0.mono hW.size)
      (try dsimp only)
      obtain ⟨x0, x1, x2⟩ := box3_of ma
      obtain ⟨x3, x4, x5⟩ := box3_of mb
      refine hK.out _ _ ⟨x0, x1, x2, x3, x4, x5⟩ (fun _ => ?_)
      clear hK K x0 x1 x2 x3 x4 x5
      try simp only [Act.put, List.setIfInBounds_toArray, List.set_cons_zero, List.set_cons_succ]
      have hWs0 : w.heap.size + 2 ≤ V1.heap.size := Nat.le_trans hWs0 hb0.size
      clear hb0
      refine wpAnyH_ready (rs := [3, 6]) (by kernel_rfl) (by simp) ?_
      refine (AllReadyH.cons (o := ⟨_, _, _, _, _, _⟩) rfl (fun K hK => ?_) (AllReadyH.cons (o := ⟨_, _, _, _, _, _⟩) rfl (fun K hK => ?_) AllReadyH.nil))
      · go_simp
        refine (OF2.out V1 (hb.below hW hS) (fun b h => up hW b h)).mono ?_
        rintro e V2 ⟨A2, n2, c2, es, rfl, r2, d2, v2, l2, hb0⟩
        have r1 := r1.below hb0 (Nat.le_refl _)
        have ma := heldz hb0 ma
        have mb := heldz hb0 mb
        have hW := hW.trans (hb0.mono hW.size)
        (try dsimp only)
        obtain ⟨x0, x1, x2⟩ := box3_of ma
        obtain ⟨x3, x4, x5⟩ := box3_of mb
        refine hK.out _ _ ⟨x0, x1, x2, x3, x4, x5⟩ (fun _ => ?_)
        clear hK K x0 x1 x2 x3 x4 x5
        try simp only [Act.put, List.setIfInBounds_toArray, List.set_cons_zero, List.set_cons_succ]
        have hWs0 : w.heap.size + 2 ≤ V2.heap.size := Nat.le_trans hWs0 hb0.size
        clear hb0
        refine wpAnyH_ready (rs := [4, 6]) (by kernel_rfl) (by simp) ?_
        refine (AllReadyH.cons (o := ⟨_, _, _, _, _, _⟩) rfl (fun K hK => ?_) (AllReadyH.cons (o := ⟨_, _, _, _, _, _⟩) rfl (fun K hK => ?_) AllReadyH.nil))
        · go_simp
          refine (OPP.out V2 A2 n2 c2 es r2.len d2 v2).mono ?_
          rintro e V3 ⟨rfl, hb0⟩
          have r1 := r1.below hb0 (Nat.le_refl _)
          have r2 := r2.below hb0 (Nat.le_refl _)
          have ma := heldz hb0 ma
          have mb := heldz hb0 mb
          have hW := hW.trans (hb0.mono hW.size)
          (try dsimp only)
          obtain ⟨x0, x1, x2⟩ := box3_of ma
          obtain ⟨x3, x4, x5⟩ := box3_of mb
          refine hK.out _ _ ⟨x0, x1, x2, x3, x4, x5⟩ (fun _ => ?_)
          clear hK K x0 x1 x2 x3 x4 x5
          try simp only [Act.put, List.setIfInBounds_toArray, List.set_cons_zero, List.set_cons_succ]
          have hWs0 : w.heap.size + 2 ≤ V3.heap.size := Nat.le_trans hWs0 hb0.size
          clear hb0
          refine wpAnyH_ready (rs := [5, 6]) (by kernel_rfl) (by simp) ?_
          refine (AllReadyH.cons (o := ⟨_, _, _, _, _, _⟩) rfl (fun K hK => ?_) (AllReadyH.cons (o := ⟨_, _, _, _, _, _⟩) rfl (fun K hK => ?_) AllReadyH.nil))
          · go_simp
            refine (SUM.out V3 A1 n1 c1 ds A2 n2 c2 es (r1.rd.more (fun b h => h.2)) (r2.rd.more (fun b h => h.2)) d1 d2 (by omega) (by omega) v1 v2).mono ?_
            rintro e V4 ⟨A3, n3, c3, rs, rfl, r3, d3, v3, hb0⟩
            have l3 := r3.len
            have ma := heldz hb0 ma
            have mb := heldz hb0 mb
            have hW := hW.trans (hb0.mono hW.size)
            (try dsimp only)
            obtain ⟨x0, x1, x2⟩ := box3_of ma
            obtain ⟨x3, x4, x5⟩ := box3_of mb
            refine hK.out _ _ ⟨x0, x1, x2, x3, x4, x5⟩ (fun _ => ?_)
            clear hK K x0 x1 x2 x3 x4 x5
            try simp only [Act.put, List.setIfInBounds_toArray, List.set_cons_zero, List.set_cons_succ]
            have hWs0 : w.heap.size + 2 ≤ V4.heap.size := Nat.le_trans hWs0 hb0.size
            clear hb0
            refine wpAnyH_ready (rs := [6]) (by kernel_rfl) (by simp) ?_
            refine (AllReadyH.cons (o := ⟨_, _, _, _, _, _⟩) rfl (fun K hK => ?_) AllReadyH.nil)
            · go_simp
              obtain ⟨gn, hg⟩ : ∃ g, g = V4.heap.size := ⟨_, rfl⟩
              have ma := heldA (.cells #[.bool false, .slice none 0 0, .int .i64 0] 62) ma
              have mb := heldA (.cells #[.bool false, .slice none 0 0, .int .i64 0] 62) mb
              have mn := World.alloc_heap_new V4 (.cells #[.bool false, .slice none 0 0, .int .i64 0] 62)
              rw [← hg] at mn
              have hsz : (V4.alloc (.cells #[.bool false, .slice none 0 0, .int .i64 0] 62)).heap.size = V4.heap.size + 1 := by simp
              have hkg : w.heap.size + 2 ≤ gn := by have := (Array.getElem?_eq_some_iff.1 mb0).1; have := hWs0; omega
              have hW := hW.alloc hW.size (.cells #[.bool false, .slice none 0 0, .int .i64 0] 62)
              obtain ⟨x0, x1, x2⟩ := box3_of ma
              obtain ⟨x3, x4, x5⟩ := box3_of mb
              refine hK.out _ _ ⟨x0, x1, x2, x3, x4, x5⟩ (fun _ => ?_)
              clear hK K x0 x1 x2 x3 x4 x5
              try simp only [Act.put, List.setIfInBounds_toArray, List.set_cons_zero, List.set_cons_succ]
              try rw [← hg]
              generalize hU : V4.alloc (.cells #[.bool false, .slice none 0 0, .int .i64 0] 62) = V5 at *
              clear hU hg hsz
              have hWs0 : w.heap.size + 2 ≤ V5.heap.size := by have := (Array.getElem?_eq_some_iff.1 mn).1; omega
              refine wpAnyH_ready (rs := [7]) (by kernel_rfl) (by simp) (AllReadyH.cons (o := ⟨_, _, _, _, _, _⟩) rfl (fun K hK => ?_) AllReadyH.nil)
              obtain ⟨t0, t1, t2⟩ := box3_of mn
              have f0 := frozen_of 0 mn
              have f1 := frozen_of 1 mn
              have f2 := frozen_of 2 mn
              go_simp
              clear t0 t1 t2 f0 f1 f2
              have mn := set_blk (v := .bool SG) (i := 0) mn rfl
              have ma := set_other (i := 0) ma (show w.heap.size ≠ gn by omega) (.bool SG)
              have mb := set_other (i := 0) mb (show w.heap.size + 1 ≠ gn by omega) (.bool SG)
              have hW := hW.setCell (p := ⟨gn, 0, none⟩) (show w.heap.size ≤ gn by omega) (.bool SG)
              have mn := set_blk (v := .slice A3 n3 c3) (i := 1) mn rfl
              have ma := set_other (i := 1) ma (show w.heap.size ≠ gn by omega) (.slice A3 n3 c3)
              have mb := set_other (i := 1) mb (show w.heap.size + 1 ≠ gn by omega) (.slice A3 n3 c3)
              have hW := hW.setCell (p := ⟨gn, 1, none⟩) (show w.heap.size ≤ gn by omega) (.slice A3 n3 c3)
              have mn := set_blk (v := .int .i64 lo) (i := 2) mn rfl
              have ma := set_other (i := 2) ma (show w.heap.size ≠ gn by omega) (.int .i64 lo)
              have mb := set_other (i := 2) mb (show w.heap.size + 1 ≠ gn by omega) (.int .i64 lo)
              have hW := hW.setCell (p := ⟨gn, 2, none⟩) (show w.heap.size ≤ gn by omega) (.int .i64 lo)
              obtain ⟨x0, x1, x2⟩ := box3_of ma
              obtain ⟨x3, x4, x5⟩ := box3_of mb
              refine hK.out _ _ ⟨x0, x1, x2, x3, x4, x5⟩ (fun _ => ?_)
              clear hK K x0 x1 x2 x3 x4 x5
              try simp only [Act.put, List.setIfInBounds_toArray, List.set_cons_zero, List.set_cons_succ]
              refine wpAnyH_done (by kernel_rfl) ?_ _
              go_wp2
              go_meet
              exact ⟨gn, A3, n3, c3, rs, rfl, mn, l3, d3, v3, hW⟩
          · go_simp
            obtain ⟨gn, hg⟩ : ∃ g, g = V3.heap.size := ⟨_, rfl⟩
            have ma := heldA (.cells #[.bool false, .slice none 0 0, .int .i64 0] 62) ma
            have mb := heldA (.cells #[.bool false, .slice none 0 0, .int .i64 0] 62) mb
            have mn := World.alloc_heap_new V3 (.cells #[.bool false, .slice none 0 0, .int .i64 0] 62)
            rw [← hg] at mn
            have r1 := r1.below ((Below.refl V3.heap.size V3).alloc (Nat.le_refl _) (.cells #[.bool false, .slice none 0 0, .int .i64 0] 62)) (Nat.le_refl _)
            have r2 := r2.below ((Below.refl V3.heap.size V3).alloc (Nat.le_refl _) (.cells #[.bool false, .slice none 0 0, .int .i64 0] 62)) (Nat.le_refl _)
            have hsz : (V3.alloc (.cells #[.bool false, .slice none 0 0, .int .i64 0] 62)).heap.size = V3.heap.size + 1 := by simp
            have hkg : w.heap.size + 2 ≤ gn := by have := (Array.getElem?_eq_some_iff.1 mb0).1; have := hWs0; omega
            have hW := hW.alloc hW.size (.cells #[.bool false, .slice none 0 0, .int .i64 0] 62)
            obtain ⟨x0, x1, x2⟩ := box3_of ma
            obtain ⟨x3, x4, x5⟩ := box3_of mb
            refine hK.out _ _ ⟨x0, x1, x2, x3, x4, x5⟩ (fun _ => ?_)
            clear hK K x0 x1 x2 x3 x4 x5
            try simp only [Act.put, List.setIfInBounds_toArray, List.set_cons_zero, List.set_cons_succ]
            try rw [← hg]
            generalize hU : V3.alloc (.cells #[.bool false, .slice none 0 0, .int .i64 0] 62) = V6 at *
            clear hU hg hsz
            have hWs0 : w.heap.size + 2 ≤ V6.heap.size := by have := (Array.getElem?_eq_some_iff.1 mn).1; omega
            refine wpAnyH_ready (rs := [5]) (by kernel_rfl) (by simp) ?_
            refine (AllReadyH.cons (o := ⟨_, _, _, _, _, _⟩) rfl (fun K hK => ?_) AllReadyH.nil)
            · go_simp
              refine (SUM.out V6 A1 n1 c1 ds A2 n2 c2 es (r1.rd.more (fun b h => h.2)) (r2.rd.more (fun b h => h.2)) d1 d2 (by omega) (by omega) v1 v2).mono ?_
              rintro e V7 ⟨A3, n3, c3, rs, rfl, r3, d3, v3, hb0⟩
              have l3 := r3.len
              have ma := heldz hb0 ma
              have mb := heldz hb0 mb
              have mn := heldz hb0 mn
              have hW := hW.trans (hb0.mono hW.size)
              (try dsimp only)
              obtain ⟨x0, x1, x2⟩ := box3_of ma
              obtain ⟨x3, x4, x5⟩ := box3_of mb
              refine hK.out _ _ ⟨x0, x1, x2, x3, x4, x5⟩ (fun _ => ?_)
              clear hK K x0 x1 x2 x3 x4 x5
              try simp only [Act.put, List.setIfInBounds_toArray, List.set_cons_zero, List.set_cons_succ]
              have hWs0 : w.heap.size + 2 ≤ V7.heap.size := Nat.le_trans hWs0 hb0.size
              clear hb0
              refine wpAnyH_ready (rs := [7]) (by kernel_rfl) (by simp) (AllReadyH.cons (o := ⟨_, _, _, _, _, _⟩) rfl (fun K hK => ?_) AllReadyH.nil)
              obtain ⟨t0, t1, t2⟩ := box3_of mn
              have f0 := frozen_of 0 mn
              have f1 := frozen_of 1 mn
              have f2 := frozen_of 2 mn
              go_simp
              clear t0 t1 t2 f0 f1 f2
              have mn := set_blk (v := .bool SG) (i := 0) mn rfl
              have ma := set_other (i := 0) ma (show w.heap.size ≠ gn by omega) (.bool SG)
              have mb := set_other (i := 0) mb (show w.heap.size + 1 ≠ gn by omega) (.bool SG)
              have hW := hW.setCell (p := ⟨gn, 0, none⟩) (show w.heap.size ≤ gn by omega) (.bool SG)
              have mn := set_blk (v := .slice A3 n3 c3) (i := 1) mn rfl
              have ma := set_other (i := 1) ma (show w.heap.size ≠ gn by omega) (.slice A3 n3 c3)
              have mb := set_other (i := 1) mb (show w.heap.size + 1 ≠ gn by omega) (.slice A3 n3 c3)
              have hW := hW.setCell (p := ⟨gn, 1, none⟩) (show w.heap.size ≤ gn by omega) (.slice A3 n3 c3)
              have mn := set_blk (v := .int .i64 lo) (i := 2) mn rfl
              have ma := set_other (i := 2) ma (show w.heap.size ≠ gn by omega) (.int .i64 lo)
              have mb := set_other (i := 2) mb (show w.heap.size + 1 ≠ gn by omega) (.int .i64 lo)
              have hW := hW.setCell (p := ⟨gn, 2, none⟩) (show w.heap.size ≤ gn by omega) (.int .i64 lo)
              obtain ⟨x0, x1, x2⟩ := box3_of ma
              obtain ⟨x3, x4, x5⟩ := box3_of mb
              refine hK.out _ _ ⟨x0, x1, x2, x3, x4, x5⟩ (fun _ => ?_)
              clear hK K x0 x1 x2 x3 x4 x5
              try simp only [Act.put, List.setIfInBounds_toArray, List.set_cons_zero, List.set_cons_succ]
              refine wpAnyH_done (by kernel_rfl) ?_ _
              go_wp2
              go_meet
              exact ⟨gn, A3, n3, c3, rs, rfl, mn, l3, d3, v3, hW⟩
        · go_simp
          obtain ⟨gn, hg⟩ : ∃ g, g = V2.heap.size := ⟨_, rfl⟩
          have ma := heldA (.cells #[.bool false, .slice none 0 0, .int .i64 0] 62) ma
          have mb := heldA (.cells #[.bool false, .slice none 0 0, .int .i64 0] 62) mb
          have mn := World.alloc_heap_new V2 (.cells #[.bool false, .slice none 0 0, .int .i64 0] 62)
          rw [← hg] at mn
          have r1 := r1.below ((Below.refl V2.heap.size V2).alloc (Nat.le_refl _) (.cells #[.bool false, .slice none 0 0, .int .i64 0] 62)) (Nat.le_refl _)
          have r2 := r2.below ((Below.refl V2.heap.size V2).alloc (Nat.le_refl _) (.cells #[.bool false, .slice none 0 0, .int .i64 0] 62)) (Nat.le_refl _)
          have hsz : (V2.alloc (.cells #[.bool false, .slice none 0 0, .int .i64 0] 62)).heap.size = V2.heap.size + 1 := by simp
          have hkg : w.heap.size + 2 ≤ gn := by have := (Array.getElem?_eq_some_iff.1 mb0).1; have := hWs0; omega
          have hW := hW.alloc hW.size (.cells #[.bool false, .slice none 0 0, .int .i64 0] 62)
          obtain ⟨x0, x1, x2⟩ := box3_of ma
          obtain ⟨x3, x4, x5⟩ := box3_of mb
          refine hK.out _ _ ⟨x0, x1, x2, x3, x4, x5⟩ (fun _ => ?_)
          clear hK K x0 x1 x2 x3 x4 x5
          try simp only [Act.put, List.setIfInBounds_toArray, List.set_cons_zero, List.set_cons_succ]
          try rw [← hg]
          generalize hU : V2.alloc (.cells #[.bool false, .slice none 0 0, .int .i64 0] 62) = V8 at *
          clear hU hg hsz
          have hWs0 : w.heap.size + 2 ≤ V8.heap.size := by have := (Array.getElem?_eq_some_iff.1 mn).1; omega
          refine wpAnyH_ready (rs := [4]) (by kernel_rfl) (by simp) ?_
          refine (AllReadyH.cons (o := ⟨_, _, _, _, _, _⟩) rfl (fun K hK => ?_) AllReadyH.nil)
          · go_simp
            refine (OPP.out V8 A2 n2 c2 es r2.len d2 v2).mono ?_
            rintro e V9 ⟨rfl, hb0⟩
            have r1 := r1.below hb0 (Nat.le_refl _)
            have r2 := r2.below hb0 (Nat.le_refl _)
            have ma := heldz hb0 ma
            have mb := heldz hb0 mb
            have mn := heldz hb0 mn
            have hW := hW.trans (hb0.mono hW.size)
            (try dsimp only)
            obtain ⟨x0, x1, x2⟩ := box3_of ma
            obtain ⟨x3, x4, x5⟩ := box3_of mb
            refine hK.out _ _ ⟨x0, x1, x2, x3, x4, x5⟩ (fun _ => ?_)
            clear hK K x0 x1 x2 x3 x4 x5
            try simp only [Act.put, List.setIfInBounds_toArray, List.set_cons_zero, List.set_cons_succ]
            have hWs0 : w.heap.size + 2 ≤ V9.heap.size := Nat.le_trans hWs0 hb0.size
            clear hb0
            refine wpAnyH_ready (rs := [5]) (by kernel_rfl) (by simp) ?_
            refine (AllReadyH.cons (o := ⟨_, _, _, _, _, _⟩) rfl (fun K hK => ?_) AllReadyH.nil)
            · go_simp
              refine (SUM.out V9 A1 n1 c1 ds A2 n2 c2 es (r1.rd.more (fun b h => h.2)) (r2.rd.more (fun b h => h.2)) d1 d2 (by omega) (by omega) v1 v2).mono ?_
              rintro e V10 ⟨A3, n3, c3, rs, rfl, r3, d3, v3, hb0⟩
              have l3 := r3.len
              have ma := heldz hb0 ma
              have mb := heldz hb0 mb
              have mn := heldz hb0 mn
              have hW := hW.trans (hb0.mono hW.size)
              (try dsimp only)
              obtain ⟨x0, x1, x2⟩ := box3_of ma
              obtain ⟨x3, x4, x5⟩ := box3_of mb
              refine hK.out _ _ ⟨x0, x1, x2, x3, x4, x5⟩ (fun _ => ?_)
              clear hK K x0 x1 x2 x3 x4 x5
              try simp only [Act.put, List.setIfInBounds_toArray, List.set_cons_zero, List.set_cons_succ]
              have hWs0 : w.heap.size + 2 ≤ V10.heap.size := Nat.le_trans hWs0 hb0.size
              clear hb0
              refine wpAnyH_ready (rs := [7]) (by kernel_rfl) (by simp) (AllReadyH.cons (o := ⟨_, _, _, _, _, _⟩) rfl (fun K hK => ?_) AllReadyH.nil)
              obtain ⟨t0, t1, t2⟩ := box3_of mn
              have f0 := frozen_of 0 mn
              have f1 := frozen_of 1 mn
              have f2 := frozen_of 2 mn
              go_simp
              clear t0 t1 t2 f0 f1 f2
              have mn := set_blk (v := .bool SG) (i := 0) mn rfl
              have ma := set_other (i := 0) ma (show w.heap.size ≠ gn by omega) (.bool SG)
              have mb := set_other (i := 0) mb (show w.heap.size + 1 ≠ gn by omega) (.bool SG)
              have hW := hW.setCell (p := ⟨gn, 0, none⟩) (show w.heap.size ≤ gn by omega) (.bool SG)
              have mn := set_blk (v := .slice A3 n3 c3) (i := 1) mn rfl
              have ma := set_other (i := 1) ma (show w.heap.size ≠ gn by omega) (.slice A3 n3 c3)
              have mb := set_other (i := 1) mb (show w.heap.size + 1 ≠ gn by omega) (.slice A3 n3 c3)
              have hW := hW.setCell (p := ⟨gn, 1, none⟩) (show w.heap.size ≤ gn by omega) (.slice A3 n3 c3)
              have mn := set_blk (v := .int .i64 lo) (i := 2) mn rfl
              have ma := set_other (i := 2) ma (show w.heap.size ≠ gn by omega) (.int .i64 lo)
              have mb := set_other (i := 2) mb (show w.heap.size + 1 ≠ gn by omega) (.int .i64 lo)
              have hW := hW.setCell (p := ⟨gn, 2, none⟩) (show w.heap.size ≤ gn by omega) (.int .i64 lo)
              obtain ⟨x0, x1, x2⟩ := box3_of ma
              obtain ⟨x3, x4, x5⟩ := box3_of mb
              refine hK.out _ _ ⟨x0, x1, x2, x3, x4, x5⟩ (fun _ => ?_)
              clear hK K x0 x1 x2 x3 x4 x5
              try simp only [Act.put, List.setIfInBounds_toArray, List.set_cons_zero, List.set_cons_succ]
              refine wpAnyH_done (by kernel_rfl) ?_ _
              go_wp2
              go_meet
              exact ⟨gn, A3, n3, c3, rs, rfl, mn, l3, d3, v3, hW⟩
      · go_simp
        obtain ⟨gn, hg⟩ : ∃ g, g = V1.heap.size := ⟨_, rfl⟩
        have ma := heldA (.cells #[.bool false, .slice none 0 0, .int .i64 0] 62) ma
        have mb := heldA (.cells #[.bool false, .slice none 0 0, .int .i64 0] 62) mb
        have mn := World.alloc_heap_new V1 (.cells #[.bool false, .slice none 0 0, .int .i64 0] 62)
        rw [← hg] at mn
        have r1 := r1.below ((Below.refl V1.heap.size V1).alloc (Nat.le_refl _) (.cells #[.bool false, .slice none 0 0, .int .i64 0] 62)) (Nat.le_refl _)
        have hsz : (V1.alloc (.cells #[.bool false, .slice none 0 0, .int .i64 0] 62)).heap.size = V1.heap.size + 1 := by simp
        have hkg : w.heap.size + 2 ≤ gn := by have := (Array.getElem?_eq_some_iff.1 mb0).1; have := hWs0; omega
        have hW := hW.alloc hW.size (.cells #[.bool false, .slice none 0 0, .int .i64 0] 62)
        obtain ⟨x0, x1, x2⟩ := box3_of ma
        obtain ⟨x3, x4, x5⟩ := box3_of mb
        refine hK.out _ _ ⟨x0, x1, x2, x3, x4, x5⟩ (fun _ => ?_)
        clear hK K x0 x1 x2 x3 x4 x5
        try simp only [Act.put, List.setIfInBounds_toArray, List.set_cons_zero, List.set_cons_succ]
        try rw [← hg]
        generalize hU : V1.alloc (.cells #[.bool false, .slice none 0 0, .int .i64 0] 62) = V11 at *
        clear hU hg hsz
        have hWs0 : w.heap.size + 2 ≤ V11.heap.size := by have := (Array.getElem?_eq_some_iff.1 mn).1; omega
        refine wpAnyH_ready (rs := [3]) (by kernel_rfl) (by simp) ?_
        refine (AllReadyH.cons (o := ⟨_, _, _, _, _, _⟩) rfl (fun K hK => ?_) AllReadyH.nil)
        · go_simp
          refine (OF2.out V11 (hb.below hW hS) (fun b h => up hW b h)).mono ?_
          rintro e V12 ⟨A2, n2, c2, es, rfl, r2, d2, v2, l2, hb0⟩
          have r1 := r1.below hb0 (Nat.le_refl _)
          have ma := heldz hb0 ma
          have mb := heldz hb0 mb
          have mn := heldz hb0 mn
          have hW := hW.trans (hb0.mono hW.size)
          (try dsimp only)
          obtain ⟨x0, x1, x2⟩ := box3_of ma
          obtain ⟨x3, x4, x5⟩ := box3_of mb
          refine hK.out _ _ ⟨x0, x1, x2, x3, x4, x5⟩ (fun _ => ?_)
          clear hK K x0 x1 x2 x3 x4 x5
          try simp only [Act.put, List.setIfInBounds_toArray, List.set_cons_zero, List.set_cons_succ]
          have hWs0 : w.heap.size + 2 ≤ V12.heap.size := Nat.le_trans hWs0 hb0.size
          clear hb0
          refine wpAnyH_ready (rs := [4]) (by kernel_rfl) (by simp) ?_
          refine (AllReadyH.cons (o := ⟨_, _, _, _, _, _⟩) rfl (fun K hK => ?_) AllReadyH.nil)
          · go_simp
            refine (OPP.out V12 A2 n2 c2 es r2.len d2 v2).mono ?_
            rintro e V13 ⟨rfl, hb0⟩
            have r1 := r1.below hb0 (Nat.le_refl _)
            have r2 := r2.below hb0 (Nat.le_refl _)
            have ma := heldz hb0 ma
            have mb := heldz hb0 mb
            have mn := heldz hb0 mn
            have hW := hW.trans (hb0.mono hW.size)
            (try dsimp only)
            obtain ⟨x0, x1, x2⟩ := box3_of ma
            obtain ⟨x3, x4, x5⟩ := box3_of mb
            refine hK.out _ _ ⟨x0, x1, x2, x3, x4, x5⟩ (fun _ => ?_)
            clear hK K x0 x1 x2 x3 x4 x5
            try simp only [Act.put, List.setIfInBounds_toArray, List.set_cons_zero, List.set_cons_succ]
            have hWs0 : w.heap.size + 2 ≤ V13.heap.size := Nat.le_trans hWs0 hb0.size
            clear hb0
            refine wpAnyH_ready (rs := [5]) (by kernel_rfl) (by simp) ?_
            refine (AllReadyH.cons (o := ⟨_, _, _, _, _, _⟩) rfl (fun K hK => ?_) AllReadyH.nil)
            · go_simp
              refine (SUM.out V13 A1 n1 c1 ds A2 n2 c2 es (r1.rd.more (fun b h => h.2)) (r2.rd.more (fun b h => h.2)) d1 d2 (by omega) (by omega) v1 v2).mono ?_
              rintro e V14 ⟨A3, n3, c3, rs, rfl, r3, d3, v3, hb0⟩
              have l3 := r3.len
              have ma := heldz hb0 ma
              have mb := heldz hb0 mb
              have mn := heldz hb0 mn
              have hW := hW.trans (hb0.mono hW.size)
              (try dsimp only)
              obtain ⟨x0, x1, x2⟩ := box3_of ma
              obtain ⟨x3, x4, x5⟩ := box3_of mb
              refine hK.out _ _ ⟨x0, x1, x2, x3, x4, x5⟩ (fun _ => ?_)
              clear hK K x0 x1 x2 x3 x4 x5
              try simp only [Act.put, List.setIfInBounds_toArray, List.set_cons_zero, List.set_cons_succ]
              have hWs0 : w.heap.size + 2 ≤ V14.heap.size := Nat.le_trans hWs0 hb0.size
              clear hb0
              refine wpAnyH_ready (rs := [7]) (by kernel_rfl) (by simp) (AllReadyH.cons (o := ⟨_, _, _, _, _, _⟩) rfl (fun K hK => ?_) AllReadyH.nil)
              obtain ⟨t0, t1, t2⟩ := box3_of mn
              have f0 := frozen_of 0 mn
              have f1 := frozen_of 1 mn
              have f2 := frozen_of 2 mn
              go_simp
              clear t0 t1 t2 f0 f1 f2
              have mn := set_blk (v := .bool SG) (i := 0) mn rfl
              have ma := set_other (i := 0) ma (show w.heap.size ≠ gn by omega) (.bool SG)
              have mb := set_other (i := 0) mb (show w.heap.size + 1 ≠ gn by omega) (.bool SG)
              have hW := hW.setCell (p := ⟨gn, 0, none⟩) (show w.heap.size ≤ gn by omega) (.bool SG)
              have mn := set_blk (v := .slice A3 n3 c3) (i := 1) mn rfl
              have ma := set_other (i := 1) ma (show w.heap.size ≠ gn by omega) (.slice A3 n3 c3)
              have mb := set_other (i := 1) mb (show w.heap.size + 1 ≠ gn by omega) (.slice A3 n3 c3)
              have hW := hW.setCell (p := ⟨gn, 1, none⟩) (show w.heap.size ≤ gn by omega) (.slice A3 n3 c3)
              have mn := set_blk (v := .int .i64 lo) (i := 2) mn rfl
              have ma := set_other (i := 2) ma (show w.heap.size ≠ gn by omega) (.int .i64 lo)
              have mb := set_other (i := 2) mb (show w.heap.size + 1 ≠ gn by omega) (.int .i64 lo)
              have hW := hW.setCell (p := ⟨gn, 2, none⟩) (show w.heap.size ≤ gn by omega) (.int .i64 lo)
              obtain ⟨x0, x1, x2⟩ := box3_of ma
              obtain ⟨x3, x4, x5⟩ := box3_of mb
              refine hK.out _ _ ⟨x0, x1, x2, x3, x4, x5⟩ (fun _ => ?_)
              clear hK K x0 x1 x2 x3 x4 x5
              try simp only [Act.put, List.setIfInBounds_toArray, List.set_cons_zero, List.set_cons_succ]
              refine wpAnyH_done (by kernel_rfl) ?_ _
              go_wp2
              go_meet
              exact ⟨gn, A3, n3, c3, rs, rfl, mn, l3, d3, v3, hW⟩
    · go_simp
      obtain ⟨gn, hg⟩ : ∃ g, g = V0.heap.size := ⟨_, rfl⟩
      have ma := heldA (.cells #[.bool false, .slice none 0 0, .int .i64 0] 62) ma
      have mb := heldA (.cells #[.bool false, .slice none 0 0, .int .i64 0] 62) mb
      have mn := World.alloc_heap_new V0 (.cells #[.bool false, .slice none 0 0, .int .i64 0] 62)
      rw [← hg] at mn
      have hsz : (V0.alloc (.cells #[.bool false, .slice none 0 0, .int .i64 0] 62)).heap.size = V0.heap.size + 1 := by simp
      have hkg : w.heap.size + 2 ≤ gn := by have := (Array.getElem?_eq_some_iff.1 mb0).1; have := hWs0; omega
      have hW := hW.alloc hW.size (.cells #[.bool false, .slice none 0 0, .int .i64 0] 62)
      obtain ⟨x0, x1, x2⟩ := box3_of ma
      obtain ⟨x3, x4, x5⟩ := box3_of mb
      refine hK.out _ _ ⟨x0, x1, x2, x3, x4, x5⟩ (fun _ => ?_)
      clear hK K x0 x1 x2 x3 x4 x5
      try simp only [Act.put, List.setIfInBounds_toArray, List.set_cons_zero, List.set_cons_succ]
      try rw [← hg]
      generalize hU : V0.alloc (.cells #[.bool false, .slice none 0 0, .int .i64 0] 62) = V15 at *
      clear hU hg hsz
      have hWs0 : w.heap.size + 2 ≤ V15.heap.size := by have := (Array.getElem?_eq_some_iff.1 mn).1; omega
      refine wpAnyH_ready (rs := [1]) (by kernel_rfl) (by simp) ?_
      refine (AllReadyH.cons (o := ⟨_, _, _, _, _, _⟩) rfl (fun K hK => ?_) AllReadyH.nil)
      · go_simp
        refine (OF1.out V15 (ha.below hW hS) (fun b h => up hW b h)).mono ?_
        rintro e V16 ⟨A1, n1, c1, ds, rfl, r1, d1, v1, l1, hb0⟩
        have ma := heldz hb0 ma
        have mb := heldz hb0 mb
        have mn := heldz hb0 mn
        have hW := hW.trans (hb0.mono hW.size)
        (try dsimp only)
        obtain ⟨x0, x1, x2⟩ := box3_of ma
        obtain ⟨x3, x4, x5⟩ := box3_of mb
        refine hK.out _ _ ⟨x0, x1, x2, x3, x4, x5⟩ (fun _ => ?_)
        clear hK K x0 x1 x2 x3 x4 x5
        try simp only [Act.put, List.setIfInBounds_toArray, List.set_cons_zero, List.set_cons_succ]
        have hWs0 : w.heap.size + 2 ≤ V16.heap.size := Nat.le_trans hWs0 hb0.size
        clear hb0
        refine wpAnyH_ready (rs := [3]) (by kernel_rfl) (by simp) ?_
        refine (AllReadyH.cons (o := ⟨_, _, _, _, _, _⟩) rfl (fun K hK => ?_) AllReadyH.nil)
        · go_simp
          refine (OF2.out V16 (hb.below hW hS) (fun b h => up hW b h)).mono ?_
          rintro e V17 ⟨A2, n2, c2, es, rfl, r2, d2, v2, l2, hb0⟩
          have r1 := r1.below hb0 (Nat.le_refl _)
          have ma := heldz hb0 ma
          have mb := heldz hb0 mb
          have mn := heldz hb0 mn
          have hW := hW.trans (hb0.mono hW.size)
          (try dsimp only)
          obtain ⟨x0, x1, x2⟩ := box3_of ma
          obtain ⟨x3, x4, x5⟩ := box3_of mb
          refine hK.out _ _ ⟨x0, x1, x2, x3, x4, x5⟩ (fun _ => ?_)
          clear hK K x0 x1 x2 x3 x4 x5
          try simp only [Act.put, List.setIfInBounds_toArray, List.set_cons_zero, List.set_cons_succ]
          have hWs0 : w.heap.size + 2 ≤ V17.heap.size := Nat.le_trans hWs0 hb0.size
          clear hb0
          refine wpAnyH_ready (rs := [4]) (by kernel_rfl) (by simp) ?_
          refine (AllReadyH.cons (o := ⟨_, _, _, _, _, _⟩) rfl (fun K hK => ?_) AllReadyH.nil)
          · go_simp
            refine (OPP.out V17 A2 n2 c2 es r2.len d2 v2).mono ?_
            rintro e V18 ⟨rfl, hb0⟩
            have r1 := r1.below hb0 (Nat.le_refl _)
            have r2 := r2.below hb0 (Nat.le_refl _)
            have ma := heldz hb0 ma
            have mb := heldz hb0 mb
            have mn := heldz hb0 mn
            have hW := hW.trans (hb0.mono hW.size)
            (try dsimp only)
            obtain ⟨x0, x1, x2⟩ := box3_of ma
            obtain ⟨x3, x4, x5⟩ := box3_of mb
            refine hK.out _ _ ⟨x0, x1, x2, x3, x4, x5⟩ (fun _ => ?_)
            clear hK K x0 x1 x2 x3 x4 x5
            try simp only [Act.put, List.setIfInBounds_toArray, List.set_cons_zero, List.set_cons_succ]
            have hWs0 : w.heap.size + 2 ≤ V18.heap.size := Nat.le_trans hWs0 hb0.size
            clear hb0
            refine wpAnyH_ready (rs := [5]) (by kernel_rfl) (by simp) ?_
            refine (AllReadyH.cons (o := ⟨_, _, _, _, _, _⟩) rfl (fun K hK => ?_) AllReadyH.nil)
            · go_simp
              refine (SUM.out V18 A1 n1 c1 ds A2 n2 c2 es (r1.rd.more (fun b h => h.2)) (r2.rd.more (fun b h => h.2)) d1 d2 (by omega) (by omega) v1 v2).mono ?_
              rintro e V19 ⟨A3, n3, c3, rs, rfl, r3, d3, v3, hb0⟩
              have l3 := r3.len
              have ma := heldz hb0 ma
              have mb := heldz hb0 mb
              have mn := heldz hb0 mn
              have hW := hW.trans (hb0.mono hW.size)
              (try dsimp only)
              obtain ⟨x0, x1, x2⟩ := box3_of ma
              obtain ⟨x3, x4, x5⟩ := box3_of mb
              refine hK.out _ _ ⟨x0, x1, x2, x3, x4, x5⟩ (fun _ => ?_)
              clear hK K x0 x1 x2 x3 x4 x5
              try simp only [Act.put, List.setIfInBounds_toArray, List.set_cons_zero, List.set_cons_succ]
              have hWs0 : w.heap.size + 2 ≤ V19.heap.size := Nat.le_trans hWs0 hb0.size
              clear hb0
              refine wpAnyH_ready (rs := [7]) (by kernel_rfl) (by simp) (AllReadyH.cons (o := ⟨_, _, _, _, _, _⟩) rfl (fun K hK => ?_) AllReadyH.nil)
              obtain ⟨t0, t1, t2⟩ := box3_of mn
              have f0 := frozen_of 0 mn
              have f1 := frozen_of 1 mn
              have f2 := frozen_of 2 mn
              go_simp
              clear t0 t1 t2 f0 f1 f2
              have mn := set_blk (v := .bool SG) (i := 0) mn rfl
              have ma := set_other (i := 0) ma (show w.heap.size ≠ gn by omega) (.bool SG)
              have mb := set_other (i := 0) mb (show w.heap.size + 1 ≠ gn by omega) (.bool SG)
              have hW := hW.setCell (p := ⟨gn, 0, none⟩) (show w.heap.size ≤ gn by omega) (.bool SG)
              have mn := set_blk (v := .slice A3 n3 c3) (i := 1) mn rfl
              have ma := set_other (i := 1) ma (show w.heap.size ≠ gn by omega) (.slice A3 n3 c3)
              have mb := set_other (i := 1) mb (show w.heap.size + 1 ≠ gn by omega) (.slice A3 n3 c3)
              have hW := hW.setCell (p := ⟨gn, 1, none⟩) (show w.heap.size ≤ gn by omega) (.slice A3 n3 c3)
              have mn := set_blk (v := .int .i64 lo) (i := 2) mn rfl
              have ma := set_other (i := 2) ma (show w.heap.size ≠ gn by omega) (.int .i64 lo)
              have mb := set_other (i := 2) mb (show w.heap.size + 1 ≠ gn by omega) (.int .i64 lo)
              have hW := hW.setCell (p := ⟨gn, 2, none⟩) (show w.heap.size ≤ gn by omega) (.int .i64 lo)
              obtain ⟨x0, x1, x2⟩ := box3_of ma
              obtain ⟨x3, x4, x5⟩ := box3_of mb
              refine hK.out _ _ ⟨x0, x1, x2, x3, x4, x5⟩ (fun _ => ?_)
              clear hK K x0 x1 x2 x3 x4 x5
              try simp only [Act.put, List.setIfInBounds_toArray, List.set_cons_zero, List.set_cons_succ]
              refine wpAnyH_done (by kernel_rfl) ?_ _
              go_wp2
              go_meet
              exact ⟨gn, A3, n3, c3, rs, rfl, mn, l3, d3, v3, hW⟩
  case rest =>
    obtain ⟨gn, A3, n3, c3, rs, rfl, mn, l3, d3, v3, hW⟩ := hcut
    obtain ⟨q0, q1, q2⟩ := box3_of mn
    have hz : Z = 0 ↔ n3 = 0 := by
      constructor
      · intro h
        have := d3.dval_zero (v3.trans h)
        rw [← l3, this]; rfl
      · intro h
        have := List.eq_nil_of_length_eq_zero (l3.trans h)
        rw [← v3, this]; rfl
    clear p0 p1 p2 p3 p4 p5 ma mb
    by_cases h0 : n3 = 0
    · have hr : ordN SG Z = 0 := if_pos (hz.2 h0)
      have HR := Lib.hid hr
      subst h0
      clear hz l3 hr
      go_wp2
      go_ret
      exact ⟨by rw [HR.out]; rfl, hW⟩
    · have hZ0 : ¬ Z = 0 := fun h => h0 (hz.1 h)
      have hnb : ((n3 : Int) == 0) = false := by rw [beq_eq_false_iff_ne]; omega
      cases SG
      · have hr : ordN false Z = 1 := by unfold ordN; rw [if_neg hZ0]; rfl
        have HR := Lib.hid hr
        clear hz l3 hr h0 hZ0
        go_wp2
        go_ret
        exact ⟨by rw [HR.out]; rfl, hW⟩
      · have hr : ordN true Z = -1 := by unfold ordN; rw [if_neg hZ0]; rfl
        have HR := Lib.hid hr
        clear hz l3 hr h0 hZ0
        go_wp2
        go_ret
        exact ⟨by rw [HR.out]; rfl, hW⟩
end Go.Proofs.YtnlkcjfedomcgaaGreatDoor
