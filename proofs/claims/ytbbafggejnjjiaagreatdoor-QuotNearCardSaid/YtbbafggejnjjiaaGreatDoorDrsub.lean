/-
  Contracts of the reference's Sub of decimals.
-/
import Derived.Test.YtbbafggejnjjiaaGreatDoorDrsm
set_option linter.unusedVariables false
set_option linter.unusedSimpArgs false
namespace Go.Proofs.YtbbafggejnjjiaaGreatDoor
open Go.RowKit

set_option maxRecDepth 100000 in
set_option maxHeartbeats 4000000 in
theorem RSub_v {S : Nat → Prop} {n m c d : Nat} {A B : Option Addr} {xs ys : List Nat} (na nb : Bool) (e1 e2 : Int) (w : World) (ha : Rd w S A n xs) (hb : Rd w S B m ys) (hS : ∀ b, S b → b < w.heap.size) (hn : n ≤ 9223372036854775807) (hm : m ≤ 9223372036854775807) :
    Calls Tryz.prog 31 #[dv na A n c e1, dv nb B m d e2] w fun e w' => Told e w' w.heap.size (okE2 na xs e1 nb ys e2) (addS na (val xs) e1 (ops nb ys) (val ys) e2) (addZ na (val xs) e1 (ops nb ys) (val ys) e2) (lo2 e1 e2) ∧ Below w.heap.size w w' := by
  have hck := fun V (h1 : Rd V S A n xs) (h2 : Rd V S B m ys) hs => Rchecks_c (c := c) (d := d) na nb e1 e2 V h1 h2 hs hn hm
  obtain ⟨E, hE⟩ : ∃ E : Nat, E = okE2 na xs e1 nb ys e2 := ⟨_, rfl⟩
  rw [← hE] at hck ⊢
  obtain ⟨SG, hSG⟩ : ∃ s, s = addS na (val xs) e1 (ops nb ys) (val ys) e2 := ⟨_, rfl⟩
  obtain ⟨Z, hZ⟩ : ∃ s, s = addZ na (val xs) e1 (ops nb ys) (val ys) e2 := ⟨_, rfl⟩
  obtain ⟨lo, hlo⟩ : ∃ s, s = lo2 e1 e2 := ⟨_, rfl⟩
  rw [← hSG, ← hZ, ← hlo]
  obtain ⟨m0, m1, m2, hW, hsz⟩ := three_new w (.cells #[.bool na, .slice A n c, .int .i64 e1] 24) (.cells #[.bool nb, .slice B m d, .int .i64 e2] 24) (.cells #[.bool false, .slice none 0 0, .int .i64 0] 24)
  unfold dv at hck ⊢
  have HCK := Lib.hid hck
  have HE := Lib.hid hE
  have HSG := Lib.hid hSG
  have HZ := Lib.hid hZ
  have HLO := Lib.hid hlo
  have HM0 := Lib.hid m0
  have HM1 := Lib.hid m1
  have HM2 := Lib.hid m2
  clear hck hE hSG hZ hlo m0 m1 m2
  go_enter Tryz.func31, Tryz.ntmps31
  go_wp2_with fail
  have m0 := HM0.out
  have m1 := HM1.out
  have m2 := HM2.out
  clear HM0 HM1 HM2
  generalize (((w.alloc (.cells #[.bool na, .slice A n c, .int .i64 e1] 24)).alloc (.cells #[.bool nb, .slice B m d, .int .i64 e2] 24)).alloc (.cells #[.bool false, .slice none 0 0, .int .i64 0] 24)) = W at m0 m1 m2 hW hsz ⊢
  have up : ∀ {W' : World}, Below w.heap.size w W' → ∀ b, S b → b < W'.heap.size := fun hW b h => by have := hS b h; have := hW.size; omega
  refine (HCK.out W (ha.below hW hS) (hb.below hW hS) (up hW)).mono ?_
  rintro e w1 ⟨rfl, hb1⟩
  have m0 := held hb1 (by omega) m0
  have m1 := held hb1 (by omega) m1
  have m2 := held hb1 (by omega) m2
  have hw1 := hW.trans (hb1.mono (by omega))
  have hs1 := hb1.size
  obtain ⟨p0, p1, p2⟩ := box3_of m0
  obtain ⟨p3, p4, p5⟩ := box3_of m1
  obtain ⟨y0, y1, y2⟩ := box3_of m2
  have f0 := frozen_of 0 m2
  have f1 := frozen_of 1 m2
  have f2 := frozen_of 2 m2
  by_cases h0 : E = 0
  · subst h0
    obtain ⟨k1, k2⟩ := okE2_zero.1 HE.out.symm
    obtain ⟨a1, a2, a3, a4, _, _⟩ := okB_true ha.l32 k1
    obtain ⟨b1, b2, b3, b4, _, _⟩ := okB_true hb.l32 k2
    have hn2 : n ≤ 256 := by rw [← ha.len]; exact a2
    have hm2 : m ≤ 256 := by rw [← hb.len]; exact b2
    have hlob : -1000 ≤ lo ∧ lo ≤ 1000 := by have := HLO.out; unfold lo2 at this; omega
    have hof1 := Of_c (c := c) na e1 w1.drew (ha.below hw1 hS).drew (fun b h => up hw1 b h) hn2
    unfold dv nv at hof1
    have HOF1 := Lib.hid hof1
    clear k1 k2 a1 a2 a3 b1 b2 b3 hof1
    go_wp2_with fail
    refine wp_region_held_drew (S := fun w' => w'.cell? ⟨w.heap.size, 0, none⟩ = some (.bool na) ∧ w'.cell? ⟨w.heap.size, 1, none⟩ = some (.slice A n c) ∧ w'.cell? ⟨w.heap.size, 2, none⟩ = some (.int .i64 e1) ∧ w'.cell? ⟨w.heap.size + 1, 0, none⟩ = some (.bool nb) ∧ w'.cell? ⟨w.heap.size + 1, 1, none⟩ = some (.slice B m d) ∧ w'.cell? ⟨w.heap.size + 1, 2, none⟩ = some (.int .i64 e2)) (by kernel_rfl) ⟨p0, p1, p2, p3, p4, p5⟩ (fun hHeld => ?_)
    (try simp only [List.size_toArray, List.length_cons, List.length_nil, Nat.reduceAdd, Array.replicate_succ, Array.replicate_zero, List.push_toArray, List.append_toArray, List.nil_append, List.cons_append])
    clear p0 p1 p2 p3 p4 p5 y0 y1 y2 f0 f1 f2
    refine wpAnyH_take (i := 0) (oi := ⟨_, _, _, _, _, _⟩) (v := ?_) rfl (by kernel_rfl) (by kernel_rfl) (by kernel_rfl) (fun _ _ _ h => h) (Or.inl ⟨by rfl, ?_⟩) (by assumption) ?_
    rotate_left
    · intro w hSw
      (try dsimp only at hSw)
      go_split_ands
      go_simp
      try with_reducible rfl
    try simp only [Act.put, List.setIfInBounds_toArray, List.set_cons_zero, List.set_cons_succ]
    refine wpAnyH_take (i := 2) (oi := ⟨_, _, _, _, _, _⟩) (v := ?_) rfl (by kernel_rfl) (by kernel_rfl) (by kernel_rfl) (fun _ _ _ h => h) (Or.inl ⟨by rfl, ?_⟩) (by assumption) ?_
    rotate_left
    · intro w hSw
      (try dsimp only at hSw)
      go_split_ands
      go_simp
      try with_reducible rfl
    try simp only [Act.put, List.setIfInBounds_toArray, List.set_cons_zero, List.set_cons_succ]
    refine wpAnyH_ready (rs := [1]) (by kernel_rfl) (by simp) (AllReadyH.cons (o := ⟨_, _, _, _, _, _⟩) rfl (fun K hK => ?_) AllReadyH.nil)
    go_simp
    refine HOF1.out.mono ?_
    rintro e w2 ⟨A1, n1, c1, ds, rfl, hr1, hd1, hv1, hl1, hb2⟩
    have hw1 : Below w.heap.size w w1.drew := only_drewB hw1
    have hsd : w1.drew.heap.size = w1.heap.size := rfl
    have m0 := held hb2 (show w.heap.size < _ by omega) m0
    have m1 := held hb2 (show w.heap.size + 1 < _ by omega) m1
    have m2 := held hb2 (show w.heap.size + 1 + 1 < _ by omega) m2
    have hw2 := hw1.trans (hb2.mono hw1.size)
    have hs2 := hb2.size
    obtain ⟨x0, x1, x2⟩ := box3_of m0
    obtain ⟨x3, x4, x5⟩ := box3_of m1
    (try dsimp only)
    refine hK.out _ _ ⟨x0, x1, x2, x3, x4, x5⟩ (fun _ => ?_)
    clear hK K x0 x1 x2 x3 x4 x5
    try simp only [Act.put, List.setIfInBounds_toArray, List.set_cons_zero, List.set_cons_succ]
    have hof2 := Of_c (c := d) nb e2 w2 (hb.below hw2 hS) (up hw2) hm2
    unfold dv nv at hof2
    have HD1 := Lib.hid hd1
    have HV1 := Lib.hid hv1
    clear hd1 hv1
    refine wpAnyH_ready (rs := [3]) (by kernel_rfl) (by simp) (AllReadyH.cons (o := ⟨_, _, _, _, _, _⟩) rfl (fun K hK => ?_) AllReadyH.nil)
    go_simp
    refine hof2.mono ?_
    rintro e w3 ⟨A2, n2, c2, es, rfl, hr2, hd2, hv2, hl2, hb3⟩
    have hr1 := hr1.below hb3 (Nat.le_refl _)
    have HD2 := Lib.hid hd2
    have HV2 := Lib.hid hv2
    clear hd2 hv2 hof2
    have m0 := held hb3 (show w.heap.size < _ by omega) m0
    have m1 := held hb3 (show w.heap.size + 1 < _ by omega) m1
    have m2 := held hb3 (show w.heap.size + 1 + 1 < _ by omega) m2
    have hw3 := hw2.trans (hb3.mono hw2.size)
    have hs3 := hb3.size
    obtain ⟨x0, x1, x2⟩ := box3_of m0
    obtain ⟨x3, x4, x5⟩ := box3_of m1
    (try dsimp only)
    refine hK.out _ _ ⟨x0, x1, x2, x3, x4, x5⟩ (fun _ => ?_)
    clear hK K x0 x1 x2 x3 x4 x5
    try simp only [Act.put, List.setIfInBounds_toArray, List.set_cons_zero, List.set_cons_succ]
    have hop := ropp_c (A := A2) (c := c2) (ds := es) nb e2 w3 hr2.len
    unfold nv at hop
    refine wpAnyH_ready (rs := [4]) (by kernel_rfl) (by simp) (AllReadyH.cons (o := ⟨_, _, _, _, _, _⟩) rfl (fun K hK => ?_) AllReadyH.nil)
    go_simp
    refine hop.mono ?_
    rintro e w4 ⟨rfl, hb4⟩
    have hr1 := hr1.below hb4 (Nat.le_refl _)
    have hr2 := hr2.below hb4 (Nat.le_refl _)
    clear hop
    have m0 := held hb4 (show w.heap.size < _ by omega) m0
    have m1 := held hb4 (show w.heap.size + 1 < _ by omega) m1
    have m2 := held hb4 (show w.heap.size + 1 + 1 < _ by omega) m2
    have hw4 := hw3.trans (hb4.mono hw3.size)
    have hs4 := hb4.size
    obtain ⟨x0, x1, x2⟩ := box3_of m0
    obtain ⟨x3, x4, x5⟩ := box3_of m1
    (try dsimp only)
    refine hK.out _ _ ⟨x0, x1, x2, x3, x4, x5⟩ (fun _ => ?_)
    clear hK K x0 x1 x2 x3 x4 x5
    try simp only [Act.put, List.setIfInBounds_toArray, List.set_cons_zero, List.set_cons_succ]
    have hsum := RSum_c (S := fun b => b < w4.heap.size) (c := c1) (d := c2) na (ops nb es) e1 e2 lo (p1 e1 e2) (p1 e2 e1) w4 (hr1.rd.more (fun b h => h.2)) (hr2.rd.more (fun b h => h.2)) (fun b h => h) HD1.out HD2.out (by omega) (by omega) a4 b4 (by have := HLO.out; unfold lo2 at this; exact this) (by have := HLO.out; unfold lo2 at this; unfold p1; omega) (by have := HLO.out; unfold lo2 at this; unfold p1; omega)
    rw [HV1.out, HV2.out] at hsum
    have hsgn : ops nb es = ops nb ys := by
      unfold ops
      congr 1
      have he := eq_dOf HD2.out
      rw [HV2.out] at he
      have hiff : es = [] ↔ ys = [] := by
        constructor
        · intro h
          rw [h] at he
          have h3 := dOf_val (val ys)
          rw [← he, dval_nil] at h3
          obtain ⟨k1, k2⟩ := okE2_zero.1 HE.out.symm
          rcases okB_cases hb.l32 k2 with ⟨z, _⟩ | ⟨z, _⟩
          · exact z
          · omega
        · intro h
          rw [he, h]; rfl
      simp only [ne_eq, hiff]
    rw [hsgn] at hsum
    have hS0 : sgB na (ops nb ys) (val xs * 10 ^ p1 e1 e2) (val ys * 10 ^ p1 e2 e1) = SG := HSG.out.symm
    have hZ0 : sgV na (ops nb ys) (val xs * 10 ^ p1 e1 e2) (val ys * 10 ^ p1 e2 e1) = Z := HZ.out.symm
    rw [hS0, hZ0] at hsum
    unfold nv at hsum
    have HSUM := Lib.hid hsum
    clear hsum hS0 hZ0
    have HSGN := Lib.hid hsgn
    clear hsgn
    rw [HSGN.out]
    refine wpAnyH_ready (rs := [5]) (by kernel_rfl) (by simp) (AllReadyH.cons (o := ⟨_, _, _, _, _, _⟩) rfl (fun K hK => ?_) AllReadyH.nil)
    go_simp
    refine HSUM.out.mono ?_
    rintro e w5 ⟨A3, n3, c3, rs, rfl, hr3, hd3, hv3, hl3, hb5⟩
    have HD3 := Lib.hid hd3
    have HV3 := Lib.hid hv3
    clear hd3 hv3
    have m0 := held hb5 (show w.heap.size < _ by omega) m0
    have m1 := held hb5 (show w.heap.size + 1 < _ by omega) m1
    have m2 := held hb5 (show w.heap.size + 1 + 1 < _ by omega) m2
    have hw5 := hw4.trans (hb5.mono hw4.size)
    have hs5 := hb5.size
    obtain ⟨x0, x1, x2⟩ := box3_of m0
    obtain ⟨x3, x4, x5⟩ := box3_of m1
    (try dsimp only)
    refine hK.out _ _ ⟨x0, x1, x2, x3, x4, x5⟩ (fun _ => ?_)
    clear hK K x0 x1 x2 x3 x4 x5
    try simp only [Act.put, List.setIfInBounds_toArray, List.set_cons_zero, List.set_cons_succ]
    have hn3 := hr3.n_le
    unfold maxLen at hn3
    have hmade := Made_c (c := c3) SG lo w5 hr3.rd (fun b h => h.2) HD3.out.1 (by omega) hn3.1 (by omega) (by omega)
    rw [HV3.out] at hmade
    unfold nv dv at hmade
    have HMADE := Lib.hid hmade
    clear hmade
    refine wpAnyH_ready (rs := [6]) (by kernel_rfl) (by simp) (AllReadyH.cons (o := ⟨_, _, _, _, _, _⟩) rfl (fun K hK => ?_) AllReadyH.nil)
    go_simp
    refine HMADE.out.mono ?_
    rintro e w6 ⟨A4, n4, c4, rfl, hr4, hb6⟩
    have m0 := held hb6 (show w.heap.size < _ by omega) m0
    have m1 := held hb6 (show w.heap.size + 1 < _ by omega) m1
    have m2 := held hb6 (show w.heap.size + 1 + 1 < _ by omega) m2
    have hw6 := hw5.trans (hb6.mono hw5.size)
    have hs6 := hb6.size
    obtain ⟨x0, x1, x2⟩ := box3_of m0
    obtain ⟨x3, x4, x5⟩ := box3_of m1
    (try dsimp only)
    refine hK.out _ _ ⟨x0, x1, x2, x3, x4, x5⟩ (fun _ => ?_)
    clear hK K x0 x1 x2 x3 x4 x5
    try simp only [Act.put, List.setIfInBounds_toArray, List.set_cons_zero, List.set_cons_succ]
    obtain ⟨y0, y1, y2⟩ := box3_of m2
    have f0 := frozen_of 0 m2
    have f1 := frozen_of 1 m2
    have f2 := frozen_of 2 m2
    refine wpAnyH_take (i := 7) (oi := ⟨_, _, _, _, _, _⟩) (v := ?_) rfl (by kernel_rfl) (by kernel_rfl) (by kernel_rfl) (fun _ _ _ h => h) (Or.inl ⟨by rfl, ?_⟩) (by assumption) ?_
    rotate_left
    · intro w hSw
      (try dsimp only at hSw)
      go_split_ands
      go_simp
      try with_reducible rfl
    try simp only [Act.put, List.setIfInBounds_toArray, List.set_cons_zero, List.set_cons_succ]
    refine wpAnyH_take (i := 8) (oi := ⟨_, _, _, _, _, _⟩) (v := ?_) rfl (by kernel_rfl) (by kernel_rfl) (by kernel_rfl) (fun _ _ _ h => h) (Or.inl ⟨by rfl, ?_⟩) (by assumption) ?_
    rotate_left
    · intro w hSw
      (try dsimp only at hSw)
      go_split_ands
      go_simp
      try with_reducible rfl
    try simp only [Act.put, List.setIfInBounds_toArray, List.set_cons_zero, List.set_cons_succ]
    refine wpAnyH_ready (rs := [9]) (by kernel_rfl) (by simp) (AllReadyH.cons (o := ⟨_, _, _, _, _, _⟩) rfl (fun K hK => ?_) AllReadyH.nil)
    go_simp
    obtain ⟨g0, g1, g2⟩ := box3_of m0
    obtain ⟨g3, g4, g5⟩ := box3_of m1
    refine hK.out _ _ (by refine ⟨?_, ?_, ?_, ?_, ?_, ?_⟩ <;> (first | go_keep | (rw [World.cell?_setCell_far _ _ _ _ (by dsimp only; omega), World.cell?_setCell_far _ _ _ _ (by dsimp only; omega), World.cell?_setCell_far _ _ _ _ (by dsimp only; omega)]; assumption))) (fun _ => ?_)
    clear hK K
    try simp only [Act.put, List.setIfInBounds_toArray, List.set_cons_zero, List.set_cons_succ]
    refine wpAnyH_take (i := 10) (oi := ⟨_, _, _, _, _, _⟩) (v := ?_) rfl (by kernel_rfl) (by kernel_rfl) (by kernel_rfl) (fun _ _ _ h => h) (Or.inl ⟨by rfl, ?_⟩) (by assumption) ?_
    rotate_left
    · intro w hSw
      (try dsimp only at hSw)
      go_split_ands
      go_simp
      try with_reducible rfl
    try simp only [Act.put, List.setIfInBounds_toArray, List.set_cons_zero, List.set_cons_succ]
    refine wpAnyH_done (by kernel_rfl) ?_ _
    go_wp2
    refine bodyPost_ret (v := .tuple #[.agg #[.bool (stN SG Z lo), .slice A4 n4 c4, .int .i64 (stX Z lo)], .int .i64 (stE Z lo : Int)]) (by simp [results, Tryz.results31, go_sem, y0, y1, y2]) rfl ?_
    have hlR : w.heap.size + 1 + 1 < w5.heap.size := by omega
    refine ⟨told_of (fun h => absurd rfl h) (fun _ => ⟨A4, n4, c4, rfl, ?_⟩), ?_⟩
    · exact (((hr4.setOther (p := ⟨w.heap.size + 1 + 1, 0, none⟩) hlR _).setOther (p := ⟨w.heap.size + 1 + 1, 1, none⟩) hlR _).setOther (p := ⟨w.heap.size + 1 + 1, 2, none⟩) hlR _).more (by omega)
    · exact ((hw6.setCell (p := ⟨w.heap.size + 1 + 1, 0, none⟩) (by simp; omega) _).setCell (p := ⟨w.heap.size + 1 + 1, 1, none⟩) (by simp; omega) _).setCell (p := ⟨w.heap.size + 1 + 1, 2, none⟩) (by simp; omega) _
  · have hE9 : E = 9 := by
      rcases okE2_val na nb xs ys e1 e2 with h | h
      · exact absurd (HE.out.trans h) h0
      · exact HE.out.trans h
    subst hE9
    go_wp2
    refine bodyPost_ret (v := .tuple #[.agg #[.bool false, .slice none 0 0, .int .i64 0], .int .i64 9]) (by simp [results, Tryz.results31, go_sem, y0, y1, y2]) rfl ?_
    refine ⟨told_of (fun _ => rfl) (fun h => absurd h (by decide)), ?_⟩
    exact ((hw1.setCell (p := ⟨w.heap.size + 1 + 1, 0, none⟩) (by simp; omega) _).setCell (p := ⟨w.heap.size + 1 + 1, 1, none⟩) (by simp; omega) _).setCell (p := ⟨w.heap.size + 1 + 1, 2, none⟩) (by simp; omega) _
end Go.Proofs.YtbbafggejnjjiaaGreatDoor
