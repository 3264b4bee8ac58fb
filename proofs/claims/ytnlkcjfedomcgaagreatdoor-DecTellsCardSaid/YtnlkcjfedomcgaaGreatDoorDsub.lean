/-
  Contracts of dec.Sub, of the function that it hands on, and of workOut with it.
-/
import Derived.Test.YtnlkcjfedomcgaaGreatDoorDx
set_option linter.unusedVariables false
set_option linter.unusedSimpArgs false
namespace Go.Proofs.YtnlkcjfedomcgaaGreatDoor
open Go.RowKit

set_option maxRecDepth 100000 in
set_option maxHeartbeats 4000000 in
theorem subf_c {S : Nat → Prop} {n m c d pa pb : Nat} {A B : Option Addr} {xs ys : List Nat} (na nb : Bool) (e1 e2 lo : Int) (P1 P2 : Nat) (w : World)
    (ma : w.heap[pa]? = some (.cells #[.bool na, .slice A n c, .int .i64 e1] 24)) (mb : w.heap[pb]? = some (.cells #[.bool nb, .slice B m d, .int .i64 e2] 24))
    (ha1 : Rd w S A n xs) (ha2 : Rd w S B m ys) (hS : ∀ b, S b → b < w.heap.size) (hc1 : Can xs) (hc2 : Can ys) (hn : n ≤ 256) (hm : m ≤ 256) (hv1 : val xs < 10 ^ 300) (hv2 : val ys < 10 ^ 300) (hx1 : -1000 ≤ e1 ∧ e1 ≤ 1000) (hx2 : -1000 ≤ e2 ∧ e2 ≤ 1000)
    (hlo : lo = min e1 e2) (hpi1 : e1 - lo = (P1 : Int)) (hpi2 : e2 - lo = (P2 : Int)) (Z : Nat) (sg : Bool) (hZ : Z = sgV na (ops nb ys) (val xs * 10 ^ P1) (val ys * 10 ^ P2)) (hsg : sg = sgB na (ops nb ys) (val xs * 10 ^ P1) (val ys * 10 ^ P2)) :
    Calls Tryz.prog 66 #[.pointer (some ⟨pa, 0, none⟩), .pointer (some ⟨pb, 0, none⟩)] w fun e w' => ∃ s, e = .returned (rv sg none 0 0 lo s) ∧ IsDec Z s ∧ s.size ≤ 2731 ∧ Below w.heap.size w w' := by
  have hb0 : ∀ o, Below w.heap.size w (w.alloc o) := fun o => (Below.refl _ _).alloc (Nat.le_refl _) _
  have hsa := (Array.getElem?_eq_some_iff.1 ma).1
  have hsb := (Array.getElem?_eq_some_iff.1 mb).1
  have hW := hb0 (.cells #[.bool false, .slice none 0 0, .int .i64 0, .string ⟨#[]⟩] 70)
  have m2 := World.alloc_heap_new w (.cells #[.bool false, .slice none 0 0, .int .i64 0, .string ⟨#[]⟩] 70)
  have hsz : (w.alloc (.cells #[.bool false, .slice none 0 0, .int .i64 0, .string ⟨#[]⟩] 70)).heap.size = w.heap.size + 1 := by simp
  have HMA := Lib.hid ma
  have HMB := Lib.hid mb
  have HV1 := Lib.hid hv1
  have HV2 := Lib.hid hv2
  have HLO := Lib.hid hlo
  have HP1 := Lib.hid hpi1
  have HP2 := Lib.hid hpi2
  have HZ := Lib.hid hZ
  have HSG := Lib.hid hsg
  have HM2 := Lib.hid m2
  clear ma mb hlo hpi1 hpi2 hv1 hv2 hZ hsg m2
  unfold rv
  go_enter Tryz.func66, Tryz.ntmps66
  go_wp2_with fail
  have m2 := HM2.out
  clear HM2
  generalize (w.alloc (.cells #[.bool false, .slice none 0 0, .int .i64 0, .string ⟨#[]⟩] 70)) = W at m2 hW hsz ⊢
  have hSW : ∀ b, S b → b < W.heap.size := fun b h => by have := hS b h; omega
  have hO := opposite_c (c := d) nb e2 W.drew (ha2.below hW hS).drew hSW (by omega)
  have hsum : ∀ w1 B1 d1, Res w1 W.heap.size B1 m d1 ys → Below W.heap.size W.drew w1 → Calls Tryz.prog 64 #[dv na A n c e1, dv (ops nb ys) B1 m d1 e2] w1 fun e w' => ∃ s, e = .returned (rv sg none 0 0 lo s) ∧ IsDec Z s ∧ s.size ≤ 2731 ∧ Below w1.heap.size w1 w' := by
    intro w1 B1 d1 hr1 hb1
    rw [HZ.out, HSG.out]
    have hs1 := hb1.size
    exact dsum_c (S := fun b => b < w1.heap.size) (c := c) (d := d1) na (ops nb ys) e1 e2 lo P1 P2 w1 (((ha1.below hW hS).drew.below hb1 hSW).more (fun b h => Nat.lt_of_lt_of_le (hSW b h) hs1)) (hr1.rd.more (fun b h => h.2)) (fun b h => h) hc1 hc2 hn hm HV1.out HV2.out hx1 hx2 HLO.out HP1.out HP2.out
  unfold dv at hO hsum
  unfold rv at hsum
  have HO := Lib.hid hO
  have HSUM := Lib.hid hsum
  obtain ⟨k0, k1, k2⟩ := box3_of (held hW hsa HMA.out)
  obtain ⟨k3, k4, k5⟩ := box3_of (held hW hsb HMB.out)
  clear hO hsum hb0
  refine wp_region_held_drew (S := fun w' => w'.cell? ⟨pa, 0, none⟩ = some (.bool na) ∧ w'.cell? ⟨pa, 1, none⟩ = some (.slice A n c) ∧ w'.cell? ⟨pa, 2, none⟩ = some (.int .i64 e1) ∧ w'.cell? ⟨pb, 0, none⟩ = some (.bool nb) ∧ w'.cell? ⟨pb, 1, none⟩ = some (.slice B m d) ∧ w'.cell? ⟨pb, 2, none⟩ = some (.int .i64 e2)) (by kernel_rfl) ⟨k0, k1, k2, k3, k4, k5⟩ (fun hHeld => ?_)
  (try simp only [List.size_toArray, List.length_cons, List.length_nil, Nat.reduceAdd, Array.replicate_succ, Array.replicate_zero, List.push_toArray, List.append_toArray, List.nil_append, List.cons_append])
  refine wpAnyH_take (i := 0) (oi := ⟨_, _, _, _, _, _⟩) (v := ?_) rfl (by kernel_rfl) (by kernel_rfl) (by kernel_rfl) (fun _ _ _ h => h) (Or.inl ⟨by rfl, ?_⟩) (by assumption) ?_
  rotate_left
  · intro w hSw
    (try dsimp only at hSw)
    go_split_ands
    go_simp
    try with_reducible rfl
  try simp only [Act.put, List.setIfInBounds_toArray, List.set_cons_zero, List.set_cons_succ]
  refine wpAnyH_take (i := 1) (oi := ⟨_, _, _, _, _, _⟩) (v := ?_) rfl (by kernel_rfl) (by kernel_rfl) (by kernel_rfl) (fun _ _ _ h => h) (Or.inl ⟨by rfl, ?_⟩) (by assumption) ?_
  rotate_left
  · intro w hSw
    (try dsimp only at hSw)
    go_split_ands
    go_simp
    try with_reducible rfl
  try simp only [Act.put, List.setIfInBounds_toArray, List.set_cons_zero, List.set_cons_succ]
  refine wpAnyH_ready (rs := [2]) (by kernel_rfl) (by simp) (AllReadyH.cons (o := ⟨_, _, _, _, _, _⟩) rfl (fun K hK => ?_) AllReadyH.nil)
  go_simp
  refine HO.out.mono ?_
  rintro e w1 ⟨B1, d1, rfl, hr1, hb1⟩
  obtain ⟨z0, z1, z2⟩ := box3_of (held hb1 (show pa < W.heap.size by omega) (held hW hsa HMA.out))
  obtain ⟨z3, z4, z5⟩ := box3_of (held hb1 (show pb < W.heap.size by omega) (held hW hsb HMB.out))
  (try dsimp only)
  refine hK.out _ _ ⟨z0, z1, z2, z3, z4, z5⟩ (fun hHeld2 => ?_)
  clear hK K
  try simp only [Act.put, List.setIfInBounds_toArray, List.set_cons_zero, List.set_cons_succ]
  refine wpAnyH_ready (rs := [3]) (by kernel_rfl) (by simp) (AllReadyH.cons (o := ⟨_, _, _, _, _, _⟩) rfl (fun K hK => ?_) AllReadyH.nil)
  go_simp
  refine (HSUM.out _ _ _ hr1 hb1).mono ?_
  rintro e w2 ⟨s, rfl, hs, hs2, hb2⟩
  have hbW := hb1.trans (hb2.mono hb1.size)
  obtain ⟨x0, x1, x2⟩ := box3_of (held hbW (show pa < W.heap.size by omega) (held hW hsa HMA.out))
  obtain ⟨x3, x4, x5⟩ := box3_of (held hbW (show pb < W.heap.size by omega) (held hW hsb HMB.out))
  have q1 := held hbW (show w.heap.size < W.heap.size by omega) m2
  have y0 : w2.cell? ⟨w.heap.size, 0, none⟩ = some (.bool false) := cell_of q1 rfl
  have y1 : w2.cell? ⟨w.heap.size, 1, none⟩ = some (.slice none 0 0) := cell_of q1 rfl
  have y2 : w2.cell? ⟨w.heap.size, 2, none⟩ = some (.int .i64 0) := cell_of q1 rfl
  have y3 : w2.cell? ⟨w.heap.size, 3, none⟩ = some (.string ⟨#[]⟩) := cell_of q1 rfl
  have f0 := frozen_of 0 q1
  have f1 := frozen_of 1 q1
  have f2 := frozen_of 2 q1
  have f3 := frozen_of 3 q1
  have HS := Lib.hid hs
  (try dsimp only)
  refine hK.out _ _ ⟨x0, x1, x2, x3, x4, x5⟩ (fun hHeld3 => ?_)
  clear hK K hs q1
  try simp only [Act.put, List.setIfInBounds_toArray, List.set_cons_zero, List.set_cons_succ]
  refine wpAnyH_ready (rs := [4]) (by kernel_rfl) (by simp) (AllReadyH.cons (o := ⟨_, _, _, _, _, _⟩) rfl (fun K hK => ?_) AllReadyH.nil)
  go_simp
  refine hK.out _ _ ?_ (fun hHeld4 => ?_)
  · have ga : pa ≠ w.heap.size := by omega
    have gb : pb ≠ w.heap.size := by omega
    (first | go_keep | (refine ⟨?_, ?_, ?_, ?_, ?_, ?_⟩ <;> go_keep) | (simp [World.cell?_setCell_far, Ne.symm ga, Ne.symm gb, x0, x1, x2, x3, x4, x5]))
  clear hK K
  try simp only [Act.put, List.setIfInBounds_toArray, List.set_cons_zero, List.set_cons_succ]
  refine wpAnyH_done (by kernel_rfl) ?_ _
  go_wp2
  refine bodyPost_ret (v := .agg #[.bool sg, .slice none 0 0, .int .i64 lo, .string s]) (by simp [results, Tryz.results66, go_sem, y0, y1, y2, y3]) rfl ?_
  have hwW : Below w.heap.size w w2 := (only_drewB hW).trans (hbW.mono (show w.heap.size ≤ W.heap.size by omega))
  exact ⟨s, rfl, HS.out, hs2, (((hwW.setCell (p := ⟨w.heap.size, 0, none⟩) (Nat.le_refl _) _).setCell (p := ⟨w.heap.size, 1, none⟩) (Nat.le_refl _) _).setCell (p := ⟨w.heap.size, 2, none⟩) (Nat.le_refl _) _).setCell (p := ⟨w.heap.size, 3, none⟩) (Nat.le_refl _) _⟩

set_option maxRecDepth 100000 in
set_option maxHeartbeats 1000000 in
theorem workSub_c {S : Nat → Prop} {n m c d pa pb b : Nat} {A B : Option Addr} {xs ys : List Nat} (na nb : Bool) (e1 e2 lo : Int) (w : World)
    (hb : w.heap[b]? = some (.cells #[.bool na, .slice A n c, .int .i64 e1, .bool nb, .slice B m d, .int .i64 e2] 24))
    (ha1 : Rd w S A n xs) (ha2 : Rd w S B m ys) (hS : ∀ b, S b → b < w.heap.size) (hn : n ≤ 9223372036854775807) (hm : m ≤ 9223372036854775807)
    (hlo : okB na xs e1 = true → okB nb ys e2 = true → -100000 ≤ lo ∧ lo ≤ 100000) (Z : Nat) (sg : Bool)
    (hf : okB na xs e1 = true → okB nb ys e2 = true → ∀ W, Below w.heap.size w W → Calls Tryz.prog 66 #[.pointer (some ⟨pa, 0, none⟩), .pointer (some ⟨pb, 0, none⟩)] W fun e w' => ∃ s, e = .returned (rv sg none 0 0 lo s) ∧ IsDec Z s ∧ s.size ≤ 2731 ∧ Below W.heap.size W w') :
    Calls Tryz.prog 62 #[.func (.func 66) #[] #[.pointer (some ⟨pa, 0, none⟩), .pointer (some ⟨pb, 0, none⟩)], .slice (some ⟨b, 0, none⟩) 2 2] w fun e w' =>
      (okE2 na xs e1 nb ys e2 ≠ 0 → e = .returned (.tuple #[dv false none 0 0 0, .int .i64 (okE2 na xs e1 nb ys e2 : Int)])) ∧
      (okE2 na xs e1 nb ys e2 = 0 → ∃ A' n' c', e = .returned (.tuple #[dv (stN sg Z lo) A' n' c' (stX Z lo), .int .i64 (stE Z lo : Int)]) ∧ Res w' w.heap.size A' n' c' (stZ Z lo)) ∧ Below w.heap.size w w' := by
  have hb0 : ∀ o, Below w.heap.size w (w.alloc o) := fun o => (Below.refl _ _).alloc (Nat.le_refl _) _
  have hsc := (Array.getElem?_eq_some_iff.1 hb).1
  have HB := Lib.hid hb
  have HF := Lib.hid hf
  have HLO := Lib.hid hlo
  clear hb hf hlo
  go_enter Tryz.func62, Tryz.ntmps62
  go_wp2_with fail
  refine (checkAll_c (c := c) (d := d) na nb e1 e2 _ (held (hb0 _) hsc HB.out) (ha1.below (hb0 _) hS) (ha2.below (hb0 _) hS) (fun b h => by have := hS b h; simp; omega) hn hm).mono ?_
  rintro e w1 ⟨rfl, hb1⟩
  have hw1 : Below w.heap.size w w1 := (hb0 _).trans (hb1.mono (by simp))
  have m1 := held hb1 (by simp) (World.alloc_heap_new w _)
  by_cases h0 : okE2 na xs e1 nb ys e2 = 0
  · have H0 := Lib.hid h0
    rw [h0]
    have hk1 : okB na xs e1 = true := by
      unfold okE2 at h0
      by_cases h : okB na xs e1 = true
      · exact h
      · rw [if_neg h] at h0; omega
    have hk2 : okB nb ys e2 = true := by
      unfold okE2 okE at h0
      rw [if_pos hk1] at h0
      by_cases h : okB nb ys e2 = true
      · exact h
      · rw [if_neg h] at h0; omega
    have HF2 := Lib.hid (HF.out hk1 hk2)
    have HLO2 := Lib.hid (HLO.out hk1 hk2)
    clear h0 hk1 hk2
    go_wp2_with fail
    refine (HF2.out w1 hw1).mono ?_
    rintro e w2 ⟨s, rfl, hs, hs2, hb2⟩
    obtain ⟨d1, d2⟩ := isDec_dig hs
    have m2 := held hb2 (by have := hb1.size; simp at this; omega) m1
    have D1 := Lib.hid d1
    have D2 := Lib.hid d2
    have hw2 : Below w.heap.size w w2 := hw1.trans (hb2.mono hw1.size)
    clear m1 d1 d2 hs
    go_wp2_with fail
    have hS3 := settle_c sg none 0 0 lo s w2 (by omega) D1.out (by have := HLO2.out; omega)
    rw [D2.out] at hS3
    refine hS3.mono ?_
    rintro e w3 ⟨A', n', c', rfl, hr3, hb3⟩
    have m3 := held hb3 (by have := hw2.size; have := (Array.getElem?_eq_some_iff.1 m2).1; omega) m2
    have hy0 : w3.cell? ⟨w.heap.size, 0, none⟩ = some (.bool false) := cell_of m3 rfl
    have hy1 : w3.cell? ⟨w.heap.size, 1, none⟩ = some (.slice none 0 0) := cell_of m3 rfl
    have hy2 : w3.cell? ⟨w.heap.size, 2, none⟩ = some (.int .i64 0) := cell_of m3 rfl
    have hf0 := frozen_of 0 m3
    have hf1 := frozen_of 1 m3
    have hf2 := frozen_of 2 m3
    have hlt : w.heap.size < w2.heap.size := (Array.getElem?_eq_some_iff.1 m2).1
    clear hS3 m2 m3
    dsimp only [dv]
    go_wp2
    refine bodyPost_ret (v := .tuple #[.agg #[.bool (stN sg Z lo), .slice A' n' c', .int .i64 (stX Z lo)], .int .i64 (stE Z lo : Int)]) (by simp [results, Tryz.results62, go_sem, hy0, hy1, hy2]) rfl ?_
    refine ⟨fun h => absurd H0.out h, fun _ => ⟨A', n', c', rfl, ?_⟩, ?_⟩
    · exact (((hr3.setOther hlt _).setOther hlt _).setOther hlt _).more hw2.size
    · exact (((hw2.trans (hb3.mono hw2.size)).setCell (p := ⟨w.heap.size, 0, none⟩) (Nat.le_refl _) _).setCell (p := ⟨w.heap.size, 1, none⟩) (Nat.le_refl _) _).setCell (p := ⟨w.heap.size, 2, none⟩) (Nat.le_refl _) _
  · have hbe : (((okE2 na xs e1 nb ys e2 : Nat) : Int) != 0) = true := by rw [bne_iff_ne]; omega
    have hy0 : w1.cell? ⟨w.heap.size, 0, none⟩ = some (.bool false) := cell_of m1 rfl
    have hy1 : w1.cell? ⟨w.heap.size, 1, none⟩ = some (.slice none 0 0) := cell_of m1 rfl
    have hy2 : w1.cell? ⟨w.heap.size, 2, none⟩ = some (.int .i64 0) := cell_of m1 rfl
    have hf0 := frozen_of 0 m1
    have hf1 := frozen_of 1 m1
    have hf2 := frozen_of 2 m1
    have H0 := Lib.hid h0
    clear h0 m1
    go_wp2
    refine bodyPost_ret (v := .tuple #[.agg #[.bool false, .slice none 0 0, .int .i64 0], .int .i64 (okE2 na xs e1 nb ys e2 : Int)]) (by simp [results, Tryz.results62, go_sem, hy0, hy1, hy2]) rfl ?_
    refine ⟨fun _ => rfl, fun h => absurd h H0.out, ?_⟩
    exact ((hw1.setCell (p := ⟨w.heap.size, 0, none⟩) (Nat.le_refl _) _).setCell (p := ⟨w.heap.size, 1, none⟩) (Nat.le_refl _) _).setCell (p := ⟨w.heap.size, 2, none⟩) (Nat.le_refl _) _

set_option maxRecDepth 100000 in
set_option maxHeartbeats 1000000 in
theorem DSub_w {S : Nat → Prop} {n m c d : Nat} {A B : Option Addr} {xs ys : List Nat} (na nb : Bool) (e1 e2 lo : Int) (w : World)
    (ha1 : Rd w S A n xs) (ha2 : Rd w S B m ys) (hS : ∀ b, S b → b < w.heap.size) (hn : n ≤ 9223372036854775807) (hm : m ≤ 9223372036854775807)
    (hlo : okB na xs e1 = true → okB nb ys e2 = true → -100000 ≤ lo ∧ lo ≤ 100000) (Z : Nat) (sg : Bool)
    (hf : okB na xs e1 = true → okB nb ys e2 = true → ∀ W, Below w.heap.size w W → W.heap[w.heap.size]? = some (.cells #[.bool na, .slice A n c, .int .i64 e1] 24) → W.heap[w.heap.size + 1]? = some (.cells #[.bool nb, .slice B m d, .int .i64 e2] 24) →
      Calls Tryz.prog 66 #[.pointer (some ⟨w.heap.size, 0, none⟩), .pointer (some ⟨w.heap.size + 1, 0, none⟩)] W fun e w' => ∃ s, e = .returned (rv sg none 0 0 lo s) ∧ IsDec Z s ∧ s.size ≤ 2731 ∧ Below W.heap.size W w') :
    Calls Tryz.prog 17 #[dv na A n c e1, dv nb B m d e2] w fun e w' =>
      (okE2 na xs e1 nb ys e2 ≠ 0 → e = .returned (.tuple #[dv false none 0 0 0, .int .i64 (okE2 na xs e1 nb ys e2 : Int)])) ∧
      (okE2 na xs e1 nb ys e2 = 0 → ∃ A' n' c', e = .returned (.tuple #[dv (stN sg Z lo) A' n' c' (stX Z lo), .int .i64 (stE Z lo : Int)]) ∧ Res w' w.heap.size A' n' c' (stZ Z lo)) ∧ Below w.heap.size w w' := by
  have HF := Lib.hid hf
  have HLO := Lib.hid hlo
  clear hf hlo
  have hb0 : ∀ o1 o2 o3 o4, Below w.heap.size w ((((w.alloc o1).alloc o2).alloc o3).alloc o4) := fun o1 o2 o3 o4 => ((((Below.refl _ w).alloc (Nat.le_refl _) o1).alloc (by simp) o2).alloc (by simp; omega) o3).alloc (by simp; omega) o4
  have hmf : ∀ (fn : Fn) (first cap : Array Value) (w : World), (Instr.makeFunc fn first cap).run Tryz.prog w = .ok (.func fn first cap) w := fun _ _ _ _ => rfl
  unfold dv
  go_enter Tryz.func17, Tryz.ntmps17
  go_wp2_with fail
  obtain ⟨m0, m1, m2, m3⟩ := four_new w (.cells #[.bool na, .slice A n c, .int .i64 e1] 24) (.cells #[.bool nb, .slice B m d, .int .i64 e2] 24) (.cells #[.bool false, .slice none 0 0, .int .i64 0] 24) (.cells #[.bool na, .slice A n c, .int .i64 e1, .bool nb, .slice B m d, .int .i64 e2] 24)
  have hW := hb0 (.cells #[.bool na, .slice A n c, .int .i64 e1] 24) (.cells #[.bool nb, .slice B m d, .int .i64 e2] 24) (.cells #[.bool false, .slice none 0 0, .int .i64 0] 24) (.cells #[.bool na, .slice A n c, .int .i64 e1, .bool nb, .slice B m d, .int .i64 e2] 24)
  have hsz : ((((w.alloc (.cells #[.bool na, .slice A n c, .int .i64 e1] 24)).alloc (.cells #[.bool nb, .slice B m d, .int .i64 e2] 24)).alloc (.cells #[.bool false, .slice none 0 0, .int .i64 0] 24)).alloc (.cells #[.bool na, .slice A n c, .int .i64 e1, .bool nb, .slice B m d, .int .i64 e2] 24)).heap.size = w.heap.size + 4 := by simp
  generalize ((((w.alloc (.cells #[.bool na, .slice A n c, .int .i64 e1] 24)).alloc (.cells #[.bool nb, .slice B m d, .int .i64 e2] 24)).alloc (.cells #[.bool false, .slice none 0 0, .int .i64 0] 24)).alloc (.cells #[.bool na, .slice A n c, .int .i64 e1, .bool nb, .slice B m d, .int .i64 e2] 24)) = W at m0 m1 m2 m3 hW hsz ⊢
  have hSW : ∀ b, S b → b < W.heap.size := fun b h => by have := hS b h; omega
  refine (workSub_c na nb e1 e2 lo W m3 (ha1.below hW hS) (ha2.below hW hS) hSW hn hm HLO.out Z sg (fun k1 k2 W2 h2 => HF.out k1 k2 W2 (hW.trans (h2.mono (by omega))) (held h2 (by omega) m0) (held h2 (by omega) m1))).mono ?_
  rintro e w1 ⟨hbad, hgood, hb1⟩
  have hw1 : Below w.heap.size w w1 := hW.trans (hb1.mono (by omega))
  have m4 := held hb1 (by omega) m2
  have hy0 : w1.cell? ⟨w.heap.size + 1 + 1, 0, none⟩ = some (.bool false) := cell_of m4 rfl
  have hy1 : w1.cell? ⟨w.heap.size + 1 + 1, 1, none⟩ = some (.slice none 0 0) := cell_of m4 rfl
  have hy2 : w1.cell? ⟨w.heap.size + 1 + 1, 2, none⟩ = some (.int .i64 0) := cell_of m4 rfl
  have hf0 := frozen_of 0 m4
  have hf1 := frozen_of 1 m4
  have hf2 := frozen_of 2 m4
  clear m0 m1 m2 m3 m4 hb0 hmf
  by_cases h0 : okE2 na xs e1 nb ys e2 = 0
  · obtain ⟨A', n', c', rfl, hr⟩ := hgood h0
    have H0 := Lib.hid h0
    clear hbad hgood h0
    dsimp only [dv]
    go_wp2
    refine bodyPost_ret (v := .tuple #[.agg #[.bool (stN sg Z lo), .slice A' n' c', .int .i64 (stX Z lo)], .int .i64 (stE Z lo : Int)]) (by simp [results, Tryz.results17, go_sem, hy0, hy1, hy2]) rfl ?_
    refine ⟨fun h => absurd H0.out h, fun _ => ⟨A', n', c', rfl, ?_⟩, ?_⟩
    · exact (((hr.setOther (by simp; omega) _).setOther (by simp; omega) _).setOther (by simp; omega) _).more (by omega)
    · exact ((hw1.setCell (p := ⟨w.heap.size + 1 + 1, 0, none⟩) (by simp; omega) _).setCell (p := ⟨w.heap.size + 1 + 1, 1, none⟩) (by simp; omega) _).setCell (p := ⟨w.heap.size + 1 + 1, 2, none⟩) (by simp; omega) _
  · obtain rfl := hbad h0
    have H0 := Lib.hid h0
    clear hbad hgood h0
    dsimp only [dv]
    go_wp2
    refine bodyPost_ret (v := .tuple #[.agg #[.bool false, .slice none 0 0, .int .i64 0], .int .i64 (okE2 na xs e1 nb ys e2 : Int)]) (by simp [results, Tryz.results17, go_sem, hy0, hy1, hy2]) rfl ?_
    refine ⟨fun _ => rfl, fun h => absurd h H0.out, ?_⟩
    exact ((hw1.setCell (p := ⟨w.heap.size + 1 + 1, 0, none⟩) (by simp; omega) _).setCell (p := ⟨w.heap.size + 1 + 1, 1, none⟩) (by simp; omega) _).setCell (p := ⟨w.heap.size + 1 + 1, 2, none⟩) (by simp; omega) _
end Go.Proofs.YtnlkcjfedomcgaaGreatDoor
