/-
  Contracts of dec.Mul, of the function that it hands on, and of workOut with it.
-/
import Derived.Test.YtnlkcjfedomcgaaGreatDoorDx
set_option linter.unusedVariables false
set_option linter.unusedSimpArgs false
namespace Go.Proofs.YtnlkcjfedomcgaaGreatDoor
open Go.RowKit

theorem mul_bp {u v : Nat} (h1 : u < 10 ^ 300) (h2 : v < 10 ^ 300) : u * v < bp 256 := by
  obtain ⟨q, hq⟩ : ∃ q, q = 300 := ⟨_, rfl⟩
  rw [← hq] at h1 h2
  have h : u * v < 10 ^ (q + q) := by
    rw [Nat.pow_add]
    exact Nat.mul_lt_mul'' h1 h2
  exact lt_bp (m := 200) h (by omega) (by omega)

set_option maxRecDepth 100000 in
set_option maxHeartbeats 1000000 in
theorem dproduct_c {S : Nat → Prop} {n m c d : Nat} {A B : Option Addr} {xs ys : List Nat} (na nb : Bool) (e1 e2 : Int) (w : World)
    (ha1 : Rd w S A n xs) (ha2 : Rd w S B m ys) (hS : ∀ b, S b → b < w.heap.size) (hc1 : Can xs) (hc2 : Can ys) (hn : n ≤ 256) (hm : m ≤ 256) (hv1 : val xs < 10 ^ 300) (hv2 : val ys < 10 ^ 300) (hx1 : -1000 ≤ e1 ∧ e1 ≤ 1000) (hx2 : -1000 ≤ e2 ∧ e2 ≤ 1000) :
    Calls Tryz.prog 70 #[dv na A n c e1, dv nb B m d e2] w fun e w' => ∃ s, e = .returned (rv (na != nb) none 0 0 (e1 + e2) s) ∧ IsDec (val xs * val ys) s ∧ s.size ≤ 2731 ∧ Below w.heap.size w w' := by
  obtain ⟨hxa, hxb⟩ := hx1
  obtain ⟨hya, hyb⟩ := hx2
  have HB := Lib.hid (mul_bp hv1 hv2)
  clear hv1 hv2
  have hne : ∀ x y : Bool, (x != y) = (x ^^ y) := by decide
  unfold dv rv
  go_enter Tryz.func70, Tryz.ntmps70
  go_wp2_with fail
  obtain ⟨m0, m1, m2, hW, hsz⟩ := three_new w (.cells #[.bool na, .slice A n c, .int .i64 e1] 24) (.cells #[.bool nb, .slice B m d, .int .i64 e2] 24) (.cells #[.bool false, .slice none 0 0, .int .i64 0, .string ⟨#[]⟩] 70)
  generalize (((w.alloc (.cells #[.bool na, .slice A n c, .int .i64 e1] 24)).alloc (.cells #[.bool nb, .slice B m d, .int .i64 e2] 24)).alloc (.cells #[.bool false, .slice none 0 0, .int .i64 0, .string ⟨#[]⟩] 70)) = W at m0 m1 m2 hW hsz ⊢
  have hSW : ∀ b, S b → b < W.heap.size := fun b h => by have := hS b h; omega
  refine (MulL_c W (ha1.below hW hS) (ha2.below hW hS) hSW hSW hc1 hc2 hn hm HB.out).mono ?_
  rintro e w1 ⟨A1, n1, c1, rfl, hr1, hb1⟩
  have hw1 := hW.trans (hb1.mono (by omega))
  have q0 := held hb1 (by omega) m0
  have q1 := held hb1 (by omega) m1
  have q2 := held hb1 (by omega) m2
  obtain ⟨p0, p1, p2⟩ := box3_of q0
  obtain ⟨p3, p4, p5⟩ := box3_of q1
  have hl1 := hr1.len
  have hl2 := lim_len HB.out
  clear m0 m1 m2 q0 q1
  go_wp2_with fail
  refine (roughly_c (c := c1) _ _ w1 hr1.rd (fun b h => h.2) (lim_can _) (by omega)).mono ?_
  rintro e w2 ⟨s, rfl, hs, hs2, hb2⟩
  rw [lim_val] at hs
  have hw2 := hw1.trans (hb2.mono hw1.size)
  have m2 := held hb2 (by have := hb1.size; omega) q2
  have hy0 : w2.cell? ⟨w.heap.size + 1 + 1, 0, none⟩ = some (.bool false) := cell_of m2 rfl
  have hy1 : w2.cell? ⟨w.heap.size + 1 + 1, 1, none⟩ = some (.slice none 0 0) := cell_of m2 rfl
  have hy2 : w2.cell? ⟨w.heap.size + 1 + 1, 2, none⟩ = some (.int .i64 0) := cell_of m2 rfl
  have hy3 : w2.cell? ⟨w.heap.size + 1 + 1, 3, none⟩ = some (.string ⟨#[]⟩) := cell_of m2 rfl
  have hf0 := frozen_of 0 m2
  have hf1 := frozen_of 1 m2
  have hf2 := frozen_of 2 m2
  have hf3 := frozen_of 3 m2
  have HS := Lib.hid hs
  clear hs q2 m2 p0 p1 p2 p3 p4 p5 hne
  dsimp only [rv]
  go_wp2
  refine bodyPost_ret (v := .agg #[.bool (na != nb), .slice none 0 0, .int .i64 (e1 + e2), .string s]) (by simp [results, Tryz.results70, go_sem, hy0, hy1, hy2, hy3]; cases na <;> cases nb <;> rfl) rfl ?_
  exact ⟨s, rfl, HS.out, hs2, (((hw2.setCell (p := ⟨w.heap.size + 1 + 1, 0, none⟩) (by simp; omega) _).setCell (p := ⟨w.heap.size + 1 + 1, 1, none⟩) (by simp; omega) _).setCell (p := ⟨w.heap.size + 1 + 1, 2, none⟩) (by simp; omega) _).setCell (p := ⟨w.heap.size + 1 + 1, 3, none⟩) (by simp; omega) _⟩

set_option maxRecDepth 100000 in
theorem mulf_c {S : Nat → Prop} {n m c d pa pb : Nat} {A B : Option Addr} {xs ys : List Nat} (na nb : Bool) (e1 e2 : Int) (w : World)
    (ma : w.heap[pa]? = some (.cells #[.bool na, .slice A n c, .int .i64 e1] 24)) (mb : w.heap[pb]? = some (.cells #[.bool nb, .slice B m d, .int .i64 e2] 24))
    (ha1 : Rd w S A n xs) (ha2 : Rd w S B m ys) (hS : ∀ b, S b → b < w.heap.size) (hc1 : Can xs) (hc2 : Can ys) (hn : n ≤ 256) (hm : m ≤ 256) (hv1 : val xs < 10 ^ 300) (hv2 : val ys < 10 ^ 300) (hx1 : -1000 ≤ e1 ∧ e1 ≤ 1000) (hx2 : -1000 ≤ e2 ∧ e2 ≤ 1000) :
    Calls Tryz.prog 69 #[.pointer (some ⟨pa, 0, none⟩), .pointer (some ⟨pb, 0, none⟩)] w fun e w' => ∃ s, e = .returned (rv (na != nb) none 0 0 (e1 + e2) s) ∧ IsDec (val xs * val ys) s ∧ s.size ≤ 2731 ∧ Below w.heap.size w w' := by
  have hb0 : ∀ o, Below w.heap.size w (w.alloc o) := fun o => (Below.refl _ _).alloc (Nat.le_refl _) _
  have hsa := (Array.getElem?_eq_some_iff.1 ma).1
  have hsb := (Array.getElem?_eq_some_iff.1 mb).1
  have hP := dproduct_c (c := c) (d := d) na nb e1 e2 (w.alloc (.cells #[.bool false, .slice none 0 0, .int .i64 0, .string ⟨#[]⟩] 70)) (ha1.below (hb0 _) hS) (ha2.below (hb0 _) hS) (fun b h => by have := hS b h; simp; omega) hc1 hc2 hn hm hv1 hv2 hx1 hx2
  unfold dv at hP
  have HP := Lib.hid hP
  have p0 : w.cell? ⟨pa, 0, none⟩ = some (.bool na) := cell_of ma rfl
  have p1 : w.cell? ⟨pa, 1, none⟩ = some (.slice A n c) := cell_of ma rfl
  have p2 : w.cell? ⟨pa, 2, none⟩ = some (.int .i64 e1) := cell_of ma rfl
  have p3 : w.cell? ⟨pb, 0, none⟩ = some (.bool nb) := cell_of mb rfl
  have p4 : w.cell? ⟨pb, 1, none⟩ = some (.slice B m d) := cell_of mb rfl
  have p5 : w.cell? ⟨pb, 2, none⟩ = some (.int .i64 e2) := cell_of mb rfl
  clear hP ma mb hv1 hv2
  unfold rv
  go_enter Tryz.func69, Tryz.ntmps69
  go_wp2_with fail
  refine HP.out.mono ?_
  rintro e w1 ⟨s, rfl, hs, hs2, hb1⟩
  have m1 := held hb1 (by simp) (World.alloc_heap_new w _)
  have hy0 : w1.cell? ⟨w.heap.size, 0, none⟩ = some (.bool false) := cell_of m1 rfl
  have hy1 : w1.cell? ⟨w.heap.size, 1, none⟩ = some (.slice none 0 0) := cell_of m1 rfl
  have hy2 : w1.cell? ⟨w.heap.size, 2, none⟩ = some (.int .i64 0) := cell_of m1 rfl
  have hy3 : w1.cell? ⟨w.heap.size, 3, none⟩ = some (.string ⟨#[]⟩) := cell_of m1 rfl
  have hf0 := frozen_of 0 m1
  have hf1 := frozen_of 1 m1
  have hf2 := frozen_of 2 m1
  have hf3 := frozen_of 3 m1
  have HS := Lib.hid hs
  clear m1 hs p0 p1 p2 p3 p4 p5
  dsimp only [rv]
  go_wp2
  refine bodyPost_ret (v := .agg #[.bool (na != nb), .slice none 0 0, .int .i64 (e1 + e2), .string s]) (by simp [results, Tryz.results69, go_sem, hy0, hy1, hy2, hy3]) rfl ?_
  refine ⟨s, rfl, HS.out, hs2, ?_⟩
  exact (((((hb0 _).trans (hb1.mono (by simp))).setCell (p := ⟨w.heap.size, 0, none⟩) (Nat.le_refl _) _).setCell (p := ⟨w.heap.size, 1, none⟩) (Nat.le_refl _) _).setCell (p := ⟨w.heap.size, 2, none⟩) (Nat.le_refl _) _).setCell (p := ⟨w.heap.size, 3, none⟩) (Nat.le_refl _) _

set_option maxRecDepth 100000 in
set_option maxHeartbeats 1000000 in
theorem workMul_c {S : Nat → Prop} {n m c d pa pb b : Nat} {A B : Option Addr} {xs ys : List Nat} (na nb : Bool) (e1 e2 lo : Int) (w : World)
    (hb : w.heap[b]? = some (.cells #[.bool na, .slice A n c, .int .i64 e1, .bool nb, .slice B m d, .int .i64 e2] 24))
    (ha1 : Rd w S A n xs) (ha2 : Rd w S B m ys) (hS : ∀ b, S b → b < w.heap.size) (hn : n ≤ 9223372036854775807) (hm : m ≤ 9223372036854775807)
    (hlo : okB na xs e1 = true → okB nb ys e2 = true → -100000 ≤ lo ∧ lo ≤ 100000) (Z : Nat) (sg : Bool)
    (hf : okB na xs e1 = true → okB nb ys e2 = true → ∀ W, Below w.heap.size w W → Calls Tryz.prog 69 #[.pointer (some ⟨pa, 0, none⟩), .pointer (some ⟨pb, 0, none⟩)] W fun e w' => ∃ s, e = .returned (rv sg none 0 0 lo s) ∧ IsDec Z s ∧ s.size ≤ 2731 ∧ Below W.heap.size W w') :
    Calls Tryz.prog 62 #[.func (.func 69) #[] #[.pointer (some ⟨pa, 0, none⟩), .pointer (some ⟨pb, 0, none⟩)], .slice (some ⟨b, 0, none⟩) 2 2] w fun e w' =>
      (okE2 na xs e1 nb ys e2 ≠ 0 → e = .returned (.tuple #[dv false none 0 0 0, .int .i64 (okE2 na xs e1 nb ys e2 : Int)])) ∧
      (okE2 na xs e1 nb ys e2 = 0 → ∃ A' n' c', e = .returned (.tuple #[dv (stN sg Z lo) A' n' c' (stX Z lo), .int .i64 (stE Z lo : Int)]) ∧ Res w' w.heap.size A' n' c' (stZ Z lo)) ∧ Below w.heap.size w w' := by
  have hb0 : ∀ o, Below w.heap.size w (w.alloc o) := fun o => (Below.refl _ _).alloc (Nat.le_refl _) _
  have hsc := (Array.getElem?_eq_some_iff.1 hb).1
  have HB := Lib.hid hb
  have HF := Lib.hid hf
  have HLO := Lib.hid hlo
  clear hb hf hlo
  go_enter Tryz.func62, Tryz.ntmps62
  go_wp2_with fail
  refine (checkAll_c (c := c) (d := d) na nb e1 e2 _ (held (hb0 _) hsc HB.out) (ha1.below (hb0 _) hS) (ha2.below (hb0 _) hS) (fun b h => by have := hS b h; simp; omega) hn hm).mono ?_
  rintro e w1 ⟨rfl, hb1⟩
  have hw1 : Below w.heap.size w w1 := (hb0 _).trans (hb1.mono (by simp))
  have m1 := held hb1 (by simp) (World.alloc_heap_new w _)
  by_cases h0 : okE2 na xs e1 nb ys e2 = 0
  · have H0 := Lib.hid h0
    rw [h0]
    have hk1 : okB na xs e1 = true := by
      unfold okE2 at h0
      by_cases h : okB na xs e1 = true
      · exact h
      · rw [if_neg h] at h0; omega
    have hk2 : okB nb ys e2 = true := by
      unfold okE2 okE at h0
      rw [if_pos hk1] at h0
      by_cases h : okB nb ys e2 = true
      · exact h
      · rw [if_neg h] at h0; omega
    have HF2 := Lib.hid (HF.out hk1 hk2)
    have HLO2 := Lib.hid (HLO.out hk1 hk2)
    clear h0 hk1 hk2
    go_wp2_with fail
    refine (HF2.out w1 hw1).mono ?_
    rintro e w2 ⟨s, rfl, hs, hs2, hb2⟩
    obtain ⟨d1, d2⟩ := isDec_dig hs
    have m2 := held hb2 (by have := hb1.size; simp at this; omega) m1
    have D1 := Lib.hid d1
    have D2 := Lib.hid d2
    have hw2 : Below w.heap.size w w2 := hw1.trans (hb2.mono hw1.size)
    clear m1 d1 d2 hs
    go_wp2_with fail
    have hS3 := settle_c sg none 0 0 lo s w2 (by omega) D1.out (by have := HLO2.out; omega)
    rw [D2.out] at hS3
    refine hS3.mono ?_
    rintro e w3 ⟨A', n', c', rfl, hr3, hb3⟩
    have m3 := held hb3 (by have := hw2.size; have := (Array.getElem?_eq_some_iff.1 m2).1; omega) m2
    have hy0 : w3.cell? ⟨w.heap.size, 0, none⟩ = some (.bool false) := cell_of m3 rfl
    have hy1 : w3.cell? ⟨w.heap.size, 1, none⟩ = some (.slice none 0 0) := cell_of m3 rfl
    have hy2 : w3.cell? ⟨w.heap.size, 2, none⟩ = some (.int .i64 0) := cell_of m3 rfl
    have hf0 := frozen_of 0 m3
    have hf1 := frozen_of 1 m3
    have hf2 := frozen_of 2 m3
    have hlt : w.heap.size < w2.heap.size := (Array.getElem?_eq_some_iff.1 m2).1
    clear hS3 m2 m3
    dsimp only [dv]
    go_wp2
    refine bodyPost_ret (v := .tuple #[.agg #[.bool (stN sg Z lo), .slice A' n' c', .int .i64 (stX Z lo)], .int .i64 (stE Z lo : Int)]) (by simp [results, Tryz.results62, go_sem, hy0, hy1, hy2]) rfl ?_
    refine ⟨fun h => absurd H0.out h, fun _ => ⟨A', n', c', rfl, ?_⟩, ?_⟩
    · exact (((hr3.setOther hlt _).setOther hlt _).setOther hlt _).more hw2.size
    · exact (((hw2.trans (hb3.mono hw2.size)).setCell (p := ⟨w.heap.size, 0, none⟩) (Nat.le_refl _) _).setCell (p := ⟨w.heap.size, 1, none⟩) (Nat.le_refl _) _).setCell (p := ⟨w.heap.size, 2, none⟩) (Nat.le_refl _) _
  · have hbe : (((okE2 na xs e1 nb ys e2 : Nat) : Int) != 0) = true := by rw [bne_iff_ne]; omega
    have hy0 : w1.cell? ⟨w.heap.size, 0, none⟩ = some (.bool false) := cell_of m1 rfl
    have hy1 : w1.cell? ⟨w.heap.size, 1, none⟩ = some (.slice none 0 0) := cell_of m1 rfl
    have hy2 : w1.cell? ⟨w.heap.size, 2, none⟩ = some (.int .i64 0) := cell_of m1 rfl
    have hf0 := frozen_of 0 m1
    have hf1 := frozen_of 1 m1
    have hf2 := frozen_of 2 m1
    have H0 := Lib.hid h0
    clear h0 m1
    go_wp2
    refine bodyPost_ret (v := .tuple #[.agg #[.bool false, .slice none 0 0, .int .i64 0], .int .i64 (okE2 na xs e1 nb ys e2 : Int)]) (by simp [results, Tryz.results62, go_sem, hy0, hy1, hy2]) rfl ?_
    refine ⟨fun _ => rfl, fun h => absurd h H0.out, ?_⟩
    exact ((hw1.setCell (p := ⟨w.heap.size, 0, none⟩) (Nat.le_refl _) _).setCell (p := ⟨w.heap.size, 1, none⟩) (Nat.le_refl _) _).setCell (p := ⟨w.heap.size, 2, none⟩) (Nat.le_refl _) _

set_option maxRecDepth 100000 in
set_option maxHeartbeats 1000000 in
theorem DMul_w {S : Nat → Prop} {n m c d : Nat} {A B : Option Addr} {xs ys : List Nat} (na nb : Bool) (e1 e2 lo : Int) (w : World)
    (ha1 : Rd w S A n xs) (ha2 : Rd w S B m ys) (hS : ∀ b, S b → b < w.heap.size) (hn : n ≤ 9223372036854775807) (hm : m ≤ 9223372036854775807)
    (hlo : okB na xs e1 = true → okB nb ys e2 = true → -100000 ≤ lo ∧ lo ≤ 100000) (Z : Nat) (sg : Bool)
    (hf : okB na xs e1 = true → okB nb ys e2 = true → ∀ W, Below w.heap.size w W → W.heap[w.heap.size]? = some (.cells #[.bool na, .slice A n c, .int .i64 e1] 24) → W.heap[w.heap.size + 1]? = some (.cells #[.bool nb, .slice B m d, .int .i64 e2] 24) →
      Calls Tryz.prog 69 #[.pointer (some ⟨w.heap.size, 0, none⟩), .pointer (some ⟨w.heap.size + 1, 0, none⟩)] W fun e w' => ∃ s, e = .returned (rv sg none 0 0 lo s) ∧ IsDec Z s ∧ s.size ≤ 2731 ∧ Below W.heap.size W w') :
    Calls Tryz.prog 19 #[dv na A n c e1, dv nb B m d e2] w fun e w' =>
      (okE2 na xs e1 nb ys e2 ≠ 0 → e = .returned (.tuple #[dv false none 0 0 0, .int .i64 (okE2 na xs e1 nb ys e2 : Int)])) ∧
      (okE2 na xs e1 nb ys e2 = 0 → ∃ A' n' c', e = .returned (.tuple #[dv (stN sg Z lo) A' n' c' (stX Z lo), .int .i64 (stE Z lo : Int)]) ∧ Res w' w.heap.size A' n' c' (stZ Z lo)) ∧ Below w.heap.size w w' := by
  have HF := Lib.hid hf
  have HLO := Lib.hid hlo
  clear hf hlo
  have hb0 : ∀ o1 o2 o3 o4, Below w.heap.size w ((((w.alloc o1).alloc o2).alloc o3).alloc o4) := fun o1 o2 o3 o4 => ((((Below.refl _ w).alloc (Nat.le_refl _) o1).alloc (by simp) o2).alloc (by simp; omega) o3).alloc (by simp; omega) o4
  have hmf : ∀ (fn : Fn) (first cap : Array Value) (w : World), (Instr.makeFunc fn first cap).run Tryz.prog w = .ok (.func fn first cap) w := fun _ _ _ _ => rfl
  unfold dv
  go_enter Tryz.func19, Tryz.ntmps19
  go_wp2_with fail
  obtain ⟨m0, m1, m2, m3⟩ := four_new w (.cells #[.bool na, .slice A n c, .int .i64 e1] 24) (.cells #[.bool nb, .slice B m d, .int .i64 e2] 24) (.cells #[.bool false, .slice none 0 0, .int .i64 0] 24) (.cells #[.bool na, .slice A n c, .int .i64 e1, .bool nb, .slice B m d, .int .i64 e2] 24)
  have hW := hb0 (.cells #[.bool na, .slice A n c, .int .i64 e1] 24) (.cells #[.bool nb, .slice B m d, .int .i64 e2] 24) (.cells #[.bool false, .slice none 0 0, .int .i64 0] 24) (.cells #[.bool na, .slice A n c, .int .i64 e1, .bool nb, .slice B m d, .int .i64 e2] 24)
  have hsz : ((((w.alloc (.cells #[.bool na, .slice A n c, .int .i64 e1] 24)).alloc (.cells #[.bool nb, .slice B m d, .int .i64 e2] 24)).alloc (.cells #[.bool false, .slice none 0 0, .int .i64 0] 24)).alloc (.cells #[.bool na, .slice A n c, .int .i64 e1, .bool nb, .slice B m d, .int .i64 e2] 24)).heap.size = w.heap.size + 4 := by simp
  generalize ((((w.alloc (.cells #[.bool na, .slice A n c, .int .i64 e1] 24)).alloc (.cells #[.bool nb, .slice B m d, .int .i64 e2] 24)).alloc (.cells #[.bool false, .slice none 0 0, .int .i64 0] 24)).alloc (.cells #[.bool na, .slice A n c, .int .i64 e1, .bool nb, .slice B m d, .int .i64 e2] 24)) = W at m0 m1 m2 m3 hW hsz ⊢
  have hSW : ∀ b, S b → b < W.heap.size := fun b h => by have := hS b h; omega
  refine (workMul_c na nb e1 e2 lo W m3 (ha1.below hW hS) (ha2.below hW hS) hSW hn hm HLO.out Z sg (fun k1 k2 W2 h2 => HF.out k1 k2 W2 (hW.trans (h2.mono (by omega))) (held h2 (by omega) m0) (held h2 (by omega) m1))).mono ?_
  rintro e w1 ⟨hbad, hgood, hb1⟩
  have hw1 : Below w.heap.size w w1 := hW.trans (hb1.mono (by omega))
  have m4 := held hb1 (by omega) m2
  have hy0 : w1.cell? ⟨w.heap.size + 1 + 1, 0, none⟩ = some (.bool false) := cell_of m4 rfl
  have hy1 : w1.cell? ⟨w.heap.size + 1 + 1, 1, none⟩ = some (.slice none 0 0) := cell_of m4 rfl
  have hy2 : w1.cell? ⟨w.heap.size + 1 + 1, 2, none⟩ = some (.int .i64 0) := cell_of m4 rfl
  have hf0 := frozen_of 0 m4
  have hf1 := frozen_of 1 m4
  have hf2 := frozen_of 2 m4
  clear m0 m1 m2 m3 m4 hb0 hmf
  by_cases h0 : okE2 na xs e1 nb ys e2 = 0
  · obtain ⟨A', n', c', rfl, hr⟩ := hgood h0
    have H0 := Lib.hid h0
    clear hbad hgood h0
    dsimp only [dv]
    go_wp2
    refine bodyPost_ret (v := .tuple #[.agg #[.bool (stN sg Z lo), .slice A' n' c', .int .i64 (stX Z lo)], .int .i64 (stE Z lo : Int)]) (by simp [results, Tryz.results19, go_sem, hy0, hy1, hy2]) rfl ?_
    refine ⟨fun h => absurd H0.out h, fun _ => ⟨A', n', c', rfl, ?_⟩, ?_⟩
    · exact (((hr.setOther (by simp; omega) _).setOther (by simp; omega) _).setOther (by simp; omega) _).more (by omega)
    · exact ((hw1.setCell (p := ⟨w.heap.size + 1 + 1, 0, none⟩) (by simp; omega) _).setCell (p := ⟨w.heap.size + 1 + 1, 1, none⟩) (by simp; omega) _).setCell (p := ⟨w.heap.size + 1 + 1, 2, none⟩) (by simp; omega) _
  · obtain rfl := hbad h0
    have H0 := Lib.hid h0
    clear hbad hgood h0
    dsimp only [dv]
    go_wp2
    refine bodyPost_ret (v := .tuple #[.agg #[.bool false, .slice none 0 0, .int .i64 0], .int .i64 (okE2 na xs e1 nb ys e2 : Int)]) (by simp [results, Tryz.results19, go_sem, hy0, hy1, hy2]) rfl ?_
    refine ⟨fun _ => rfl, fun h => absurd h H0.out, ?_⟩
    exact ((hw1.setCell (p := ⟨w.heap.size + 1 + 1, 0, none⟩) (by simp; omega) _).setCell (p := ⟨w.heap.size + 1 + 1, 1, none⟩) (by simp; omega) _).setCell (p := ⟨w.heap.size + 1 + 1, 2, none⟩) (by simp; omega) _
end Go.Proofs.YtnlkcjfedomcgaaGreatDoor
