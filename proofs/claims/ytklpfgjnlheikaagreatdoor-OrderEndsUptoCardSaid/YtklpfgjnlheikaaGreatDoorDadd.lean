/-
  Contracts of dec's checkAll (of two decimals), of the function that Add hands on, of workOut with it, and of Add.
  Contracts of the function that dec.Add hands on, of workOut with it, and of Add: the sum of two decimals that may be, or the error.
  Contract of dec.Add: the sum of two decimals, settled, or the error.
-/
import Derived.Test.YtklpfgjnlheikaaGreatDoorDwide
set_option linter.unusedVariables false
set_option linter.unusedSimpArgs false
namespace Go.Proofs.YtklpfgjnlheikaaGreatDoor
open Go.RowKit


set_option maxRecDepth 100000 in
set_option maxHeartbeats 1000000 in
theorem checkAll_c {S : Nat → Prop} {n m c d b : Nat} {A B : Option Addr} {xs ys : List Nat} (na nb : Bool) (e1 e2 : Int) (w : World) (hb : w.heap[b]? = some (.cells #[.bool na, .slice A n c, .int .i64 e1, .bool nb, .slice B m d, .int .i64 e2] 24))
    (ha1 : Rd w S A n xs) (ha2 : Rd w S B m ys) (hS : ∀ b, S b → b < w.heap.size) (hn : n ≤ 9223372036854775807) (hm : m ≤ 9223372036854775807) :
    Calls Tryz.prog 53 #[.slice (some ⟨b, 0, none⟩) 2 2] w fun e w' => e = .returned (.int .i64 (okE2 na xs e1 nb ys e2 : Int)) ∧ Below w.heap.size w w' := by
  have hbs : b < w.heap.size := (Array.getElem?_eq_some_iff.1 hb).1
  have HB := Lib.hid hb
  clear hb
  go_enter Tryz.func53, Tryz.ntmps53
  go_wp2
  go_loopw [8] (fun iv wr => ∃ (k : Nat), k ≤ 2 ∧ iv = .int .i64 (k : Int) ∧ Hid (1 ≤ k → okB na xs e1 = true) ∧ Hid (k = 2 → okB nb ys e2 = true) ∧ Below w.heap.size w wr) (fun iv _ => 2 - (intOf iv).toNat)
  case atStart => exact ⟨0, by omega, rfl, (fun h => by omega), (fun h => by omega), Below.refl _ _⟩
  case round =>
    obtain ⟨k, hk, rfl, hz3, hz4, hbel⟩ := hrel
    have hB := held hbel hbs HB.out
    have p0 : wr.cell? ⟨b, 0, none⟩ = some (.bool na) := cell_of hB rfl
    have p1 : wr.cell? ⟨b, 1, none⟩ = some (.slice A n c) := cell_of hB rfl
    have p2 : wr.cell? ⟨b, 2, none⟩ = some (.int .i64 e1) := cell_of hB rfl
    have p3 : wr.cell? ⟨b, 3, none⟩ = some (.bool nb) := cell_of hB rfl
    have p4 : wr.cell? ⟨b, 4, none⟩ = some (.slice B m d) := cell_of hB rfl
    have p5 : wr.cell? ⟨b, 5, none⟩ = some (.int .i64 e2) := cell_of hB rfl
    have hba : ∀ o, Below w.heap.size w (wr.alloc o) := fun o => hbel.alloc hbel.size _
    clear hB
    by_cases h2 : k = 2
    · subst h2
      have HE : Hid (okE2 na xs e1 nb ys e2 = 0) := by show _ = _; unfold okE2 okE; rw [if_pos (hz3.out (by omega)), if_pos (hz4.out rfl)]
      clear hz3 hz4 p0 p1 p2 p3 p4 p5
      go_wp2
      go_ret
      rw [HE.out]
      exact ⟨rfl, hbel⟩
    · by_cases h1 : k = 0
      · subst h1
        have hP := DCheck_c (c := c) na e1 (wr.alloc (.cells #[.bool na, .slice A n c, .int .i64 e1] 24)) (ha1.below (hba _) hS) (fun b h => by have := hS b h; have := hbel.size; simp; omega) hn
        unfold dv okE at hP
        by_cases ho : okB na xs e1 = true
        · rw [if_pos ho] at hP
          have HP := Lib.hid hP
          have HO := Lib.hid ho
          clear hP ho hz3 hz4 h2
          go_wp2_with fail
          refine HP.out.mono ?_
          rintro e w1 ⟨rfl, hb1⟩
          go_wp2
          exact ⟨⟨1, by omega, rfl, (fun _ => HO.out), (fun h => by omega), (hba _).trans (hb1.mono (by simp; have := hbel.size; omega))⟩, by simp [intOf]⟩
        · rw [if_neg ho] at hP
          have HP := Lib.hid hP
          have HE : Hid (okE2 na xs e1 nb ys e2 = 9) := by show _ = _; unfold okE2; rw [if_neg ho]
          clear hP ho hz3 hz4 h2
          go_wp2_with fail
          refine HP.out.mono ?_
          rintro e w1 ⟨rfl, hb1⟩
          go_wp2
          go_ret
          rw [HE.out]
          exact ⟨rfl, (hba _).trans (hb1.mono (by simp; have := hbel.size; omega))⟩
      · obtain rfl : k = 1 := by omega
        have h1ok := hz3.out (by omega)
        have hP := DCheck_c (c := d) nb e2 (wr.alloc (.cells #[.bool nb, .slice B m d, .int .i64 e2] 24)) (ha2.below (hba _) hS) (fun b h => by have := hS b h; have := hbel.size; simp; omega) hm
        unfold dv okE at hP
        by_cases ho : okB nb ys e2 = true
        · rw [if_pos ho] at hP
          have HP := Lib.hid hP
          have HO := Lib.hid ho
          have H1 := Lib.hid h1ok
          clear hP ho hz3 hz4 h2 h1 h1ok
          go_wp2_with fail
          refine HP.out.mono ?_
          rintro e w1 ⟨rfl, hb1⟩
          go_wp2
          exact ⟨⟨2, by omega, rfl, (fun _ => H1.out), (fun _ => HO.out), (hba _).trans (hb1.mono (by simp; have := hbel.size; omega))⟩, by simp [intOf]⟩
        · rw [if_neg ho] at hP
          have HP := Lib.hid hP
          have HE : Hid (okE2 na xs e1 nb ys e2 = 9) := by show _ = _; unfold okE2 okE; rw [if_pos h1ok, if_neg ho]
          clear hP ho hz3 hz4 h2 h1 h1ok
          go_wp2_with fail
          refine HP.out.mono ?_
          rintro e w1 ⟨rfl, hb1⟩
          go_wp2
          go_ret
          rw [HE.out]
          exact ⟨rfl, (hba _).trans (hb1.mono (by simp; have := hbel.size; omega))⟩
end Go.Proofs.YtklpfgjnlheikaaGreatDoor

namespace Go.Proofs.YtklpfgjnlheikaaGreatDoor
open Go.RowKit


set_option maxRecDepth 100000 in
theorem addf_c {S : Nat → Prop} {n m c d pa pb : Nat} {A B : Option Addr} {xs ys : List Nat} (na nb : Bool) (e1 e2 lo : Int) (P1 P2 : Nat) (w : World)
    (ma : w.heap[pa]? = some (.cells #[.bool na, .slice A n c, .int .i64 e1] 24)) (mb : w.heap[pb]? = some (.cells #[.bool nb, .slice B m d, .int .i64 e2] 24))
    (ha1 : Rd w S A n xs) (ha2 : Rd w S B m ys) (hS : ∀ b, S b → b < w.heap.size) (hc1 : Can xs) (hc2 : Can ys) (hn : n ≤ 256) (hm : m ≤ 256) (hv1 : val xs < 10 ^ 300) (hv2 : val ys < 10 ^ 300) (hx1 : -1000 ≤ e1 ∧ e1 ≤ 1000) (hx2 : -1000 ≤ e2 ∧ e2 ≤ 1000)
    (hlo : lo = min e1 e2) (hpi1 : e1 - lo = (P1 : Int)) (hpi2 : e2 - lo = (P2 : Int)) :
    Calls Tryz.prog 58 #[.pointer (some ⟨pa, 0, none⟩), .pointer (some ⟨pb, 0, none⟩)] w fun e w' => ∃ s, e = .returned (rv (sgB na nb (val xs * 10 ^ P1) (val ys * 10 ^ P2)) none 0 0 lo s) ∧ IsDec (sgV na nb (val xs * 10 ^ P1) (val ys * 10 ^ P2)) s ∧ s.size ≤ 2731 ∧ Below w.heap.size w w' := by
  have hb0 : ∀ o, Below w.heap.size w (w.alloc o) := fun o => (Below.refl _ _).alloc (Nat.le_refl _) _
  have hsa := (Array.getElem?_eq_some_iff.1 ma).1
  have hsb := (Array.getElem?_eq_some_iff.1 mb).1
  have hP := dsum_c (c := c) (d := d) na nb e1 e2 lo P1 P2 (w.alloc (.cells #[.bool false, .slice none 0 0, .int .i64 0, .string ⟨#[]⟩] 83)) (ha1.below (hb0 _) hS) (ha2.below (hb0 _) hS) (fun b h => by have := hS b h; simp; omega) hc1 hc2 hn hm hv1 hv2 hx1 hx2 hlo hpi1 hpi2
  unfold dv at hP
  have HP := Lib.hid hP
  have p0 : w.cell? ⟨pa, 0, none⟩ = some (.bool na) := cell_of ma rfl
  have p1 : w.cell? ⟨pa, 1, none⟩ = some (.slice A n c) := cell_of ma rfl
  have p2 : w.cell? ⟨pa, 2, none⟩ = some (.int .i64 e1) := cell_of ma rfl
  have p3 : w.cell? ⟨pb, 0, none⟩ = some (.bool nb) := cell_of mb rfl
  have p4 : w.cell? ⟨pb, 1, none⟩ = some (.slice B m d) := cell_of mb rfl
  have p5 : w.cell? ⟨pb, 2, none⟩ = some (.int .i64 e2) := cell_of mb rfl
  clear hP hlo hpi1 hpi2 ma mb hv1 hv2
  unfold rv
  go_enter Tryz.func58, Tryz.ntmps58
  go_wp2_with fail
  refine HP.out.mono ?_
  rintro e w1 ⟨s, rfl, hs, hs2, hb1⟩
  have m1 := held hb1 (by simp) (World.alloc_heap_new w _)
  have hy0 : w1.cell? ⟨w.heap.size, 0, none⟩ = some (.bool false) := cell_of m1 rfl
  have hy1 : w1.cell? ⟨w.heap.size, 1, none⟩ = some (.slice none 0 0) := cell_of m1 rfl
  have hy2 : w1.cell? ⟨w.heap.size, 2, none⟩ = some (.int .i64 0) := cell_of m1 rfl
  have hy3 : w1.cell? ⟨w.heap.size, 3, none⟩ = some (.string ⟨#[]⟩) := cell_of m1 rfl
  have hf0 := frozen_of 0 m1
  have hf1 := frozen_of 1 m1
  have hf2 := frozen_of 2 m1
  have hf3 := frozen_of 3 m1
  have HS := Lib.hid hs
  clear m1 hs p0 p1 p2 p3 p4 p5
  dsimp only [rv]
  go_wp2
  refine bodyPost_ret (v := .agg #[.bool (sgB na nb (val xs * 10 ^ P1) (val ys * 10 ^ P2)), .slice none 0 0, .int .i64 lo, .string s]) (by simp [results, Tryz.results58, go_sem, hy0, hy1, hy2, hy3]) rfl ?_
  refine ⟨s, rfl, HS.out, hs2, ?_⟩
  exact (((((hb0 _).trans (hb1.mono (by simp))).setCell (p := ⟨w.heap.size, 0, none⟩) (Nat.le_refl _) _).setCell (p := ⟨w.heap.size, 1, none⟩) (Nat.le_refl _) _).setCell (p := ⟨w.heap.size, 2, none⟩) (Nat.le_refl _) _).setCell (p := ⟨w.heap.size, 3, none⟩) (Nat.le_refl _) _

set_option maxRecDepth 100000 in
theorem workAdd_c {S : Nat → Prop} {n m c d pa pb b : Nat} {A B : Option Addr} {xs ys : List Nat} (na nb : Bool) (e1 e2 lo : Int) (P1 P2 : Nat) (w : World)
    (ma : w.heap[pa]? = some (.cells #[.bool na, .slice A n c, .int .i64 e1] 24)) (mb : w.heap[pb]? = some (.cells #[.bool nb, .slice B m d, .int .i64 e2] 24))
    (hb : w.heap[b]? = some (.cells #[.bool na, .slice A n c, .int .i64 e1, .bool nb, .slice B m d, .int .i64 e2] 24))
    (ha1 : Rd w S A n xs) (ha2 : Rd w S B m ys) (hS : ∀ b, S b → b < w.heap.size) (hn : n ≤ 9223372036854775807) (hm : m ≤ 9223372036854775807)
    (hlo : lo = min e1 e2) (hpi1 : e1 - lo = (P1 : Int)) (hpi2 : e2 - lo = (P2 : Int)) (Z : Nat) (sg : Bool) (hZ : Z = sgV na nb (val xs * 10 ^ P1) (val ys * 10 ^ P2)) (hsg : sg = sgB na nb (val xs * 10 ^ P1) (val ys * 10 ^ P2)) :
    Calls Tryz.prog 57 #[.func (.func 58) #[] #[.pointer (some ⟨pa, 0, none⟩), .pointer (some ⟨pb, 0, none⟩)], .slice (some ⟨b, 0, none⟩) 2 2] w fun e w' =>
      (okE2 na xs e1 nb ys e2 ≠ 0 → e = .returned (.tuple #[dv false none 0 0 0, .int .i64 (okE2 na xs e1 nb ys e2 : Int)])) ∧
      (okE2 na xs e1 nb ys e2 = 0 → ∃ A' n' c', e = .returned (.tuple #[dv (stN sg Z lo) A' n' c' (stX Z lo), .int .i64 (stE Z lo : Int)]) ∧ Res w' w.heap.size A' n' c' (stZ Z lo)) ∧ Below w.heap.size w w' := by
  have hb0 : ∀ o, Below w.heap.size w (w.alloc o) := fun o => (Below.refl _ _).alloc (Nat.le_refl _) _
  have hsa := (Array.getElem?_eq_some_iff.1 ma).1
  have hsb := (Array.getElem?_eq_some_iff.1 mb).1
  have hsc := (Array.getElem?_eq_some_iff.1 hb).1
  have HMA := Lib.hid ma
  have HMB := Lib.hid mb
  have HB := Lib.hid hb
  have HLO := Lib.hid hlo
  have HP1 := Lib.hid hpi1
  have HP2 := Lib.hid hpi2
  have HZ := Lib.hid hZ
  have HSG := Lib.hid hsg
  clear ma mb hb hlo hpi1 hpi2 hZ hsg
  go_enter Tryz.func57, Tryz.ntmps57
  go_wp2_with fail
  refine (checkAll_c (c := c) (d := d) na nb e1 e2 _ (held (hb0 _) hsc HB.out) (ha1.below (hb0 _) hS) (ha2.below (hb0 _) hS) (fun b h => by have := hS b h; simp; omega) hn hm).mono ?_
  rintro e w1 ⟨rfl, hb1⟩
  have hw1 : Below w.heap.size w w1 := (hb0 _).trans (hb1.mono (by simp))
  have m1 := held hb1 (by simp) (World.alloc_heap_new w _)
  by_cases h0 : okE2 na xs e1 nb ys e2 = 0
  · have H0 := Lib.hid h0
    rw [h0]
    have hk1 : okB na xs e1 = true := by
      unfold okE2 at h0
      by_cases h : okB na xs e1 = true
      · exact h
      · rw [if_neg h] at h0; omega
    have hk2 : okB nb ys e2 = true := by
      unfold okE2 okE at h0
      rw [if_pos hk1] at h0
      by_cases h : okB nb ys e2 = true
      · exact h
      · rw [if_neg h] at h0; omega
    obtain ⟨a1, a2, a3, a4, _, _⟩ := okB_true ha1.l32 hk1
    obtain ⟨b1, b2, b3, b4, _, _⟩ := okB_true ha2.l32 hk2
    have A3 := Lib.hid a3
    have B3 := Lib.hid b3
    have hn2 : n ≤ 256 := by rw [← ha1.len]; exact a2
    have hm2 : m ≤ 256 := by rw [← ha2.len]; exact b2
    have hlob : -1000 ≤ lo ∧ lo ≤ 1000 := by have := HLO.out; omega
    clear h0 hk1 hk2 a3 b3
    go_wp2_with fail
    refine (addf_c (c := c) (d := d) na nb e1 e2 lo P1 P2 w1 (held hw1 hsa HMA.out) (held hw1 hsb HMB.out) (ha1.below hw1 hS) (ha2.below hw1 hS) (fun b h => by have := hS b h; have := hw1.size; omega) a1 b1 hn2 hm2 A3.out B3.out a4 b4 HLO.out HP1.out HP2.out).mono ?_
    rintro e w2 ⟨s, rfl, hs, hs2, hb2⟩
    rw [← HSG.out, ← HZ.out] at *
    obtain ⟨d1, d2⟩ := isDec_dig hs
    have m2 := held hb2 (by have := hb1.size; simp at this; omega) m1
    have D1 := Lib.hid d1
    have D2 := Lib.hid d2
    have hw2 : Below w.heap.size w w2 := hw1.trans (hb2.mono hw1.size)
    clear m1 d1 d2 hs
    go_wp2_with fail
    have hS3 := settle_c sg none 0 0 lo s w2 (by omega) D1.out (by omega)
    rw [D2.out] at hS3
    refine hS3.mono ?_
    rintro e w3 ⟨A', n', c', rfl, hr3, hb3⟩
    have m3 := held hb3 (by have := hw2.size; have := (Array.getElem?_eq_some_iff.1 m2).1; omega) m2
    have hy0 : w3.cell? ⟨w.heap.size, 0, none⟩ = some (.bool false) := cell_of m3 rfl
    have hy1 : w3.cell? ⟨w.heap.size, 1, none⟩ = some (.slice none 0 0) := cell_of m3 rfl
    have hy2 : w3.cell? ⟨w.heap.size, 2, none⟩ = some (.int .i64 0) := cell_of m3 rfl
    have hf0 := frozen_of 0 m3
    have hf1 := frozen_of 1 m3
    have hf2 := frozen_of 2 m3
    have hlt : w.heap.size < w2.heap.size := (Array.getElem?_eq_some_iff.1 m2).1
    clear hS3 m2 m3
    dsimp only [dv]
    go_wp2
    refine bodyPost_ret (v := .tuple #[.agg #[.bool (stN sg Z lo), .slice A' n' c', .int .i64 (stX Z lo)], .int .i64 (stE Z lo : Int)]) (by simp [results, Tryz.results57, go_sem, hy0, hy1, hy2]) rfl ?_
    refine ⟨fun h => absurd H0.out h, fun _ => ⟨A', n', c', rfl, ?_⟩, ?_⟩
    · exact (((hr3.setOther hlt _).setOther hlt _).setOther hlt _).more hw2.size
    · exact (((hw2.trans (hb3.mono hw2.size)).setCell (p := ⟨w.heap.size, 0, none⟩) (Nat.le_refl _) _).setCell (p := ⟨w.heap.size, 1, none⟩) (Nat.le_refl _) _).setCell (p := ⟨w.heap.size, 2, none⟩) (Nat.le_refl _) _
  · have hbe : (((okE2 na xs e1 nb ys e2 : Nat) : Int) != 0) = true := by rw [bne_iff_ne]; omega
    have hy0 : w1.cell? ⟨w.heap.size, 0, none⟩ = some (.bool false) := cell_of m1 rfl
    have hy1 : w1.cell? ⟨w.heap.size, 1, none⟩ = some (.slice none 0 0) := cell_of m1 rfl
    have hy2 : w1.cell? ⟨w.heap.size, 2, none⟩ = some (.int .i64 0) := cell_of m1 rfl
    have hf0 := frozen_of 0 m1
    have hf1 := frozen_of 1 m1
    have hf2 := frozen_of 2 m1
    have H0 := Lib.hid h0
    clear h0 m1
    go_wp2
    refine bodyPost_ret (v := .tuple #[.agg #[.bool false, .slice none 0 0, .int .i64 0], .int .i64 (okE2 na xs e1 nb ys e2 : Int)]) (by simp [results, Tryz.results57, go_sem, hy0, hy1, hy2]) rfl ?_
    refine ⟨fun _ => rfl, fun h => absurd h H0.out, ?_⟩
    exact ((hw1.setCell (p := ⟨w.heap.size, 0, none⟩) (Nat.le_refl _) _).setCell (p := ⟨w.heap.size, 1, none⟩) (Nat.le_refl _) _).setCell (p := ⟨w.heap.size, 2, none⟩) (Nat.le_refl _) _
end Go.Proofs.YtklpfgjnlheikaaGreatDoor

namespace Go.Proofs.YtklpfgjnlheikaaGreatDoor
open Go.RowKit

set_option maxRecDepth 100000 in
set_option maxHeartbeats 1000000 in
theorem DAdd_c {S : Nat → Prop} {n m c d : Nat} {A B : Option Addr} {xs ys : List Nat} (na nb : Bool) (e1 e2 lo : Int) (P1 P2 : Nat) (w : World)
    (ha1 : Rd w S A n xs) (ha2 : Rd w S B m ys) (hS : ∀ b, S b → b < w.heap.size) (hn : n ≤ 9223372036854775807) (hm : m ≤ 9223372036854775807)
    (hlo : lo = min e1 e2) (hpi1 : e1 - lo = (P1 : Int)) (hpi2 : e2 - lo = (P2 : Int)) (Z : Nat) (sg : Bool) (hZ : Z = sgV na nb (val xs * 10 ^ P1) (val ys * 10 ^ P2)) (hsg : sg = sgB na nb (val xs * 10 ^ P1) (val ys * 10 ^ P2)) :
    Calls Tryz.prog 15 #[dv na A n c e1, dv nb B m d e2] w fun e w' =>
      (okE2 na xs e1 nb ys e2 ≠ 0 → e = .returned (.tuple #[dv false none 0 0 0, .int .i64 (okE2 na xs e1 nb ys e2 : Int)])) ∧
      (okE2 na xs e1 nb ys e2 = 0 → ∃ A' n' c', e = .returned (.tuple #[dv (stN sg Z lo) A' n' c' (stX Z lo), .int .i64 (stE Z lo : Int)]) ∧ Res w' w.heap.size A' n' c' (stZ Z lo)) ∧ Below w.heap.size w w' := by
  have HLO := Lib.hid hlo
  have HP1 := Lib.hid hpi1
  have HP2 := Lib.hid hpi2
  have HZ := Lib.hid hZ
  have HSG := Lib.hid hsg
  clear hlo hpi1 hpi2 hZ hsg
  have hb0 : ∀ o1 o2 o3 o4, Below w.heap.size w ((((w.alloc o1).alloc o2).alloc o3).alloc o4) := fun o1 o2 o3 o4 => ((((Below.refl _ w).alloc (Nat.le_refl _) o1).alloc (by simp) o2).alloc (by simp; omega) o3).alloc (by simp; omega) o4
  have hmf : ∀ (fn : Fn) (first cap : Array Value) (w : World), (Instr.makeFunc fn first cap).run Tryz.prog w = .ok (.func fn first cap) w := fun _ _ _ _ => rfl
  unfold dv
  go_enter Tryz.func15, Tryz.ntmps15
  go_wp2_with fail
  obtain ⟨m0, m1, m2, m3⟩ := four_new w (.cells #[.bool na, .slice A n c, .int .i64 e1] 24) (.cells #[.bool nb, .slice B m d, .int .i64 e2] 24) (.cells #[.bool false, .slice none 0 0, .int .i64 0] 24) (.cells #[.bool na, .slice A n c, .int .i64 e1, .bool nb, .slice B m d, .int .i64 e2] 24)
  have hW := hb0 (.cells #[.bool na, .slice A n c, .int .i64 e1] 24) (.cells #[.bool nb, .slice B m d, .int .i64 e2] 24) (.cells #[.bool false, .slice none 0 0, .int .i64 0] 24) (.cells #[.bool na, .slice A n c, .int .i64 e1, .bool nb, .slice B m d, .int .i64 e2] 24)
  have hsz : ((((w.alloc (.cells #[.bool na, .slice A n c, .int .i64 e1] 24)).alloc (.cells #[.bool nb, .slice B m d, .int .i64 e2] 24)).alloc (.cells #[.bool false, .slice none 0 0, .int .i64 0] 24)).alloc (.cells #[.bool na, .slice A n c, .int .i64 e1, .bool nb, .slice B m d, .int .i64 e2] 24)).heap.size = w.heap.size + 4 := by simp
  generalize ((((w.alloc (.cells #[.bool na, .slice A n c, .int .i64 e1] 24)).alloc (.cells #[.bool nb, .slice B m d, .int .i64 e2] 24)).alloc (.cells #[.bool false, .slice none 0 0, .int .i64 0] 24)).alloc (.cells #[.bool na, .slice A n c, .int .i64 e1, .bool nb, .slice B m d, .int .i64 e2] 24)) = W at m0 m1 m2 m3 hW hsz ⊢
  have hSW : ∀ b, S b → b < W.heap.size := fun b h => by have := hS b h; omega
  refine (workAdd_c na nb e1 e2 lo P1 P2 W m0 m1 m3 (ha1.below hW hS) (ha2.below hW hS) hSW hn hm HLO.out HP1.out HP2.out Z sg HZ.out HSG.out).mono ?_
  rintro e w1 ⟨hbad, hgood, hb1⟩
  have hw1 : Below w.heap.size w w1 := hW.trans (hb1.mono (by omega))
  have m4 := held hb1 (by omega) m2
  have hy0 : w1.cell? ⟨w.heap.size + 1 + 1, 0, none⟩ = some (.bool false) := cell_of m4 rfl
  have hy1 : w1.cell? ⟨w.heap.size + 1 + 1, 1, none⟩ = some (.slice none 0 0) := cell_of m4 rfl
  have hy2 : w1.cell? ⟨w.heap.size + 1 + 1, 2, none⟩ = some (.int .i64 0) := cell_of m4 rfl
  have hf0 := frozen_of 0 m4
  have hf1 := frozen_of 1 m4
  have hf2 := frozen_of 2 m4
  clear m0 m1 m2 m3 m4 hb0 hmf
  by_cases h0 : okE2 na xs e1 nb ys e2 = 0
  · obtain ⟨A', n', c', rfl, hr⟩ := hgood h0
    have H0 := Lib.hid h0
    clear hbad hgood h0
    dsimp only [dv]
    go_wp2
    refine bodyPost_ret (v := .tuple #[.agg #[.bool (stN sg Z lo), .slice A' n' c', .int .i64 (stX Z lo)], .int .i64 (stE Z lo : Int)]) (by simp [results, Tryz.results15, go_sem, hy0, hy1, hy2]) rfl ?_
    refine ⟨fun h => absurd H0.out h, fun _ => ⟨A', n', c', rfl, ?_⟩, ?_⟩
    · exact (((hr.setOther (by simp; omega) _).setOther (by simp; omega) _).setOther (by simp; omega) _).more (by omega)
    · exact ((hw1.setCell (p := ⟨w.heap.size + 1 + 1, 0, none⟩) (by simp; omega) _).setCell (p := ⟨w.heap.size + 1 + 1, 1, none⟩) (by simp; omega) _).setCell (p := ⟨w.heap.size + 1 + 1, 2, none⟩) (by simp; omega) _
  · obtain rfl := hbad h0
    have H0 := Lib.hid h0
    clear hbad hgood h0
    dsimp only [dv]
    go_wp2
    refine bodyPost_ret (v := .tuple #[.agg #[.bool false, .slice none 0 0, .int .i64 0], .int .i64 (okE2 na xs e1 nb ys e2 : Int)]) (by simp [results, Tryz.results15, go_sem, hy0, hy1, hy2]) rfl ?_
    refine ⟨fun _ => rfl, fun h => absurd h H0.out, ?_⟩
    exact ((hw1.setCell (p := ⟨w.heap.size + 1 + 1, 0, none⟩) (by simp; omega) _).setCell (p := ⟨w.heap.size + 1 + 1, 1, none⟩) (by simp; omega) _).setCell (p := ⟨w.heap.size + 1 + 1, 2, none⟩) (by simp; omega) _
end Go.Proofs.YtklpfgjnlheikaaGreatDoor
