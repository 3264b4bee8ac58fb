/-
  Contract of dec.opposite: a decimal with the other sign, in memory of its own.
  Contracts of dec's compare and Compare: the order of two decimals.
  Decimals as whole numbers (times a power of ten): their order, their sums, and that each number has one decimal. Plain lemmas, no Go.
  Contracts of dec.Sub, of the function that it hands on, and of workOut with it.
  Contracts of dec.Mul, of the function that it hands on, and of workOut with it.
-/
import Derived.Test.YtjjpagdnjafgaaaGreatDoorGDadd
import Derived.Test.YtjjpagdnjafgaaaGreatDoorGNaddm
import Derived.Deep.AppendLies
import Derived.Deep.RegionHeld3
import Derived.Test.YtjjpagdnjafgaaaGreatDoorGDref
import Derived.Test.YtjjpagdnjafgaaaGreatDoorGDsgn
set_option linter.unusedVariables false
set_option linter.unusedSimpArgs false
namespace Go.Proofs.YtjjpagdnjafgaaaGreatDoor
open Go.RowKit

/-- The sign of the opposite. -/
def ops (nb : Bool) (ys : List Nat) : Bool := !nb && decide (ys ≠ [])

end Go.Proofs.YtjjpagdnjafgaaaGreatDoor

namespace Go.Proofs.YtjjpagdnjafgaaaGreatDoor
open Go.RowKit

theorem quiet_k {P : Program} {f : FuncId} {args : Array Value} {w : World} {n : Nat} {v : Value}
    (h : Calls P f args (w.drewN n) fun e w' => e = .returned v ∧ ∃ k, w' = (w.drewN n).drewN k) :
    Calls P f args (w.drewN n) fun e w'' => e = .returned v ∧ ∃ m, w'' = w.drewN m :=
  h.mono fun _ _ ⟨he, k, hk⟩ => ⟨he, n + k, by rw [hk]; simp only [World.drewN_drewN]⟩

set_option maxRecDepth 100000 in
set_option maxHeartbeats 2000000 in
theorem dcompare_c {S : Nat → Prop} {n m c d : Nat} {A B : Option Addr} {xs ys : List Nat} (na nb : Bool) (e1 e2 lo : Int) (P1 P2 : Nat) (w : World)
    (ha1 : Rd w S A n xs) (ha2 : Rd w S B m ys) (hS : ∀ b, S b → b < w.heap.size) (hc1 : Can xs) (hc2 : Can ys) (hn : n ≤ 256) (hm : m ≤ 256) (hv1 : val xs < 10 ^ 300) (hv2 : val ys < 10 ^ 300) (hx1 : -1000 ≤ e1 ∧ e1 ≤ 1000) (hx2 : -1000 ≤ e2 ∧ e2 ≤ 1000)
    (hlo : lo = min e1 e2) (hpi1 : e1 - lo = (P1 : Int)) (hpi2 : e2 - lo = (P2 : Int)) :
    Calls Tryz.prog 54 #[dv na A n c e1, dv nb B m d e2] w fun e w' => e = .returned (.int .i64 (dcN na nb (val xs * 10 ^ P1) (val ys * 10 ^ P2))) ∧ Below w.heap.size w w' := by
  have hXB : val xs * 10 ^ P1 < bp 256 := wide_bp (wide_lt hv1 (by omega))
  have hYB : val ys * 10 ^ P2 < bp 256 := wide_bp (wide_lt hv2 (by omega))
  have HXB := Lib.hid hXB
  have HYB := Lib.hid hYB
  have HV1 := Lib.hid hv1
  have HV2 := Lib.hid hv2
  have HLO := Lib.hid hlo
  have HP1 := Lib.hid hpi1
  have HP2 := Lib.hid hpi2
  have HLO2 : Hid (lo = min e2 e1) := by show _ = _; rw [hlo]; omega
  clear hXB hYB hv1 hv2 hlo hpi1 hpi2
  have hb0 : ∀ o1 o2 o3, Below w.heap.size w (((w.alloc o1).alloc o2).alloc o3) := fun o1 o2 o3 => (((Below.refl _ w).alloc (Nat.le_refl _) o1).alloc (by simp) o2).alloc (by simp; omega) o3
  unfold dv
  cases na
  · cases nb
    · have hD : Hid (dcN false false (val xs * 10 ^ P1) (val ys * 10 ^ P2) = cmpN (val xs * 10 ^ P1) (val ys * 10 ^ P2)) := rfl
      go_enter Tryz.func54, Tryz.ntmps54
      go_wp2_with fail
      obtain ⟨m0, m1⟩ := two_new ((w.alloc (.cells #[.bool false, .slice A n c, .int .i64 e1] 24))) (.cells #[.bool false, .slice B m d, .int .i64 e2] 24) (.cells #[.bool false, .slice A n c, .int .i64 e1, .bool false, .slice B m d, .int .i64 e2] 24)
      simp only [World.size_alloc] at m1
      have hW := hb0 (.cells #[.bool false, .slice A n c, .int .i64 e1] 24) (.cells #[.bool false, .slice B m d, .int .i64 e2] 24) (.cells #[.bool false, .slice A n c, .int .i64 e1, .bool false, .slice B m d, .int .i64 e2] 24)
      have hsz : (((w.alloc (.cells #[.bool false, .slice A n c, .int .i64 e1] 24)).alloc (.cells #[.bool false, .slice B m d, .int .i64 e2] 24)).alloc (.cells #[.bool false, .slice A n c, .int .i64 e1, .bool false, .slice B m d, .int .i64 e2] 24)).heap.size = w.heap.size + 3 := by simp
      generalize (((w.alloc (.cells #[.bool false, .slice A n c, .int .i64 e1] 24)).alloc (.cells #[.bool false, .slice B m d, .int .i64 e2] 24)).alloc (.cells #[.bool false, .slice A n c, .int .i64 e1, .bool false, .slice B m d, .int .i64 e2] 24)) = W at m1 hW hsz ⊢
      refine (align_c false false e1 e2 lo P1 P2 W m1 (ha1.below hW hS) (ha2.below hW hS) (fun b h => by have := hS b h; omega) hc1 hc2 hn hm HV1.out HV2.out hx1 hx2 HLO.out HP1.out HP2.out).mono ?_
      rintro e w1 ⟨g, cg, A1, k1, c1, A2, k2, c2, rfl, hg0, hg1, hgl, hgs, r1, r2, hb1⟩
      have hw1 : Below w.heap.size w w1 := hW.trans (hb1.mono (by omega))
      clear m0 m1
      go_wp2
      go_quiet ((go_at_call 70; exact quiet_k (CompareL_c _ (r1.rd.drewN _) (r2.rd.drewN _) HXB.out HYB.out)))
      go_wp2
      go_ret
      rw [hD.out]
      exact ⟨rfl, below_drewN hw1 _⟩
    · go_enter Tryz.func54, Tryz.ntmps54
      go_wp2
      go_ret
      exact ⟨rfl, ((Below.refl _ w).alloc (Nat.le_refl _) _).alloc (by simp) _⟩
  · cases nb
    · go_enter Tryz.func54, Tryz.ntmps54
      go_wp2
      go_ret
      exact ⟨rfl, ((Below.refl _ w).alloc (Nat.le_refl _) _).alloc (by simp) _⟩
    · have hD : Hid (dcN true true (val xs * 10 ^ P1) (val ys * 10 ^ P2) = cmpN (val ys * 10 ^ P2) (val xs * 10 ^ P1)) := rfl
      go_enter Tryz.func54, Tryz.ntmps54
      go_wp2_with fail
      obtain ⟨m0, m1⟩ := two_new (w.alloc (.cells #[.bool true, .slice B m d, .int .i64 e2] 24)) (.cells #[.bool true, .slice A n c, .int .i64 e1] 24) (.cells #[.bool true, .slice B m d, .int .i64 e2, .bool true, .slice A n c, .int .i64 e1] 24)
      simp only [World.size_alloc] at m1
      have hW := hb0 (.cells #[.bool true, .slice B m d, .int .i64 e2] 24) (.cells #[.bool true, .slice A n c, .int .i64 e1] 24) (.cells #[.bool true, .slice B m d, .int .i64 e2, .bool true, .slice A n c, .int .i64 e1] 24)
      have hsz : (((w.alloc (.cells #[.bool true, .slice B m d, .int .i64 e2] 24)).alloc (.cells #[.bool true, .slice A n c, .int .i64 e1] 24)).alloc (.cells #[.bool true, .slice B m d, .int .i64 e2, .bool true, .slice A n c, .int .i64 e1] 24)).heap.size = w.heap.size + 3 := by simp
      generalize (((w.alloc (.cells #[.bool true, .slice B m d, .int .i64 e2] 24)).alloc (.cells #[.bool true, .slice A n c, .int .i64 e1] 24)).alloc (.cells #[.bool true, .slice B m d, .int .i64 e2, .bool true, .slice A n c, .int .i64 e1] 24)) = W at m1 hW hsz ⊢
      refine (align_c true true e2 e1 lo P2 P1 W m1 (ha2.below hW hS) (ha1.below hW hS) (fun b h => by have := hS b h; omega) hc2 hc1 hm hn HV2.out HV1.out hx2 hx1 HLO2.out HP2.out HP1.out).mono ?_
      rintro e w1 ⟨g, cg, A1, k1, c1, A2, k2, c2, rfl, hg0, hg1, hgl, hgs, r1, r2, hb1⟩
      have hw1 : Below w.heap.size w w1 := hW.trans (hb1.mono (by omega))
      clear m0 m1
      go_wp2
      go_quiet ((go_at_call 70; exact quiet_k (CompareL_c _ (r1.rd.drewN _) (r2.rd.drewN _) HYB.out HXB.out)))
      go_wp2
      go_ret
      rw [hD.out]
      exact ⟨rfl, below_drewN hw1 _⟩

set_option maxRecDepth 100000 in
theorem DCompare_c {S : Nat → Prop} {n m c d : Nat} {A B : Option Addr} {xs ys : List Nat} (na nb : Bool) (e1 e2 lo : Int) (P1 P2 : Nat) (w : World)
    (ha1 : Rd w S A n xs) (ha2 : Rd w S B m ys) (hS : ∀ b, S b → b < w.heap.size) (hn : n ≤ 9223372036854775807) (hm : m ≤ 9223372036854775807)
    (hlo : lo = min e1 e2) (hpi1 : e1 - lo = (P1 : Int)) (hpi2 : e2 - lo = (P2 : Int)) :
    Calls Tryz.prog 13 #[dv na A n c e1, dv nb B m d e2] w fun e w' =>
      (okE2 na xs e1 nb ys e2 ≠ 0 → e = .returned (.tuple #[.int .i64 0, .int .i64 (okE2 na xs e1 nb ys e2 : Int)])) ∧
      (okE2 na xs e1 nb ys e2 = 0 → e = .returned (.tuple #[.int .i64 (dcN na nb (val xs * 10 ^ P1) (val ys * 10 ^ P2)), .int .i64 0])) ∧ Below w.heap.size w w' := by
  have HLO := Lib.hid hlo
  have HP1 := Lib.hid hpi1
  have HP2 := Lib.hid hpi2
  clear hlo hpi1 hpi2
  have hb0 : ∀ o1 o2 o3, Below w.heap.size w (((w.alloc o1).alloc o2).alloc o3) := fun o1 o2 o3 => (((Below.refl _ w).alloc (Nat.le_refl _) o1).alloc (by simp) o2).alloc (by simp; omega) o3
  unfold dv
  go_enter Tryz.func13, Tryz.ntmps13
  go_wp2_with fail
  obtain ⟨m0, m1⟩ := two_new (w.alloc (.cells #[.bool na, .slice A n c, .int .i64 e1] 24)) (.cells #[.bool nb, .slice B m d, .int .i64 e2] 24) (.cells #[.bool na, .slice A n c, .int .i64 e1, .bool nb, .slice B m d, .int .i64 e2] 24)
  obtain ⟨m2, m3⟩ := two_new w (.cells #[.bool na, .slice A n c, .int .i64 e1] 24) (.cells #[.bool nb, .slice B m d, .int .i64 e2] 24)
  simp only [World.size_alloc] at m0 m1
  have hW := hb0 (.cells #[.bool na, .slice A n c, .int .i64 e1] 24) (.cells #[.bool nb, .slice B m d, .int .i64 e2] 24) (.cells #[.bool na, .slice A n c, .int .i64 e1, .bool nb, .slice B m d, .int .i64 e2] 24)
  have hsz : (((w.alloc (.cells #[.bool na, .slice A n c, .int .i64 e1] 24)).alloc (.cells #[.bool nb, .slice B m d, .int .i64 e2] 24)).alloc (.cells #[.bool na, .slice A n c, .int .i64 e1, .bool nb, .slice B m d, .int .i64 e2] 24)).heap.size = w.heap.size + 3 := by simp
  have m2 : (((w.alloc (.cells #[.bool na, .slice A n c, .int .i64 e1] 24)).alloc (.cells #[.bool nb, .slice B m d, .int .i64 e2] 24)).alloc (.cells #[.bool na, .slice A n c, .int .i64 e1, .bool nb, .slice B m d, .int .i64 e2] 24)).heap[w.heap.size]? = some (.cells #[.bool na, .slice A n c, .int .i64 e1] 24) := (Below.heap_alloc _ _ _ (by simp; omega)).trans m2
  generalize (((w.alloc (.cells #[.bool na, .slice A n c, .int .i64 e1] 24)).alloc (.cells #[.bool nb, .slice B m d, .int .i64 e2] 24)).alloc (.cells #[.bool na, .slice A n c, .int .i64 e1, .bool nb, .slice B m d, .int .i64 e2] 24)) = W at m0 m1 m2 hW hsz ⊢
  have hSW : ∀ b, S b → b < W.heap.size := fun b h => by have := hS b h; omega
  refine (checkAll_c (c := c) (d := d) na nb e1 e2 W m1 (ha1.below hW hS) (ha2.below hW hS) hSW hn hm).mono ?_
  rintro e w1 ⟨rfl, hb1⟩
  have hw1 : Below w.heap.size w w1 := hW.trans (hb1.mono (by omega))
  have q0 := held hb1 (by omega) m2
  have q1 := held hb1 (by omega) m0
  have p0 : w1.cell? ⟨w.heap.size, 0, none⟩ = some (.bool na) := cell_of q0 rfl
  have p1 : w1.cell? ⟨w.heap.size, 1, none⟩ = some (.slice A n c) := cell_of q0 rfl
  have p2 : w1.cell? ⟨w.heap.size, 2, none⟩ = some (.int .i64 e1) := cell_of q0 rfl
  have p3 : w1.cell? ⟨w.heap.size + 1, 0, none⟩ = some (.bool nb) := cell_of q1 rfl
  have p4 : w1.cell? ⟨w.heap.size + 1, 1, none⟩ = some (.slice B m d) := cell_of q1 rfl
  have p5 : w1.cell? ⟨w.heap.size + 1, 2, none⟩ = some (.int .i64 e2) := cell_of q1 rfl
  clear m0 m1 m2 m3 q0 q1 hb0
  by_cases h0 : okE2 na xs e1 nb ys e2 = 0
  · have H0 := Lib.hid h0
    rw [h0]
    have hk1 : okB na xs e1 = true := by
      unfold okE2 at h0
      by_cases h : okB na xs e1 = true
      · exact h
      · rw [if_neg h] at h0; omega
    have hk2 : okB nb ys e2 = true := by
      unfold okE2 okE at h0
      rw [if_pos hk1] at h0
      by_cases h : okB nb ys e2 = true
      · exact h
      · rw [if_neg h] at h0; omega
    obtain ⟨a1, a2, a3, a4, _, _⟩ := okB_true ha1.l32 hk1
    obtain ⟨b1, b2, b3, b4, _, _⟩ := okB_true ha2.l32 hk2
    have hP := dcompare_c (c := c) (d := d) na nb e1 e2 lo P1 P2 w1 (ha1.below hw1 hS) (ha2.below hw1 hS) (fun b h => by have := hS b h; have := hw1.size; omega) a1 b1 (by rw [← ha1.len]; exact a2) (by rw [← ha2.len]; exact b2) a3 b3 a4 b4 HLO.out HP1.out HP2.out
    unfold dv at hP
    have HP := Lib.hid hP
    clear h0 hk1 hk2 a3 b3 hP a1 b1
    go_wp2_with fail
    refine HP.out.mono ?_
    rintro e w2 ⟨rfl, hb2⟩
    go_wp2
    go_ret2
    exact ⟨fun h => absurd H0.out h, fun _ => rfl, hw1.trans (hb2.mono hw1.size)⟩
  · have hbe : (((okE2 na xs e1 nb ys e2 : Nat) : Int) != 0) = true := by rw [bne_iff_ne]; omega
    have H0 := Lib.hid h0
    clear h0
    go_wp2
    go_ret2
    exact ⟨fun _ => rfl, fun h => absurd h H0.out, hw1⟩
end Go.Proofs.YtjjpagdnjafgaaaGreatDoor
