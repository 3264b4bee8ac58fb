/-
  Contracts of the reference's Size and all (bolterref05), of values that may be.
-/
import Derived.Test.YtobfeneeehmpcaaGreatDoorZLdp
set_option linter.unusedVariables false
set_option linter.unusedSimpArgs false
namespace Go.Proofs.YtobfeneeehmpcaaGreatDoor
open Go.RowKit Go.Lib

set_option maxRecDepth 100000 in
set_option maxHeartbeats 4000000 in
theorem rsize_c : ∀ (N : Nat) (x : VT) (S : Nat → Prop) (cs : List Value) (w : World), (partsV x).length ≤ N → Gd x → (partsV x).length ≤ 16384 → VIn w S x cs → (∀ b, S b → b < w.heap.size) →
    Calls Tryz.prog 36 #[.agg cs.toArray] w fun e w' => e = .returned (.int .i64 ((partsV x).length : Int)) ∧ Below w.heap.size w w' := by
  intro N
  induction N with
  | zero =>
    intro x S cs w hN
    rw [parts_eq] at hN
    exact absurd hN (by simp)
  | succ N ih =>
    intro x S cs w hN hG hP hx hS
    obtain ⟨k, neg, A, n, c, e, t, LA, ln, lc, KA, kn, kc, rfl, hk, hl⟩ := hx.seven
    have hbx := World.alloc_heap_new w (.cells #[.int .i64 k, .bool neg, .slice A n c, .int .i64 e, .string t, .slice LA ln lc, .slice KA kn kc] 28)
    have hb := (Below.refl w.heap.size w).alloc (Nat.le_refl _) (.cells #[.int .i64 k, .bool neg, .slice A n c, .int .i64 e, .string t, .slice LA ln lc, .slice KA kn kc] 28)
    have hsz : (w.alloc (.cells #[.int .i64 k, .bool neg, .slice A n c, .int .i64 e, .string t, .slice LA ln lc, .slice KA kn kc] 28)).heap.size = w.heap.size + 1 := by simp
    have hin := (alone_fields hG.own).1
    have hpl : (partsV x).length = 1 + szL x.list ln := by
      rw [parts_eq, ← hin, ← hl.1, szL_all, List.length_cons]; omega
    have hsub : ∀ (i : Nat) (z : VT), x.list[i]? = some z → Gd z ∧ szL x.list i + (partsV z).length ≤ szL x.list ln := fun i z hz => by
      refine ⟨hG.sub (by rw [← hin]; exact List.mem_of_getElem? hz), ?_⟩
      have h1 := szL_succ hz
      have h2 := szL_le x.list (i + 1)
      rw [← szL_all, hl.1] at h2
      omega
    have hlb := hl.2.1
    obtain ⟨RR, hRR⟩ : ∃ RR, (partsV x).length = RR := ⟨_, rfl⟩
    rw [hRR] at hpl hN hP ⊢
    have HPL := Lib.hid hpl
    clear hRR hpl
    generalize x.list = l at *
    have HB := Lib.hid hb
    have HL := Lib.hid hl
    have HBX := Lib.hid hbx
    have HSZ := Lib.hid hsz
    have HSUB := Lib.hid hsub
    have HVX := Lib.hid hx
    have HGD := Lib.hid hG
    obtain ⟨t0, t1, t2, t3, t4, t5, t6⟩ := box7_of hbx
    clear hb hl hbx hx hsz hsub hin hG
    go_enter Tryz.func36, Tryz.ntmps36
    go_wp2_with fail
    generalize (w.alloc (.cells #[.int .i64 k, .bool neg, .slice A n c, .int .i64 e, .string t, .slice LA ln lc, .slice KA kn kc] 28)) = W1 at *
    go_loopw [3, 4] (fun nv iv wr => ∃ j D : Nat, j ≤ ln ∧ Hid (D = 1 + szL l j) ∧ nv = .int .i64 (D : Int) ∧ iv = .int .i64 (j : Int) ∧ Hid (Below W1.heap.size W1 wr)) (fun _ iv _ => ln - (RowKit.intOf iv).toNat)
    case atStart => exact ⟨0, 1, Nat.zero_le _, by (show _ = _); rw [szL_zero], rfl, rfl, Below.refl _ _⟩
    case round =>
      obtain ⟨j, D, hj, hD, rfl, rfl, hbel⟩ := hrel
      have hbw : Below w.heap.size w wr := HB.out.trans (hbel.out.mono (by have := HSZ.out; omega))
      have hwr := (hbel.out.block w.heap.size (by have := HSZ.out; omega)).trans HBX.out
      obtain ⟨y0, y1, y2, y3, y4, y5, y6⟩ := box7_of hwr
      by_cases hjn : j < ln
      · have hjlt : (j : Int) < (ln : Int) := by omega
        have hj0 : (0 : Int) ≤ (j : Int) := by omega
        have hjt : ((j : Int)).toNat = j := by omega
        have hjw : IntKind.i64.wrap ((j : Int) + 1) = (j : Int) + 1 := IntWalk.i64_in _ (by omega)
        obtain ⟨b, off, x2, cs2, rfl, hSb, hx2, h7, hcells, hvx⟩ := HL.out.at_ hjn
        obtain ⟨k2, neg2, A2, n2, c2, e2, t2, LA2, ln2, lc2, KA2, kn2, kc2, rfl, -, -⟩ := hvx.seven
        have hcw : ∀ a, a < 7 → wr.cell? ⟨b, off + (j * 7 + a), none⟩ = _ := fun a ha => (hbw.cell (p := ⟨b, off + (j * 7 + a), none⟩) (hS b hSb)).trans (hcells a ha)
        have d0 : wr.cell? ⟨b, off + j * 7, none⟩ = some (.int .i64 k2) := hcw 0 (by omega)
        have d1 : wr.cell? ⟨b, off + j * 7 + 1, none⟩ = some (.bool neg2) := hcw 1 (by omega)
        have d2 : wr.cell? ⟨b, off + j * 7 + 2, none⟩ = some (.slice A2 n2 c2) := hcw 2 (by omega)
        have d3 : wr.cell? ⟨b, off + j * 7 + 3, none⟩ = some (.int .i64 e2) := hcw 3 (by omega)
        have d4 : wr.cell? ⟨b, off + j * 7 + 4, none⟩ = some (.string t2) := hcw 4 (by omega)
        have d5 : wr.cell? ⟨b, off + j * 7 + 5, none⟩ = some (.slice LA2 ln2 lc2) := hcw 5 (by omega)
        have d6 : wr.cell? ⟨b, off + j * 7 + 6, none⟩ = some (.slice KA2 kn2 kc2) := hcw 6 (by omega)
        obtain ⟨g1, g2⟩ := HSUB.out j x2 hx2
        have hst := szL_succ hx2
        have HC := ih x2 S _ wr (by have := HPL.out; omega) g1 (by have := HPL.out; omega) (hvx.stay hbw hS) (fun b hb => Nat.lt_of_lt_of_le (hS b hb) hbw.size)
        obtain ⟨E, hE⟩ : ∃ E, (partsV x2).length = E := ⟨_, rfl⟩
        rw [hE] at HC hst g2
        have hDb : D + E ≤ 16384 := by have := HPL.out; have := hD.out; omega
        obtain ⟨M, hM⟩ : ∃ M, D + E = M := ⟨_, rfl⟩
        have hMi : (D : Int) + (E : Int) = (M : Int) := by omega
        have hMw : IntKind.i64.wrap (M : Int) = (M : Int) := IntWalk.i64_in _ (by omega)
        have hDl : (D : Int) < 1048576 := by omega
        have HST := Lib.hid (show M = 1 + szL l (j + 1) from by have := hD.out; omega)
        have HBEL := Lib.hid hbel.out
        have HCC := Lib.hid HC
        clear hcw hcells hx2 h7 hvx hst hE hM hbel hwr HC hbw g1 g2 hD
        go_wp2_with fail
        refine HCC.out.mono ?_
        rintro e' w5 ⟨rfl, hb5⟩
        clear d0 d1 d2 d3 d4 d5 d6 y0 y1 y2 y3 y4 y5 y6
        go_wp2_with fail
        go_roundw
        case rel => first | exact ⟨j + 1, M, hjn, HST, rfl, by go_num, HBEL.out.trans (hb5.mono HBEL.out.size)⟩ | trace_state
        case measure => simp [RowKit.intOf]; omega
      · have hjn2 : ¬ (j : Int) < (ln : Int) := by omega
        obtain rfl : j = ln := by omega
        obtain rfl : D = RR := by have := HPL.out; have := hD.out; omega
        have hmin : min (D : Int) 1048576 = (D : Int) := by omega
        have HBW := Lib.hid hbw
        clear hbel hwr hbw hD
        go_wp2_with fail
        go_ret
        exact ⟨rfl, HBW.out⟩

set_option maxRecDepth 100000 in
set_option maxHeartbeats 4000000 in
theorem rall_c (hown : ∀ (x : VT) (S : Nat → Prop) (cs : List Value) (w : World), alone x = 0 → VIn w S x cs → (∀ b, S b → b < w.heap.size) → Calls Tryz.prog 60 #[.agg cs.toArray] w fun e w' => e = .returned (.int .i64 0) ∧ Below w.heap.size w w') :
    ∀ (N : Nat) (x : VT) (S : Nat → Prop) (cs : List Value) (w : World), (partsV x).length ≤ N → Gd x → (partsV x).length ≤ 16384 → VIn w S x cs → (∀ b, S b → b < w.heap.size) →
    Calls Tryz.prog 37 #[.agg cs.toArray] w fun e w' => e = .returned (.int .i64 0) ∧ Below w.heap.size w w' := by
  intro N
  induction N with
  | zero =>
    intro x S cs w hN
    rw [parts_eq] at hN
    exact absurd hN (by simp)
  | succ N ih =>
    intro x S cs w hN hG hP hx hS
    obtain ⟨k, neg, A, n, c, e, t, LA, ln, lc, KA, kn, kc, rfl, hk, hl⟩ := hx.seven
    have hbx := World.alloc_heap_new w (.cells #[.int .i64 k, .bool neg, .slice A n c, .int .i64 e, .string t, .slice LA ln lc, .slice KA kn kc] 28)
    have hb := (Below.refl w.heap.size w).alloc (Nat.le_refl _) (.cells #[.int .i64 k, .bool neg, .slice A n c, .int .i64 e, .string t, .slice LA ln lc, .slice KA kn kc] 28)
    have hsz : (w.alloc (.cells #[.int .i64 k, .bool neg, .slice A n c, .int .i64 e, .string t, .slice LA ln lc, .slice KA kn kc] 28)).heap.size = w.heap.size + 1 := by simp
    have hin := (alone_fields hG.own).1
    have hpl : (partsV x).length = 1 + szL x.list ln := by
      rw [parts_eq, ← hin, ← hl.1, szL_all, List.length_cons]; omega
    have hsub : ∀ (i : Nat) (z : VT), x.list[i]? = some z → Gd z ∧ szL x.list i + (partsV z).length ≤ szL x.list ln := fun i z hz => by
      refine ⟨hG.sub (by rw [← hin]; exact List.mem_of_getElem? hz), ?_⟩
      have h1 := szL_succ hz
      have h2 := szL_le x.list (i + 1)
      rw [← szL_all, hl.1] at h2
      omega
    have hlb := hl.2.1
    have HPL := Lib.hid hpl
    have HOW := Lib.hid (fun W (hW : Below w.heap.size w W) => hown x S _ W hG.own (hx.stay hW hS) (fun b hb => Nat.lt_of_lt_of_le (hS b hb) hW.size))
    clear hpl
    generalize x.list = l at *
    have HB := Lib.hid hb
    have HL := Lib.hid hl
    have HBX := Lib.hid hbx
    have HSZ := Lib.hid hsz
    have HSUB := Lib.hid hsub
    have HVX := Lib.hid hx
    have HGD := Lib.hid hG
    obtain ⟨t0, t1, t2, t3, t4, t5, t6⟩ := box7_of hbx
    clear hb hl hbx hx hsz hsub hin hG
    go_enter Tryz.func37, Tryz.ntmps37
    go_wp2_with fail
    generalize (w.alloc (.cells #[.int .i64 k, .bool neg, .slice A n c, .int .i64 e, .string t, .slice LA ln lc, .slice KA kn kc] 28)) = W0 at *
    refine (HOW.out W0 HB.out).mono ?_
    rintro e' W1 ⟨rfl, hb1⟩
    have hbx1 := (hb1.block w.heap.size (by have := HSZ.out; omega)).trans HBX.out
    have HB1 := Lib.hid (HB.out.trans (hb1.mono (by have := HSZ.out; omega)))
    have HBX1 := Lib.hid hbx1
    have HS1 := Lib.hid (show w.heap.size < W1.heap.size from by have := HSZ.out; have := hb1.size; omega)
    clear hbx1 hb1 t0 t1 t2 t3 t4 t5 t6
    go_wp2_with fail
    go_loopw [3, 4] (fun nv iv wr => ∃ j : Nat, j ≤ ln ∧ nv = .int .i64 0 ∧ iv = .int .i64 (j : Int) ∧ Hid (Below W1.heap.size W1 wr)) (fun _ iv _ => ln - (RowKit.intOf iv).toNat)
    case atStart => exact ⟨0, Nat.zero_le _, rfl, rfl, Below.refl _ _⟩
    case round =>
      obtain ⟨j, hj, rfl, rfl, hbel⟩ := hrel
      have hbw : Below w.heap.size w wr := HB1.out.trans (hbel.out.mono (by have := HS1.out; omega))
      have hwr := (hbel.out.block w.heap.size HS1.out).trans HBX1.out
      obtain ⟨y0, y1, y2, y3, y4, y5, y6⟩ := box7_of hwr
      by_cases hjn : j < ln
      · have hjlt : (j : Int) < (ln : Int) := by omega
        have hj0 : (0 : Int) ≤ (j : Int) := by omega
        have hjt : ((j : Int)).toNat = j := by omega
        have hjw : IntKind.i64.wrap ((j : Int) + 1) = (j : Int) + 1 := IntWalk.i64_in _ (by omega)
        obtain ⟨b, off, x2, cs2, rfl, hSb, hx2, h7, hcells, hvx⟩ := HL.out.at_ hjn
        obtain ⟨k2, neg2, A2, n2, c2, e2, t2, LA2, ln2, lc2, KA2, kn2, kc2, rfl, -, -⟩ := hvx.seven
        have hcw : ∀ a, a < 7 → wr.cell? ⟨b, off + (j * 7 + a), none⟩ = _ := fun a ha => (hbw.cell (p := ⟨b, off + (j * 7 + a), none⟩) (hS b hSb)).trans (hcells a ha)
        have d0 : wr.cell? ⟨b, off + j * 7, none⟩ = some (.int .i64 k2) := hcw 0 (by omega)
        have d1 : wr.cell? ⟨b, off + j * 7 + 1, none⟩ = some (.bool neg2) := hcw 1 (by omega)
        have d2 : wr.cell? ⟨b, off + j * 7 + 2, none⟩ = some (.slice A2 n2 c2) := hcw 2 (by omega)
        have d3 : wr.cell? ⟨b, off + j * 7 + 3, none⟩ = some (.int .i64 e2) := hcw 3 (by omega)
        have d4 : wr.cell? ⟨b, off + j * 7 + 4, none⟩ = some (.string t2) := hcw 4 (by omega)
        have d5 : wr.cell? ⟨b, off + j * 7 + 5, none⟩ = some (.slice LA2 ln2 lc2) := hcw 5 (by omega)
        have d6 : wr.cell? ⟨b, off + j * 7 + 6, none⟩ = some (.slice KA2 kn2 kc2) := hcw 6 (by omega)
        obtain ⟨g1, g2⟩ := HSUB.out j x2 hx2
        have HC := ih x2 S _ wr (by have := HPL.out; omega) g1 (by have := HPL.out; omega) (hvx.stay hbw hS) (fun b hb => Nat.lt_of_lt_of_le (hS b hb) hbw.size)
        have HBEL := Lib.hid hbel.out
        have HCC := Lib.hid HC
        clear hcw hcells hx2 h7 hvx hbel hwr HC hbw g1 g2
        go_wp2_with fail
        refine HCC.out.mono ?_
        rintro e' w5 ⟨rfl, hb5⟩
        clear d0 d1 d2 d3 d4 d5 d6 y0 y1 y2 y3 y4 y5 y6
        go_wp2_with fail
        go_roundw
        case rel => first | exact ⟨j + 1, hjn, rfl, by go_num, HBEL.out.trans (hb5.mono HBEL.out.size)⟩ | trace_state
        case measure => simp [RowKit.intOf]; omega
      · have hjn2 : ¬ (j : Int) < (ln : Int) := by omega
        have HBW := Lib.hid hbw
        clear hbel hwr hbw
        go_wp2_with fail
        go_ret
        exact ⟨rfl, HBW.out⟩
end Go.Proofs.YtobfeneeehmpcaaGreatDoor
