/-
  Contracts of the reference's text, Deep and Size (bolterref05).
-/
import Derived.Test.YtobfeneeehmpcaaGreatDoorZLgd
set_option linter.unusedVariables false
set_option linter.unusedSimpArgs false
namespace Go.Proofs.YtobfeneeehmpcaaGreatDoor
open Go.RowKit Go.Lib

theorem VIn.seven {w : World} {S : Nat → Prop} {x : VT} {cs : List Value} (h : VIn w S x cs) : ∃ k neg A n c e t LA ln lc KA kn kc, cs = [.int .i64 k, .bool neg, .slice A n c, .int .i64 e, .string t, .slice LA ln lc, .slice KA kn kc] ∧ x.kind = k ∧ RdL w S LA ln x.list := by
  cases x with
  | mk k neg xs e t l ks =>
    obtain ⟨A, n, c, LA, ln, lc, KA, kn, kc, rfl, _, _, _, hl, _⟩ := h.parts
    exact ⟨k, neg, A, n, c, e, t, LA, ln, lc, KA, kn, kc, rfl, rfl, hl⟩

theorem rtext_c (s : ByteArray) (w : World) (h1 : isT s.data.toList = true) (h2 : s.size ≤ 16384) : Calls Tryz.prog 83 #[.string s] w fun e w' => e = .returned (.int .i64 0) ∧ Below w.heap.size w w' := by
  have hc := URCheck_c s.data.toList w (by show s.data.toList.length ≤ _; rw [Array.length_toList]; exact Nat.le_trans h2 (by decide))
  have he : errT s.data.toList = 0 := by unfold errT; rw [if_pos h1]
  rw [he, show mk8 s.data.toList = s from by cases s; simp [mk8]] at hc
  generalize badAt s.data.toList = B at hc
  have hs : ¬ (16384 : Int) < (s.size : Int) := by omega
  clear h1 he
  go_enter Tryz.func83, Tryz.ntmps83
  go_wp2_with fail
  refine hc.mono ?_
  rintro e w1 ⟨rfl, hb⟩
  go_wp2
  go_ret
  exact ⟨rfl, hb⟩

set_option maxRecDepth 100000 in
set_option maxHeartbeats 4000000 in
theorem rdeep_c : ∀ (m : Nat) (x : VT) (S : Nat → Prop) (cs : List Value) (w : World), m ≤ 1000 → VIn w S x cs → (∀ b, S b → b < w.heap.size) →
    Calls Tryz.prog 59 #[.agg cs.toArray, .int .i64 (m : Int)] w fun e w' => e = .returned (.int .i64 (dpt m x : Int)) ∧ Below w.heap.size w w' := by
  intro m
  induction m with
  | zero =>
    intro x S cs w hm hx hS
    obtain ⟨k, neg, A, n, c, e, t, LA, ln, lc, KA, kn, kc, rfl, -, -⟩ := hx.seven
    have hbx := World.alloc_heap_new w (.cells #[.int .i64 k, .bool neg, .slice A n c, .int .i64 e, .string t, .slice LA ln lc, .slice KA kn kc] 28)
    obtain ⟨t0, t1, t2, t3, t4, t5, t6⟩ := box7_of hbx
    have hb := (Below.refl w.heap.size w).alloc (Nat.le_refl _) (.cells #[.int .i64 k, .bool neg, .slice A n c, .int .i64 e, .string t, .slice LA ln lc, .slice KA kn kc] 28)
    have HB := Lib.hid hb
    clear hbx hx hb t1 t2 t3 t4 t5 t6
    by_cases h5 : k = 5
    · subst h5
      go_enter Tryz.func59, Tryz.ntmps59
      go_wp2
      go_ret
      exact ⟨rfl, HB.out⟩
    · by_cases h6 : k = 6
      · subst h6
        go_enter Tryz.func59, Tryz.ntmps59
        go_wp2
        go_ret
        exact ⟨rfl, HB.out⟩
      · go_enter Tryz.func59, Tryz.ntmps59
        go_wp2
        go_ret
        exact ⟨rfl, HB.out⟩
  | succ m ih =>
    intro x S cs w hm hx hS
    obtain ⟨k, neg, A, n, c, e, t, LA, ln, lc, KA, kn, kc, rfl, hk, hl⟩ := hx.seven
    have hbx := World.alloc_heap_new w (.cells #[.int .i64 k, .bool neg, .slice A n c, .int .i64 e, .string t, .slice LA ln lc, .slice KA kn kc] 28)
    have hb := (Below.refl w.heap.size w).alloc (Nat.le_refl _) (.cells #[.int .i64 k, .bool neg, .slice A n c, .int .i64 e, .string t, .slice LA ln lc, .slice KA kn kc] 28)
    have hsz : (w.alloc (.cells #[.int .i64 k, .bool neg, .slice A n c, .int .i64 e, .string t, .slice LA ln lc, .slice KA kn kc] 28)).heap.size = w.heap.size + 1 := by simp
    by_cases hh : hold k = true
    · have hd : dpt (m + 1) x = 1 + dpL m x.list ln := by
        unfold dpt dpL
        rw [hk, if_pos hh, ← hl.1, List.take_length]
      rw [hd]
      have hlb := hl.2.1
      obtain ⟨RR, hRR⟩ : ∃ RR, dpL m x.list ln = RR := ⟨_, rfl⟩
      rw [hRR]
      have HRR := Lib.hid hRR
      clear hRR
      generalize x.list = l at *
      have hk6 : k = 5 ∨ k = 6 := by unfold hold at hh; simpa using hh
      have HB := Lib.hid hb
      have HL := Lib.hid hl
      have HBX := Lib.hid hbx
      have HSZ := Lib.hid hsz
      clear hb hl hbx hx hh hd hk hsz
      rcases hk6 with rfl | rfl
      all_goals (
        obtain ⟨t0, t1, t2, t3, t4, t5, t6⟩ := box7_of HBX.out
        have hmz : ((m + 1 : Nat) : Int) = (m : Int) + 1 := by omega
        have hm0 : ¬ (m : Int) + 1 = 0 := by omega
        rw [hmz]
        go_enter Tryz.func59, Tryz.ntmps59
        go_wp2_with fail
        generalize (w.alloc (.cells #[.int .i64 _, .bool neg, .slice A n c, .int .i64 e, .string t, .slice LA ln lc, .slice KA kn kc] 28)) = W1 at *
        go_loopw [5, 6] (fun nv iv wr => ∃ j : Nat, j ≤ ln ∧ nv = .int .i64 (dpL m l j : Int) ∧ iv = .int .i64 (j : Int) ∧ Hid (Below W1.heap.size W1 wr)) (fun _ iv _ => ln - (RowKit.intOf iv).toNat)
        case atStart => exact ⟨0, Nat.zero_le _, by rw [dpL_zero]; rfl, rfl, Below.refl _ _⟩
        case round =>
          obtain ⟨j, hj, rfl, rfl, hbel⟩ := hrel
          have hbw : Below w.heap.size w wr := HB.out.trans (hbel.out.mono (by have := HSZ.out; omega))
          have hwr := (hbel.out.block w.heap.size (by have := HSZ.out; omega)).trans HBX.out
          obtain ⟨y0, y1, y2, y3, y4, y5, y6⟩ := box7_of hwr
          have hD := dpL_le m l j
          by_cases hjn : j < ln
          · have hjlt : (j : Int) < (ln : Int) := by omega
            have hj0 : (0 : Int) ≤ (j : Int) := by omega
            have hjt : ((j : Int)).toNat = j := by omega
            have hjw : IntKind.i64.wrap ((j : Int) + 1) = (j : Int) + 1 := IntWalk.i64_in _ (by omega)
            have hmw : IntKind.i64.wrap (m : Int) = (m : Int) := IntWalk.i64_in _ (by omega)
            obtain ⟨b, off, x2, cs2, rfl, hSb, hx2, h7, hcells, hvx⟩ := HL.out.at_ hjn
            obtain ⟨k2, neg2, A2, n2, c2, e2, t2, LA2, ln2, lc2, KA2, kn2, kc2, rfl, -, -⟩ := hvx.seven
            have hcw : ∀ a, a < 7 → wr.cell? ⟨b, off + (j * 7 + a), none⟩ = _ := fun a ha => (hbw.cell (p := ⟨b, off + (j * 7 + a), none⟩) (hS b hSb)).trans (hcells a ha)
            have d0 : wr.cell? ⟨b, off + j * 7, none⟩ = some (.int .i64 k2) := hcw 0 (by omega)
            have d1 : wr.cell? ⟨b, off + j * 7 + 1, none⟩ = some (.bool neg2) := hcw 1 (by omega)
            have d2 : wr.cell? ⟨b, off + j * 7 + 2, none⟩ = some (.slice A2 n2 c2) := hcw 2 (by omega)
            have d3 : wr.cell? ⟨b, off + j * 7 + 3, none⟩ = some (.int .i64 e2) := hcw 3 (by omega)
            have d4 : wr.cell? ⟨b, off + j * 7 + 4, none⟩ = some (.string t2) := hcw 4 (by omega)
            have d5 : wr.cell? ⟨b, off + j * 7 + 5, none⟩ = some (.slice LA2 ln2 lc2) := hcw 5 (by omega)
            have d6 : wr.cell? ⟨b, off + j * 7 + 6, none⟩ = some (.slice KA2 kn2 kc2) := hcw 6 (by omega)
            have hstep := dpL_succ (n := m) hx2
            have HC := ih x2 S _ wr (by omega) (hvx.stay hbw hS) (fun b hb => Nat.lt_of_lt_of_le (hS b hb) hbw.size)
            obtain ⟨D, hDe⟩ : ∃ D, dpL m l j = D := ⟨_, rfl⟩
            obtain ⟨E, hEe⟩ : ∃ E, dpt m x2 = E := ⟨_, rfl⟩
            rw [hDe, hEe] at hstep
            rw [hEe] at HC
            rw [hDe]
            obtain ⟨M, hM⟩ : ∃ M, max D E = M := ⟨_, rfl⟩
            have hMi : max (D : Int) (E : Int) = (M : Int) := by omega
            rw [hM] at hstep
            have HST := Lib.hid hstep
            have HBEL := Lib.hid hbel.out
            have HCC := Lib.hid HC
            clear hcw hcells hx2 h7 hvx hstep hDe hEe hM hbel hwr hD HC hbw
            go_wp2_with fail
            refine HCC.out.mono ?_
            rintro e' w5 ⟨rfl, hb5⟩
            clear d0 d1 d2 d3 d4 d5 d6 y0 y1 y2 y3 y4 y5 y6
            go_wp2_with fail
            go_roundw
            case rel =>
              refine ⟨_, _, _, _, _, _, _, _, _, _, _, _, _, _, _, _, _, _, _, ⟨j + 1, hjn, by rw [HST.out], by go_num, HBEL.out.trans (hb5.mono HBEL.out.size)⟩, rfl⟩
            case measure => simp [RowKit.intOf]; omega
          · have hjn2 : ¬ (j : Int) < (ln : Int) := by omega
            obtain rfl : j = ln := by omega
            rw [HRR.out] at hD ⊢
            have hDw : IntKind.i64.wrap (1 + (RR : Int)) = 1 + (RR : Int) := IntWalk.i64_in _ (by omega)
            have HBW := Lib.hid hbw
            clear hbel hwr hbw
            go_wp2_with fail
            go_ret
            exact ⟨by first | rfl | (congr 2; omega), HBW.out⟩)
    · have hd : dpt (m + 1) x = 0 := by unfold dpt; rw [hk, if_neg hh]
      rw [hd]
      have h5 : ¬ k = 5 := by rintro rfl; exact hh rfl
      have h6 : ¬ k = 6 := by rintro rfl; exact hh rfl
      obtain ⟨t0, t1, t2, t3, t4, t5, t6⟩ := box7_of hbx
      have HB := Lib.hid hb
      clear hbx hx hb hsz hl hk hd t1 t2 t3 t4 t5 t6
      go_enter Tryz.func59, Tryz.ntmps59
      go_wp2
      go_ret
      exact ⟨rfl, HB.out⟩

set_option maxRecDepth 100000 in
theorem rDeep_c (x : VT) (S : Nat → Prop) (cs : List Value) (w : World) (hx : VIn w S x cs) (hS : ∀ b, S b → b < w.heap.size) :
    Calls Tryz.prog 35 #[.agg cs.toArray] w fun e w' => e = .returned (.int .i64 (dpt 1000 x : Int)) ∧ Below w.heap.size w w' := by
  have HD := Lib.hid (fun W (hW : Below w.heap.size w W) => rdeep_c 1000 x S cs W (Nat.le_refl _) (hx.stay hW hS) (fun b hb => Nat.lt_of_lt_of_le (hS b hb) hW.size))
  obtain ⟨k, neg, A, n, c, e, t, LA, ln, lc, KA, kn, kc, rfl, hk, hl⟩ := hx.seven
  have hbx := World.alloc_heap_new w (.cells #[.int .i64 k, .bool neg, .slice A n c, .int .i64 e, .string t, .slice LA ln lc, .slice KA kn kc] 28)
  have HB := Lib.hid ((Below.refl w.heap.size w).alloc (Nat.le_refl _) (.cells #[.int .i64 k, .bool neg, .slice A n c, .int .i64 e, .string t, .slice LA ln lc, .slice KA kn kc] 28))
  obtain ⟨t0, t1, t2, t3, t4, t5, t6⟩ := box7_of hbx
  obtain ⟨D, hD⟩ : ∃ D, dpt 1000 x = D := ⟨_, rfl⟩
  rw [hD] at HD ⊢
  clear hk hl hx hbx hD
  go_enter Tryz.func35, Tryz.ntmps35
  go_wp2_with fail
  refine (HD.out _ HB.out).mono ?_
  rintro e' W2 ⟨rfl, hb2⟩
  have HB2 := Lib.hid (HB.out.trans (hb2.mono HB.out.size))
  clear hb2 t0 t1 t2 t3 t4 t5 t6
  go_wp2_with fail
  go_ret
  exact ⟨rfl, HB2.out⟩
end Go.Proofs.YtobfeneeehmpcaaGreatDoor
