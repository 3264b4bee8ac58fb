/-
  Contracts of the reference's own and Check (bolterref05), of values that may be.
  The scan: where it stands in memory, what a step of it tells. Contracts of peek, isDigit, one, need and skip.
  Contracts of the scan's digits and word.
  Contracts of the scan's low, coded and escape.
-/
import Derived.Test.YtobfeneeehmpcaaGreatDoorZLrs
import Derived.Test.YtobfeneeehmpcaaGreatDoorZDrck
import Derived.Test.YtobfeneeehmpcaaGreatDoorZVcm
import Derived.Laws.EntriesVeiled
import Derived.Test.YtobfeneeehmpcaaGreatDoorZRgap
import Derived.Test.YtobfeneeehmpcaaGreatDoorZNlimb
import Derived.WalkKit
import Derived.Deep.QuietTactic
import Derived.BigQuiet
import Derived.Test.YtobfeneeehmpcaaGreatDoorShelf
import Derived.Deep.RegionHeld3
set_option linter.unusedVariables false
set_option linter.unusedSimpArgs false
namespace Go.Proofs.YtobfeneeehmpcaaGreatDoor
open Go.RowKit Go.Lib

theorem buildD (w : World) : (Instr.build 24 #[]).run Tryz.prog w = .ok (.agg #[.bool false, .slice none 0 0, .int .i64 0]) w := run_build w 24 _ _ (by kernel_rfl)
set_option maxRecDepth 100000 in
set_option maxHeartbeats 4000000 in
theorem rown_c (x : VT) (S : Nat → Prop) (cs : List Value) (w : World) (h0 : alone x = 0) (hx : VIn w S x cs) (hS : ∀ b, S b → b < w.heap.size) :
    Calls Tryz.prog 60 #[.agg cs.toArray] w fun e w' => e = .returned (.int .i64 0) ∧ Below w.heap.size w w' := by
  have hf := alone_fields h0
  have hz := alone_zero h0
  cases x with
  | mk k neg xs e t l ks =>
  obtain ⟨A, n, c, LA, ln, lc, KA, kn, kc, rfl, hrd, hnb, htb, hl, hk, hknb, hlc⟩ := hx.parts
  obtain ⟨-, f3, f3', f4, f4', f6, f6', ftx, fl, fk, f5⟩ := hf
  obtain ⟨⟨z1, z2⟩, -⟩ := hz
  simp only [VT.kind, VT.num, VT.neg, VT.exp, VT.text, VT.keys, VT.list] at f3 f3' f4 f4' f6 f6' ftx fl fk f5 z1 z2
  have hbx := World.alloc_heap_new w (.cells #[.int .i64 k, .bool neg, .slice A n c, .int .i64 e, .string t, .slice LA ln lc, .slice KA kn kc] 28)
  have hb := (Below.refl w.heap.size w).alloc (Nat.le_refl _) (.cells #[.int .i64 k, .bool neg, .slice A n c, .int .i64 e, .string t, .slice LA ln lc, .slice KA kn kc] 28)
  have hsz : (w.alloc (.cells #[.int .i64 k, .bool neg, .slice A n c, .int .i64 e, .string t, .slice LA ln lc, .slice KA kn kc] 28)).heap.size = w.heap.size + 1 := by simp
  have htext : isT t.data.toList = true ∧ t.size ≤ 16384 := by
    by_cases h4 : k = 4
    · exact f4' h4
    · have h5 := f4 h4
      have h6 : t = ⟨#[]⟩ := by
        obtain ⟨a⟩ := t
        have : a.size = 0 := h5
        rw [Array.eq_empty_of_size_eq_zero this]
      subst h6
      exact ⟨by decide, by decide⟩
  have hln := hl.1
  have hkn := hk.1
  have HTX := Lib.hid (fun W => rtext_c t W htext.1 htext.2)
  have HKT := Lib.hid ftx
  have HK := Lib.hid hk
  have HRD := Lib.hid hrd
  have HB := Lib.hid hb
  have HBX := Lib.hid hbx
  have HSZ := Lib.hid hsz
  obtain ⟨t0, t1, t2, t3, t4, t5, t6⟩ := box7_of hbx
  have k0 : ¬ k < 0 := by omega
  have k6 : ¬ (6 : Int) < k := by omega
  clear hx hrd hl hk ftx hb hbx hsz htext
  go_enter Tryz.func60, Tryz.ntmps60
  go_wp2_with fail
  generalize (w.alloc (.cells #[.int .i64 k, .bool neg, .slice A n c, .int .i64 e, .string t, .slice LA ln lc, .slice KA kn kc] 28)) = W0 at *
  refine (HTX.out W0).mono ?_
  rintro e' W1 ⟨rfl, hb1⟩
  have hbx1 := (hb1.block w.heap.size (by have := HSZ.out; omega)).trans HBX.out
  have HB1 := Lib.hid (HB.out.trans (hb1.mono (by have := HSZ.out; omega)))
  have HBX1 := Lib.hid hbx1
  have HS1 := Lib.hid (show w.heap.size < W1.heap.size from by have := HSZ.out; have := hb1.size; omega)
  clear hbx1 hb1 t0 t1 t2 t3 t4 t5 t6
  go_wp2_with fail
  go_loopw [3, 4] (fun nv iv wr => ∃ j : Nat, j ≤ kn ∧ nv = .int .i64 0 ∧ iv = .int .i64 (j : Int) ∧ Hid (Below W1.heap.size W1 wr)) (fun _ iv _ => kn - (RowKit.intOf iv).toNat)
  case atStart => exact ⟨0, Nat.zero_le _, rfl, rfl, Below.refl _ _⟩
  case round =>
    obtain ⟨j, hj, rfl, rfl, hbel⟩ := hrel
    have hbw : Below w.heap.size w wr := HB1.out.trans (hbel.out.mono (by have := HS1.out; omega))
    have hwr := (hbel.out.block w.heap.size HS1.out).trans HBX1.out
    by_cases hjn : j < kn
    · obtain ⟨y0, y1, y2, y3, y4, y5, y6⟩ := box7_of hwr
      have hjlt : (j : Int) < (kn : Int) := by omega
      have hj0 : (0 : Int) ≤ (j : Int) := by omega
      have hjt : ((j : Int)).toNat = j := by omega
      have hjw : IntKind.i64.wrap ((j : Int) + 1) = (j : Int) + 1 := IntWalk.i64_in _ (by omega)
      obtain ⟨b, off, s, rfl, hSb, hs, hcs⟩ := HK.out.at_ hjn
      have hcw : wr.cell? ⟨b, off + j, none⟩ = some (.string s) := (hbw.cell (p := ⟨b, off + j, none⟩) (hS b hSb)).trans hcs
      have h9 := HKT.out s (List.mem_of_getElem? hs)
      have HC := Lib.hid (rtext_c s wr h9.1 h9.2)
      have HBEL := Lib.hid hbel.out
      clear hbel hwr hbw hs hcs h9
      go_wp2_with fail
      refine HC.out.mono ?_
      rintro e' w5 ⟨rfl, hb5⟩
      clear hcw y0 y1 y2 y3 y4 y5 y6
      go_wp2_with fail
      go_roundw
      case rel => first | exact ⟨j + 1, hjn, rfl, by go_num, HBEL.out.trans (hb5.mono HBEL.out.size)⟩ | trace_state
      case measure => simp [RowKit.intOf]; omega
    · have hjn2 : ¬ (j : Int) < (kn : Int) := by omega
      have HBW := Lib.hid hbw
      have HWR := Lib.hid hwr
      have HSW := Lib.hid (show w.heap.size < wr.heap.size from by have := HS1.out; have := hbel.out.size; omega)
      clear hbel hwr hbw
      have hl4 : ¬ (4096 : Int) < (ln : Int) := by omega
      have hk4 : ¬ (4096 : Int) < (kn : Int) := by omega
      have hbd := buildD
      have hxb : ∀ W, Below wr.heap.size wr W → W.heap[w.heap.size]? = _ := fun W hW => (hW.block _ HSW.out).trans HWR.out
      have HXB := Lib.hid hxb
      clear hxb
      by_cases h3 : k = 3
      · subst h3
        have h5 := f3' rfl
        have h7 := RCheck_c (c := c) neg e wr (HRD.out.below HBW.out hS) (fun b hb => Nat.lt_of_lt_of_le (hS b hb) HBW.out.size) (by omega)
        rw [show okE neg xs e = 0 from by unfold okE; rw [if_pos h5]] at h7
        unfold dv at h7
        have hte : t = ⟨#[]⟩ := by
          obtain ⟨a⟩ := t
          have : a.size = 0 := f4 (by omega)
          rw [Array.eq_empty_of_size_eq_zero this]
        subst hte
        obtain rfl : ln = 0 := by have := f5 (by decide); subst this; simpa using hln.symm
        obtain rfl : kn = 0 := by have := f6 (by decide); subst this; simpa using hkn.symm
        obtain ⟨y0, y1, y2, y3, y4, y5, y6⟩ := box7_of (HXB.out wr (Below.refl _ _))
        have HC := Lib.hid h7
        clear h5 h7 f3 f3' f4 f4' f6 f6' fl fk f5
        go_wp2_with fail
        refine HC.out.mono ?_
        rintro e' w5 ⟨rfl, hb5⟩
        clear y0 y1 y2 y3 y4 y5 y6
        obtain ⟨y0, y1, y2, y3, y4, y5, y6⟩ := box7_of (HXB.out w5 hb5)
        have HB5 := Lib.hid (HBW.out.trans (hb5.mono HBW.out.size))
        clear hb5
        go_wp2_with fail
        go_loopw [5] (fun iv wr => iv = .int .i64 1 ∧ wr = w5) (fun _ _ => 0)
        case atStart => exact ⟨rfl, rfl⟩
        case round =>
          obtain ⟨rfl, rfl⟩ := hrel
          have hj2 : ¬ (1 : Int) < 0 := by omega
          go_wp2_with fail
          go_ret
          exact ⟨rfl, HB5.out⟩
      · obtain ⟨g1, g2, g3⟩ := f3 h3
        have h7 := DSame_c (c := c) (d := 0) (B := none) neg false e 0 wr (HRD.out.below HBW.out hS) (Rd.nil wr (fun b => b < wr.heap.size) none) (fun b hb => Nat.lt_of_lt_of_le (hS b hb) HBW.out.size) (fun b hb => hb) (by omega) (by omega)
        rw [show decide (neg = false ∧ e = 0 ∧ xs = []) = true from decide_eq_true ⟨g2, g3, g1⟩] at h7
        unfold dv at h7
        have HC := Lib.hid h7
        clear h7 g1 g2 g3 f3 f3' fl fk
        obtain ⟨y0, y1, y2, y3, y4, y5, y6⟩ := box7_of (HXB.out wr (Below.refl _ _))
        go_upto_region 12 with fail
        go_wp2_with fail
        refine HC.out.mono ?_
        rintro e' w5 ⟨rfl, hb5⟩
        clear y0 y1 y2 y3 y4 y5 y6
        obtain ⟨y0, y1, y2, y3, y4, y5, y6⟩ := box7_of (HXB.out w5 hb5)
        have HB5 := Lib.hid (HBW.out.trans (hb5.mono HBW.out.size))
        have HBW5 := Lib.hid hb5
        clear hb5
        by_cases h4 : k = 4
        · subst h4
          obtain rfl : ln = 0 := by have := f5 (by decide); subst this; simpa using hln.symm
          obtain rfl : kn = 0 := by have := f6 (by decide); subst this; simpa using hkn.symm
          clear f4 f4' f6 f6' f5
          go_wp2_with fail
          go_loopw [5] (fun iv wr => iv = .int .i64 1 ∧ wr = w5) (fun _ _ => 0)
          case atStart => exact ⟨rfl, rfl⟩
          case round =>
            obtain ⟨rfl, rfl⟩ := hrel
            have hj2 : ¬ (1 : Int) < 0 := by omega
            go_wp2_with fail
            go_ret
            exact ⟨rfl, HB5.out⟩
        · have hte : t = ⟨#[]⟩ := by
            obtain ⟨a⟩ := t
            have : a.size = 0 := f4 (by omega)
            rw [Array.eq_empty_of_size_eq_zero this]
          subst hte
          by_cases h6 : k = 6
          · subst h6
            obtain ⟨q1, q2⟩ := f6' rfl
            have hkl : kn = ln := by rw [← hln, ← hkn, q1]
            subst hkl
            have hri := (rises_iff ks).1 q2
            have HRI := Lib.hid hri
            have HKN := Lib.hid hkn
            clear f4 f4' f6 f6' f5 q1 q2 hri
            go_wp2_with fail
            go_loopw [5] (fun iv wr => ∃ j : Nat, iv = .int .i64 (j : Int) ∧ 1 ≤ j ∧ Hid (Below w5.heap.size w5 wr)) (fun iv _ => kn - (RowKit.intOf iv).toNat)
            case atStart => exact ⟨1, rfl, Nat.le_refl _, Below.refl _ _⟩
            case round =>
              obtain ⟨j, rfl, hj1, hbel2⟩ := hrel
              clear y0 y1 y2 y3 y4 y5 y6
              obtain ⟨y0, y1, y2, y3, y4, y5, y6⟩ := box7_of (HXB.out wr (HBW5.out.trans (hbel2.out.mono HBW5.out.size)))
              have HB6 := Lib.hid (HB5.out.trans (hbel2.out.mono HB5.out.size))
              by_cases hjn : j < kn
              · obtain ⟨i, rfl⟩ : ∃ i, j = i + 1 := ⟨j - 1, by omega⟩
                have hji : ((i + 1 : Nat) : Int) = (i : Int) + 1 := by omega
                have hjlt : (i : Int) + 1 < (kn : Int) := by omega
                have hj0 : (0 : Int) ≤ (i : Int) + 1 := by omega
                have hjt : ((i : Int) + 1).toNat = i + 1 := by omega
                have hi0 : (0 : Int) ≤ (i : Int) := by omega
                have hilt : (i : Int) < (kn : Int) := by omega
                have hit : ((i : Int)).toNat = i := by omega
                have hiw : IntKind.i64.wrap (i : Int) = (i : Int) := IntWalk.i64_in _ (by omega)
                have hjw : IntKind.i64.wrap ((i : Int) + 1 + 1) = (i : Int) + 1 + 1 := IntWalk.i64_in _ (by omega)
                obtain ⟨b, off, s1, rfl, hSb, hs1, hc1⟩ := HK.out.at_ (show i < kn by omega)
                obtain ⟨b', off', s2, hA2, -, hs2, hc2⟩ := HK.out.at_ hjn
                injection hA2 with hA2
                injection hA2 with hA3 hA4
                subst hA3
                subst hA4
                have e1 : wr.cell? ⟨b, off + i, none⟩ = some (.string s1) := (HB6.out.cell (p := ⟨b, off + i, none⟩) (hS b hSb)).trans hc1
                have e2 : wr.cell? ⟨b, off + (i + 1), none⟩ = some (.string s2) := (HB6.out.cell (p := ⟨b, off + (i + 1), none⟩) (hS b hSb)).trans hc2
                have b1 := HRI.out i s1 s2 (by have := HKN.out; omega) hs1 hs2
                have b0 : s1.toList < s2.toList := by rwa [bytesLess_eq, decide_eq_true_eq] at b1
                have b2 : Go.Op.bytesLess s2.toList s1.toList = false := by rw [bytesLess_eq, decide_eq_false_iff_not]; exact List.lt_asymm b0
                have b3 : (s2.toList == s1.toList) = false := by
                  rw [beq_eq_false_iff_ne]
                  rintro h
                  rw [h] at b0
                  exact List.lt_irrefl _ b0
                have b4 : (s1.toList == s2.toList) = false := by
                  rw [beq_eq_false_iff_ne]
                  rintro h
                  rw [h] at b0
                  exact List.lt_irrefl _ b0
                rw [hji]
                clear hs1 hs2 hc1 hc2 b0 hj1 hji
                go_wp2_with fail
                go_quiet (fail)
                go_wp2_with fail
                go_roundw
                case rel => exact ⟨i + 1 + 1, by congr 1, by omega, hbel2.out.trans ⟨rfl, rfl, rfl, Nat.le_refl _, fun _ _ => rfl⟩⟩
                case measure => simp [RowKit.intOf]; omega
              · have hj3 : ¬ (j : Int) < (kn : Int) := by omega
                go_wp2_with fail
                go_ret
                exact ⟨rfl, HB6.out⟩
          · obtain rfl : kn = 0 := by have := f6 h6; subst this; simpa using hkn.symm
            by_cases h5 : k = 5
            · subst h5
              clear f4 f4' f6 f6' f5
              go_wp2_with fail
              go_loopw [5] (fun iv wr => iv = .int .i64 1 ∧ wr = w5) (fun _ _ => 0)
              case atStart => exact ⟨rfl, rfl⟩
              case round =>
                obtain ⟨rfl, rfl⟩ := hrel
                have hj2 : ¬ (1 : Int) < 0 := by omega
                go_wp2_with fail
                go_ret
                exact ⟨rfl, HB5.out⟩
            · have h5l : k < 5 := by omega
              obtain rfl : ln = 0 := by have := f5 h5l; subst this; simpa using hln.symm
              clear f4 f4' f6 f6' f5
              go_wp2_with fail
              go_loopw [5] (fun iv wr => iv = .int .i64 1 ∧ wr = w5) (fun _ _ => 0)
              case atStart => exact ⟨rfl, rfl⟩
              case round =>
                obtain ⟨rfl, rfl⟩ := hrel
                have hj2 : ¬ (1 : Int) < 0 := by omega
                go_wp2_with fail
                go_ret
                exact ⟨rfl, HB5.out⟩

set_option maxRecDepth 100000 in
set_option maxHeartbeats 4000000 in
theorem rCheck5_c (x : VT) (S : Nat → Prop) (cs : List Value) (w : World) (h0 : okV x) (hx : VIn w S x cs) (hS : ∀ b, S b → b < w.heap.size) :
    Calls Tryz.prog 19 #[.agg cs.toArray] w fun e w' => e = .returned (.int .i64 0) ∧ Below w.heap.size w w' := by
  obtain ⟨g1, g2, g3⟩ := okV_gd h0
  obtain ⟨k, neg, A, n, c, e, t, LA, ln, lc, KA, kn, kc, rfl, hk, hl⟩ := hx.seven
  have hbx := World.alloc_heap_new w (.cells #[.int .i64 k, .bool neg, .slice A n c, .int .i64 e, .string t, .slice LA ln lc, .slice KA kn kc] 28)
  have hb := (Below.refl w.heap.size w).alloc (Nat.le_refl _) (.cells #[.int .i64 k, .bool neg, .slice A n c, .int .i64 e, .string t, .slice LA ln lc, .slice KA kn kc] 28)
  have hsz : (w.alloc (.cells #[.int .i64 k, .bool neg, .slice A n c, .int .i64 e, .string t, .slice LA ln lc, .slice KA kn kc] 28)).heap.size = w.heap.size + 1 := by simp
  have HD := Lib.hid (fun W (hW : Below w.heap.size w W) => rDeep_c x S _ W (hx.stay hW hS) (fun b hb => Nat.lt_of_lt_of_le (hS b hb) hW.size))
  have HZ := Lib.hid (fun W (hW : Below w.heap.size w W) => rsize_c _ x S _ W (Nat.le_refl _) g1 g2 (hx.stay hW hS) (fun b hb => Nat.lt_of_lt_of_le (hS b hb) hW.size))
  have HA := Lib.hid (fun W (hW : Below w.heap.size w W) => rall_c rown_c _ x S _ W (Nat.le_refl _) g1 g2 (hx.stay hW hS) (fun b hb => Nat.lt_of_lt_of_le (hS b hb) hW.size))
  obtain ⟨D, hD⟩ : ∃ D, dpt 1000 x = D := ⟨_, rfl⟩
  obtain ⟨Z, hZ⟩ : ∃ Z, (partsV x).length = Z := ⟨_, rfl⟩
  rw [hD] at HD g3
  rw [hZ] at HZ g2
  have q1 : ¬ (64 : Int) < (D : Int) := by omega
  have q2 : ¬ (16384 : Int) < (Z : Int) := by omega
  have HB := Lib.hid hb
  have HXB := Lib.hid (fun W (hW : Below (w.heap.size + 1) (w.alloc (.cells #[.int .i64 k, .bool neg, .slice A n c, .int .i64 e, .string t, .slice LA ln lc, .slice KA kn kc] 28)) W) => (hW.block w.heap.size (by omega)).trans hbx)
  have HSZ := Lib.hid hsz
  obtain ⟨t0, t1, t2, t3, t4, t5, t6⟩ := box7_of hbx
  clear hk hl hx hbx hb hsz hD hZ g1 g2 g3
  go_enter Tryz.func19, Tryz.ntmps19
  go_wp2_with fail
  generalize (w.alloc (.cells #[.int .i64 k, .bool neg, .slice A n c, .int .i64 e, .string t, .slice LA ln lc, .slice KA kn kc] 28)) = W1 at *
  refine (HD.out W1 HB.out).mono ?_
  rintro e' W2 ⟨rfl, hb2⟩
  rw [HSZ.out] at hb2
  have hb02 := HB.out.trans (hb2.mono (by omega))
  clear t0 t1 t2 t3 t4 t5 t6
  obtain ⟨t0, t1, t2, t3, t4, t5, t6⟩ := box7_of (HXB.out W2 hb2)
  have HB2 := Lib.hid hb2
  have HB02 := Lib.hid hb02
  clear hb2 hb02
  go_wp2_with fail
  refine (HZ.out W2 HB02.out).mono ?_
  rintro e' W3 ⟨rfl, hb3⟩
  have hb13 := HB2.out.trans (hb3.mono (by have := HB2.out.size; have := HSZ.out; omega))
  have hb03 := HB02.out.trans (hb3.mono HB02.out.size)
  clear t0 t1 t2 t3 t4 t5 t6
  obtain ⟨t0, t1, t2, t3, t4, t5, t6⟩ := box7_of (HXB.out W3 hb13)
  have HB03 := Lib.hid hb03
  clear hb3 hb13 hb03
  go_wp2_with fail
  refine (HA.out W3 HB03.out).mono ?_
  rintro e' W4 ⟨rfl, hb4⟩
  have HB04 := Lib.hid (HB03.out.trans (hb4.mono HB03.out.size))
  clear hb4
  go_wp2_with fail
  go_ret
  exact ⟨rfl, HB04.out⟩
end Go.Proofs.YtobfeneeehmpcaaGreatDoor

namespace Go.Proofs.YtobfeneeehmpcaaGreatDoor
open Go.RowKit Go.Lib

/-- All blocks stay but those of C. -/
structure But (C : Nat → Prop) (w w' : World) : Prop where
  os : w'.os = w.os
  tape : w'.tape = w.tape
  output : w'.output = w.output
  size : w.heap.size ≤ w'.heap.size
  block : ∀ k, k < w.heap.size → ¬ C k → w'.heap[k]? = w.heap[k]?
theorem But.refl (C : Nat → Prop) (w : World) : But C w w := ⟨rfl, rfl, rfl, Nat.le_refl _, fun _ _ _ => rfl⟩
theorem But.trans {C : Nat → Prop} {a b c : World} (h : But C a b) (k : But C b c) : But C a c :=
  ⟨k.os.trans h.os, k.tape.trans h.tape, k.output.trans h.output, Nat.le_trans h.size k.size, fun i hi hc => (k.block i (Nat.lt_of_lt_of_le hi h.size) hc).trans (h.block i hi hc)⟩
theorem But.mono {C D : Nat → Prop} {a b : World} (h : But C a b) (hD : ∀ k, k < a.heap.size → C k → D k) : But D a b :=
  ⟨h.os, h.tape, h.output, h.size, fun i hi hc => h.block i hi fun h2 => hc (hD i hi h2)⟩
theorem But.of {C : Nat → Prop} {w w' : World} (h : Below w.heap.size w w') : But C w w' := ⟨h.os, h.tape, h.output, h.size, fun k hk _ => h.block k hk⟩
/-- A store into a block of C, or into a new one. -/
theorem But.setCell {C : Nat → Prop} {a w : World} (h : But C a w) {p : Addr} (hp : C p.block ∨ a.heap.size ≤ p.block) (u : Value) : But C a (w.setCell p u) :=
  ⟨h.os, h.tape, h.output, by simpa [World.setCell] using h.size, fun k hk hc => (Below.heap_setCell _ _ _ _ (by rintro rfl; rcases hp with hp | hp; exact hc hp; omega)).trans (h.block k hk hc)⟩
theorem But.drew {C : Nat → Prop} {a w : World} (h : But C a w) : But C a w.drew := ⟨h.os, h.tape, h.output, h.size, h.block⟩
theorem But.drewN {C : Nat → Prop} {a w : World} (h : But C a w) (k : Nat) : But C a (w.drewN k) := ⟨h.os, h.tape, h.output, h.size, h.block⟩
theorem But.alloc {C : Nat → Prop} {a w : World} (h : But C a w) (o : Obj) : But C a (w.alloc o) := h.trans (But.of ((Below.refl _ _).alloc (Nat.le_refl _) o))
theorem But.below {C : Nat → Prop} {B : Nat} {w w' : World} (h : But C w w') (hB : B ≤ w.heap.size) (hC : ∀ k, k < B → ¬ C k) : Below B w w' :=
  ⟨h.os, h.tape, h.output, h.size, fun k hk => h.block k (Nat.lt_of_lt_of_le hk hB) (hC k hk)⟩
theorem But.cell {C : Nat → Prop} {w w' : World} (h : But C w w') {p : Addr} (hp : p.block < w.heap.size) (hc : ¬ C p.block) : w'.cell? p = w.cell? p := World.cell?_of_block (h.block _ hp hc)
theorem cell_at3 {w : World} {b i : Nat} {vs : Array Value} {v : Value} {t : TypeId} (h : w.heap[b]? = some (.cells vs t)) (hi : vs[i]? = some v) : w.cell? ⟨b, i, none⟩ = some v := by
  simp [World.cell?, h, hi]
variable {B : Nat} {L : List UInt8} {A : Option Addr} {c sb : Nat}

end Go.Proofs.YtobfeneeehmpcaaGreatDoor

namespace Go.Proofs.YtobfeneeehmpcaaGreatDoor
open Go.RowKit Go.Lib
variable {B : Nat} {L : List UInt8} {A : Option Addr} {c sb : Nat}

/-- Where digits end. -/
def dgE (L : List UInt8) (p : Nat) : Nat := p + ((L.drop p).takeWhile isDg).length
end Go.Proofs.YtobfeneeehmpcaaGreatDoor

namespace Go.Proofs.YtobfeneeehmpcaaGreatDoor
open Go.RowKit Go.Lib
variable {B : Nat} {L : List UInt8} {A : Option Addr} {c sb : Nat}

theorem But.no {C : Nat → Prop} {w w' : World} (h : But (fun _ => False) w w') : But C w w' := h.mono (fun _ _ h => h.elim)
end Go.Proofs.YtobfeneeehmpcaaGreatDoor
