/-
  The walk of bolterlaw07.ReaderAhead.
  What the reference's Word tells of 2.5.
-/
import Derived.Test.YtpjllcengnolkaaGreatDoorHLal
import Derived.Test.YtpjllcengnolkaaGreatDoorHLch
import Derived.Test.YtpjllcengnolkaaGreatDoorHDpar
import Derived.Test.YtpjllcengnolkaaGreatDoorHDrprt
import Derived.Test.YtpjllcengnolkaaGreatDoorHVord
set_option linter.unusedVariables false
set_option linter.unusedSimpArgs false
namespace Go.Proofs.YtpjllcengnolkaaGreatDoor
open Go.RowKit Go.Lib
variable {L : List UInt8} {A : Option Addr} {c : Nat}

theorem Oct.rdv {B : Nat} {w : World} (h : Oct B L A w) : RdV w (fun b => b < B) A L.length (bs8 L) := by
  refine ⟨by rw [bs8_length], fun h0 => ?_⟩
  obtain ⟨g, off, rfl, hg, -⟩ := h 0 _ (List.getElem?_eq_getElem h0)
  refine ⟨g, off, rfl, hg, fun j v hv => ?_⟩
  have hj : j < L.length := by have := (List.getElem?_eq_some_iff.1 hv).1; rwa [bs8_length] at this
  have hx : L[j]? = some L[j] := List.getElem?_eq_getElem hj
  obtain ⟨g', off', e, -, hc⟩ := h j _ hx
  injection e with e
  injection e with e1 e2
  subst e1
  subst e2
  rw [bs8_get hx] at hv
  injection hv with hv
  rw [hc, hv]
theorem RowV.oct {w : World} {base n : Nat} (h : RowV w base 5 A n c (bs8 L)) : L.length = n ∧ n ≤ c ∧ Oct w.heap.size L A w := by
  have h1 := h.rd
  have h2 : L.length = n := by rw [← h1.len, bs8_length]
  refine ⟨h2, h.n_le.1, fun k x hk => ?_⟩
  obtain ⟨b, off, e, hb, hc⟩ := h1.at_ (bs8_get hk)
  exact ⟨b, off, e, hb.2, hc⟩

set_option maxRecDepth 100000 in
set_option maxHeartbeats 8000000 in
theorem readerAhead_c (hW25 : Word25) {w : World} {R : List UInt8} {A2 : Option Addr} {c2 : Nat} (ho : Oct w.heap.size L A w) (ho2 : Oct w.heap.size R A2 w) (hT : Tabs w) (hcap : L.length ≤ c) (hlen : L.length ≤ 140737488355328) (hlen2 : R.length ≤ 140737488355328) (hnc2 : A2 = none → c2 = 0) :
    Calls Tryz.prog 4 #[.slice A L.length c, .slice A2 R.length c2] w fun e w' => e = .returned (.bool true) ∧ Below w.heap.size w w' := by
  have HA := alive7_c hW25 w hT
  obtain ⟨B, hB⟩ : ∃ B, w.heap.size = B := ⟨_, rfl⟩
  have HALL := Lib.hid (fun W (hW : Below B w W) => All_c (c := c) (w := W) (fun k x hk => by
    obtain ⟨g, off, e1, e2, e3⟩ := ho k x hk
    exact ⟨g, off, e1, by have := hW.size; omega, (hW.cell (p := ⟨g, off + k, none⟩) (by show g < _; omega)).trans e3⟩) (hT.below (hB ▸ hW)) hcap hlen)
  have HRV := Lib.hid (fun W (hW : Below B w W) => ho.rdv.below hW (fun b h => by omega))
  have HRV2 := Lib.hid (fun W (hW : Below B w W) => ho2.rdv.below hW (fun b h => by omega))
  have HT := Lib.hid (fun W (hW : Below B w W) => hT.below (hB ▸ hW))
  obtain ⟨ls, q, e0, hR⟩ : ∃ l q e, rAll mkObj L = (l, q, e) := ⟨_, _, _, rfl⟩
  obtain ⟨-, hq, -⟩ := rAll_may2 hR
  have HR := Lib.hid hR
  have HB := Lib.hid hB
  rw [hB] at HA ⊢
  obtain ⟨n, hn⟩ : ∃ n, L.length = n := ⟨_, rfl⟩
  obtain ⟨m, hm⟩ : ∃ m, R.length = m := ⟨_, rfl⟩
  have HN := Lib.hid hn
  have HM := Lib.hid hm
  have hqn : q ≤ n := by omega
  have hqi : (q : Int) ≤ (n : Int) := by omega
  rw [hn] at HALL HRV hcap hlen ⊢
  rw [hm] at HRV2 hlen2 ⊢
  have HBW0 := Lib.hid (Below.refl B w)
  clear ho ho2 hT hR hB hn hm hq
  go_enter Tryz.func4, Tryz.ntmps4
  go_wp2_with fail
  refine HA.mono ?_
  rintro e w1 ⟨rfl, hb1⟩
  have HB1 := Lib.hid hb1
  clear HA hb1
  go_wp2_with fail
  refine (HALL.out w1 HB1.out).mono ?_
  rintro e w2 ⟨⟨LA, lc, rfl, hrd, hlc, h96⟩, hb2⟩
  rw [HR.out] at hrd hlc h96 ⊢
  dsimp only at hrd hlc h96 ⊢
  obtain ⟨ln, hln⟩ : ∃ ln, ls.length = ln := ⟨_, rfl⟩
  rw [hln] at hrd hlc h96 ⊢
  have HB2 := Lib.hid (HB1.out.trans (hb2.mono (by have := HB1.out.size; have := HB.out; omega)))
  have HRD := Lib.hid hrd
  have HLN := Lib.hid hln
  clear hb2 hrd hln HALL
  by_cases hF : e0 = 33 ∨ e0 = 61 ∨ e0 = 42
  · have hnm : IntKind.i64.wrap ((n : Int) + (m : Int)) = (n : Int) + (m : Int) := IntWalk.i64_in _ (by omega)
    by_cases hbig : 65536 < n + m
    · have hbi : (65536 : Int) < (n : Int) + (m : Int) := by omega
      rcases hF with rfl | rfl | rfl
      all_goals (
        go_wp2_with (go_at_call 10; refine (lnum7_c _ _).mono ?_; rintro e w' ⟨rfl, rfl⟩)
        go_ret
        exact ⟨by first | rfl | simp, HB2.out⟩)
    · have hbi : ¬ (65536 : Int) < (n : Int) + (m : Int) := by omega
      by_cases hqq : n ≤ q
      · have hqj : (n : Int) ≤ (q : Int) := by omega
        rcases hF with rfl | rfl | rfl
        all_goals (
          go_wp2_with (go_at_call 10; refine (lnum7_c _ _).mono ?_; rintro e w' ⟨rfl, rfl⟩)
          go_ret
          exact ⟨by first | rfl | simp, HB2.out⟩)
      · have hqj : ¬ (n : Int) ≤ (q : Int) := by omega
        have hah := rAll_ahead mkObj (r := R) HR.out hF (by have := HN.out; omega) (by have := HN.out; have := HM.out; omega)
        have HAH := Lib.hid hah
        have HC := Lib.hid (CopyBytes_c (c := c) w2 (HRV.out w2 HB2.out) (by omega))
        clear hah HRV
        obtain ⟨i0, hi, hz0, hz1, hz2⟩ := info_parts uinfo8
        have hnm2 : n + m ≤ 65536 := by omega
        have HAP := Lib.hid (show bs8 L ++ bs8 R = bs8 (L ++ R) from by simp [bs8])
        have hall := fun W A4 c4 (hW : Below B w W) (h4 : n + m ≤ c4) (hro : Oct W.heap.size (L ++ R) A4 W) => All_c (c := c4) (w := W) hro (HT.out W hW) (by rw [List.length_append, HN.out, HM.out]; exact h4) (by rw [List.length_append, HN.out, HM.out]; omega)
        rw [show (L ++ R).length = n + m from by rw [List.length_append, HN.out, HM.out]] at hall
        have HALL2 := Lib.hid hall
        clear hall
        have hfin : ∀ (W : World) (A4 : Option Addr) (c4 : Nat), Below B w W → RowV W w2.heap.size 5 A4 (n + m) c4 (bs8 (L ++ R)) → Calls Tryz.prog 8 #[.slice A4 (n + m) c4] W fun e w' => (∃ LB d, e = .returned (.tuple #[.slice LB ln d, .int .i64 (q : Int), .int .i64 (e0 : Int)]) ∧ RdL w' (fun b => W.heap.size ≤ b ∧ b < w'.heap.size) LB ln ls ∧ ln ≤ d) ∧ Below W.heap.size W w' := by
          intro W A4 c4 hW hrw
          obtain ⟨-, h5, h6⟩ := hrw.oct
          refine (HALL2.out W A4 c4 hW h5 h6).mono ?_
          rintro e w' ⟨⟨LB, d, rfl, hr1, hr2, -⟩, hb⟩
          rw [HAH.out] at hr1 hr2 ⊢
          dsimp only at hr1 hr2 ⊢
          rw [HLN.out] at hr1 hr2 ⊢
          exact ⟨⟨LB, d, rfl, hr1, hr2⟩, hb⟩
        have HFIN := Lib.hid hfin
        clear hfin
        have HW2 := Lib.hid (show B ≤ w2.heap.size from by have := HB2.out.size; have := HB.out; omega)
        rcases hF with rfl | rfl | rfl
        all_goals (
          go_upto_region 6 with (go_at_call 10; refine (lnum7_c _ _).mono ?_; rintro e w' ⟨rfl, rfl⟩)
          go_wp2_with fail
          refine HC.out.mono ?_
          rintro e w3 ⟨A3, c3, rfl, hrow3, hb3⟩
          have HB3 := Lib.hid (HB2.out.trans (hb3.mono HW2.out))
          have HBB3 := Lib.hid hb3
          have HROW := Lib.hid hrow3
          clear hb3 hrow3
          cases A2 with
          | none =>
            have hc20 := hnc2 rfl
            subst hc20
            obtain rfl : m = 0 := by
              rcases Nat.eq_zero_or_pos m with h | h
              · exact h
              · obtain ⟨b, off, e, _⟩ := (HRV2.out w HBW0.out).cells h; cases e
            have hR0 : R = [] := List.eq_nil_of_length_eq_zero HM.out
            subst hR0
            go_wp2_with (at_builtin; refine wpList_append_own_none rfl (.tmp 52) (.tmp 53) _ rfl w2.heap.size 5 i0 1 Tryz.underlying22 hi (.slice A3 n c3) n (bs8 L) rfl HROW.out.own rfl ?_)
            have HB25 := Lib.hid HBB3.out
            refine (HFIN.out w3 A3 c3 HB3.out (by simpa using HROW.out)).mono ?_
            rintro e w5 ⟨⟨LB, d, rfl, hr5, hd5⟩, hb5⟩
            have HB5 := Lib.hid ((HB3.out).trans (hb5.mono (by have := (HB3.out).size; have := HB.out; omega)))
            have hsa := (sameAll_c (c := lc) (d := d) w5 (HRD.out.stay (HB25.out.trans (hb5.mono HB25.out.size)) (fun b h => h.2)) hr5 (fun b h => Nat.lt_of_lt_of_le h.2 (Nat.le_trans HB25.out.size hb5.size)) (fun b h => h.2) (by omega) (by omega) hlc hd5)
            rw [show sameV (listV ls) (listV ls) = true from sameV_iff.2 rfl] at hsa
            have HSA := Lib.hid hsa
            clear hr5 hd5 hb5 hsa
            go_wp2_with fail
            refine HSA.out.mono ?_
            rintro e w6 ⟨rfl, hb6⟩
            have HB6 := Lib.hid (HB5.out.trans (hb6.mono (by have := HB5.out.size; have := HB.out; omega)))
            clear hb6
            go_wp2_with fail
            go_ret
            exact ⟨by first | rfl | simp, HB6.out⟩
          | some ad =>
            go_wp2_with (at_builtin; refine wpList_append_own _ rfl (.tmp 52) (.tmp 53) _ rfl w2.heap.size 5 i0 (.int .u8 0) 1 1 Tryz.underlying22 hi hz0 hz1 hz2 rfl (by decide) (.slice A3 n c3) n (bs8 L) rfl HROW.out.own ad m c2 (bs8 R) rfl (by rw [bs8_length, HM.out, Nat.mul_one]) (HRV2.out w3 HB3.out).cellsAt (bs8_one R) (by unfold maxLen; omega) (by omega) HBB3.out.size ?_; intro v' w4 hown4 hg4 _)
            obtain ⟨A4, c4, rfl, hr4⟩ := RowV.of_row (by rw [List.length_append, bs8_length, bs8_length, HN.out, HM.out]) hown4
            rw [HAP.out] at hr4
            have HR4 := Lib.hid hr4
            have HB25 := Lib.hid (HBB3.out.grown hg4 HBB3.out.size (fun k hk => by exact (ownsRow_lt HROW.out.own hk).1))
            have HB4 := Lib.hid (HB2.out.trans (HB25.out.mono HW2.out))
            clear hr4 hown4 hg4
            refine (HFIN.out w4 A4 c4 HB4.out HR4.out).mono ?_
            rintro e w5 ⟨⟨LB, d, rfl, hr5, hd5⟩, hb5⟩
            have HB5 := Lib.hid ((HB4.out).trans (hb5.mono (by have := (HB4.out).size; have := HB.out; omega)))
            have hsa := (sameAll_c (c := lc) (d := d) w5 (HRD.out.stay (HB25.out.trans (hb5.mono HB25.out.size)) (fun b h => h.2)) hr5 (fun b h => Nat.lt_of_lt_of_le h.2 (Nat.le_trans HB25.out.size hb5.size)) (fun b h => h.2) (by omega) (by omega) hlc hd5)
            rw [show sameV (listV ls) (listV ls) = true from sameV_iff.2 rfl] at hsa
            have HSA := Lib.hid hsa
            clear hr5 hd5 hb5 hsa
            go_wp2_with fail
            refine HSA.out.mono ?_
            rintro e w6 ⟨rfl, hb6⟩
            have HB6 := Lib.hid (HB5.out.trans (hb6.mono (by have := HB5.out.size; have := HB.out; omega)))
            clear hb6
            go_wp2_with fail
            go_ret
            exact ⟨by first | rfl | simp, HB6.out⟩)
  · have f1 : ¬ (e0 : Int) = 33 := by omega
    have f2 : ¬ (e0 : Int) = 61 := by omega
    have f3 : ¬ (e0 : Int) = 42 := by omega
    clear hF
    go_wp2_with (go_at_call 10; refine (lnum7_c _ _).mono ?_; rintro e w' ⟨rfl, rfl⟩)
    go_ret
    exact ⟨by first | rfl | simp, HB2.out⟩
end Go.Proofs.YtpjllcengnolkaaGreatDoor

namespace Go.Proofs.YtpjllcengnolkaaGreatDoor
open Go.RowKit Go.Lib

set_option maxRecDepth 100000 in
set_option maxHeartbeats 4000000 in
theorem word25 : Word25 := fun S c A w hrd hS => by
  have hb0 : Below w.heap.size w (w.alloc (.cells #[.bool false, .slice A 1 c, .int .i64 (-1)] 31)) := (Below.refl _ _).alloc (Nat.le_refl _) _
  have hOf := Of_c (c := c) false (-1) (w.alloc (.cells #[.bool false, .slice A 1 c, .int .i64 (-1)] 31)) (hrd.below hb0 hS) (fun b h => by have := hS b h; simp; omega) (by decide)
  unfold dv nv at hOf
  rw [show val [25] = 25 from rfl] at hOf
  have HB0 := Lib.hid hb0
  have HOF := Lib.hid hOf
  clear hb0 hOf hrd hS
  go_enter Tryz.func16, Tryz.ntmps16
  go_wp2_with fail
  refine HOF.out.mono ?_
  rintro e w1 ⟨A1, n1, c1, ds, rfl, hr1, hd1, hv1, hn1, hb1⟩
  have hw1 := HB0.out.trans (hb1.mono (by simp))
  have hal : Below w1.heap.size w1 (w1.alloc (.cells #[.bool false, .slice A1 n1 c1, .int .i64 (-1)] 52)) := (Below.refl _ _).alloc (Nat.le_refl _) _
  have hw2 := hw1.trans (hal.mono hw1.size)
  have m2 := World.alloc_heap_new w1 (.cells #[.bool false, .slice A1 n1 c1, .int .i64 (-1)] 52)
  have r2 := hr1.rd.below hal (fun b h => h.2)
  have hWd := Word_c (c := c1) (w1.alloc (.cells #[.bool false, .slice A1 n1 c1, .int .i64 (-1)] 52)) r2 (fun b h => by have := h.2; simp; omega) hd1 (by omega)
  rw [hv1] at hWd
  have hlen := hr1.len
  have hn0 : n1 ≠ 0 := fun h => by
    have : ds = [] := List.eq_nil_of_length_eq_zero (by rw [hlen]; exact h)
    rw [this] at hv1
    exact absurd hv1 (by decide)
  have HWD := Lib.hid hWd
  have HM2 := Lib.hid m2
  have HW2 := Lib.hid hw2
  clear hWd m2 hw2 hw1 hal r2 hr1 hd1 hv1 hb1 hlen HOF
  have hn2 : ¬ (n1 : Int) = 0 := by omega
  have hn3 : ((n1 : Int) == 0) = false := by simpa using hn2
  go_wp2_with fail
  refine HWD.out.mono ?_
  rintro e w3 ⟨s, rfl, hs, hb3⟩
  have m3 := (hb3.block w1.heap.size (by simp)).trans HM2.out
  have q0 : w3.cell? ⟨w1.heap.size, 0, none⟩ = some (.bool false) := cell_at3 m3 rfl
  have q1 : w3.cell? ⟨w1.heap.size, 1, none⟩ = some (.slice A1 n1 c1) := cell_at3 m3 rfl
  have q2 : w3.cell? ⟨w1.heap.size, 2, none⟩ = some (.int .i64 (-1)) := cell_at3 m3 rfl
  have hse : s = ⟨#[50, 53]⟩ := octs_inj ((isDec_numO hs).trans (by kernel_rfl))
  subst hse
  have HW3 := Lib.hid (HW2.out.trans (hb3.mono HW2.out.size))
  clear hs hb3 m3 HWD HM2 HW2
  have e1 : (⟨#[50, 53]⟩ : ByteArray).extract 0 1 = ⟨#[50]⟩ := by kernel_rfl
  have e2 : (⟨#[50, 53]⟩ : ByteArray).extract 1 2 = ⟨#[53]⟩ := by kernel_rfl
  go_wp2_with fail
  go_quiet (fail)
  go_wp2_with fail
  go_ret
  exact ⟨by first | rfl | kernel_rfl, HW3.out.trans ⟨rfl, rfl, rfl, Nat.le_refl _, fun _ _ => rfl⟩⟩
end Go.Proofs.YtpjllcengnolkaaGreatDoor
