/-
  Contracts of nat.divide and nat.Div.
-/
import Derived.Test.YtecpapkffinlbaaDivl
import Derived.Test.YtecpapkffinlbaaHelp
import Derived.OwnWalk
set_option linter.unusedVariables false
set_option linter.unusedSimpArgs false
namespace Go.Proofs.Ytecpapkffinlbaa
open Go.RowKit

set_option maxRecDepth 100000 in
set_option maxHeartbeats 1000000 in
theorem divide_c {S S' : Nat → Prop} {n m c d : Nat} {A B : Option Addr} {xs ys : List Nat} (w : World) (ha : Rd w S A n xs) (hb : Rd w S' B m ys)
    (hS : ∀ b, S b → b < w.heap.size) (hS' : ∀ b, S' b → b < w.heap.size) (hn : n ≤ 1000000) (hm : 1 ≤ m) (hmb : m ≤ 1000000) (hcx : Can xs) (hcy : Can ys) :
    Calls Try.prog 17 #[.slice A n c, .slice B m d] w fun e w' => ∃ A1 n1 c1 qs A2 n2 c2 rs, e = .returned (.tuple #[.slice A1 n1 c1, .slice A2 n2 c2]) ∧
      Res w' w.heap.size A1 n1 c1 qs ∧ Res w' w.heap.size A2 n2 c2 rs ∧ Can qs ∧ Can rs ∧ val xs = val qs * val ys + val rs ∧ val rs < val ys ∧ Below w.heap.size w w' := by
  have hcv := cmp_val hcx hcy
  by_cases hlt : val xs < val ys
  · rw [if_pos hlt] at hcv
    have HC := Lib.hid hcv
    have HLT := Lib.hid hlt
    clear hcv hlt
    go_enter Try.func17, Try.ntmps17
    go_wp2_with fail
    refine (compare_c w ha hb (by omega) (by omega)).mono ?_
    rintro e W ⟨rfl, k, hk⟩
    rw [HC.out]
    have haW : Rd W S A n xs := by rw [hk]; exact ha.drewN k
    have hbW : Below w.heap.size w W := by rw [hk]; exact below_drewN (Below.refl _ _) k
    have hsz : W.heap.size = w.heap.size := by rw [hk]; rfl
    clear hk
    have HSZ := Lib.hid hsz
    clear hsz
    go_wp2_with fail
    refine (Clone_c W haW (fun b h => by rw [HSZ.out]; exact hS b h) (by omega)).mono ?_
    rintro e w1 ⟨A1, c1, rfl, hr1, hb1, _⟩
    go_wp2_with fail
    go_ret2
    exact ⟨none, 0, 0, [], A1, n, c1, xs, rfl, Res.nil _ _, hr1.more (by rw [HSZ.out]; exact Nat.le_refl _), Can.nil, hcx, by rw [val_nil]; omega, HLT.out, hbW.trans (hb1.mono (by rw [HSZ.out]; exact Nat.le_refl _))⟩
  · have hge : val ys ≤ val xs := by omega
    have hcn : ¬ cmp xs ys < 0 := by
      rw [hcv, if_neg hlt]; split <;> omega
    clear hcv
    by_cases hm1 : m = 1
    · subst hm1
      obtain ⟨y, rfl⟩ : ∃ y, ys = [y] := by
        have := hb.len
        match ys, this with
        | [y], _ => exact ⟨y, rfl⟩
      obtain ⟨b2, o2, rfl, hSb2, hct⟩ := hb.at_ (k := 0) (by omega)
      rw [nth_cons_zero, Nat.add_zero] at hct
      have hy1 : 1 ≤ y := by
        rcases hcy.2 with h | h
        · cases h
        · simp [nth] at h; omega
      have hy2 : y < 4294967296 := (L32.cons.1 hcy.1).1
      have hvy : val [y] = y := by rw [val_cons, val_nil]; omega
      have HVY := Lib.hid hvy
      clear hvy
      go_enter Try.func17, Try.ntmps17
      go_wp2_with fail
      refine (compare_c w ha hb (by omega) (by omega)).mono ?_
      rintro e W ⟨rfl, k, hk⟩
      have haW : Rd W S A n xs := by rw [hk]; exact ha.drewN k
      have hbW : Below w.heap.size w W := by rw [hk]; exact below_drewN (Below.refl _ _) k
      have hsz : W.heap.size = w.heap.size := by rw [hk]; rfl
      have hctW : W.cell? ⟨b2, o2, none⟩ = some (.int .u32 (y : Int)) := by rw [hk]; exact hct
      clear hk
      have HSZ := Lib.hid hsz
      clear hsz
      go_wp2_with fail
      go_region_with (first
        | (go_at_call 30; refine (Clone_c W.drew haW.drew (fun b h => by show b < W.heap.size; rw [HSZ.out]; exact hS b h) (by omega)).mono ?_; rintro e w1 ⟨A1, c1, rfl, hr1, hb1, hlt1⟩; have hct1 : w1.cell? ⟨b2, o2, none⟩ = some (.int .u32 (y : Int)) := (hb1.cell (p := ⟨b2, o2, none⟩) (by show b2 < W.heap.size; rw [HSZ.out]; exact hS' _ hSb2)).trans hctW)
        | (go_at_call 31; refine (reduce_c y w1 hr1 hy2 hy1 (by omega)).mono ?_; rintro e w2 ⟨n2, qs, r, rfl, hr2, hc2, hv2, hlt2, hle2, hg2⟩))
      all_goals
        go_wp2_with fail
        refine (From_c r w2 (by omega)).mono ?_
        rintro e w3 ⟨A3, n3, c3, rs, rfl, hr3, hc3, hv3, hb3⟩
        go_wp2_with fail
        go_ret2
        have hbw : Below W.heap.size W w1 := (show Below W.heap.size W W.drew from ⟨rfl, rfl, rfl, Nat.le_refl _, fun _ _ => rfl⟩).trans hb1
        have hg : Below W.heap.size W w2 := hbw.grown hg2 hbw.size (fun k hk => by
          rcases hr1.form with ⟨h, _⟩ | ⟨g, h, h2, _⟩
          · rw [h] at hk; simp [Value.ownBlock] at hk
          · rw [h] at hk; simp [Value.ownBlock] at hk; have h3 : W.heap.size ≤ g := h2; omega)
        have hr2' := (hr2.below hb3 (Nat.le_refl _)).more (base' := w.heap.size) (by show w.heap.size ≤ W.heap.size; rw [HSZ.out]; exact Nat.le_refl _)
        refine ⟨A1, n2, c1, qs, A3, n3, c3, rs, rfl, hr2', hr3.more (by have := hg.size; rw [HSZ.out] at this; exact this), hc2, hc3, by rw [hv3, HVY.out]; exact hv2, by rw [hv3, HVY.out]; exact hlt2, hbW.trans ((hg.trans (hb3.mono hg.size)).mono (by rw [HSZ.out]; exact Nat.le_refl _))⟩
    · obtain ⟨j, rfl⟩ : ∃ j, m = j + 2 := ⟨m - 2, by omega⟩
      have hjn : j + 2 ≤ n := by
        rcases Nat.lt_or_ge n (j + 2) with h | h
        · have := Can.lt_of_length (xs := xs) (ys := ys) hcx.1 hcy (by rw [ha.len, hb.len]; exact h)
          omega
        · exact h
      go_enter Try.func17, Try.ntmps17
      go_wp2_with fail
      refine (compare_c w ha hb (by omega) (by omega)).mono ?_
      rintro e W ⟨rfl, k, hk⟩
      have haW : Rd W S A n xs := by rw [hk]; exact ha.drewN k
      have hbrW : Rd W S' B (j + 2) ys := by rw [hk]; exact hb.drewN k
      have hbW : Below w.heap.size w W := by rw [hk]; exact below_drewN (Below.refl _ _) k
      have hsz : W.heap.size = w.heap.size := by rw [hk]; rfl
      clear hk
      have HSZ := Lib.hid hsz
      clear hsz
      go_wp2_with fail
      refine (divideLong_c W haW hbrW (fun b h => by rw [HSZ.out]; exact hS b h) (fun b h => by rw [HSZ.out]; exact hS' b h) hn hjn hcy).mono ?_
      rintro e w1 ⟨A1, n1, c1, qs, A2, n2, c2, rs, rfl, hr1, hr2, hc1, hc2, hv, hl, hb1⟩
      go_wp2_with fail
      go_ret2
      exact ⟨_, _, _, qs, _, _, _, rs, rfl, hr1.more (by rw [HSZ.out]; exact Nat.le_refl _), hr2.more (by rw [HSZ.out]; exact Nat.le_refl _), hc1, hc2, hv, hl, hbW.trans (hb1.mono (by rw [HSZ.out]; exact Nat.le_refl _))⟩

def divE (xs ys : List Nat) : Nat := if chk2 xs ys = 0 then (if ys.length = 0 then 53 else 0) else chk2 xs ys

set_option maxRecDepth 100000 in
theorem Div_c {S S' : Nat → Prop} {n m c d : Nat} {A B : Option Addr} {xs ys : List Nat} (w : World) (ha : Rd w S A n xs) (hb : Rd w S' B m ys)
    (hS : ∀ b, S b → b < w.heap.size) (hS' : ∀ b, S' b → b < w.heap.size) (hn : n ≤ 9223372036854775807) (hm : m ≤ 9223372036854775807) :
    Calls Try.prog 6 #[.slice A n c, .slice B m d] w fun e w' => ∃ A1 n1 c1 qs A2 n2 c2 rs, e = .returned (.tuple #[.slice A1 n1 c1, .slice A2 n2 c2, .int .i64 (divE xs ys : Int)]) ∧
      Res w' w.heap.size A1 n1 c1 qs ∧ Res w' w.heap.size A2 n2 c2 rs ∧ (divE xs ys ≠ 0 → n1 = 0 ∧ n2 = 0) ∧ (divE xs ys = 0 → Can qs ∧ Can rs ∧ val xs = val qs * val ys + val rs ∧ val rs < val ys) ∧ Below w.heap.size w w' := by
  have h1 := checkBoth_c (c := c) (d := d) w ha hb hn hm
  have e1 : (if chk xs = 0 then chk ys else chk xs) = chk2 xs ys := rfl
  rw [e1] at h1
  clear e1
  have H1 := Lib.hid h1
  clear h1
  by_cases h2 : chk2 xs ys = 0
  · obtain ⟨⟨cx, lx⟩, cy, ly⟩ := can_of_chk2 ha.l32 hb.l32 h2
    rw [ha.len] at lx
    rw [hb.len] at ly
    by_cases hm0 : m = 0
    · have hd : divE xs ys = 53 := by unfold divE; rw [if_pos h2, if_pos (by rw [hb.len]; exact hm0)]
      have HD := Lib.hid hd
      have H2 := Lib.hid h2
      clear hd h2
      have hm1 : m < 1 := by omega
      clear hm0
      go_enter Try.func6, Try.ntmps6
      go_wp2_with fail
      refine H1.out.mono ?_
      rintro e w1 ⟨rfl, rfl⟩
      rw [H2.out]
      go_wp2_with fail
      go_ret3
      exact ⟨none, 0, 0, [], none, 0, 0, [], by rw [HD.out]; rfl, Res.nil _ _, Res.nil _ _, fun _ => ⟨rfl, rfl⟩, fun h => by rw [HD.out] at h; omega, Below.refl _ _⟩
    · have hd : divE xs ys = 0 := by unfold divE; rw [if_pos h2, if_neg (by rw [hb.len]; exact hm0)]
      have HD := Lib.hid hd
      have H2 := Lib.hid h2
      clear hd h2
      have hm1 : 1 ≤ m := by omega
      clear hm0
      go_enter Try.func6, Try.ntmps6
      go_wp2_with fail
      refine H1.out.mono ?_
      rintro e w1 ⟨rfl, rfl⟩
      rw [H2.out]
      go_wp2_with fail
      refine (divide_c _ ha hb hS hS' (by omega) hm1 (by omega) cx cy).mono ?_
      rintro e w1 ⟨A1, n1, c1, qs, A2, n2, c2, rs, rfl, hr1, hr2, hc1, hc2, hv, hl, hb1⟩
      go_wp2_with fail
      go_ret3
      exact ⟨_, _, _, qs, _, _, _, rs, by rw [HD.out]; rfl, hr1, hr2, fun h => absurd HD.out h, fun _ => ⟨hc1, hc2, hv, hl⟩, hb1⟩
  · have hd : divE xs ys = chk2 xs ys := by unfold divE; rw [if_neg h2]
    have HD := Lib.hid hd
    have h3 : 1 ≤ chk2 xs ys := by omega
    clear hd h2
    go_enter Try.func6, Try.ntmps6
    go_wp2_with fail
    refine H1.out.mono ?_
    rintro e w1 ⟨rfl, rfl⟩
    go_wp2_with fail
    go_ret3
    exact ⟨none, 0, 0, [], none, 0, 0, [], by rw [HD.out]; rfl, Res.nil _ _, Res.nil _ _, fun _ => ⟨rfl, rfl⟩, fun h => by rw [HD.out] at h; omega, Below.refl _ _⟩
end Go.Proofs.Ytecpapkffinlbaa
