/-
  Contracts of the library's cmp.Compare and slices.Compare at this program: numbers, texts, rows of texts.
  Contract of value's compare: how two values that may be stand, as ordV tells of their trees.
  Contract of value's compare, by induction on the tree.
  Contract of value's Compare: the error of the first value that has one, else how they stand.
-/
import Derived.Test.YtklpfgjnlheikaaGreatDoorVchk
import Derived.Test.YtklpfgjnlheikaaGreatDoorVord
import Derived.Deep.Cut
import Derived.Deep.QuietTactic
import Derived.Test.YtklpfgjnlheikaaGreatDoorDtold
import Derived.Maps.OwnIn
set_option linter.unusedVariables false
set_option linter.unusedSimpArgs false
namespace Go.Proofs.YtklpfgjnlheikaaGreatDoor
open Go.RowKit

theorem cmpI_tri (x y : Int) : (x < y ∧ cmpI x y = -1) ∨ (x = y ∧ cmpI x y = 0) ∨ (y < x ∧ cmpI x y = 1) := by
  unfold cmpI; repeat' split
  all_goals omega
set_option maxRecDepth 100000 in
theorem cmpInt_c (x y : Int) (w : World) : Calls Tryz.prog 125 #[.int .i64 x, .int .i64 y] w fun e w' => e = .returned (.int .i64 (cmpI x y)) ∧ w = w' := by
  rcases cmpI_tri x y with ⟨h, e⟩ | ⟨h, e⟩ | ⟨h, e⟩
  · rw [e]
    clear e
    go_enter Tryz.func125, Tryz.ntmps125
    go_wp2
    go_ret
    exact ⟨rfl, rfl⟩
  · rw [e]
    clear e
    have h1 : ¬ x < y := by omega
    have h2 : ¬ y < x := by omega
    clear h
    go_enter Tryz.func125, Tryz.ntmps125
    go_wp2
    go_ret
    exact ⟨rfl, rfl⟩
  · rw [e]
    clear e
    have h1 : ¬ x < y := by omega
    go_enter Tryz.func125, Tryz.ntmps125
    go_wp2
    go_ret
    exact ⟨rfl, rfl⟩
set_option maxRecDepth 100000 in
theorem cmpStr_c (x y : ByteArray) (w : World) : Calls Tryz.prog 126 #[.string x, .string y] w fun e w' => e = .returned (.int .i64 (cmpB x y)) ∧ w = w' := by
  rcases cmpB_three x y with ⟨h, e⟩ | ⟨h, e⟩ | ⟨h, e⟩
  · rw [e]
    clear e
    have h1 : Go.Op.bytesLess x.toList y.toList = true := by rw [bytesLess_eq, decide_eq_true_eq]; exact h
    clear h
    go_enter Tryz.func126, Tryz.ntmps126
    go_wp2
    go_ret
    exact ⟨rfl, rfl⟩
  · rw [e]
    clear e
    have h1 : Go.Op.bytesLess x.toList y.toList = false := by rw [bytesLess_eq, decide_eq_false_iff_not, h]; exact List.lt_irrefl _
    have h2 : (x.toList == y.toList) = true := by rw [h]; exact beq_self_eq_true _
    clear h
    go_enter Tryz.func126, Tryz.ntmps126
    go_wp2
    go_ret
    exact ⟨rfl, rfl⟩
  · rw [e]
    clear e
    have h1 : Go.Op.bytesLess x.toList y.toList = false := by rw [bytesLess_eq, decide_eq_false_iff_not]; exact List.lt_asymm h
    have h2 : (x.toList == y.toList) = false := by rw [beq_eq_false_iff_ne]; intro e; rw [e] at h; exact List.lt_irrefl _ h
    clear h
    go_enter Tryz.func126, Tryz.ntmps126
    go_wp2
    go_ret
    exact ⟨rfl, rfl⟩

theorem lexC_stop {α : Type} (f : α → α → Int) {l m : List α} {a : α} {k : Nat} (hl : l[k]? = some a) (hm : m.length ≤ k) : lexC f (l.drop k) (m.drop k) = 1 := by
  obtain ⟨h, rfl⟩ := List.getElem?_eq_some_iff.1 hl
  rw [List.drop_eq_getElem_cons h, List.drop_of_length_le hm]
  rfl
theorem lexC_step {α : Type} (f : α → α → Int) {l m : List α} {a b : α} {k : Nat} (hl : l[k]? = some a) (hm : m[k]? = some b) : lexC f (l.drop k) (m.drop k) = if f a b = 0 then lexC f (l.drop (k + 1)) (m.drop (k + 1)) else f a b := by
  obtain ⟨h, rfl⟩ := List.getElem?_eq_some_iff.1 hl
  obtain ⟨h2, rfl⟩ := List.getElem?_eq_some_iff.1 hm
  rw [List.drop_eq_getElem_cons h, List.drop_eq_getElem_cons h2]
  rfl
theorem lexC_end {α : Type} (f : α → α → Int) {l m : List α} {k : Nat} (hl : l.length ≤ k) : lexC f (l.drop k) (m.drop k) = if k < m.length then -1 else 0 := by
  rw [List.drop_of_length_le hl]
  split
  · rename_i h; rw [List.drop_eq_getElem_cons h]; rfl
  · rename_i h; rw [List.drop_of_length_le (by omega)]; rfl

set_option maxRecDepth 100000 in
set_option maxHeartbeats 2000000 in
theorem lexT_c {S : Nat → Prop} {A B : Option Addr} {n m c d : Nat} {ks js : List ByteArray} (w : World) (ha : RdT w S A n ks) (hb : RdT w S B m js) (hn : n ≤ 140737488355328) (hm : m ≤ 140737488355328) :
    Calls Tryz.prog 127 #[.slice A n c, .slice B m d] w fun e w' => e = .returned (.int .i64 (lexC cmpB ks js)) ∧ ∃ q, w' = w.drewN q := by
  have HA := Lib.hid ha
  have HB := Lib.hid hb
  have hl1 := ha.1
  have hl2 := hb.1
  obtain ⟨R, hR⟩ : ∃ R, lexC cmpB ks js = R := ⟨_, rfl⟩
  rw [hR]
  have HR := Lib.hid hR
  clear ha hb hR
  have HL1 := Lib.hid hl1
  have HL2 := Lib.hid hl2
  clear hl1 hl2
  go_enter Tryz.func127, Tryz.ntmps127
  go_wp2_with fail
  go_loopw [11] (fun i wr => ∃ k q : Nat, k ≤ n ∧ i = .int .i64 (k : Int) ∧ Hid (lexC cmpB (ks.drop k) (js.drop k) = R) ∧ wr = w.drewN q) (fun i _ => n - (intOf i).toNat)
  case atStart => exact ⟨0, 0, Nat.zero_le _, rfl, HR.out, rfl⟩
  case round =>
    obtain ⟨k, q, hk, rfl, hlx, rfl⟩ := hrel
    by_cases hkn : k < n
    · obtain ⟨b1, o1, s1, rfl, _, hs1, hc1⟩ := HA.out.at_ hkn
      have hlt : (k : Int) < (n : Int) := by omega
      have hk0 : (0 : Int) ≤ (k : Int) := by omega
      have hkt : ((k : Int)).toNat = k := by omega
      have hkw : IntKind.i64.wrap ((k : Int) + 1) = (k : Int) + 1 := IntWalk.i64_in _ (by omega)
      have HS1 := Lib.hid hs1
      clear hs1
      by_cases hkm : k < m
      · obtain ⟨b2, o2, s2, rfl, _, hs2, hc2⟩ := HB.out.at_ hkm
        have hlm : ¬ (m : Int) ≤ (k : Int) := by omega
        have hlm2 : (k : Int) < (m : Int) := by omega
        have hstep := lexC_step cmpB HS1.out hs2
        rw [hlx.out] at hstep
        have HST := Lib.hid hstep
        have HC := cmpStr_c s1 s2 (w.drewN q)
        obtain ⟨z, hz⟩ : ∃ z, cmpB s1 s2 = z := ⟨_, rfl⟩
        rw [hz] at HC HST
        clear hz hs2 hstep hlx
        by_cases hz0 : z = 0
        · subst hz0
          have HR2 : Hid (lexC cmpB (ks.drop (k + 1)) (js.drop (k + 1)) = R) := by
            have := HST.out
            rw [if_pos rfl] at this
            exact this.symm
          clear HST
          go_wp2_with (go_at_call 126; refine HC.mono ?_; rintro e' w' ⟨rfl, rfl⟩)
          go_roundw
          case rel => exact ⟨k + 1, _, by omega, by go_num, HR2, by first | rfl | (simp only [World.drewN_drewN])⟩
          case measure => simp [intOf]; omega
        · have hz1 : (z == 0) = false := by rw [beq_eq_false_iff_ne]; exact hz0
          have HR2 : Hid (R = z) := by
            have := HST.out
            rw [if_neg hz0] at this
            exact this
          clear HST
          go_wp2_with (go_at_call 126; refine HC.mono ?_; rintro e' w' ⟨rfl, rfl⟩)
          go_ret
          refine ⟨?_, by first | exact ⟨_, rfl⟩ | (simp only [World.drewN_drewN]; exact ⟨_, rfl⟩)⟩
          rw [HR2.out]; rfl
      · have hlm : (m : Int) ≤ (k : Int) := by omega
        have HR2 : Hid (R = 1) := by
          show _ = _
          rw [← hlx.out, lexC_stop cmpB HS1.out (by have := HL2.out; omega)]
        clear hlx
        go_wp2_with fail
        go_ret
        refine ⟨?_, by first | exact ⟨_, rfl⟩ | (simp only [World.drewN_drewN]; exact ⟨_, rfl⟩)⟩
        rw [HR2.out]; rfl
    · have hge : ¬ (k : Int) < (n : Int) := by omega
      have hkn2 : k = n := by omega
      have HR2 : Hid (R = if n < m then -1 else 0) := by
        show _ = _
        rw [← hlx.out, lexC_end cmpB (by have := HL1.out; omega), HL2.out, hkn2]
      clear hlx hkn2
      by_cases hnm : n < m
      · have hnm2 : (n : Int) < (m : Int) := by omega
        rw [if_pos hnm] at HR2
        go_wp2_with fail
        go_ret
        refine ⟨?_, by first | exact ⟨_, rfl⟩ | (simp only [World.drewN_drewN]; exact ⟨_, rfl⟩)⟩
        rw [HR2.out]; rfl
      · have hnm2 : ¬ (n : Int) < (m : Int) := by omega
        rw [if_neg hnm] at HR2
        go_wp2_with fail
        go_ret
        refine ⟨?_, by first | exact ⟨_, rfl⟩ | (simp only [World.drewN_drewN]; exact ⟨_, rfl⟩)⟩
        rw [HR2.out]; rfl
end Go.Proofs.YtklpfgjnlheikaaGreatDoor

namespace Go.Proofs.YtklpfgjnlheikaaGreatDoor
open Go.RowKit Go.Lib

/-- compare answers of x and any other tree as ordV does. -/
def Cmps (x : VT) : Prop := ∀ (y : VT) (S : Nat → Prop) (cs ds : List Value) (w : World), fine x → fine y → VIn w S x cs → VIn w S y ds → (∀ b, S b → b < w.heap.size) →
  Calls Tryz.prog 83 #[.agg cs.toArray, .agg ds.toArray] w fun e w' => e = .returned (.int .i64 (ordV x y)) ∧ Below w.heap.size w w'

set_option maxRecDepth 100000 in
set_option maxHeartbeats 2000000 in
theorem lexV_c {S : Nat → Prop} {A B : Option Addr} {n m c d : Nat} {l r : List VT} (w : World) (ha : RdL w S A n l) (hb : RdL w S B m r) (hS : ∀ b, S b → b < w.heap.size) (hl : ∀ x ∈ l, Cmps x ∧ fine x) (hr : ∀ x ∈ r, fine x) :
    Calls Tryz.prog 128 #[.slice A n c, .slice B m d, .func (.func 83) #[] #[]] w fun e w' => e = .returned (.int .i64 (ordL l r)) ∧ Below w.heap.size w w' := by
  have HA := Lib.hid ha
  have HB := Lib.hid hb
  have HL1 := Lib.hid ha.1
  have HL2 := Lib.hid hb.1
  have hn := ha.2.1
  have hm := hb.2.1
  have HHS := Lib.hid hS
  have HHL := Lib.hid hl
  have HHR := Lib.hid hr
  obtain ⟨R, hR⟩ : ∃ R, ordL l r = R := ⟨_, rfl⟩
  rw [hR]
  rw [ordL_lex] at hR
  have HR := Lib.hid hR
  clear ha hb hR hS hl hr
  go_enter Tryz.func128, Tryz.ntmps128
  go_wp2_with fail
  go_loopw [13] (fun i wr => ∃ k : Nat, k ≤ n ∧ i = .int .i64 (k : Int) ∧ Hid (lexC ordV (l.drop k) (r.drop k) = R) ∧ Below w.heap.size w wr) (fun i _ => n - (RowKit.intOf i).toNat)
  case atStart => exact ⟨0, Nat.zero_le _, rfl, HR.out, Below.refl _ _⟩
  case round =>
    obtain ⟨k, hk, rfl, hlx, hbel⟩ := hrel
    have HBEL := Lib.hid hbel
    have HLX := Lib.hid hlx.out
    clear hbel hlx
    by_cases hkn : k < n
    · obtain ⟨b1, o1, x, cs, rfl, hSb1, hx, hcl, hcc, hvx⟩ := HA.out.at_ hkn
      have hlt : (k : Int) < (n : Int) := by omega
      have hk0 : (0 : Int) ≤ (k : Int) := by omega
      have hkt : ((k : Int)).toNat = k := by omega
      have hkw : IntKind.i64.wrap ((k : Int) + 1) = (k : Int) + 1 := IntWalk.i64_in _ (by omega)
      obtain ⟨k2, neg2, xs2, e2, t2, li2, ks2, hx2⟩ : ∃ k2 neg2 xs2 e2 t2 li2 ks2, x = VT.mk k2 neg2 xs2 e2 t2 li2 ks2 := by cases x; exact ⟨_, _, _, _, _, _, _, rfl⟩
      have hvx2 := hvx
      rw [hx2] at hvx2
      obtain ⟨A2, n2, c2, LA2, ln2, lc2, KA2, kn2, kc2, rfl, -⟩ := hvx2.parts
      have hcw : ∀ j, j < 7 → wr.cell? ⟨b1, o1 + (k * 7 + j), none⟩ = _ := fun j hj => (HBEL.out.cell (p := ⟨b1, o1 + (k * 7 + j), none⟩) (HHS.out _ hSb1)).trans (hcc j hj)
      have d0 : wr.cell? ⟨b1, o1 + k * 7, none⟩ = some (.int .i64 k2) := hcw 0 (by omega)
      have d1 : wr.cell? ⟨b1, o1 + k * 7 + 1, none⟩ = some (.bool neg2) := hcw 1 (by omega)
      have d2 : wr.cell? ⟨b1, o1 + k * 7 + 2, none⟩ = some (.slice A2 n2 c2) := hcw 2 (by omega)
      have d3 : wr.cell? ⟨b1, o1 + k * 7 + 3, none⟩ = some (.int .i64 e2) := hcw 3 (by omega)
      have d4 : wr.cell? ⟨b1, o1 + k * 7 + 4, none⟩ = some (.string t2) := hcw 4 (by omega)
      have d5 : wr.cell? ⟨b1, o1 + k * 7 + 5, none⟩ = some (.slice LA2 ln2 lc2) := hcw 5 (by omega)
      have d6 : wr.cell? ⟨b1, o1 + k * 7 + 6, none⟩ = some (.slice KA2 kn2 kc2) := hcw 6 (by omega)
      have HX := Lib.hid hx
      have HVX := Lib.hid hvx
      clear hcw hcc hvx2 hx hvx hx2 hcl
      by_cases hkm : k < m
      · have hlm : ¬ (m : Int) ≤ (k : Int) := by omega
        have hlm2 : (k : Int) < (m : Int) := by omega
        obtain ⟨b2, o2, y, ds, rfl, hSb2, hy, hcl, hcc, hvy⟩ := HB.out.at_ hkm
        obtain ⟨k3, neg3, xs3, e3, t3, li3, ks3, hy2⟩ : ∃ k3 neg3 xs3 e3 t3 li3 ks3, y = VT.mk k3 neg3 xs3 e3 t3 li3 ks3 := by cases y; exact ⟨_, _, _, _, _, _, _, rfl⟩
        have hvy2 := hvy
        rw [hy2] at hvy2
        obtain ⟨A3, n3, c3, LA3, ln3, lc3, KA3, kn3, kc3, rfl, -⟩ := hvy2.parts
        go_upto_region 6 with fail
        have hW1 : Below wr.heap.size wr (wr.alloc (.cells #[.int .i64 k2, .bool neg2, .slice A2 n2 c2, .int .i64 e2, .string t2, .slice LA2 ln2 lc2, .slice KA2 kn2 kc2] 53)) := (Below.refl _ wr).alloc (Nat.le_refl _) _
        have hm1 := World.alloc_heap_new wr (.cells #[.int .i64 k2, .bool neg2, .slice A2 n2 c2, .int .i64 e2, .string t2, .slice LA2 ln2 lc2, .slice KA2 kn2 kc2] 53)
        have hz1 : (wr.alloc (.cells #[.int .i64 k2, .bool neg2, .slice A2 n2 c2, .int .i64 e2, .string t2, .slice LA2 ln2 lc2, .slice KA2 kn2 kc2] 53)).heap.size = wr.heap.size + 1 := by simp
        generalize (wr.alloc (.cells #[.int .i64 k2, .bool neg2, .slice A2 n2 c2, .int .i64 e2, .string t2, .slice LA2 ln2 lc2, .slice KA2 kn2 kc2] 53)) = W1 at *
        have hwW1 := HBEL.out.trans (hW1.mono HBEL.out.size)
        have hcw : ∀ j, j < 7 → W1.cell? ⟨b2, o2 + (k * 7 + j), none⟩ = _ := fun j hj => (hwW1.cell (p := ⟨b2, o2 + (k * 7 + j), none⟩) (HHS.out _ hSb2)).trans (hcc j hj)
        have g0 : W1.cell? ⟨b2, o2 + k * 7, none⟩ = some (.int .i64 k3) := hcw 0 (by omega)
        have g1 : W1.cell? ⟨b2, o2 + k * 7 + 1, none⟩ = some (.bool neg3) := hcw 1 (by omega)
        have g2 : W1.cell? ⟨b2, o2 + k * 7 + 2, none⟩ = some (.slice A3 n3 c3) := hcw 2 (by omega)
        have g3 : W1.cell? ⟨b2, o2 + k * 7 + 3, none⟩ = some (.int .i64 e3) := hcw 3 (by omega)
        have g4 : W1.cell? ⟨b2, o2 + k * 7 + 4, none⟩ = some (.string t3) := hcw 4 (by omega)
        have g5 : W1.cell? ⟨b2, o2 + k * 7 + 5, none⟩ = some (.slice LA3 ln3 lc3) := hcw 5 (by omega)
        have g6 : W1.cell? ⟨b2, o2 + k * 7 + 6, none⟩ = some (.slice KA3 kn3 kc3) := hcw 6 (by omega)
        clear d0 d1 d2 d3 d4 d5 d6 hcw hcc hcl
        go_upto_region 7 with fail
        have hW2 : Below W1.heap.size W1 (W1.alloc (.cells #[.int .i64 k3, .bool neg3, .slice A3 n3 c3, .int .i64 e3, .string t3, .slice LA3 ln3 lc3, .slice KA3 kn3 kc3] 53)) := (Below.refl _ W1).alloc (Nat.le_refl _) _
        have hm2 := World.alloc_heap_new W1 (.cells #[.int .i64 k3, .bool neg3, .slice A3 n3 c3, .int .i64 e3, .string t3, .slice LA3 ln3 lc3, .slice KA3 kn3 kc3] 53)
        have hz2 : (W1.alloc (.cells #[.int .i64 k3, .bool neg3, .slice A3 n3 c3, .int .i64 e3, .string t3, .slice LA3 ln3 lc3, .slice KA3 kn3 kc3] 53)).heap.size = W1.heap.size + 1 := by simp
        generalize (W1.alloc (.cells #[.int .i64 k3, .bool neg3, .slice A3 n3 c3, .int .i64 e3, .string t3, .slice LA3 ln3 lc3, .slice KA3 kn3 kc3] 53)) = W2 at *
        have hm12 := (hW2.block _ (by omega)).trans hm1
        have hwW2 := hwW1.trans (hW2.mono hwW1.size)
        clear g0 g1 g2 g3 g4 g5 g6 hm1
        obtain ⟨x0, x1, x2, x3, x4, x5, x6⟩ := box7_of hm12
        rw [hz1] at hm2
        obtain ⟨y0, y1, y2, y3, y4, y5, y6⟩ := box7_of hm2
        have hxm := List.mem_of_getElem? HX.out
        have HC := (HHL.out x hxm).1 y S _ _ W2 (HHL.out x hxm).2 (HHR.out y (List.mem_of_getElem? hy)) (HVX.out.keep fun p hp => hwW2.cell (HHS.out _ hp)) (hvy.keep fun p hp => hwW2.cell (HHS.out _ hp)) (fun b hb => Nat.lt_of_lt_of_le (HHS.out b hb) hwW2.size)
        obtain ⟨z, hz⟩ : ∃ z, ordV x y = z := ⟨_, rfl⟩
        have hstep := lexC_step ordV HX.out hy
        rw [HLX.out, hz] at hstep
        rw [hz] at HC
        have HST := Lib.hid hstep
        have HWW2 := Lib.hid hwW2
        clear hz hstep hy hvy hvy2 hy2 hW1 hW2 hwW1 hwW2 hm2 hm12
        by_cases hz0 : z = 0
        · subst hz0
          have HR2 : Hid (lexC ordV (l.drop (k + 1)) (r.drop (k + 1)) = R) := by
            have := HST.out
            rw [if_pos rfl] at this
            exact this.symm
          clear HST
          go_wp2_with fail
          refine HC.mono ?_
          rintro e' W3 ⟨rfl, hb3⟩
          have hb4 := HWW2.out.trans (hb3.mono HWW2.out.size)
          clear HC hb3 x0 x1 x2 x3 x4 x5 x6 y0 y1 y2 y3 y4 y5 y6
          go_wp2_with fail
          go_roundw
          case rel => exact ⟨k + 1, by omega, by go_num, HR2, hb4⟩
          case measure => simp [RowKit.intOf]; omega
        · have hz1' : (z == 0) = false := by rw [beq_eq_false_iff_ne]; exact hz0
          have HR2 : Hid (R = z) := by
            have := HST.out
            rw [if_neg hz0] at this
            exact this
          clear HST
          go_wp2_with fail
          refine HC.mono ?_
          rintro e' W3 ⟨rfl, hb3⟩
          have hb4 := HWW2.out.trans (hb3.mono HWW2.out.size)
          clear HC hb3 x0 x1 x2 x3 x4 x5 x6 y0 y1 y2 y3 y4 y5 y6
          go_wp2_with fail
          go_ret
          refine ⟨?_, hb4⟩
          rw [HR2.out]; rfl
      · have hlm : (m : Int) ≤ (k : Int) := by omega
        have HR2 : Hid (R = 1) := by
          show _ = _
          rw [← HLX.out, lexC_stop ordV HX.out (by have := HL2.out; omega)]
        go_wp2_with fail
        go_ret
        refine ⟨?_, HBEL.out.alloc HBEL.out.size _⟩
        rw [HR2.out]; rfl
    · have hge : ¬ (k : Int) < (n : Int) := by omega
      have hkn2 : k = n := by omega
      have HR2 : Hid (R = if n < m then -1 else 0) := by
        show _ = _
        rw [← HLX.out, lexC_end ordV (by have := HL1.out; omega), HL2.out, hkn2]
      clear hkn2
      by_cases hnm : n < m
      · have hnm2 : (n : Int) < (m : Int) := by omega
        rw [if_pos hnm] at HR2
        go_wp2_with fail
        go_ret
        refine ⟨?_, HBEL.out⟩
        rw [HR2.out]; rfl
      · have hnm2 : ¬ (n : Int) < (m : Int) := by omega
        rw [if_neg hnm] at HR2
        go_wp2_with fail
        go_ret
        refine ⟨?_, HBEL.out⟩
        rw [HR2.out]; rfl
end Go.Proofs.YtklpfgjnlheikaaGreatDoor

namespace Go.Proofs.YtklpfgjnlheikaaGreatDoor
open Go.RowKit Go.Lib

theorem size_list {k : Int} {n : Bool} {x : List Nat} {e : Int} {t : ByteArray} {l : List VT} {ks : List ByteArray} {y : VT} (h : y ∈ l) : SizeOf.sizeOf y < SizeOf.sizeOf (VT.mk k n x e t l ks) := by
  have := List.sizeOf_lt_of_mem h
  simp
  omega
theorem fine_list {k : Int} {n : Bool} {x : List Nat} {e : Int} {t : ByteArray} {l : List VT} {ks : List ByteArray} (h : fine (.mk k n x e t l ks)) {y : VT} (hy : y ∈ l) : fine y := by
  obtain ⟨ha, _⟩ := fine_self h
  obtain ⟨_, _, hf⟩ := alone_fit ha
  by_cases hh : hold k = true
  · exact fine_in h (by rw [inner_mk, if_pos hh]; exact hy)
  · exfalso
    have h3 : ¬ k = 5 := fun e => hh (by rw [e]; rfl)
    have h4 : ¬ k = 6 := fun e => hh (by rw [e]; rfl)
    have hl : l.length = 0 := by
      rw [fitV_mk] at hf
      repeat' split at hf
      all_goals (simp only [Bool.and_eq_true, decide_eq_true_eq] at hf; omega)
    rw [List.eq_nil_of_length_eq_zero hl] at hy
    simp at hy
theorem fine_num {k : Int} {n : Bool} {x : List Nat} {e : Int} {t : ByteArray} {l : List VT} {ks : List ByteArray} (h : fine (.mk k n x e t l ks)) (hk : k = 3) : okB n x e = true := by
  obtain ⟨ha, _⟩ := fine_self h
  obtain ⟨_, _, hf⟩ := alone_fit ha
  rw [fitV_mk, if_pos hk] at hf
  simp only [Bool.and_eq_true] at hf
  exact hf.1

set_option maxRecDepth 100000 in
set_option maxHeartbeats 4000000 in
theorem compare_n : ∀ (N : Nat) (x : VT), SizeOf.sizeOf x < N → Cmps x := by
  intro N
  induction N with
  | zero => intro x h; exact absurd h (Nat.not_lt_zero _)
  | succ N ih =>
    intro x hN y S cs ds w hfx hfy hvx hvy hS
    obtain ⟨k1, n1, u1, e1, t1, l1, ks1⟩ := x
    obtain ⟨k2, n2, u2, e2, t2, l2, ks2⟩ := y
    obtain ⟨A1, m1, c1, LA1, lm1, lc1, KA1, km1, kc1, rfl, a1, a2, a3, a4, a5, a6, a7⟩ := hvx.parts
    obtain ⟨A2, m2, c2, LA2, lm2, lc2, KA2, km2, kc2, rfl, b1, b2, b3, b4, b5, b6, b7⟩ := hvy.parts
    have hli : ∀ z ∈ l1, Cmps z ∧ fine z := fun z hz => ⟨ih z (by have := size_list (k := k1) (n := n1) (x := u1) (e := e1) (t := t1) (ks := ks1) hz; omega), fine_list hfx hz⟩
    have hlj : ∀ z ∈ l2, fine z := fun z hz => fine_list hfy hz
    have hnx := fine_num hfx
    have hny := fine_num hfy
    obtain ⟨R, hR⟩ : ∃ R, ordV (.mk k1 n1 u1 e1 t1 l1 ks1) (.mk k2 n2 u2 e2 t2 l2 ks2) = R := ⟨_, rfl⟩
    rw [hR]
    unfold ordV at hR
    have HLI := Lib.hid hli
    have HLJ := Lib.hid hlj
    have HNX := Lib.hid hnx
    have HNY := Lib.hid hny
    have HHS := Lib.hid hS
    clear ih hN hfx hfy hvx hvy hli hlj hnx hny hS
    by_cases hk : k1 = k2
    · subst hk
      rw [if_pos rfl] at hR
      have HC := fun V => cmpInt_c k1 k1 V
      rw [show cmpI k1 k1 = 0 from cmpI_eq.2 rfl] at HC
      by_cases h3 : k1 = 3
      · subst h3
        rw [if_pos rfl] at hR
        have HR := Lib.hid hR
        clear hR
        have hW : Below w.heap.size w ((w.alloc (.cells #[.int .i64 3, .bool n1, .slice A1 m1 c1, .int .i64 e1, .string t1, .slice LA1 lm1 lc1, .slice KA1 km1 kc1] 53)).alloc (.cells #[.int .i64 3, .bool n2, .slice A2 m2 c2, .int .i64 e2, .string t2, .slice LA2 lm2 lc2, .slice KA2 km2 kc2] 53)) := ((Below.refl _ w).alloc (Nat.le_refl _) _).alloc (by simp) _
        have hm1 : ((w.alloc (.cells #[.int .i64 3, .bool n1, .slice A1 m1 c1, .int .i64 e1, .string t1, .slice LA1 lm1 lc1, .slice KA1 km1 kc1] 53)).alloc (.cells #[.int .i64 3, .bool n2, .slice A2 m2 c2, .int .i64 e2, .string t2, .slice LA2 lm2 lc2, .slice KA2 km2 kc2] 53)).heap[w.heap.size]? = some (.cells #[.int .i64 3, .bool n1, .slice A1 m1 c1, .int .i64 e1, .string t1, .slice LA1 lm1 lc1, .slice KA1 km1 kc1] 53) := (Below.heap_alloc _ _ _ (by simp)).trans (World.alloc_heap_new w _)
        have hm2 : ((w.alloc (.cells #[.int .i64 3, .bool n1, .slice A1 m1 c1, .int .i64 e1, .string t1, .slice LA1 lm1 lc1, .slice KA1 km1 kc1] 53)).alloc (.cells #[.int .i64 3, .bool n2, .slice A2 m2 c2, .int .i64 e2, .string t2, .slice LA2 lm2 lc2, .slice KA2 km2 kc2] 53)).heap[w.heap.size + 1]? = some (.cells #[.int .i64 3, .bool n2, .slice A2 m2 c2, .int .i64 e2, .string t2, .slice LA2 lm2 lc2, .slice KA2 km2 kc2] 53) := by
          have := World.alloc_heap_new (w.alloc (.cells #[.int .i64 3, .bool n1, .slice A1 m1 c1, .int .i64 e1, .string t1, .slice LA1 lm1 lc1, .slice KA1 km1 kc1] 53)) (.cells #[.int .i64 3, .bool n2, .slice A2 m2 c2, .int .i64 e2, .string t2, .slice LA2 lm2 lc2, .slice KA2 km2 kc2] 53)
          rwa [World.size_alloc] at this
        have hz : ((w.alloc (.cells #[.int .i64 3, .bool n1, .slice A1 m1 c1, .int .i64 e1, .string t1, .slice LA1 lm1 lc1, .slice KA1 km1 kc1] 53)).alloc (.cells #[.int .i64 3, .bool n2, .slice A2 m2 c2, .int .i64 e2, .string t2, .slice LA2 lm2 lc2, .slice KA2 km2 kc2] 53)).heap.size = w.heap.size + 2 := by simp
        go_enter Tryz.func83, Tryz.ntmps83
        go_upto_region 1 with fail
        generalize ((w.alloc (.cells #[.int .i64 3, .bool n1, .slice A1 m1 c1, .int .i64 e1, .string t1, .slice LA1 lm1 lc1, .slice KA1 km1 kc1] 53)).alloc (.cells #[.int .i64 3, .bool n2, .slice A2 m2 c2, .int .i64 e2, .string t2, .slice LA2 lm2 lc2, .slice KA2 km2 kc2] 53)) = W1 at *
        obtain ⟨x0, x1, x2, x3, x4, x5, x6⟩ := box7_of hm1
        obtain ⟨y0, y1, y2, y3, y4, y5, y6⟩ := box7_of hm2
        have HD := DCompare_v (c := c1) (d := c2) n1 n2 e1 e2 W1 (a1.below hW HHS.out) (b1.below hW HHS.out) (fun b hb => by have := HHS.out b hb; omega) (by omega) (by omega)
        have hok : okE2 n1 u1 e1 n2 u2 e2 = 0 := okE2_zero.2 ⟨HNX.out rfl, HNY.out rfl⟩
        rw [hok] at HD
        unfold cmpV at HD
        rw [if_pos hok, HR.out] at HD
        unfold dv at HD
        clear hok
        go_wp2_with (first | (go_at_call 125; refine (HC _).mono ?_; rintro e' w' ⟨rfl, rfl⟩) | (go_at_call 13; refine HD.mono ?_; rintro e' w3 ⟨rfl, hb3⟩))
        go_ret
        exact ⟨rfl, hW.trans (hb3.mono hW.size)⟩
      · rw [if_neg h3] at hR
        have b3' : (k1 == 3) = false := by rw [beq_eq_false_iff_ne]; exact h3
        by_cases h4 : k1 = 4
        · subst h4
          rw [if_pos rfl] at hR
          have HR := Lib.hid hR
          clear hR
          have hW : Below w.heap.size w ((w.alloc (.cells #[.int .i64 4, .bool n1, .slice A1 m1 c1, .int .i64 e1, .string t1, .slice LA1 lm1 lc1, .slice KA1 km1 kc1] 53)).alloc (.cells #[.int .i64 4, .bool n2, .slice A2 m2 c2, .int .i64 e2, .string t2, .slice LA2 lm2 lc2, .slice KA2 km2 kc2] 53)) := ((Below.refl _ w).alloc (Nat.le_refl _) _).alloc (by simp) _
          have hm1 : ((w.alloc (.cells #[.int .i64 4, .bool n1, .slice A1 m1 c1, .int .i64 e1, .string t1, .slice LA1 lm1 lc1, .slice KA1 km1 kc1] 53)).alloc (.cells #[.int .i64 4, .bool n2, .slice A2 m2 c2, .int .i64 e2, .string t2, .slice LA2 lm2 lc2, .slice KA2 km2 kc2] 53)).heap[w.heap.size]? = some (.cells #[.int .i64 4, .bool n1, .slice A1 m1 c1, .int .i64 e1, .string t1, .slice LA1 lm1 lc1, .slice KA1 km1 kc1] 53) := (Below.heap_alloc _ _ _ (by simp)).trans (World.alloc_heap_new w _)
          have hm2 : ((w.alloc (.cells #[.int .i64 4, .bool n1, .slice A1 m1 c1, .int .i64 e1, .string t1, .slice LA1 lm1 lc1, .slice KA1 km1 kc1] 53)).alloc (.cells #[.int .i64 4, .bool n2, .slice A2 m2 c2, .int .i64 e2, .string t2, .slice LA2 lm2 lc2, .slice KA2 km2 kc2] 53)).heap[w.heap.size + 1]? = some (.cells #[.int .i64 4, .bool n2, .slice A2 m2 c2, .int .i64 e2, .string t2, .slice LA2 lm2 lc2, .slice KA2 km2 kc2] 53) := by
            have := World.alloc_heap_new (w.alloc (.cells #[.int .i64 4, .bool n1, .slice A1 m1 c1, .int .i64 e1, .string t1, .slice LA1 lm1 lc1, .slice KA1 km1 kc1] 53)) (.cells #[.int .i64 4, .bool n2, .slice A2 m2 c2, .int .i64 e2, .string t2, .slice LA2 lm2 lc2, .slice KA2 km2 kc2] 53)
            rwa [World.size_alloc] at this
          have hz : ((w.alloc (.cells #[.int .i64 4, .bool n1, .slice A1 m1 c1, .int .i64 e1, .string t1, .slice LA1 lm1 lc1, .slice KA1 km1 kc1] 53)).alloc (.cells #[.int .i64 4, .bool n2, .slice A2 m2 c2, .int .i64 e2, .string t2, .slice LA2 lm2 lc2, .slice KA2 km2 kc2] 53)).heap.size = w.heap.size + 2 := by simp
          go_enter Tryz.func83, Tryz.ntmps83
          go_upto_region 1 with fail
          generalize ((w.alloc (.cells #[.int .i64 4, .bool n1, .slice A1 m1 c1, .int .i64 e1, .string t1, .slice LA1 lm1 lc1, .slice KA1 km1 kc1] 53)).alloc (.cells #[.int .i64 4, .bool n2, .slice A2 m2 c2, .int .i64 e2, .string t2, .slice LA2 lm2 lc2, .slice KA2 km2 kc2] 53)) = W1 at *
          obtain ⟨x0, x1, x2, x3, x4, x5, x6⟩ := box7_of hm1
          obtain ⟨y0, y1, y2, y3, y4, y5, y6⟩ := box7_of hm2
          have HD := fun V => cmpStr_c t1 t2 V
          rw [HR.out] at HD
          go_wp2_with (first | (go_at_call 125; refine (HC _).mono ?_; rintro e' w' ⟨rfl, rfl⟩) | (go_at_call 126; refine (HD _).mono ?_; rintro e' w3 ⟨rfl, rfl⟩))
          go_ret
          exact ⟨rfl, hW⟩
        · rw [if_neg h4] at hR
          have b4' : (k1 == 4) = false := by rw [beq_eq_false_iff_ne]; exact h4
          have hW : Below w.heap.size w ((w.alloc (.cells #[.int .i64 k1, .bool n1, .slice A1 m1 c1, .int .i64 e1, .string t1, .slice LA1 lm1 lc1, .slice KA1 km1 kc1] 53)).alloc (.cells #[.int .i64 k1, .bool n2, .slice A2 m2 c2, .int .i64 e2, .string t2, .slice LA2 lm2 lc2, .slice KA2 km2 kc2] 53)) := ((Below.refl _ w).alloc (Nat.le_refl _) _).alloc (by simp) _
          have hm1 : ((w.alloc (.cells #[.int .i64 k1, .bool n1, .slice A1 m1 c1, .int .i64 e1, .string t1, .slice LA1 lm1 lc1, .slice KA1 km1 kc1] 53)).alloc (.cells #[.int .i64 k1, .bool n2, .slice A2 m2 c2, .int .i64 e2, .string t2, .slice LA2 lm2 lc2, .slice KA2 km2 kc2] 53)).heap[w.heap.size]? = some (.cells #[.int .i64 k1, .bool n1, .slice A1 m1 c1, .int .i64 e1, .string t1, .slice LA1 lm1 lc1, .slice KA1 km1 kc1] 53) := (Below.heap_alloc _ _ _ (by simp)).trans (World.alloc_heap_new w _)
          have hm2 : ((w.alloc (.cells #[.int .i64 k1, .bool n1, .slice A1 m1 c1, .int .i64 e1, .string t1, .slice LA1 lm1 lc1, .slice KA1 km1 kc1] 53)).alloc (.cells #[.int .i64 k1, .bool n2, .slice A2 m2 c2, .int .i64 e2, .string t2, .slice LA2 lm2 lc2, .slice KA2 km2 kc2] 53)).heap[w.heap.size + 1]? = some (.cells #[.int .i64 k1, .bool n2, .slice A2 m2 c2, .int .i64 e2, .string t2, .slice LA2 lm2 lc2, .slice KA2 km2 kc2] 53) := by
            have := World.alloc_heap_new (w.alloc (.cells #[.int .i64 k1, .bool n1, .slice A1 m1 c1, .int .i64 e1, .string t1, .slice LA1 lm1 lc1, .slice KA1 km1 kc1] 53)) (.cells #[.int .i64 k1, .bool n2, .slice A2 m2 c2, .int .i64 e2, .string t2, .slice LA2 lm2 lc2, .slice KA2 km2 kc2] 53)
            rwa [World.size_alloc] at this
          have hz : ((w.alloc (.cells #[.int .i64 k1, .bool n1, .slice A1 m1 c1, .int .i64 e1, .string t1, .slice LA1 lm1 lc1, .slice KA1 km1 kc1] 53)).alloc (.cells #[.int .i64 k1, .bool n2, .slice A2 m2 c2, .int .i64 e2, .string t2, .slice LA2 lm2 lc2, .slice KA2 km2 kc2] 53)).heap.size = w.heap.size + 2 := by simp
          go_enter Tryz.func83, Tryz.ntmps83
          go_upto_region 1 with fail
          generalize ((w.alloc (.cells #[.int .i64 k1, .bool n1, .slice A1 m1 c1, .int .i64 e1, .string t1, .slice LA1 lm1 lc1, .slice KA1 km1 kc1] 53)).alloc (.cells #[.int .i64 k1, .bool n2, .slice A2 m2 c2, .int .i64 e2, .string t2, .slice LA2 lm2 lc2, .slice KA2 km2 kc2] 53)) = W1 at *
          obtain ⟨x0, x1, x2, x3, x4, x5, x6⟩ := box7_of hm1
          obtain ⟨y0, y1, y2, y3, y4, y5, y6⟩ := box7_of hm2
          have HD := lexT_c (c := kc1) (d := kc2) W1 (a5.stay hW HHS.out) (b5.stay hW HHS.out) (by omega) (by omega)
          obtain ⟨z, hzz⟩ : ∃ z, lexC cmpB ks1 ks2 = z := ⟨_, rfl⟩
          rw [hzz] at HD hR
          clear hzz
          have HR := Lib.hid hR
          clear hR
          by_cases hz0 : z = 0
          · subst hz0
            have HR2 : Hid (ordL l1 l2 = R) := by
              have := HR.out
              rw [if_pos rfl] at this
              exact this
            go_wp2_with (go_at_call 125; refine (HC _).mono ?_; rintro e' w' ⟨rfl, rfl⟩)
            refine HD.mono ?_
            rintro e' w3 ⟨rfl, q, hq⟩
            have hb3 : Below W1.heap.size W1 w3 := by rw [hq]; exact below_drewN (Below.refl _ _) _
            have g1 := (hb3.block _ (by omega)).trans hm1
            have g2 := (hb3.block _ (by omega)).trans hm2
            clear x0 x1 x2 x3 x4 x5 x6 y0 y1 y2 y3 y4 y5 y6 hq hm1 hm2
            obtain ⟨x0, x1, x2, x3, x4, x5, x6⟩ := box7_of g1
            obtain ⟨y0, y1, y2, y3, y4, y5, y6⟩ := box7_of g2
            go_wp2_with fail
            have hw3 := hW.trans (hb3.mono hW.size)
            have HL := lexV_c (c := lc1) (d := lc2) w3 (a4.stay hw3 HHS.out) (b4.stay hw3 HHS.out) (fun b hb => Nat.lt_of_lt_of_le (HHS.out b hb) hw3.size) HLI.out HLJ.out
            rw [HR2.out] at HL
            refine HL.mono ?_
            rintro e' w4 ⟨rfl, hb4⟩
            go_wp2_with fail
            go_ret
            exact ⟨rfl, hw3.trans (hb4.mono hw3.size)⟩
          · have HR2 : Hid (z = R) := by
              have := HR.out
              rw [if_neg hz0] at this
              exact this
            have hz1 : (z == 0) = false := by rw [beq_eq_false_iff_ne]; exact hz0
            go_wp2_with (go_at_call 125; refine (HC _).mono ?_; rintro e' w' ⟨rfl, rfl⟩)
            refine HD.mono ?_
            rintro e' w3 ⟨rfl, q, hq⟩
            have hb3 : Below W1.heap.size W1 w3 := by rw [hq]; exact below_drewN (Below.refl _ _) _
            clear hq
            go_wp2_with fail
            go_ret
            refine ⟨?_, hW.trans (hb3.mono hW.size)⟩
            rw [← HR2.out]; rfl
    · rw [if_neg hk] at hR
      have HC := fun V => cmpInt_c k1 k2 V
      rw [hR] at HC
      have hR0 : R ≠ 0 := by rw [← hR]; exact fun h => hk (cmpI_eq.1 h)
      have hR1 : (R == 0) = false := by rw [beq_eq_false_iff_ne]; exact hR0
      clear hR hR0
      have hW : Below w.heap.size w ((w.alloc (.cells #[.int .i64 k1, .bool n1, .slice A1 m1 c1, .int .i64 e1, .string t1, .slice LA1 lm1 lc1, .slice KA1 km1 kc1] 53)).alloc (.cells #[.int .i64 k2, .bool n2, .slice A2 m2 c2, .int .i64 e2, .string t2, .slice LA2 lm2 lc2, .slice KA2 km2 kc2] 53)) := ((Below.refl _ w).alloc (Nat.le_refl _) _).alloc (by simp) _
      have hm1 : ((w.alloc (.cells #[.int .i64 k1, .bool n1, .slice A1 m1 c1, .int .i64 e1, .string t1, .slice LA1 lm1 lc1, .slice KA1 km1 kc1] 53)).alloc (.cells #[.int .i64 k2, .bool n2, .slice A2 m2 c2, .int .i64 e2, .string t2, .slice LA2 lm2 lc2, .slice KA2 km2 kc2] 53)).heap[w.heap.size]? = some (.cells #[.int .i64 k1, .bool n1, .slice A1 m1 c1, .int .i64 e1, .string t1, .slice LA1 lm1 lc1, .slice KA1 km1 kc1] 53) := (Below.heap_alloc _ _ _ (by simp)).trans (World.alloc_heap_new w _)
      have hm2 : ((w.alloc (.cells #[.int .i64 k1, .bool n1, .slice A1 m1 c1, .int .i64 e1, .string t1, .slice LA1 lm1 lc1, .slice KA1 km1 kc1] 53)).alloc (.cells #[.int .i64 k2, .bool n2, .slice A2 m2 c2, .int .i64 e2, .string t2, .slice LA2 lm2 lc2, .slice KA2 km2 kc2] 53)).heap[w.heap.size + 1]? = some (.cells #[.int .i64 k2, .bool n2, .slice A2 m2 c2, .int .i64 e2, .string t2, .slice LA2 lm2 lc2, .slice KA2 km2 kc2] 53) := by
        have := World.alloc_heap_new (w.alloc (.cells #[.int .i64 k1, .bool n1, .slice A1 m1 c1, .int .i64 e1, .string t1, .slice LA1 lm1 lc1, .slice KA1 km1 kc1] 53)) (.cells #[.int .i64 k2, .bool n2, .slice A2 m2 c2, .int .i64 e2, .string t2, .slice LA2 lm2 lc2, .slice KA2 km2 kc2] 53)
        rwa [World.size_alloc] at this
      have hz : ((w.alloc (.cells #[.int .i64 k1, .bool n1, .slice A1 m1 c1, .int .i64 e1, .string t1, .slice LA1 lm1 lc1, .slice KA1 km1 kc1] 53)).alloc (.cells #[.int .i64 k2, .bool n2, .slice A2 m2 c2, .int .i64 e2, .string t2, .slice LA2 lm2 lc2, .slice KA2 km2 kc2] 53)).heap.size = w.heap.size + 2 := by simp
      go_enter Tryz.func83, Tryz.ntmps83
      go_upto_region 1 with fail
      generalize ((w.alloc (.cells #[.int .i64 k1, .bool n1, .slice A1 m1 c1, .int .i64 e1, .string t1, .slice LA1 lm1 lc1, .slice KA1 km1 kc1] 53)).alloc (.cells #[.int .i64 k2, .bool n2, .slice A2 m2 c2, .int .i64 e2, .string t2, .slice LA2 lm2 lc2, .slice KA2 km2 kc2] 53)) = W1 at *
      obtain ⟨x0, x1, x2, x3, x4, x5, x6⟩ := box7_of hm1
      obtain ⟨y0, y1, y2, y3, y4, y5, y6⟩ := box7_of hm2
      go_wp2_with (go_at_call 125; refine (HC _).mono ?_; rintro e' w' ⟨rfl, rfl⟩)
      go_ret
      exact ⟨rfl, hW⟩
theorem vcompare_c (x : VT) : Cmps x := compare_n _ x (Nat.lt_succ_self _)
end Go.Proofs.YtklpfgjnlheikaaGreatDoor

namespace Go.Proofs.YtklpfgjnlheikaaGreatDoor
open Go.RowKit

theorem VIn.l32 {w : World} {S : Nat → Prop} {x : VT} {cs : List Value} (h : VIn w S x cs) : ∀ y ∈ partsV x, L32 y.num := by
  induction h with
  | @mk k neg xs e t l ks A LA KA n c ln lc kn kc cs hr hn ht hks hkn hl hln hlc hrow hall ih =>
    intro y hy
    rcases mem_parts.1 hy with rfl | ⟨z, hz, hyz⟩
    · exact hr.l32
    · rw [inner_mk] at hz
      split at hz
      · obtain ⟨i, hi⟩ := List.mem_iff_getElem?.1 hz
        exact ih i z hi y hyz
      · simp at hz
theorem fine_ok {w : World} {S : Nat → Prop} {x : VT} {cs : List Value} (h : VIn w S x cs) (ho : errV x = 0) : fine x := fun y hy => ⟨(okV_parts ho).1 y hy, h.l32 y hy⟩
/-- The error of two values, and how they stand. -/
def err2 (x y : VT) : Nat := if errV x = 0 then errV y else errV x
def cmp2 (x y : VT) : Int := if err2 x y = 0 then ordV x y else 0
theorem err2_zero {x y : VT} : err2 x y = 0 ↔ errV x = 0 ∧ errV y = 0 := by
  unfold err2
  split
  · rename_i h; simp [h]
  · rename_i h; simp [h]

set_option maxRecDepth 100000 in
set_option maxHeartbeats 4000000 in
theorem VCompare_c {S : Nat → Prop} {x y : VT} {cs ds : List Value} (w : World) (hT : Tabs w) (hx : VIn w S x cs) (hy : VIn w S y ds) (hS : ∀ b, S b → b < w.heap.size) :
    Calls Tryz.prog 34 #[.agg cs.toArray, .agg ds.toArray] w fun e w' => e = .returned (.tuple #[.int .i64 (cmp2 x y), .int .i64 ((err2 x y : Nat) : Int)]) ∧ Below w.heap.size w w' := by
  have HX := Lib.hid hx
  have HY := Lib.hid hy
  obtain ⟨k1, n1, u1, e1, t1, l1, ks1, hxk⟩ : ∃ k neg xs e t li ks, x = VT.mk k neg xs e t li ks := by cases x; exact ⟨_, _, _, _, _, _, _, rfl⟩
  obtain ⟨k2, n2, u2, e2, t2, l2, ks2, hyk⟩ : ∃ k neg xs e t li ks, y = VT.mk k neg xs e t li ks := by cases y; exact ⟨_, _, _, _, _, _, _, rfl⟩
  rw [hxk] at hx
  rw [hyk] at hy
  obtain ⟨A1, m1, c1, LA1, lm1, lc1, KA1, km1, kc1, rfl, -⟩ := hx.parts
  obtain ⟨A2, m2, c2, LA2, lm2, lc2, KA2, km2, kc2, rfl, -⟩ := hy.parts
  clear hx hy hxk hyk
  have HS := Lib.hid hS
  have HT := Lib.hid hT
  clear hS hT
  obtain ⟨R, hR⟩ : ∃ R, cmp2 x y = R := ⟨_, rfl⟩
  obtain ⟨E, hE⟩ : ∃ E, err2 x y = E := ⟨_, rfl⟩
  rw [hR, hE]
  have HR := Lib.hid hR
  have HE := Lib.hid hE
  clear hR hE
  have hW : Below w.heap.size w (((w.alloc (.cells #[.int .i64 k1, .bool n1, .slice A1 m1 c1, .int .i64 e1, .string t1, .slice LA1 lm1 lc1, .slice KA1 km1 kc1] 53)).alloc (.cells #[.int .i64 k2, .bool n2, .slice A2 m2 c2, .int .i64 e2, .string t2, .slice LA2 lm2 lc2, .slice KA2 km2 kc2] 53)).alloc (.cells #[.int .i64 k1, .bool n1, .slice A1 m1 c1, .int .i64 e1, .string t1, .slice LA1 lm1 lc1, .slice KA1 km1 kc1, .int .i64 k2, .bool n2, .slice A2 m2 c2, .int .i64 e2, .string t2, .slice LA2 lm2 lc2, .slice KA2 km2 kc2] 53)) := (((Below.refl _ w).alloc (Nat.le_refl _) _).alloc (by simp) _).alloc (by simp; omega) _
  have hm1 : (((w.alloc (.cells #[.int .i64 k1, .bool n1, .slice A1 m1 c1, .int .i64 e1, .string t1, .slice LA1 lm1 lc1, .slice KA1 km1 kc1] 53)).alloc (.cells #[.int .i64 k2, .bool n2, .slice A2 m2 c2, .int .i64 e2, .string t2, .slice LA2 lm2 lc2, .slice KA2 km2 kc2] 53)).alloc (.cells #[.int .i64 k1, .bool n1, .slice A1 m1 c1, .int .i64 e1, .string t1, .slice LA1 lm1 lc1, .slice KA1 km1 kc1, .int .i64 k2, .bool n2, .slice A2 m2 c2, .int .i64 e2, .string t2, .slice LA2 lm2 lc2, .slice KA2 km2 kc2] 53)).heap[w.heap.size]? = some (.cells #[.int .i64 k1, .bool n1, .slice A1 m1 c1, .int .i64 e1, .string t1, .slice LA1 lm1 lc1, .slice KA1 km1 kc1] 53) := (Below.heap_alloc _ _ _ (by simp; omega)).trans ((Below.heap_alloc _ _ _ (by simp)).trans (World.alloc_heap_new w _))
  have hm2 : (((w.alloc (.cells #[.int .i64 k1, .bool n1, .slice A1 m1 c1, .int .i64 e1, .string t1, .slice LA1 lm1 lc1, .slice KA1 km1 kc1] 53)).alloc (.cells #[.int .i64 k2, .bool n2, .slice A2 m2 c2, .int .i64 e2, .string t2, .slice LA2 lm2 lc2, .slice KA2 km2 kc2] 53)).alloc (.cells #[.int .i64 k1, .bool n1, .slice A1 m1 c1, .int .i64 e1, .string t1, .slice LA1 lm1 lc1, .slice KA1 km1 kc1, .int .i64 k2, .bool n2, .slice A2 m2 c2, .int .i64 e2, .string t2, .slice LA2 lm2 lc2, .slice KA2 km2 kc2] 53)).heap[w.heap.size + 1]? = some (.cells #[.int .i64 k2, .bool n2, .slice A2 m2 c2, .int .i64 e2, .string t2, .slice LA2 lm2 lc2, .slice KA2 km2 kc2] 53) := by
    have := World.alloc_heap_new (w.alloc (.cells #[.int .i64 k1, .bool n1, .slice A1 m1 c1, .int .i64 e1, .string t1, .slice LA1 lm1 lc1, .slice KA1 km1 kc1] 53)) (.cells #[.int .i64 k2, .bool n2, .slice A2 m2 c2, .int .i64 e2, .string t2, .slice LA2 lm2 lc2, .slice KA2 km2 kc2] 53)
    rw [World.size_alloc] at this
    exact (Below.heap_alloc _ _ _ (by simp)).trans this
  have hm3 : (((w.alloc (.cells #[.int .i64 k1, .bool n1, .slice A1 m1 c1, .int .i64 e1, .string t1, .slice LA1 lm1 lc1, .slice KA1 km1 kc1] 53)).alloc (.cells #[.int .i64 k2, .bool n2, .slice A2 m2 c2, .int .i64 e2, .string t2, .slice LA2 lm2 lc2, .slice KA2 km2 kc2] 53)).alloc (.cells #[.int .i64 k1, .bool n1, .slice A1 m1 c1, .int .i64 e1, .string t1, .slice LA1 lm1 lc1, .slice KA1 km1 kc1, .int .i64 k2, .bool n2, .slice A2 m2 c2, .int .i64 e2, .string t2, .slice LA2 lm2 lc2, .slice KA2 km2 kc2] 53)).heap[w.heap.size + 2]? = some (.cells #[.int .i64 k1, .bool n1, .slice A1 m1 c1, .int .i64 e1, .string t1, .slice LA1 lm1 lc1, .slice KA1 km1 kc1, .int .i64 k2, .bool n2, .slice A2 m2 c2, .int .i64 e2, .string t2, .slice LA2 lm2 lc2, .slice KA2 km2 kc2] 53) := by
    have := World.alloc_heap_new ((w.alloc (.cells #[.int .i64 k1, .bool n1, .slice A1 m1 c1, .int .i64 e1, .string t1, .slice LA1 lm1 lc1, .slice KA1 km1 kc1] 53)).alloc (.cells #[.int .i64 k2, .bool n2, .slice A2 m2 c2, .int .i64 e2, .string t2, .slice LA2 lm2 lc2, .slice KA2 km2 kc2] 53)) (.cells #[.int .i64 k1, .bool n1, .slice A1 m1 c1, .int .i64 e1, .string t1, .slice LA1 lm1 lc1, .slice KA1 km1 kc1, .int .i64 k2, .bool n2, .slice A2 m2 c2, .int .i64 e2, .string t2, .slice LA2 lm2 lc2, .slice KA2 km2 kc2] 53)
    rwa [World.size_alloc, World.size_alloc] at this
  have hz : (((w.alloc (.cells #[.int .i64 k1, .bool n1, .slice A1 m1 c1, .int .i64 e1, .string t1, .slice LA1 lm1 lc1, .slice KA1 km1 kc1] 53)).alloc (.cells #[.int .i64 k2, .bool n2, .slice A2 m2 c2, .int .i64 e2, .string t2, .slice LA2 lm2 lc2, .slice KA2 km2 kc2] 53)).alloc (.cells #[.int .i64 k1, .bool n1, .slice A1 m1 c1, .int .i64 e1, .string t1, .slice LA1 lm1 lc1, .slice KA1 km1 kc1, .int .i64 k2, .bool n2, .slice A2 m2 c2, .int .i64 e2, .string t2, .slice LA2 lm2 lc2, .slice KA2 km2 kc2] 53)).heap.size = w.heap.size + 3 := by simp
  obtain ⟨x0, x1, x2, x3, x4, x5, x6⟩ := box7_of ((Below.heap_alloc (w.alloc (.cells #[.int .i64 k1, .bool n1, .slice A1 m1 c1, .int .i64 e1, .string t1, .slice LA1 lm1 lc1, .slice KA1 km1 kc1] 53)) (.cells #[.int .i64 k2, .bool n2, .slice A2 m2 c2, .int .i64 e2, .string t2, .slice LA2 lm2 lc2, .slice KA2 km2 kc2] 53) w.heap.size (by simp)).trans (World.alloc_heap_new w (.cells #[.int .i64 k1, .bool n1, .slice A1 m1 c1, .int .i64 e1, .string t1, .slice LA1 lm1 lc1, .slice KA1 km1 kc1] 53)))
  have hy7 : ((w.alloc (.cells #[.int .i64 k1, .bool n1, .slice A1 m1 c1, .int .i64 e1, .string t1, .slice LA1 lm1 lc1, .slice KA1 km1 kc1] 53)).alloc (.cells #[.int .i64 k2, .bool n2, .slice A2 m2 c2, .int .i64 e2, .string t2, .slice LA2 lm2 lc2, .slice KA2 km2 kc2] 53)).heap[w.heap.size + 1]? = some (.cells #[.int .i64 k2, .bool n2, .slice A2 m2 c2, .int .i64 e2, .string t2, .slice LA2 lm2 lc2, .slice KA2 km2 kc2] 53) := by
    have := World.alloc_heap_new (w.alloc (.cells #[.int .i64 k1, .bool n1, .slice A1 m1 c1, .int .i64 e1, .string t1, .slice LA1 lm1 lc1, .slice KA1 km1 kc1] 53)) (.cells #[.int .i64 k2, .bool n2, .slice A2 m2 c2, .int .i64 e2, .string t2, .slice LA2 lm2 lc2, .slice KA2 km2 kc2] 53)
    rwa [World.size_alloc] at this
  obtain ⟨y0, y1, y2, y3, y4, y5, y6⟩ := box7_of hy7
  go_enter Tryz.func34, Tryz.ntmps34
  go_wp2_with fail
  clear x0 x1 x2 x3 x4 x5 x6 y0 y1 y2 y3 y4 y5 y6 hy7
  generalize (((w.alloc (.cells #[.int .i64 k1, .bool n1, .slice A1 m1 c1, .int .i64 e1, .string t1, .slice LA1 lm1 lc1, .slice KA1 km1 kc1] 53)).alloc (.cells #[.int .i64 k2, .bool n2, .slice A2 m2 c2, .int .i64 e2, .string t2, .slice LA2 lm2 lc2, .slice KA2 km2 kc2] 53)).alloc (.cells #[.int .i64 k1, .bool n1, .slice A1 m1 c1, .int .i64 e1, .string t1, .slice LA1 lm1 lc1, .slice KA1 km1 kc1, .int .i64 k2, .bool n2, .slice A2 m2 c2, .int .i64 e2, .string t2, .slice LA2 lm2 lc2, .slice KA2 km2 kc2] 53)) = W1 at *
  go_loopw [13] (fun i wr => ∃ k : Nat, k ≤ 2 ∧ i = .int .i64 (k : Int) ∧ Hid ((0 < k → errV x = 0) ∧ (1 < k → errV y = 0)) ∧ Below W1.heap.size W1 wr) (fun i _ => 2 - (RowKit.intOf i).toNat)
  case atStart => exact ⟨0, by omega, rfl, ⟨fun h => absurd h (by omega), fun h => absurd h (by omega)⟩, Below.refl _ _⟩
  case round =>
    obtain ⟨k, hk, rfl, hno, hbel⟩ := hrel
    have hm1' := (hbel.block _ (by omega)).trans hm1
    have hm2' := (hbel.block _ (by omega)).trans hm2
    have hm3' := (hbel.block _ (by omega)).trans hm3
    have HNO := Lib.hid hno.out
    have hww := hW.trans (hbel.mono (by omega))
    have hsz : W1.heap.size ≤ wr.heap.size := hbel.size
    have HBEL := Lib.hid hbel
    clear hno hbel
    match k, hk with
    | 2, _ =>
      have he : Hid (E = 0) := by
        show _ = _
        rw [← HE.out]; exact err2_zero.2 ⟨HNO.out.1 (by omega), HNO.out.2 (by omega)⟩
      have hr : Hid (ordV x y = R) := by
        show _ = _
        rw [← HR.out]; unfold cmp2; rw [if_pos (HE.out.trans he.out)]
      have HC := vcompare_c x y S _ _ wr (fine_ok HX.out (HNO.out.1 (by omega))) (fine_ok HY.out (HNO.out.2 (by omega))) (HX.out.keep fun p hp => hww.cell (HS.out _ hp)) (HY.out.keep fun p hp => hww.cell (HS.out _ hp)) (fun b hb => Nat.lt_of_lt_of_le (HS.out b hb) hww.size)
      rw [hr.out] at HC
      obtain ⟨x0, x1, x2, x3, x4, x5, x6⟩ := box7_of hm1'
      obtain ⟨y0, y1, y2, y3, y4, y5, y6⟩ := box7_of hm2'
      go_wp2_with fail
      refine HC.mono ?_
      rintro e' w5 ⟨rfl, hb5⟩
      go_wp2_with fail
      go_ret2
      refine ⟨?_, hww.trans (hb5.mono hww.size)⟩
      rw [he.out]; rfl
    | 0, _ =>
      have d0 : wr.cell? ⟨w.heap.size + 2, 0, none⟩ = some (.int .i64 k1) := cell_at hm3' rfl
      have d1 : wr.cell? ⟨w.heap.size + 2, 1, none⟩ = some (.bool n1) := cell_at hm3' rfl
      have d2 : wr.cell? ⟨w.heap.size + 2, 2, none⟩ = some (.slice A1 m1 c1) := cell_at hm3' rfl
      have d3 : wr.cell? ⟨w.heap.size + 2, 3, none⟩ = some (.int .i64 e1) := cell_at hm3' rfl
      have d4 : wr.cell? ⟨w.heap.size + 2, 4, none⟩ = some (.string t1) := cell_at hm3' rfl
      have d5 : wr.cell? ⟨w.heap.size + 2, 5, none⟩ = some (.slice LA1 lm1 lc1) := cell_at hm3' rfl
      have d6 : wr.cell? ⟨w.heap.size + 2, 6, none⟩ = some (.slice KA1 km1 kc1) := cell_at hm3' rfl
      have hW2 : Below wr.heap.size wr (wr.alloc (.cells #[.int .i64 k1, .bool n1, .slice A1 m1 c1, .int .i64 e1, .string t1, .slice LA1 lm1 lc1, .slice KA1 km1 kc1] 53)) := (Below.refl _ wr).alloc (Nat.le_refl _) _
      have hb2 := World.alloc_heap_new wr (.cells #[.int .i64 k1, .bool n1, .slice A1 m1 c1, .int .i64 e1, .string t1, .slice LA1 lm1 lc1, .slice KA1 km1 kc1] 53)
      have hz2 : (wr.alloc (.cells #[.int .i64 k1, .bool n1, .slice A1 m1 c1, .int .i64 e1, .string t1, .slice LA1 lm1 lc1, .slice KA1 km1 kc1] 53)).heap.size = wr.heap.size + 1 := by simp
      go_upto_region 4 with fail
      generalize (wr.alloc (.cells #[.int .i64 k1, .bool n1, .slice A1 m1 c1, .int .i64 e1, .string t1, .slice LA1 lm1 lc1, .slice KA1 km1 kc1] 53)) = W2 at *
      have hw2 := hww.trans (hW2.mono hww.size)
      have HC := VCheck_c W2 (HT.out.below hw2) (HX.out.keep fun p hp => hw2.cell (HS.out _ hp)) (fun b hb => Nat.lt_of_lt_of_le (HS.out b hb) hw2.size)
      obtain ⟨q, hq⟩ : ∃ q, errV x = q := ⟨_, rfl⟩
      rw [hq] at HC
      have HQ := Lib.hid hq
      clear hq d0 d1 d2 d3 d4 d5 d6
      obtain ⟨x0, x1, x2, x3, x4, x5, x6⟩ := box7_of hb2
      go_wp2_with fail
      refine HC.mono ?_
      rintro e' w5 ⟨rfl, hb5⟩
      have hw5 := hw2.trans (hb5.mono hw2.size)
      have hbb := HBEL.out.trans ((hW2.mono hsz).trans (hb5.mono (by omega)))
      clear x0 x1 x2 x3 x4 x5 x6 HC hb5
      by_cases hq0 : q = 0
      · subst hq0
        go_wp2_with fail
        go_roundw
        case rel => exact ⟨1, by omega, by go_num, ⟨fun _ => HQ.out, fun h => absurd h (by omega)⟩, hbb⟩
        case measure => simp [RowKit.intOf]
      · have hq1 : (((q : Nat) : Int) == 0) = false := by rw [beq_eq_false_iff_ne]; omega
        have he : Hid (E = q) := by
          show _ = _
          rw [← HE.out]; unfold err2; rw [if_neg (by rw [HQ.out]; exact hq0)]; exact HQ.out
        have hr : Hid (R = 0) := by
          show _ = _
          rw [← HR.out]; unfold cmp2; rw [if_neg (by rw [HE.out, he.out]; exact hq0)]
        go_wp2_with fail
        go_ret2
        refine ⟨?_, hw5⟩
        rw [he.out, hr.out]; rfl
    | 1, _ =>
      have d0 : wr.cell? ⟨w.heap.size + 2, 7, none⟩ = some (.int .i64 k2) := cell_at hm3' rfl
      have d1 : wr.cell? ⟨w.heap.size + 2, 8, none⟩ = some (.bool n2) := cell_at hm3' rfl
      have d2 : wr.cell? ⟨w.heap.size + 2, 9, none⟩ = some (.slice A2 m2 c2) := cell_at hm3' rfl
      have d3 : wr.cell? ⟨w.heap.size + 2, 10, none⟩ = some (.int .i64 e2) := cell_at hm3' rfl
      have d4 : wr.cell? ⟨w.heap.size + 2, 11, none⟩ = some (.string t2) := cell_at hm3' rfl
      have d5 : wr.cell? ⟨w.heap.size + 2, 12, none⟩ = some (.slice LA2 lm2 lc2) := cell_at hm3' rfl
      have d6 : wr.cell? ⟨w.heap.size + 2, 13, none⟩ = some (.slice KA2 km2 kc2) := cell_at hm3' rfl
      have hW2 : Below wr.heap.size wr (wr.alloc (.cells #[.int .i64 k2, .bool n2, .slice A2 m2 c2, .int .i64 e2, .string t2, .slice LA2 lm2 lc2, .slice KA2 km2 kc2] 53)) := (Below.refl _ wr).alloc (Nat.le_refl _) _
      have hb2 := World.alloc_heap_new wr (.cells #[.int .i64 k2, .bool n2, .slice A2 m2 c2, .int .i64 e2, .string t2, .slice LA2 lm2 lc2, .slice KA2 km2 kc2] 53)
      have hz2 : (wr.alloc (.cells #[.int .i64 k2, .bool n2, .slice A2 m2 c2, .int .i64 e2, .string t2, .slice LA2 lm2 lc2, .slice KA2 km2 kc2] 53)).heap.size = wr.heap.size + 1 := by simp
      go_upto_region 4 with fail
      generalize (wr.alloc (.cells #[.int .i64 k2, .bool n2, .slice A2 m2 c2, .int .i64 e2, .string t2, .slice LA2 lm2 lc2, .slice KA2 km2 kc2] 53)) = W2 at *
      have hw2 := hww.trans (hW2.mono hww.size)
      have HC := VCheck_c W2 (HT.out.below hw2) (HY.out.keep fun p hp => hw2.cell (HS.out _ hp)) (fun b hb => Nat.lt_of_lt_of_le (HS.out b hb) hw2.size)
      obtain ⟨q, hq⟩ : ∃ q, errV y = q := ⟨_, rfl⟩
      rw [hq] at HC
      have HQ := Lib.hid hq
      clear hq d0 d1 d2 d3 d4 d5 d6
      obtain ⟨x0, x1, x2, x3, x4, x5, x6⟩ := box7_of hb2
      go_wp2_with fail
      refine HC.mono ?_
      rintro e' w5 ⟨rfl, hb5⟩
      have hw5 := hw2.trans (hb5.mono hw2.size)
      have hbb := HBEL.out.trans ((hW2.mono hsz).trans (hb5.mono (by omega)))
      clear x0 x1 x2 x3 x4 x5 x6 HC hb5
      by_cases hq0 : q = 0
      · subst hq0
        go_wp2_with fail
        go_roundw
        case rel => exact ⟨2, by omega, by go_num, ⟨fun _ => HNO.out.1 (by omega), fun _ => HQ.out⟩, hbb⟩
        case measure => simp [RowKit.intOf]
      · have hq1 : (((q : Nat) : Int) == 0) = false := by rw [beq_eq_false_iff_ne]; omega
        have he : Hid (E = q) := by
          show _ = _
          rw [← HE.out]; unfold err2; rw [if_pos (HNO.out.1 (by omega))]; exact HQ.out
        have hr : Hid (R = 0) := by
          show _ = _
          rw [← HR.out]; unfold cmp2; rw [if_neg (by rw [HE.out, he.out]; exact hq0)]
        go_wp2_with fail
        go_ret2
        refine ⟨?_, hw5⟩
        rw [he.out, hr.out]; rfl
end Go.Proofs.YtklpfgjnlheikaaGreatDoor
