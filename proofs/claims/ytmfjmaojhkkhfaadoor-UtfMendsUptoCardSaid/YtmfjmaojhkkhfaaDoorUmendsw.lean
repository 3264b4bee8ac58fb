/-
  The walk of the law UtfMends: it returns true, whatever the octets are.
-/
import Derived.Test.YtmfjmaojhkkhfaaDoorUmend
set_option linter.unusedVariables false
set_option linter.unusedSimpArgs false
namespace Go.Proofs.YtmfjmaojhkkhfaaDoor
open Go.RowKit Go.Lib

set_option maxRecDepth 100000 in
theorem CopyBytes_c {S : Nat → Prop} {n c : Nat} {A : Option Addr} {l : List UInt8} (w : World) (ha : RdV w S A n (bs8 l)) (hn : n ≤ 1099511627776) :
    Calls Tryd.prog 29 #[.slice A n c] w fun e w' => ∃ A' c', e = .returned (.slice A' n c') ∧ RowV w' w.heap.size 5 A' n c' (bs8 l) ∧ Below w.heap.size w w' := by
  have hl0 : l.length = n := by rw [← ha.len, bs8_length]
  cases A with
  | none =>
    obtain rfl : n = 0 := by
      rcases Nat.eq_zero_or_pos n with h | h
      · exact h
      · obtain ⟨b, off, e, _⟩ := ha.cells h; cases e
    obtain rfl : l = [] := List.eq_nil_of_length_eq_zero hl0
    obtain ⟨i0, hi, hz0, hz1, hz2⟩ := info_parts info8
    go_enter Tryd.func29, Tryd.ntmps29
    go_wp2_with (at_builtin; refine wpList_append_own_none _ rfl (.tmp 4) (.tmp 5) _ rfl w.heap.size 5 i0 1 Tryd.underlying41 hi (.slice none 0 0) 0 [] rfl (World.ownsRow_nil _ _ _ _) (hnc ▸ rfl) ?_)
    go_ret
    exact ⟨none, 0, rfl, RowV.nil _ _ _, Below.refl _ _⟩
  | some ad =>
    obtain ⟨i0, hi, hz0, hz1, hz2⟩ := info_parts info8
    have hl := Lib.hid hl0
    clear hl0
    go_enter Tryd.func29, Tryd.ntmps29
    go_wp2_with (at_builtin; refine wpList_append_own _ rfl (.tmp 4) (.tmp 5) _ rfl w.heap.size 5 i0 (.int .u8 0) 1 1 Tryd.underlying41 hi hz0 hz1 hz2 rfl (by decide) (.slice none 0 0) 0 [] rfl (World.ownsRow_nil _ _ _ _) ad n c (bs8 l) rfl (by rw [bs8_length, hl.out, Nat.mul_one]) ha.cellsAt (bs8_one l) (by unfold maxLen; omega) (by omega) (by simp) ?_; intro v' w1 hown1 hg1 _)
    go_ret
    rw [Nat.zero_add, List.nil_append] at hown1
    obtain ⟨A', c', e, hr⟩ := RowV.of_row (by rw [bs8_length, hl.out]) hown1
    subst e
    exact ⟨A', c', rfl, hr, (Below.refl _ w).grown hg1 (by simp) (by intro k hk; simp [Value.ownBlock] at hk)⟩
theorem SameBytes_eq {S S' : Nat → Prop} {n c m d : Nat} {A B : Option Addr} {l : List UInt8} (w : World) (ha : RdV w S A n (bs8 l)) (hb : RdV w S' B m (bs8 l)) :
    Calls Tryd.prog 30 #[.slice A n c, .slice B m d] w fun e w' => e = .returned (.bool true) ∧ Below w.heap.size w w' := by
  have h1 := ha.conv (c := c)
  have h2 := hb.conv (c := d)
  generalize mk8 l = s at h1 h2
  clear ha hb
  go_enter Tryd.func30, Tryd.ntmps30
  go_wp2
  go_ret
  exact ⟨by simp, Below.refl _ _⟩

set_option maxRecDepth 100000 in
set_option maxHeartbeats 1000000 in
theorem UtfMends_c {S : Nat → Prop} {A : Option Addr} {n c : Nat} {L : List UInt8} (w : World) (hT : Tabs w) (hr : RdV w S A n (bs8 L)) (hS : ∀ b, S b → b < w.heap.size) (hn : n ≤ 1048576) :
    Calls Tryd.prog 6 #[.slice A n c] w fun e w' => e = .returned (.bool true) ∧ Below w.heap.size w w' := by
  have hlen : L.length = n := by rw [← hr.len, bs8_length]
  have hml := mendT_len L
  have hA := fun V (h : Tabs V) => alive4_c V h
  have hCp := fun V (h : RdV V S A n (bs8 L)) => CopyBytes_c (c := c) V h (by omega)
  have hM := fun V (S' : Nat → Prop) A' c' (h : Tabs V) (h2 : RdV V S' A' n (bs8 L)) h3 => Mend_c (c0 := c') V h h2 h3 (by omega)
  have hC1 := fun V (h : Tabs V) => Check_c (mk8 (mendT L)) V h (by rw [mk8_size]; omega)
  have hC2 := fun V (h : Tabs V) => Check_c (mk8 L) V h (by rw [mk8_size]; omega)
  have hSm := fun V (S' : Nat → Prop) A' c' (h : RdV V S' A' n (bs8 L)) (h2 : RdV V S A n (bs8 L)) => SameBytes_eq (c := c') (d := c) V h h2
  rw [mk8_L, errT_mend] at hC1
  rw [mk8_L] at hC2
  have hE : (errT L = 0 ∧ mendT L = L) ∨ errT L = 61 := by
    by_cases h : isT L = true
    · exact .inl ⟨by unfold errT; rw [if_pos h], mendT_text h⟩
    · exact .inr (by unfold errT; rw [if_neg h])
  generalize badAt (mendT L) = B1 at hC1
  generalize badAt L = B2 at hC2
  generalize errT L = E at *
  generalize mendT L = M at *
  have HA := Lib.hid hA
  have HCP := Lib.hid hCp
  have HM := Lib.hid hM
  have HC1 := Lib.hid hC1
  have HC2 := Lib.hid hC2
  have HSM := Lib.hid hSm
  have HE := Lib.hid hE
  have HT := Lib.hid hT
  have HR := Lib.hid hr
  clear hA hCp hM hC1 hC2 hSm hE hT hr hml hlen
  go_enter Tryd.func6, Tryd.ntmps6
  go_wp2_with fail
  refine (HA.out w HT.out).mono ?_
  rintro e w1 ⟨rfl, hb1⟩
  go_wp2_with fail
  refine (HCP.out w1 (HR.out.below hb1 hS)).mono ?_
  rintro e w2 ⟨A1, c1, rfl, r1, hb2⟩
  have hb2 := hb1.trans (hb2.mono hb1.size)
  go_wp2_with fail
  refine (HM.out w2 _ A1 c1 (HT.out.below hb2) r1.rd (fun b h => h.2)).mono ?_
  rintro e w3 ⟨rfl, hb3⟩
  have r1 := r1.below hb3 (Nat.le_refl _)
  have hb3 := hb2.trans (hb3.mono hb2.size)
  go_wp2_with fail
  refine (HC1.out w3 (HT.out.below hb3)).mono ?_
  rintro e w4 ⟨rfl, hb4⟩
  have r1 := r1.below hb4 (Nat.le_refl _)
  have hb4 := hb3.trans (hb4.mono hb3.size)
  have hcv := (HR.out.below hb4 hS).conv (c := c)
  go_wp2_with fail
  refine (HC2.out w4 (HT.out.below hb4)).mono ?_
  rintro e w5 ⟨rfl, hb5⟩
  have r1 := r1.below hb5 (Nat.le_refl _)
  have hb5 := hb4.trans (hb5.mono hb4.size)
  have hrw := HR.out.below hb5 hS
  have hcv5 := hrw.conv (c := c)
  have HS5 := Lib.hid (HSM.out w5 _ A1 c1 r1.rd hrw)
  clear hcv hrw r1
  rcases HE.out with ⟨rfl, rfl⟩ | rfl
  · go_wp2_with (first
      | (go_at_call 19; refine (num4_c _ _).mono ?_; rintro e w' ⟨rfl, rfl⟩)
      | (refine HS5.out.mono ?_; rintro e w6 ⟨rfl, hb6⟩))
    go_ret
    exact ⟨rfl, hb5.trans (hb6.mono hb5.size)⟩
  · clear hcv5
    go_wp2_with (first
      | (go_at_call 19; refine (num4_c _ _).mono ?_; rintro e w' ⟨rfl, rfl⟩)
      | (refine HS5.out.mono ?_; rintro e w6 ⟨rfl, hb6⟩))
    go_ret
    exact ⟨rfl, hb5.trans (hb6.mono hb5.size)⟩
end Go.Proofs.YtmfjmaojhkkhfaaDoor
