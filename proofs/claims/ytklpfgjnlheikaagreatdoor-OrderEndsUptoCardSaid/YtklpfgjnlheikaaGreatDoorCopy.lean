/-
  Contract of bolterplain.CopyLimbs: a copy of limbs in memory of its own.
-/
import Derived.Test.YtklpfgjnlheikaaGreatDoorNaddm
set_option linter.unusedVariables false
set_option linter.unusedSimpArgs false
namespace Go.Proofs.YtklpfgjnlheikaaGreatDoor
open Go.RowKit

set_option maxRecDepth 100000 in
theorem CopyLimbs_c {S : Nat → Prop} {n c : Nat} {A : Option Addr} {xs : List Nat} (w : World) (ha : Rd w S A n xs) (hn : n ≤ 35184372088832) :
    Calls Tryz.prog 52 #[.slice A n c] w fun e w' => ∃ A' c', e = .returned (.slice A' n c') ∧ Res w' w.heap.size A' n c' xs ∧ Below w.heap.size w w' := by
  cases A with
  | none =>
    obtain rfl : n = 0 := by
      rcases Nat.eq_zero_or_pos n with h | h
      · exact h
      · obtain ⟨b, off, e, _⟩ := ha.cells h; cases e
    obtain rfl : xs = [] := List.eq_nil_of_length_eq_zero ha.len
    obtain ⟨i0, hi, hz0, hz1, hz2⟩ := info_parts info32
    go_enter Tryz.func52, Tryz.ntmps52
    go_wp2_with (at_builtin; refine wpList_append_own_none _ rfl (.tmp 4) (.tmp 5) _ rfl w.heap.size 93 i0 1 Tryz.underlying22 hi (.slice none 0 0) 0 [] rfl (World.ownsRow_nil _ _ _ _) (hnc ▸ rfl) ?_)
    go_ret
    exact ⟨none, 0, rfl, Res.nil _ _, Below.refl _ _⟩
  | some ad =>
    obtain ⟨i0, hi, hz0, hz1, hz2⟩ := info_parts info32
    have hl := Lib.hid ha.len
    go_enter Tryz.func52, Tryz.ntmps52
    go_wp2_with (at_builtin; refine wpList_append_own _ rfl (.tmp 4) (.tmp 5) _ rfl w.heap.size 93 i0 (.int .u32 0) 1 4 Tryz.underlying22 hi hz0 hz1 hz2 rfl (by decide) (.slice none 0 0) 0 [] rfl (World.ownsRow_nil _ _ _ _) ad n c (u32s xs) rfl (by rw [u32s_length, hl.out, Nat.mul_one]) ha.cellsAt (u32s_one xs) (by unfold maxLen; omega) (by omega) (by simp) ?_; intro v' w1 hown1 hg1 _)
    go_ret
    rw [Nat.zero_add, List.nil_append] at hown1
    obtain ⟨A', c', e, hr⟩ := Res.of_row hl.out ha.l32 hown1
    subst e
    exact ⟨A', c', rfl, hr, (Below.refl _ w).grown hg1 (by simp) (by intro k hk; simp [Value.ownBlock] at hk)⟩
end Go.Proofs.YtklpfgjnlheikaaGreatDoor
