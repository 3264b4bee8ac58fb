/-
  What the law KindsContains says of Contains' answers (pure).
-/
import Derived.Test.YtipomnogabnfdaaGreatDoorPKcx
set_option linter.unusedVariables false
set_option linter.unusedSimpArgs false
namespace Go.Proofs.YtipomnogabnfdaaGreatDoor
open Go.RowKit Go.Lib

/-- Both may be held against one another. -/
def likeK (x y : VT) : Prop := x.kind = y.kind ∨ ((x.kind = 1 ∨ x.kind = 2) ∧ (y.kind = 1 ∨ y.kind = 2))
theorem ctE_iff {x y : VT} : ctE x y = 0 ↔ okV x ∧ okV y ∧ likeK x y := by
  unfold ctE likeK
  constructor
  · intro h
    split at h
    · rename_i h1; exact absurd h h1
    rename_i h1
    obtain ⟨g1, g2⟩ := errK_okK (Classical.not_not.1 h1)
    refine ⟨g1, g2, ?_⟩
    split at h
    · exact absurd h (by decide)
    rename_i h2
    by_cases hk : x.kind = y.kind
    · exact .inl hk
    · exact .inr (Classical.byContradiction fun hn => h2 ⟨hk, hn⟩)
  · rintro ⟨h1, h2, h3⟩
    rw [if_neg (by rw [errK_two h1 h2]; simp)]
    refine if_neg ?_
    rintro ⟨g1, g2⟩
    rcases h3 with h3 | h3
    · exact g1 h3
    · exact g2 h3
theorem ctE_self {x y : VT} (h : ctE x x ≠ 0) : ctE x y ≠ 0 := fun h2 => h (ctE_iff.2 ⟨(ctE_iff.1 h2).1, (ctE_iff.1 h2).1, .inl rfl⟩)
theorem ctE_trans {x y z : VT} (h1 : ctE x y = 0) (h2 : ctE y z = 0) : ctE x z = 0 := by
  obtain ⟨a1, a2, a3⟩ := ctE_iff.1 h1
  obtain ⟨-, b2, b3⟩ := ctE_iff.1 h2
  refine ctE_iff.2 ⟨a1, b2, ?_⟩
  unfold likeK at a3 b3 ⊢
  omega
theorem ctB_bad {N : Nat} {x y : VT} (h : ctE x y ≠ 0) : ctB N x y = false := if_pos h
theorem ctB_good {N : Nat} {x y : VT} (h : ctE x y = 0) : ctB N x y = conF N x y := if_neg (by rw [h]; simp)
theorem ctB_self {N : Nat} {x : VT} (h : ctE x x = 0) (hN : SizeOf.sizeOf x < N) : ctB N x x = true := by
  rw [ctB_good h]; exact conF_refl N x hN
theorem ctB_trans {N : Nat} {x y z : VT} (h1 : ctE x y = 0) (h2 : ctE y z = 0) (g1 : ctB N x y = true) (g2 : ctB N y z = true) : ctB N x z = true := by
  rw [ctB_good h1] at g1
  rw [ctB_good h2] at g2
  rw [ctB_good (ctE_trans h1 h2)]
  exact conF_trans N x y z g1 g2
end Go.Proofs.YtipomnogabnfdaaGreatDoor
