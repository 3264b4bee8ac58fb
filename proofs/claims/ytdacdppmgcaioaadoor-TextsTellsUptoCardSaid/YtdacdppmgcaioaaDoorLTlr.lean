/-
  The walk of the law TextsBack.
  Lines: the reference's.
-/
import Derived.Test.YtdacdppmgcaioaaDoorLTal
import Derived.Test.YtdacdppmgcaioaaDoorLTsp
import Derived.Test.YtdacdppmgcaioaaDoorLUsync
import Derived.Test.YtdacdppmgcaioaaDoorLTjo
import Derived.Test.YtdacdppmgcaioaaDoorLTcv
set_option linter.unusedVariables false
set_option linter.unusedSimpArgs false
namespace Go.Proofs.YtdacdppmgcaioaaDoor
open Go.RowKit Go.Lib

theorem cutP_len {nx : List UInt8 → Option (Nat × Nat)} (hg : GoesT nx) : ∀ (n : Nat) (L : List UInt8), L.length ≤ n → (cutP nx L).length ≤ n + 1 := by
  intro n
  induction n with
  | zero =>
    intro L hn
    cases h : nx L with
    | none => rw [cutP_none h]; simp
    | some q => obtain ⟨a, z⟩ := q; have := hg _ _ _ h; omega
  | succ n ih =>
    intro L hn
    cases h : nx L with
    | none => rw [cutP_none h]; simp
    | some q =>
      obtain ⟨a, z⟩ := q
      have hq := hg _ _ _ h
      rw [cutP_some hg h, List.length_cons]
      have := ih (L.drop (a + z)) (by rw [List.length_drop]; omega)
      omega
theorem splitP_len (sep L : List UInt8) : (splitP sep L).length ≤ L.length + 1 := by
  unfold splitP
  split
  · exact cutP_len nxCh_goes _ L (Nat.le_refl _)
  · exact cutP_len (nxOf_goes sep) _ L (Nat.le_refl _)
end Go.Proofs.YtdacdppmgcaioaaDoor

namespace Go.Proofs.YtdacdppmgcaioaaDoor
open Go.RowKit Go.Lib

theorem big_all {xs ys : List ByteArray} {ps : List (List UInt8)} (hxs : xs.map dl = ps) (hsub : ∀ y ∈ ys, y ∈ xs) (hback : ∀ x ∈ xs, x ∈ ys ∨ x = ⟨#[]⟩) :
    ((∀ x ∈ ys, x.size ≤ 16384) → ∀ p ∈ ps, p.length ≤ 16384) ∧ ((∃ x ∈ ys, 16384 < x.size) → ∃ p ∈ ps, 16384 < p.length) := by
  constructor
  · intro h p hp
    rw [← hxs] at hp
    obtain ⟨x, hx, rfl⟩ := List.mem_map.1 hp
    rcases hback x hx with h2 | rfl
    · have := h x h2
      rw [sizeT_list] at this; exact this
    · exact Nat.zero_le _
  · rintro ⟨x, hx, hl⟩
    refine ⟨dl x, by rw [← hxs]; exact List.mem_map.2 ⟨x, hsub x hx, rfl⟩, ?_⟩
    rw [sizeT_list] at hl; exact hl
end Go.Proofs.YtdacdppmgcaioaaDoor
