/-
  Parts joined, pure.
-/
import Derived.Test.YtdacdppmgcaioaaDoorBTcp
set_option linter.unusedVariables false
set_option linter.unusedSimpArgs false
namespace Go.Proofs.YtdacdppmgcaioaaDoor
open Go.RowKit Go.Lib

/-- Parts behind one another, with sep between. -/
def joinB (sep : List UInt8) : List (List UInt8) → List UInt8
  | [] => []
  | [p] => p
  | p :: q :: r => p ++ sep ++ joinB sep (q :: r)
theorem joinB_cons {sep p : List UInt8} {r : List (List UInt8)} (h : r ≠ []) : joinB sep (p :: r) = p ++ sep ++ joinB sep r := by
  cases r with
  | nil => exact absurd rfl h
  | cons q r => rfl
theorem cutF_ne (nx : List UInt8 → Option (Nat × Nat)) : ∀ (n : Nat) (L : List UInt8), cutF nx n L ≠ []
  | 0, L => by simp [cutF]
  | n + 1, L => by
    unfold cutF
    cases nx L with
    | none => simp
    | some q => simp
theorem cutP_ne (nx : List UInt8 → Option (Nat × Nat)) (L : List UInt8) : cutP nx L ≠ [] := cutF_ne nx _ L
/-- What is cut is joined again, by what stands between. -/
theorem join_cut {nx : List UInt8 → Option (Nat × Nat)} {sep : List UInt8} (hg : GoesT nx) (hs : ∀ L a z, nx L = some (a, z) → L = L.take a ++ sep ++ L.drop (a + z)) : ∀ (n : Nat) (L : List UInt8), L.length ≤ n → joinB sep (cutP nx L) = L := by
  intro n
  induction n with
  | zero =>
    intro L hn
    cases h : nx L with
    | none => rw [cutP_none h]; rfl
    | some q => obtain ⟨a, z⟩ := q; have := hg _ _ _ h; omega
  | succ n ih =>
    intro L hn
    cases h : nx L with
    | none => rw [cutP_none h]; rfl
    | some q =>
      obtain ⟨a, z⟩ := q
      have hq := hg _ _ _ h
      rw [cutP_some hg h, joinB_cons (cutP_ne _ _), ih _ (by rw [List.length_drop]; omega)]
      exact (hs _ _ _ h).symm
theorem join_of (sep L : List UInt8) : joinB sep (cutP (nxOf sep) L) = L := join_cut (nxOf_goes sep) (fun L a z h => (nxOf_some h).2.2.2.1) _ L (Nat.le_refl _)
theorem join_ch (L : List UInt8) : joinB [] (cutP nxCh L) = L := join_cut nxCh_goes (fun L a z h => by
  obtain ⟨-, -, rfl, -⟩ := nxCh_some h
  rw [List.append_nil, Nat.add_zero, List.take_append_drop]) _ L (Nat.le_refl _)
end Go.Proofs.YtdacdppmgcaioaaDoor
