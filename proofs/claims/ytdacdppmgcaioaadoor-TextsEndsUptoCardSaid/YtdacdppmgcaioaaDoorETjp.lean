/-
  Parts joined, pure.
-/
import Derived.Test.YtdacdppmgcaioaaDoorETcp
set_option linter.unusedVariables false
set_option linter.unusedSimpArgs false
namespace Go.Proofs.YtdacdppmgcaioaaDoor
open Go.RowKit Go.Lib

/-- Parts behind one another, with sep between. -/
def joinB (sep : List UInt8) : List (List UInt8) → List UInt8
  | [] => []
  | [p] => p
  | p :: q :: r => p ++ sep ++ joinB sep (q :: r)
theorem joinB_cons {sep p : List UInt8} {r : List (List UInt8)} (h : r ≠ []) : joinB sep (p :: r) = p ++ sep ++ joinB sep r := by
  cases r with
  | nil => exact absurd rfl h
  | cons q r => rfl
theorem cutF_ne (nx : List UInt8 → Option (Nat × Nat)) : ∀ (n : Nat) (L : List UInt8), cutF nx n L ≠ []
  | 0, L => by simp [cutF]
  | n + 1, L => by
    unfold cutF
    cases nx L with
    | none => simp
    | some q => simp
theorem cutP_ne (nx : List UInt8 → Option (Nat × Nat)) (L : List UInt8) : cutP nx L ≠ [] := cutF_ne nx _ L
end Go.Proofs.YtdacdppmgcaioaaDoor
