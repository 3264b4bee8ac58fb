/-
  The walk of the law TextsBack.
-/
import Derived.Test.YtdacdppmgcaioaaDoorETal
import Derived.Test.YtdacdppmgcaioaaDoorETsp
import Derived.Test.YtdacdppmgcaioaaDoorEUsync
import Derived.Test.YtdacdppmgcaioaaDoorETjo
set_option linter.unusedVariables false
set_option linter.unusedSimpArgs false
namespace Go.Proofs.YtdacdppmgcaioaaDoor
open Go.RowKit Go.Lib

theorem cutP_len {nx : List UInt8 → Option (Nat × Nat)} (hg : GoesT nx) : ∀ (n : Nat) (L : List UInt8), L.length ≤ n → (cutP nx L).length ≤ n + 1 := by
  intro n
  induction n with
  | zero =>
    intro L hn
    cases h : nx L with
    | none => rw [cutP_none h]; simp
    | some q => obtain ⟨a, z⟩ := q; have := hg _ _ _ h; omega
  | succ n ih =>
    intro L hn
    cases h : nx L with
    | none => rw [cutP_none h]; simp
    | some q =>
      obtain ⟨a, z⟩ := q
      have hq := hg _ _ _ h
      rw [cutP_some hg h, List.length_cons]
      have := ih (L.drop (a + z)) (by rw [List.length_drop]; omega)
      omega
end Go.Proofs.YtdacdppmgcaioaaDoor
