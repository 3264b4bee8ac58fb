/-
  A text cut at the places that are told, pure.
-/
import Derived.Test.YtdacdppmgcaioaaDoorLTnx
set_option linter.unusedVariables false
set_option linter.unusedSimpArgs false
namespace Go.Proofs.YtdacdppmgcaioaaDoor
open Go.RowKit Go.Lib

/-- What tells places goes on. -/
def GoesT (nx : List UInt8 → Option (Nat × Nat)) : Prop := ∀ L a z, nx L = some (a, z) → 1 ≤ a + z ∧ a + z ≤ L.length
def cutF (nx : List UInt8 → Option (Nat × Nat)) : Nat → List UInt8 → List (List UInt8)
  | 0, L => [L]
  | n + 1, L => match nx L with
    | none => [L]
    | some (a, z) => L.take a :: cutF nx n (L.drop (a + z))
def cutP (nx : List UInt8 → Option (Nat × Nat)) (L : List UInt8) : List (List UInt8) := cutF nx L.length L
theorem cutF_eq {nx : List UInt8 → Option (Nat × Nat)} (hg : GoesT nx) : ∀ (n m : Nat) (L : List UInt8), L.length ≤ n → L.length ≤ m → cutF nx n L = cutF nx m L := by
  intro n
  induction n with
  | zero =>
    intro m L hn _
    have hL : L = [] := List.length_eq_zero_iff.1 (by omega)
    subst hL
    have hno : nx [] = none := by
      cases h : nx [] with
      | none => rfl
      | some q => obtain ⟨a, z⟩ := q; have := hg _ _ _ h; simp at this; omega
    cases m with
    | zero => rfl
    | succ m => simp [cutF, hno]
  | succ n ih =>
    intro m L hn hm
    cases m with
    | zero =>
      have hL : L = [] := List.length_eq_zero_iff.1 (by omega)
      subst hL
      have hno : nx [] = none := by
        cases h : nx [] with
        | none => rfl
        | some q => obtain ⟨a, z⟩ := q; have := hg _ _ _ h; simp at this; omega
      simp [cutF, hno]
    | succ m =>
      unfold cutF
      cases h : nx L with
      | none => rfl
      | some q =>
        obtain ⟨a, z⟩ := q
        have := hg _ _ _ h
        show L.take a :: cutF nx n (L.drop (a + z)) = L.take a :: cutF nx m (L.drop (a + z))
        rw [ih m (L.drop (a + z)) (by rw [List.length_drop]; omega) (by rw [List.length_drop]; omega)]
theorem cutP_none {nx : List UInt8 → Option (Nat × Nat)} {L : List UInt8} (h : nx L = none) : cutP nx L = [L] := by
  unfold cutP
  cases hl : L.length with
  | zero => rfl
  | succ n => unfold cutF; rw [h]
theorem cutP_some {nx : List UInt8 → Option (Nat × Nat)} (hg : GoesT nx) {L : List UInt8} {a z : Nat} (h : nx L = some (a, z)) : cutP nx L = L.take a :: cutP nx (L.drop (a + z)) := by
  have hq := hg _ _ _ h
  unfold cutP
  cases hl : L.length with
  | zero => omega
  | succ n =>
    have : cutF nx (n + 1) L = L.take a :: cutF nx n (L.drop (a + z)) := by
      show (match nx L with | none => [L] | some (a, z) => L.take a :: cutF nx n (L.drop (a + z))) = _
      rw [h]
    rw [this, cutF_eq hg n (L.drop (a + z)).length _ (by rw [List.length_drop]; omega) (Nat.le_refl _)]
theorem nxOf_goes (sep : List UInt8) : GoesT (nxOf sep) := fun L a z h => by
  obtain ⟨hs, rfl, h2, -, -⟩ := nxOf_some h
  have : sep.length ≠ 0 := fun e => hs (List.length_eq_zero_iff.1 e)
  omega
theorem nxCh_some {L : List UInt8} {a z : Nat} (h : nxCh L = some (a, z)) : L ≠ [] ∧ a = wid L ∧ z = 0 ∧ wid L ≠ L.length := by
  unfold nxCh at h
  split at h
  · cases h
  · rename_i hn
    injection h with h; injection h with h1 h2
    exact ⟨fun e => hn (.inl e), h1.symm, h2.symm, fun e => hn (.inr e)⟩
theorem nxCh_goes : GoesT nxCh := fun L a z h => by
  obtain ⟨h1, rfl, rfl, -⟩ := nxCh_some h
  have := wid_ge L
  have := wid_le h1
  omega
end Go.Proofs.YtdacdppmgcaioaaDoor
