/-
  Contract of utf.Count.
  Contract of utf.Runes.
-/
import Derived.Test.YtnfeifafocemaaaDoorCUrow
set_option linter.unusedVariables false
set_option linter.unusedSimpArgs false
namespace Go.Proofs.YtnfeifafocemaaaDoor
open Go.RowKit Go.Lib

theorem pcs_len (L : List UInt8) : (pcs L).length ≤ L.length := by
  refine text_ind (p := fun l => (pcs l).length ≤ l.length) (Nat.le_refl _) (fun l hl ih => ?_) L
  have h1 := wid_ge l
  have h2 := wid_le hl
  rw [List.length_drop] at ih
  show (pcs l).length ≤ l.length
  rw [pcs_cons hl, List.length_cons]
  omega

end Go.Proofs.YtnfeifafocemaaaDoor

namespace Go.Proofs.YtnfeifafocemaaaDoor
open Go.RowKit Go.Lib
attribute [local go_sem] Oper.semAt_some

theorem ptsF_snd : ∀ (q : List (List UInt8 × Int)) (p : Nat), (ptsF p q).map (·.2) = q.map (·.2)
  | [], _ => rfl
  | a :: q, p => by simp [ptsF, ptsF_snd q]
theorem pts_snd (L : List UInt8) : (pts L).map (·.2) = uchars L := ptsF_snd _ _
theorem ptsF_length : ∀ (q : List (List UInt8 × Int)) (p : Nat), (ptsF p q).length = q.length
  | [], _ => rfl
  | a :: q, p => by simp [ptsF, ptsF_length q]
theorem pts_length (L : List UInt8) : (pts L).length = (pcs L).length := ptsF_length _ _
theorem RowV.not_row {w : World} {base n c : Nat} {t : TypeId} {A : Option Addr} {vs : List Value} {row : Option Nat} {B : Nat} (h : RowV w base t A n c vs) (hr : ∀ k, row = some k → B ≤ k ∧ ∃ o : Obj, w.heap[k]? = some o ∧ o.isCells = false) : ∀ g, A = some ⟨g, 0, none⟩ → some g ≠ row := by
  intro g e e'
  obtain ⟨_, o, ho, hc⟩ := hr g e'.symm
  rcases h.own.2 with ⟨e2, _⟩ | ⟨g2, cap, cur, e2, _, hh, _⟩
  · injection e2 with e2; rw [e2] at e; cases e
  · injection e2 with e2
    rw [e] at e2
    injection e2 with e2
    injection e2 with e2
    subst e2
    rw [hh] at ho
    injection ho with ho
    subst ho
    cases hc
end Go.Proofs.YtnfeifafocemaaaDoor
