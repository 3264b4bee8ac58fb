/-
  Contract of utf.Count.
  Contract of utf.Runes.
  Contract of utf.Slice.
-/
import Derived.Test.YtdacdppmgcaioaaDoorLUrow
set_option linter.unusedVariables false
set_option linter.unusedSimpArgs false
namespace Go.Proofs.YtdacdppmgcaioaaDoor
open Go.RowKit Go.Lib

theorem pcs_len (L : List UInt8) : (pcs L).length ≤ L.length := by
  refine text_ind (p := fun l => (pcs l).length ≤ l.length) (Nat.le_refl _) (fun l hl ih => ?_) L
  have h1 := wid_ge l
  have h2 := wid_le hl
  rw [List.length_drop] at ih
  show (pcs l).length ≤ l.length
  rw [pcs_cons hl, List.length_cons]
  omega

end Go.Proofs.YtdacdppmgcaioaaDoor

namespace Go.Proofs.YtdacdppmgcaioaaDoor
open Go.RowKit Go.Lib
attribute [local go_sem] Oper.semAt_some

def runesT (L : List UInt8) : List Int := if isT L = true then uchars L else []
theorem ucell_new1 (w : World) (v : Value) (t : TypeId) (b : Nat) (hb : b = w.heap.size) : ∀ (j : Nat) u, [v][j]? = some u → (w.alloc (.cells #[v] t)).cell? ((⟨b, 0, none⟩ : Addr).add j) = some u := by
  subst hb
  intro j u h
  cases j with
  | zero =>
    simp only [List.getElem?_cons_zero] at h
    injection h with h
    subst h
    rw [show (⟨w.heap.size, 0, none⟩ : Addr).add 0 = ⟨w.heap.size, 0, none⟩ from rfl, World.cell?_alloc_at _ _ _ _ rfl]; rfl
  | succ j => simp at h
end Go.Proofs.YtdacdppmgcaioaaDoor

namespace Go.Proofs.YtdacdppmgcaioaaDoor
open Go.RowKit Go.Lib

/-- A text of octets. -/
def mk8 (l : List UInt8) : ByteArray := ⟨l.toArray⟩
theorem mk8_L (l : List UInt8) : (mk8 l).data.toList = l := rfl
theorem mk8_size (l : List UInt8) : (mk8 l).size = l.length := by show l.toArray.size = _; simp
theorem mk8_of (s : ByteArray) : mk8 s.data.toList = s := by cases s; simp [mk8]
end Go.Proofs.YtdacdppmgcaioaaDoor
