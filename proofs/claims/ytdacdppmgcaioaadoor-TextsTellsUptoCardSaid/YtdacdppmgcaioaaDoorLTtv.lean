/-
  A list of texts as an argument: how it reads.
-/
import Derived.Test.YtdacdppmgcaioaaDoorLTck
import Derived.Test.YtdacdppmgcaioaaDoorRows
import Derived.Deep.Strs
import Derived.ProofKit
import Derived.OpenShut
set_option linter.unusedVariables false
set_option linter.unusedSimpArgs false
namespace Go.Proofs.YtdacdppmgcaioaaDoor
open Go.ChangeShapes Go.WideShapes Go.ChangeAt Go.RowKit Go.Lib Go.Deep

theorem cellsStrX : Tryd.prog.cellsOf 9 = 1 := by kernel_rfl
theorem bulkX_one {H : Type} (d : DataW H) : 1 ≤ Rows.uptoBulk d := by
  cases d with
  | lit l => cases l <;> simp [Rows.uptoBulk]
  | _ => simp [Rows.uptoBulk]
theorem bulkX_len {H : Type} : ∀ l : List (DataW H), l.length ≤ Rows.uptoBulkAll l
  | [] => Nat.zero_le _
  | d :: l => by
    have h1 := bulkX_one d
    have h2 := bulkX_len l
    simp only [Rows.uptoBulkAll, List.length_cons]
    omega
theorem bulkX_in {H : Type} {d : DataW H} : ∀ {l : List (DataW H)}, d ∈ l → Rows.uptoBulk d ≤ Rows.uptoBulkAll l := by
  intro l h
  induction l with
  | nil => cases h
  | cons x r ih =>
    simp only [Rows.uptoBulkAll]
    rcases List.mem_cons.1 h with rfl | h
    · omega
    · have := ih h; omega
theorem bulkX_texts {H : Type} {xs : List ByteArray} {sp l : List (DataW H)} (h : DataW.slice (xs.map fun x => .lit (.string x.data.toList)) sp ∈ l) (hk : Rows.uptoSmall H l = true) : xs.length ≤ 1048576 ∧ ∀ x ∈ xs, x.size ≤ 1048576 := by
  have hb : Rows.uptoBulkAll l ≤ 1048576 := of_decide_eq_true hk
  have h1 := bulkX_in h
  simp only [Rows.uptoBulk] at h1
  have h2 := bulkX_len (H := H) (xs.map fun x => .lit (.string x.data.toList))
  rw [List.length_map] at h2
  refine ⟨by omega, fun x hx => ?_⟩
  have h3 := bulkX_in (H := H) (List.mem_map.2 ⟨x, hx, rfl⟩ : (DataW.lit (.string x.data.toList) : DataW H) ∈ xs.map fun x => .lit (.string x.data.toList))
  simp only [Rows.uptoBulk] at h3
  show x.data.size ≤ _
  rw [← Array.length_toList]
  omega
theorem viewX {H : Type} {enc : TypeId × Value → H} {W : World} {fuel : Nat} {a0 : Option Addr} {len cap : Nat} {d : DataW H} {p : List MemPlace}
    (hf : DataW.trod enc Tryd.prog W 0 (fun _ => true) true fuel 22 (Value.slice a0 len cap).cells.toList = some (d, p)) :
    ∃ xs : List ByteArray, xs.length = len ∧ RdX W W.heap.size a0 xs ∧ (a0 = none → xs.length = 0 ∧ cap = 0) ∧ (xs = [] ∨ ∃ sp, d = .slice (xs.map fun x => .lit (.string x.data.toList)) sp) := by
  rcases open_strs Tryd.underlying22 Tryd.underlying9 cellsStrX hf with ⟨hcs, hx⟩ | ⟨a, len', cap', m, Sx, hcs, _, hl, hm, hmm, hx, hcell⟩
  · simp [Value.cells] at hcs
    obtain ⟨rfl, rfl, rfl⟩ := hcs
    exact ⟨[], rfl, fun i x hx => by simp at hx, fun _ => ⟨rfl, rfl⟩, .inl rfl⟩
  · simp [Value.cells] at hcs
    obtain ⟨rfl, rfl, rfl⟩ := hcs
    simp only [Prod.mk.injEq] at hx
    obtain ⟨rfl, rfl⟩ := hx
    simp only [if_true] at hmm
    refine ⟨(List.range len).map Sx, by simp, fun i x hx => ?_, (fun h => by cases h), .inr ⟨_, by rw [List.map_map]; rfl⟩⟩
    have hi : i < len := by
      have := (List.getElem?_eq_some_iff.1 hx).1
      simpa using this
    have hx2 : x = Sx i := by
      rw [List.getElem?_map, List.getElem?_range hi] at hx
      simpa using hx.symm
    subst hx2
    have h1 := (hcell i (by omega)).1
    obtain ⟨b, off, sp⟩ := a
    have h0 := (hcell 0 (by omega)).1
    have hsp : sp = none := by simpa [Addr.add] using World.cell?_spot h0
    subst hsp
    rw [add_plain] at h1
    exact ⟨b, off, rfl, World.block_lt_of_cell? W _ h1, h1⟩
end Go.Proofs.YtdacdppmgcaioaaDoor
