/-
  An argument of type []uint32, opened once, nil or not: it reads as limbs, below the heap's size.
-/
import Derived.Test.YtpmdcahomkdfmaaGreatDoorRows
import Derived.Test.YtpmdcahomkdfmaaGreatDoorBNmem
import Derived.ProofKit
import Derived.OpenShut
import Derived.SizedLaws
set_option linter.unusedVariables false
set_option linter.unusedSimpArgs false
namespace Go.Proofs.YtpmdcahomkdfmaaGreatDoor
open Go.ChangeShapes Go.WideShapes Go.ChangeAt Go.RowKit

theorem own : ownKnob Tryz.prog.godebug = none := by kernel_rfl
theorem laidOut : laidOutB Tryz.prog = true := by kernel_rfl
theorem cells32 : Tryz.prog.cellsOf 72 = 1 := by kernel_rfl
theorem view32 {H : Type} {enc : TypeId × Value → H} {W : World} {fuel : Nat} {a0 : Option Addr} {len cap : Nat} {d : DataW H} {p : List MemPlace}
    (hf : DataW.trod enc Tryz.prog W 0 (fun _ => true) true fuel 22 (Value.slice a0 len cap).cells.toList = some (d, p)) :
    ∃ xs, Rd W (fun b => b < W.heap.size) a0 len xs ∧ len ≤ 9223372036854775807 ∧ (d = .nil ∧ len = 0 ∨ ∃ zs sp, zs.length = len ∧ d = .slice (lits .u32 zs) sp) := by
  rcases open_ints Tryz.underlying22 Tryz.underlying72 cells32 hf with ⟨hcs, hx⟩ | ⟨a, len', cap', zs, hcs, _, hl, hm, hz, hx, hcell, hwz⟩
  · simp [Value.cells] at hcs
    obtain ⟨rfl, rfl, rfl⟩ := hcs
    simp only [Prod.mk.injEq] at hx
    obtain ⟨rfl, rfl⟩ := hx
    exact ⟨[], Rd.nil _ _ _, by omega, .inl ⟨rfl, rfl⟩⟩
  · simp [Value.cells] at hcs
    obtain ⟨rfl, rfl, rfl⟩ := hcs
    simp only [Prod.mk.injEq] at hx
    obtain ⟨rfl, rfl⟩ := hx
    simp only [if_true] at hz
    have hb : ∀ j, j < len → 0 ≤ zs.getD j 0 ∧ zs.getD j 0 ≤ 4294967295 := fun j hj => by
      have hjl : j < zs.length := by omega
      have := hwz zs[j] (List.getElem_mem hjl)
      simp [Lit.wf, IntKind.min, IntKind.max, IntKind.signed, IntKind.bits] at this
      simp [List.getD, hjl]; omega
    have hn : ∀ j, j < len → ((nth ((zs.take len).map Int.toNat) j : Nat) : Int) = zs.getD j 0 := fun j hj => by
      have h1 := hb j hj
      have hjl : j < zs.length := by omega
      rw [nth_get (by simp; omega)]
      simp [List.getD, hjl] at h1 ⊢
      omega
    refine ⟨(zs.take len).map Int.toNat, ⟨by simp; omega, fun x hx => ?_, fun h0 => ?_⟩, by unfold maxLen at hm; omega, .inr ⟨zs.take len, _, by simp; omega, rfl⟩⟩
    · obtain ⟨j, hj, rfl⟩ := List.getElem_of_mem hx
      have hj2 : j < len := by simp at hj; omega
      have h1 := hb j hj2
      have h2 := hn j hj2
      rw [nth_get hj] at h2
      omega
    · obtain ⟨b, off, sp⟩ := a
      have h1 := hcell 0 (by omega)
      have hsp : sp = none := by simpa [Addr.add] using World.cell?_spot h1
      subst hsp
      refine ⟨b, off, rfl, by simpa [Addr.add] using World.block_lt_of_cell? W _ h1, fun j hj => ?_⟩
      have := hcell j (by omega)
      rw [Addr.add_lit] at this
      rw [this, hn j hj]
end Go.Proofs.YtpmdcahomkdfmaaGreatDoor
