/-
  An argument that is a decimal, opened, with a bound on its length by the reach.
-/
import Derived.Test.YtbbafggejnjjiaaGreatDoorDarg
import Derived.SizedLaws
set_option linter.unusedVariables false
set_option linter.unusedSimpArgs false
namespace Go.Proofs.YtbbafggejnjjiaaGreatDoor
open Go.ChangeShapes Go.WideShapes Go.ChangeAt Go.RowKit Go.Joins

set_option maxRecDepth 100000 in
theorem viewDecS {H : Type} {enc : TypeId × Value → H} {W : World} {r : Reach} {b0 : Nat} {v : Value} {d : DataW H} {p : List MemPlace}
    (hv : Value.okWide Tryz.prog W r b0 24 v) (h : DataW.Trod enc Tryz.prog W 0 (fun _ => true) true 24 v d p) :
    ∃ neg A n c exp xs, v = dv neg A n c exp ∧ Rd W (fun b => b < W.heap.size) A n xs ∧ n ≤ 9223372036854775807 ∧ ∃ d0 d1 d2, d = .agg [d0, d1, d2] ∧ (d1 = .nil ∧ n = 0 ∨ ∃ zs sp, zs.length = n ∧ d1 = .slice (lits .u32 zs) sp) := by
  obtain ⟨v0, v1, v2, y0, y1, y2, n, rfl, rfl, rfl, h0, h1, h2⟩ := open_agg3 Tryz.underlying24 (by kernel_rfl) cellsDec hv h
  obtain ⟨neg, e0, _⟩ := DataW.trod_bool Tryz.underlying4 h0
  obtain ⟨exp, e2, _⟩ := DataW.trod_int (k := .i64) Tryz.underlying3 h2
  obtain ⟨A, l, c, e1⟩ := slice_form Tryz.underlying22 h1
  injection e0 with e0
  injection e1 with e1
  injection e2 with e2
  subst e0 e1 e2
  obtain ⟨xs, rx, hx, hd⟩ := view32 (W := W) (fuel := n) (a0 := A) (len := l) (cap := c) (d := y1.1) (p := y1.2) h1
  exact ⟨neg, A, l, c, exp, xs, rfl, rx, hx, _, _, _, rfl, hd⟩
theorem sizedDec {H : Type} {ts : List TypeId} {ds : List (DataW H)} {n j : Nat} {d0 d1 d2 : DataW H} (h : (DataW.weightsEach Tryz.prog ts ds).all (· ≤ reachBytes) = true) (ht : ts[j]? = some 24) (hd : ds[j]? = some (.agg [d0, d1, d2]))
    (hs : d1 = .nil ∧ n = 0 ∨ ∃ zs sp, zs.length = n ∧ d1 = .slice (lits .u32 zs) sp) : n ≤ 35184372088832 := by
  rcases hs with ⟨_, h0⟩ | ⟨zs, sp, h1, h2⟩
  · omega
  · subst h2
    have := List.all_eq_true.1 h _ (DataW.weights_mem_each ht hd (((lits .u32 zs : List (DataW H)).length + sp.length) * Tryz.prog.bytesOf 84) (by
      simp [DataW.weights, DataW.weightsEach, Tryz.underlying24, Tryz.underlying22]))
    rw [bytes32] at this
    simp only [lits, List.length_map, reachBytes, decide_eq_true_eq] at this
    omega
end Go.Proofs.YtbbafggejnjjiaaGreatDoor
