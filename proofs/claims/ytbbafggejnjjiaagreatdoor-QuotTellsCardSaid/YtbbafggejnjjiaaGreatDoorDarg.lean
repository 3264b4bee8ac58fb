/-
  An argument that is a decimal, opened once: what it reads as.
-/
import Derived.Test.YtbbafggejnjjiaaGreatDoorArgs
import Derived.Test.YtbbafggejnjjiaaGreatDoorDa
import Derived.Lib.SmallJoins
set_option linter.unusedVariables false
set_option linter.unusedSimpArgs false
namespace Go.Proofs.YtbbafggejnjjiaaGreatDoor
open Go.ChangeShapes Go.WideShapes Go.ChangeAt Go.RowKit Go.Joins

theorem cellsDec : Tryz.prog.cellsOf 24 = 3 := by kernel_rfl
set_option maxRecDepth 100000 in
theorem viewDec {H : Type} {enc : TypeId × Value → H} {W : World} {r : Reach} {b0 : Nat} {v : Value} {d : DataW H} {p : List MemPlace}
    (hv : Value.okWide Tryz.prog W r b0 24 v) (h : DataW.Trod enc Tryz.prog W 0 (fun _ => true) true 24 v d p) :
    ∃ neg A n c exp xs, v = dv neg A n c exp ∧ Rd W (fun b => b < W.heap.size) A n xs ∧ n ≤ 9223372036854775807 := by
  obtain ⟨v0, v1, v2, y0, y1, y2, n, rfl, rfl, rfl, h0, h1, h2⟩ := open_agg3 Tryz.underlying24 (by kernel_rfl) cellsDec hv h
  obtain ⟨neg, e0, _⟩ := DataW.trod_bool Tryz.underlying4 h0
  obtain ⟨exp, e2, _⟩ := DataW.trod_int (k := .i64) Tryz.underlying3 h2
  obtain ⟨A, l, c, e1⟩ := slice_form Tryz.underlying22 h1
  injection e0 with e0
  injection e1 with e1
  injection e2 with e2
  subst e0 e1 e2
  obtain ⟨xs, rx, hx, _⟩ := view32 (W := W) (fuel := n) (a0 := A) (len := l) (cap := c) (d := y1.1) (p := y1.2) h1
  exact ⟨neg, A, l, c, exp, xs, rfl, rx, hx⟩
end Go.Proofs.YtbbafggejnjjiaaGreatDoor
