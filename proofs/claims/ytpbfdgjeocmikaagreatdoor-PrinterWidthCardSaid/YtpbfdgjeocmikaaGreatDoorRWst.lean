/-
  Contract of String on a page's Builder.
-/
import Derived.Test.YtpbfdgjeocmikaaGreatDoorRWva
set_option linter.unusedVariables false
set_option linter.unusedSimpArgs false
namespace Go.Proofs.YtpbfdgjeocmikaaGreatDoor
open Go.RowKit Go.Lib

theorem Soft.freeze {B pb g : Nat} {w : World} {cur : Array Value} {fr : Nat × Nat} (hg : w.heap[g]? = some (.cells cur 5 fr)) (hb : B ≤ g) (n : Nat) : Soft B pb w (w.freeze ⟨g, 0, none⟩ n) := by
  unfold World.freeze
  split
  · exact Soft.refl _ _ _
  · refine ⟨rfl, rfl, rfl, by simp, fun k hk hp hc => ?_⟩
    show (w.heap.modify g _)[k]? = _
    rw [Array.getElem?_modify, if_neg]
    rintro rfl
    rcases hc with hc | hc
    · omega
    · exact hc _ _ hg
set_option maxHeartbeats 1000000 in
set_option maxRecDepth 100000 in
theorem string_c {B pb : Nat} {bs : List UInt8} {room st o : Nat} {F : Value} (w : World) (hP : Pg B pb bs room st o F w) (h0 : bs ≠ []) :
    Calls Tryz.prog 39 #[pgP pb] w fun e w' => e = .returned (.string ⟨bs.toArray⟩) ∧ Soft B pb w w' := by
  obtain ⟨p, v, hp, hx, hown⟩ := hP.box
  have hl0 : bs.length ≠ 0 := by simpa using h0
  obtain ⟨g, cap, cur, rfl, hbg, hg, hnc, hcm, hcs, htake⟩ : ∃ g cap cur, v = .slice (some ⟨g, 0, none⟩) bs.length cap ∧ B ≤ g ∧ w.heap[g]? = some (.cells cur 5 (0, 0)) ∧ bs.length ≤ cap ∧ cap ≤ maxLen ∧ cur.size = cap * 1 ∧ cur.toList.take (bs.length * 1) = Lib.byteCells bs := by
    rcases hown.2 with ⟨_, hz⟩ | ⟨g, cap, cur, hv, r⟩
    · exact absurd hz hl0
    · exact ⟨g, cap, cur, hv, r⟩
  have c1 : w.drew.cell? ⟨pb, 1, none⟩ = some (.slice (some ⟨g, 0, none⟩) bs.length cap) := cell_at3 (w := w.drew) (i := 1) (show w.drew.heap[pb]? = _ from hx) rfl
  have hSD : (Builtin.unsafeSliceData_ #[38] 99 #[.slice (some ⟨g, 0, none⟩) bs.length cap]).run Tryz.prog w.drew = .ok (.pointer (some ⟨g, 0, none⟩)) w.drew :=
    Lib.run_unsafeSliceData_row _ _ _ _ _ _ (by omega)
  have hUS : (Builtin.unsafeString_ #[99, 3] 9 #[.pointer (some ⟨g, 0, none⟩), .int .i64 bs.length]).run Tryz.prog w.drew = .ok (.string ⟨bs.toArray⟩) (w.drew.freeze ⟨g, 0, none⟩ bs.length) := by
    refine Lib.run_unsafeString_row w.drew 99 3 9 5 (by kernel_rfl) (by kernel_rfl) g cur.size (by have hg' : w.drew.heap[g]? = some (.cells cur 5 (0, 0)) := hg; simp [World.shape?, hg']) bs h0 (by omega) (by unfold maxLen at hcm; omega) ?_
    intro j x hx
    have := hown.cells (g := g) rfl j (.int .u8 x.toNat) (by simp [Lib.byteCells, hx])
    exact this
  have hS : Soft B pb w (w.drew.freeze ⟨g, 0, none⟩ bs.length) := (Soft.refl B pb w).drw.trans (Soft.freeze (w := w.drew) (cur := cur) (fr := (0, 0)) hg hbg _)
  have HS := Lib.hid hS
  have mixed : Tryz.prog.follows .mixedOrders = true := by kernel_rfl
  clear hS hown htake hcs hcm hg hx hp
  go_enter Tryz.func39, Tryz.ntmps39
  go_wp2
  go_region_o
  all_goals (go_wp2; first | go_end0 | refine bodyPost_ret (results_none rfl _ _ _) rfl ?_ | go_ret2 | go_ret; try exact ⟨rfl, HS.out⟩)
end Go.Proofs.YtpbfdgjeocmikaaGreatDoor
