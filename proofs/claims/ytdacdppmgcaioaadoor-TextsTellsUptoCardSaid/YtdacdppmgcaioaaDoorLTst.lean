/-
  Contracts of String on a sheet's Builder, and of told.
-/
import Derived.Test.YtdacdppmgcaioaaDoorLTsh
set_option linter.unusedVariables false
set_option linter.unusedSimpArgs false
namespace Go.Proofs.YtdacdppmgcaioaaDoor
open Go.RowKit Go.Lib

theorem Mid.freeze {B g : Nat} {C : Nat → Prop} {w : World} {cur : Array Value} {fr : Nat × Nat} (hg : w.heap[g]? = some (.cells cur 5 fr)) (hb : B ≤ g) (n : Nat) : Mid B C w (w.freeze ⟨g, 0, none⟩ n) := by
  unfold World.freeze
  split
  · exact Mid.refl _ _ _
  · refine ⟨rfl, rfl, rfl, by simp, fun k hk hp hc => ?_⟩
    show (w.heap.modify g _)[k]? = _
    rw [Array.getElem?_modify, if_neg]
    rintro rfl
    rcases hc with hc | hc
    · omega
    · exact hc _ _ hg
set_option maxHeartbeats 1000000 in
set_option maxRecDepth 100000 in
theorem stringT_c {B pb : Nat} {bs : List UInt8} {f : Bool} (w : World) (hP : ShR B pb bs f w) :
    Calls Tryd.prog 93 #[shP pb] w fun e w' => e = .returned (.string ⟨bs.toArray⟩) ∧ Mid B (fun _ => False) w w' := by
  obtain ⟨p, v, hp, hx, hown⟩ := hP.box
  have mixed : Tryd.prog.follows .mixedOrders = true := by kernel_rfl
  have hUS0 : ∀ (W : World) (q : Option Addr), (Builtin.unsafeString_ #[122, 3] 9 #[.pointer q, .int .i64 0]).run Tryd.prog W = .ok (.string .empty) W := fun W q => Lib.run_unsafeString_none (w := W) _ _ _ q
  have hlt : pb < w.heap.size := (Array.getElem?_eq_some_iff.1 hx).1
  by_cases h0 : bs = []
  · subst h0
    rcases hown.2 with ⟨rfl, _⟩ | ⟨g, cap, cur, rfl, hbg, hg, hnc, hcm, hcs, htake⟩
    · have c1 : w.drew.cell? ⟨pb, 1, none⟩ = some (.slice none 0 0) := cellT (w := w.drew) (i := 1) (show w.drew.heap[pb]? = _ from hx) rfl
      have hSD : (Builtin.unsafeSliceData_ #[62] 122 #[.slice none 0 0]).run Tryd.prog w.drew = .ok (.pointer none) w.drew := rfl
      clear hown hx hp hP
      go_enter Tryd.func93, Tryd.ntmps93
      go_wp2
      go_region_o
      all_goals (go_wp2; first | go_end0 | refine bodyPost_ret (results_none rfl _ _ _) rfl ?_ | go_ret2 | go_ret; try exact ⟨rfl, (Mid.refl _ _ _).drw⟩)
    · by_cases hc0 : cap = 0
      · subst hc0
        have c1 : w.drew.cell? ⟨pb, 1, none⟩ = some (.slice (some ⟨g, 0, none⟩) 0 0) := cellT (w := w.drew) (i := 1) (show w.drew.heap[pb]? = _ from hx) rfl
        have hSD : (Builtin.unsafeSliceData_ #[62] 122 #[.slice (some ⟨g, 0, none⟩) 0 0]).run Tryd.prog w.drew = .ok (.pointer (some ⟨w.drew.heap.size, 0, none⟩)) (w.drew.alloc (.view ⟨g, 0, none⟩ 5)) :=
          Lib.run_unsafeSliceData_zero (w := w.drew) _ _ 5 (by kernel_rfl) ⟨g, 0, none⟩ 0 (5, cur.size) (by have hg' : w.drew.heap[g]? = some (.cells cur 5 (0, 0)) := hg; simp [World.shape?, hg'])
        have c2 : (w.drew.alloc (.view ⟨g, 0, none⟩ 5)).cell? ⟨pb, 1, none⟩ = some (.slice (some ⟨g, 0, none⟩) 0 0) := by
          have : (w.drew.alloc (.view ⟨g, 0, none⟩ 5)).heap[pb]? = _ := (Below.heap_alloc w.drew _ pb hlt).trans hx
          exact cellT this rfl
        have c3 : (w.alloc (.view ⟨g, 0, none⟩ 5)).drew.cell? ⟨pb, 1, none⟩ = some (.slice (some ⟨g, 0, none⟩) 0 0) := c2
        have c0 : w.cell? ⟨pb, 1, none⟩ = some (.slice (some ⟨g, 0, none⟩) 0 0) := c1
        clear hown hx hp hP hg htake hcs hcm hnc
        go_enter Tryd.func93, Tryd.ntmps93
        go_wp2
        go_region_o
        all_goals (go_wp2; first | go_end0 | refine bodyPost_ret (results_none rfl _ _ _) rfl ?_ | go_ret2 | go_ret; try exact ⟨rfl, ((Mid.refl _ _ _).alloc _).drw⟩)
      · have c1 : w.drew.cell? ⟨pb, 1, none⟩ = some (.slice (some ⟨g, 0, none⟩) 0 cap) := cellT (w := w.drew) (i := 1) (show w.drew.heap[pb]? = _ from hx) rfl
        have hSD : (Builtin.unsafeSliceData_ #[62] 122 #[.slice (some ⟨g, 0, none⟩) 0 cap]).run Tryd.prog w.drew = .ok (.pointer (some ⟨g, 0, none⟩)) w.drew :=
          Lib.run_unsafeSliceData_row _ _ _ _ _ _ hc0
        clear hown hx hp hP hg htake hcs hcm hnc hc0
        go_enter Tryd.func93, Tryd.ntmps93
        go_wp2
        go_region_o
        all_goals (go_wp2; first | go_end0 | refine bodyPost_ret (results_none rfl _ _ _) rfl ?_ | go_ret2 | go_ret; try exact ⟨rfl, (Mid.refl _ _ _).drw⟩)
  · have hl0 : bs.length ≠ 0 := by simpa using h0
    obtain ⟨g, cap, cur, rfl, hbg, hg, hnc, hcm, hcs, htake⟩ : ∃ g cap cur, v = .slice (some ⟨g, 0, none⟩) bs.length cap ∧ B ≤ g ∧ w.heap[g]? = some (.cells cur 5 (0, 0)) ∧ bs.length ≤ cap ∧ cap ≤ maxLen ∧ cur.size = cap * 1 ∧ cur.toList.take (bs.length * 1) = Lib.byteCells bs := by
      rcases hown.2 with ⟨_, hz⟩ | ⟨g, cap, cur, hv, r⟩
      · exact absurd hz hl0
      · exact ⟨g, cap, cur, hv, r⟩
    have c1 : w.drew.cell? ⟨pb, 1, none⟩ = some (.slice (some ⟨g, 0, none⟩) bs.length cap) := cellT (w := w.drew) (i := 1) (show w.drew.heap[pb]? = _ from hx) rfl
    have hSD : (Builtin.unsafeSliceData_ #[62] 122 #[.slice (some ⟨g, 0, none⟩) bs.length cap]).run Tryd.prog w.drew = .ok (.pointer (some ⟨g, 0, none⟩)) w.drew :=
      Lib.run_unsafeSliceData_row _ _ _ _ _ _ (by omega)
    have hUS : (Builtin.unsafeString_ #[122, 3] 9 #[.pointer (some ⟨g, 0, none⟩), .int .i64 bs.length]).run Tryd.prog w.drew = .ok (.string ⟨bs.toArray⟩) (w.drew.freeze ⟨g, 0, none⟩ bs.length) := by
      refine Lib.run_unsafeString_row w.drew 122 3 9 5 (by kernel_rfl) (by kernel_rfl) g cur.size (by have hg' : w.drew.heap[g]? = some (.cells cur 5 (0, 0)) := hg; simp [World.shape?, hg']) bs h0 (by omega) (by unfold maxLen at hcm; omega) ?_
      intro j x hx
      have := hown.cells (g := g) rfl j (.int .u8 x.toNat) (by simp [Lib.byteCells, hx])
      exact this
    have hS : Mid B (fun _ => False) w (w.drew.freeze ⟨g, 0, none⟩ bs.length) := (Mid.refl _ _ _).drw.trans (Mid.freeze (w := w.drew) (cur := cur) (fr := (0, 0)) hg hbg _)
    have HS := Lib.hid hS
    clear hS hown htake hcs hcm hg hx hp hP hUS0
    go_enter Tryd.func93, Tryd.ntmps93
    go_wp2
    go_region_o
    all_goals (go_wp2; first | go_end0 | refine bodyPost_ret (results_none rfl _ _ _) rfl ?_ | go_ret2 | go_ret; try exact ⟨rfl, HS.out⟩)

/-- What a sheet tells in the end. -/
def tell (out : List UInt8) : ByteArray × Int := if out.length ≤ 16384 then (⟨out.toArray⟩, 0) else (⟨#[]⟩, 5)
theorem tell_ok {out : List UInt8} (h : out.length ≤ 16384) : tell out = (⟨out.toArray⟩, 0) := if_pos h
theorem tell_no {out : List UInt8} (h : 16384 < out.length) : tell out = (⟨#[]⟩, 5) := if_neg (by omega)
set_option maxHeartbeats 1000000 in
set_option maxRecDepth 100000 in
theorem told_c {B pb : Nat} {out : List UInt8} (w : World) (hP : Sh B pb out w) :
    Calls Tryd.prog 66 #[shP pb] w fun e w' => e = .returned (.tuple #[.string (tell out).1, .int .i64 (tell out).2]) ∧ Mid B (fun _ => False) w w' := by
  obtain ⟨bs, f, hR, hbl, hf⟩ := hP
  obtain ⟨c2, -⟩ := hR.flag
  rcases hf with ⟨rfl, rfl⟩ | ⟨rfl, hbig⟩
  · have hst := stringT_c w hR
    rw [tell_ok hbl]
    have HS := Lib.hid hst
    clear hR hst
    go_enter Tryd.func66, Tryd.ntmps66
    go_wp2_with fail
    refine HS.out.mono ?_
    rintro e w1 ⟨rfl, hM⟩
    go_wp2_with fail
    go_ret2
    exact ⟨rfl, hM⟩
  · rw [tell_no hbig]
    clear hR
    go_enter Tryd.func66, Tryd.ntmps66
    go_wp2_with fail
    go_ret2
    exact ⟨rfl, Mid.refl _ _ _⟩
end Go.Proofs.YtdacdppmgcaioaaDoor
