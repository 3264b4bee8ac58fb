/-
  Contract of the laws' alive, and of num.
-/
import Derived.Test.YtdgjkhldlmhedaaDoorUtextc
set_option linter.unusedVariables false
set_option linter.unusedSimpArgs false
namespace Go.Proofs.YtdgjkhldlmhedaaDoor
open Go.RowKit Go.Lib

theorem num4_c (z : Int) (w : World) : Calls Tryd.prog 19 #[.int .i64 z] w fun e w' => e = .returned (.int .i64 z) ∧ w = w' := by
  go_enter Tryd.func19, Tryd.ntmps19
  go_wp2
  go_ret
  exact ⟨rfl, rfl⟩
theorem text233 : textT [233] = [195, 169] := by decide
theorem code233 : textE [233] = 0 := by decide
theorem cnt2 : cntT [97, 195, 169] = 2 := by decide
theorem err2 : errT [97, 195, 169] = 0 := by decide

set_option maxRecDepth 100000 in
theorem alive4_c (w : World) (hT : Tabs w) : Calls Tryd.prog 23 #[] w fun e w' => e = .returned (.bool true) ∧ Below w.heap.size w w' := by
  have hb0 : Below w.heap.size w (w.alloc (.cells #[.int .i64 233] 3)) := (Below.refl _ _).alloc (Nat.le_refl _) _
  have hrd : RdV (w.alloc (.cells #[.int .i64 233] 3)) (fun b => b = w.heap.size) (some ⟨w.heap.size, 0, none⟩) 1 (zs64 [233]) := by
    refine ⟨rfl, fun _ => ⟨w.heap.size, 0, rfl, rfl, fun j v hv => ?_⟩⟩
    have hj := (List.getElem?_eq_some_iff.1 hv).1
    have hj0 : j = 0 := by simp [zs64] at hj; omega
    subst hj0
    have := cell_new1 w (.int .i64 233) 3 w.heap.size rfl 0 v hv
    exact this
  have hTx := Text_c (c := 1) (l := [233]) (w.alloc (.cells #[.int .i64 233] 3)) hrd (fun b h => by subst h; simp) (fun z hz => by simp at hz; omega) (by omega)
  have hCt := fun V (h : Tabs V) => Count_c (mk8 [97, 195, 169]) V h (by decide)
  rw [mk8_L, cnt2, err2] at hCt
  rw [text233, code233] at hTx
  have e1 : mk8 [97, 195, 169] = ⟨#[97, 195, 169]⟩ := rfl
  have e2 : mk8 [195, 169] = ⟨#[195, 169]⟩ := rfl
  rw [e1] at hCt
  rw [e2] at hTx
  have HT := Lib.hid hT
  have HTX := Lib.hid hTx
  have HCT := Lib.hid hCt
  have HB := Lib.hid hb0
  clear hT hTx hCt hrd hb0 e1 e2
  go_enter Tryd.func23, Tryd.ntmps23
  go_wp2_with fail
  refine HTX.out.mono ?_
  rintro e w1 ⟨rfl, hb1⟩
  have hb1 := HB.out.trans (hb1.mono HB.out.size)
  go_wp2_with fail
  refine (HCT.out w1 (HT.out.below hb1)).mono ?_
  rintro e w2 ⟨rfl, hb2⟩
  have hb2 := hb1.trans (hb2.mono hb1.size)
  go_wp2_with (go_at_call 19; refine (num4_c _ _).mono ?_; rintro e w' ⟨rfl, rfl⟩)
  go_ret
  exact ⟨rfl, hb2⟩
end Go.Proofs.YtdgjkhldlmhedaaDoor
