/-
  The laws' example.
-/
import Derived.Test.YtdacdppmgcaioaaDoorLTsp
import Derived.Test.YtdacdppmgcaioaaDoorLTlt
import Derived.Test.YtdacdppmgcaioaaDoorLTss
set_option linter.unusedVariables false
set_option linter.unusedSimpArgs false
namespace Go.Proofs.YtdacdppmgcaioaaDoor
open Go.RowKit Go.Lib

theorem ex_err : errX [⟨#[97, 44, 98]⟩, ⟨#[44]⟩] = 0 := by kernel_rfl
theorem ex_split : splitP [44] [97, 44, 98] = [[97], [98]] := by kernel_rfl
theorem ex_upper : wrote [⟨#[97, 98]⟩] ([97, 98].map (lt8 97 65)) = (⟨#[65, 66]⟩, 0) := by kernel_rfl
theorem ex_two {xs : List ByteArray} (h : xs.map (fun x => x.data.toList) = [[97], [98]]) : xs = [⟨#[97]⟩, ⟨#[98]⟩] := by
  rcases xs with _ | ⟨x, _ | ⟨y, _ | ⟨z, xs⟩⟩⟩
  · simp at h
  · simp at h
  · simp at h
    obtain ⟨h1, h2⟩ := h
    have e1 : x = ⟨#[97]⟩ := ByteArray.ext (Array.ext' (by rw [h1]))
    have e2 : y = ⟨#[98]⟩ := ByteArray.ext (Array.ext' (by rw [h2]))
    rw [e1, e2]
  · simp at h
set_option maxHeartbeats 2000000 in
set_option maxRecDepth 100000 in
theorem alive13_c {m : Int} (w : World) (hT : Tabs w) (hm : w.cell? ⟨0, 0, none⟩ = some (.int .i64 m)) :
    Calls Tryd.prog 21 #[] w fun e w' => e = .returned (.bool true) ∧ Below w.heap.size w w' := by
  have hsp := Split_c ⟨#[97, 44, 98]⟩ ⟨#[44]⟩ w hT hm (by decide) (by decide)
  have hup := fun W (hW : Tabs W) => Upper_c ⟨#[97, 98]⟩ W hW (by decide)
  rw [show (⟨#[97, 98]⟩ : ByteArray).data.toList = [97, 98] from rfl, ex_upper] at hup
  have HS := Lib.hid hsp
  have HU := Lib.hid hup
  have HT := Lib.hid hT
  clear hsp hup hT hm
  go_enter Tryd.func21, Tryd.ntmps21
  go_wp2_with fail
  refine HS.out.mono ?_
  rintro e w1 ⟨hE, hb1⟩
  obtain ⟨g, c, hgl, rfl, hrd⟩ : ∃ g c, g < w1.heap.size ∧ e = .returned (.tuple #[.slice (some ⟨g, 0, none⟩) 2 c, .int .i64 0]) ∧ RdX w1 (g + 1) (some ⟨g, 0, none⟩) [⟨#[97]⟩, ⟨#[98]⟩] := by
    rcases hE with ⟨h, -⟩ | ⟨-, h, -⟩ | ⟨-, -, hC⟩
    · rw [ex_err] at h; omega
    · exact absurd (congrArg ByteArray.size h) (by decide)
    · rw [show splitP (⟨#[44]⟩ : ByteArray).data.toList (⟨#[97, 44, 98]⟩ : ByteArray).data.toList = [[97], [98]] from ex_split] at hC
      rcases hC with ⟨-, g, c, xs, h1, -, h3, h4, -, h5⟩ | ⟨⟨p, hp, hl⟩, -⟩
      · have := ex_two h1
        subst this
        exact ⟨g, c, h3, h4, h5⟩
      · simp at hp
        rcases hp with rfl | rfl <;> simp at hl
  have HR := Lib.hid hrd
  have HB1 := Lib.hid hb1
  have HU1 := Lib.hid (HU.out w1 (HT.out.below hb1))
  clear hE hrd hb1
  go_wp2_with fail
  refine HU1.out.mono ?_
  rintro e w2 ⟨rfl, hb2⟩
  have hrd2 : RdX w2 (g + 1) (some ⟨g, 0, none⟩) [⟨#[97]⟩, ⟨#[98]⟩] := HR.out.below (hb2.mono (by omega))
  have hlt2 : g < w2.heap.size := by have := hb2.size; omega
  have HR2 := Lib.hid hrd2
  have HB2 := Lib.hid (HB1.out.trans (hb2.mono HB1.out.size))
  clear hrd2 hb2
  go_wp2_with (first | (go_at_call 19; refine (lnum13_c _ _).mono ?_; rintro e w' ⟨rfl, rfl⟩) | fail)
  have hb3 : Below w2.heap.size w2 (two w2 ⟨#[97]⟩ ⟨#[98]⟩) := (Below.refl _ w2).alloc (Nat.le_refl _) _
  have hsm := sameStrings_c (B := (two w2 ⟨#[97]⟩ ⟨#[98]⟩).heap.size) (c := c) (c' := 2) (two w2 ⟨#[97]⟩ ⟨#[98]⟩) ((HR2.out.up (B' := w2.heap.size) (by omega)).below hb3 |>.up (by rw [World.size_alloc]; omega)) (rdx2 w2 _ _) (by simp) (by simp)
  have hde : decide (([⟨#[97]⟩, ⟨#[98]⟩] : List ByteArray) = [⟨#[97]⟩, ⟨#[98]⟩]) = true := decide_eq_true rfl
  rw [hde] at hsm
  have HB3 := Lib.hid (HB2.out.trans (hb3.mono HB2.out.size))
  refine hsm.mono ?_
  rintro e w3 ⟨rfl, hb4⟩
  have HB4 := Lib.hid (HB3.out.trans (hb4.mono HB3.out.size))
  clear hb3 hb4 hsm hde
  go_wp2_with fail
  go_ret
  exact ⟨rfl, HB4.out⟩
end Go.Proofs.YtdacdppmgcaioaaDoor
