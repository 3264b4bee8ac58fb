/-
  The laws' example: Base64 of ab, and back.
-/
import Derived.Test.YtnfeifafocemaaaDoorCFub
set_option linter.unusedVariables false
set_option linter.unusedSimpArgs false
namespace Go.Proofs.YtnfeifafocemaaaDoor
open Go.RowKit Go.Lib

theorem num14_c (z : Int) (w : World) : Calls Tryd.prog 8 #[.int .i64 z] w fun e w' => e = .returned (.int .i64 z) ∧ w' = w := by
  go_enter Tryd.func8, Tryd.ntmps8
  go_wp2_with fail
  go_ret
  exact ⟨rfl, rfl⟩
theorem ex14_isT : isT [97, 98] = true := by kernel_rfl
theorem ex14_enc : enc64 [97, 98] = [89, 87, 73, 61] := by kernel_rfl
theorem ex14_rw : rwF [97, 98] (enc64 [97, 98]) = (⟨#[89, 87, 73, 61]⟩, 0) := by
  unfold rwF
  rw [if_pos ex14_isT, ex14_enc]
  exact tellF_ok (by decide)
set_option maxHeartbeats 2000000 in
set_option maxRecDepth 100000 in
theorem alive14_c (w : World) (hT : Tabs w) : Calls Tryd.prog 5 #[] w fun e w' => e = .returned (.bool true) ∧ Below w.heap.size w w' := by
  have hb := base64_c ⟨#[97, 98]⟩ w hT (by decide)
  rw [show (⟨#[97, 98]⟩ : ByteArray).data.toList = [97, 98] from rfl, ex14_rw] at hb
  have hu := fun W (hW : Tabs W) => unbase64_c [97, 98] W hW ex14_isT (by rw [ex14_enc]; decide)
  rw [ex14_enc] at hu
  have hu2 : ∀ W, Tabs W → Calls Tryd.prog 7 #[.string ⟨#[89, 87, 73, 61]⟩] W fun e w' => e = .returned (.tuple #[.string ⟨#[97, 98]⟩, .int .i64 0]) ∧ Below W.heap.size W w' := hu
  have HB := Lib.hid hb
  have HU := Lib.hid hu2
  have HT := Lib.hid hT
  clear hb hu hu2 hT
  go_enter Tryd.func5, Tryd.ntmps5
  go_wp2_with fail
  refine HB.out.mono ?_
  rintro e w1 ⟨rfl, hb1⟩
  have HU1 := Lib.hid (HU.out w1 (HT.out.below hb1))
  have HB1 := Lib.hid hb1
  clear hb1
  go_wp2_with fail
  refine HU1.out.mono ?_
  rintro e w2 ⟨rfl, hb2⟩
  have HB2 := Lib.hid (HB1.out.trans (hb2.mono HB1.out.size))
  clear hb2
  go_wp2_with (go_at_call 8; refine (num14_c _ _).mono ?_; rintro e w' ⟨rfl, rfl⟩)
  go_ret
  exact ⟨rfl, HB2.out⟩
end Go.Proofs.YtnfeifafocemaaaDoor
