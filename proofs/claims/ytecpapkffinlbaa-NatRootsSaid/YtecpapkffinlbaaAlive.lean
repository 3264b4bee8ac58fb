/-
  Contracts of the laws' helpers num and alive (the page's example).
-/
import Derived.Test.YtecpapkffinlbaaApi

set_option linter.unusedVariables false
set_option linter.unusedSimpArgs false
namespace Go.Proofs.Ytecpapkffinlbaa
open Go.RowKit

theorem num_c (z : Int) (w : World) : Calls Try.prog 7 #[.int .i64 z] w fun e w' => e = .returned (.int .i64 z) ∧ w = w' := by
  go_enter Try.func7, Try.ntmps7
  go_wp2
  go_ret
  exact ⟨rfl, rfl⟩

theorem ten_limbs {zs : List Nat} (h : Can zs) (hv : val zs = 10 ^ 10) : zs = [1410065408, 2] := by
  refine h.inj ⟨L32.cons.2 ⟨by omega, L32.cons.2 ⟨by omega, L32.nil⟩⟩, .inr (by decide)⟩ ?_
  rw [hv]; rfl
theorem ten_text {s : ByteArray} (h : IsDec (10 ^ 10) s) : s = ⟨#[49, 48, 48, 48, 48, 48, 48, 48, 48, 48, 48]⟩ := by
  refine h.unique (.inr ⟨by decide, [0, 0, 0, 0, 0, 0, 0, 0, 0, 0, 1], ⟨?_, .inr (by decide)⟩, by rfl, by rfl⟩)
  intro x hx
  simp at hx
  omega

set_option maxRecDepth 100000 in
theorem alive_c (w : World) : Calls Try.prog 5 #[] w fun e w' => e = .returned (.bool true) ∧ Below w.heap.size w w' := by
  go_enter Try.func5, Try.ntmps5
  go_wp2_with fail
  refine (Pow_ok 10 w (by omega)).mono ?_
  rintro e w1 ⟨A, n, c, zs, rfl, hres, hcan, hval, hb1⟩
  obtain rfl := ten_limbs hcan hval
  obtain rfl : 2 = n := hres.len
  obtain ⟨g, hA⟩ : ∃ g, A = some ⟨g, 0, none⟩ := by
    rcases hres.form with ⟨_, h, _⟩ | ⟨g, h, _⟩
    · omega
    · exact ⟨g, h⟩
  subst hA
  go_wp2_with fail
  refine (Print_ok w1 hres.rd (fun b h => h.2) hcan (by omega)).mono ?_
  rintro e w2 ⟨s, rfl, hs, hb2⟩
  rw [hval] at hs
  obtain rfl := ten_text hs
  have hr2 := hres.below hb2 (Nat.le_refl _)
  have hc0 : w2.cell? ⟨g, 0, none⟩ = some (.int .u32 1410065408) := hr2.cell (j := 0) (by omega)
  have hc1 : w2.cell? ⟨g, 1, none⟩ = some (.int .u32 2) := hr2.cell (j := 1) (by omega)
  clear hval hs hr2 hres hcan
  go_wp2_with (go_at_call 7; refine (num_c _ _).mono ?_; rintro e w' ⟨rfl, rfl⟩)
  go_ret
  exact ⟨rfl, hb1.trans (hb2.mono hb1.size)⟩

end Go.Proofs.Ytecpapkffinlbaa
