/-
  The table of bits that the length of a number is told by, as printer's rows list it.
  The tables of the library that printer's rows list.
-/
import Derived.Test.YtpbfdgjeocmikaaGreatDoorRWtx
import Derived.Test.YtpbfdgjeocmikaaGreatDoorRows
import Derived.Lib.LaidTab
import Derived.Lib.LaidU8
import Derived.MakeChecks
import Derived.Test.YtpbfdgjeocmikaaGreatDoorRNaddm
set_option linter.unusedVariables false
set_option linter.unusedSimpArgs false
namespace Go.Proofs.YtpbfdgjeocmikaaGreatDoor
open Go.RowKit

def deb64 : List Int := [0, 1, 56, 2, 57, 49, 28, 3, 61, 58, 42, 50, 38, 29, 17, 4, 62, 47, 59, 36, 45, 43, 51, 22, 53, 39, 33, 30, 24, 18, 12, 5, 63, 55, 48, 27, 60, 41, 37, 16, 46, 35, 44, 21, 52, 32, 23, 11, 54, 26, 40, 15, 34, 20, 31, 10, 25, 14, 19, 9, 13, 8, 7, 6]
theorem deb_global : Tryz.prog.globalNamed "math/bits.deBruijn64tab" = some 5 := by kernel_rfl
theorem deb_of {W : World} {laid : List (String × DataW Unit)} (hL : laidMetH Tryz.prog laid W) (h0 : (laid.all fun x => x.2.handleName?.isNone) = true) (h1 : ("math/bits.deBruijn64tab", Rows.laid_math_bits_deBruijn64tab) ∈ laid) : W.cell? ⟨5, 15, none⟩ = some (.int .u8 4) := by
  rw [MakeChecks.laidMetH_plain _ _ _ h0] at hL
  obtain ⟨g, t, cs, fuel, p, hg, ht, hv, hd⟩ := Lib.laidMet.reads hL h1
  have hg2 : g = 5 := by rw [deb_global] at hg; injection hg with hg; exact hg.symm
  subst hg2
  have ht2 : t = 194 := by
    have h2 : (Tryz.prog.globals[(5 : Nat)]?).map (·.type) = some 194 := by kernel_rfl
    rw [h2] at ht
    injection ht with ht
    exact ht.symm
  subst ht2
  have e : (Rows.laid_math_bits_deBruijn64tab : DataW Unit) = Lib.tabData .u8 deb64 := by kernel_rfl
  rw [e] at hd
  have h9 := Lib.cells_of_tab (e := 5) (n := 64) (by kernel_rfl) (by kernel_rfl) (by kernel_rfl) (by kernel_rfl) hd
  unfold World.var? at hv
  rw [deb_global] at hv
  simp only [Option.bind_some] at hv
  have h15 : cs[15]? = some (.int .u8 4) := by rw [← Array.getElem?_toList, h9]; rfl
  split at hv
  · rename_i cs2 el fr hh
    injection hv with hv
    subst hv
    rw [Lib.cell_of_heap hh]
    exact h15
  · cases hv
end Go.Proofs.YtpbfdgjeocmikaaGreatDoor

namespace Go.Proofs.YtpbfdgjeocmikaaGreatDoor
open Go.ChangeShapes Go.WideShapes Go.ChangeAt Go.RowKit

theorem gl_of {W : World} {laid : List (String × DataW Unit)} (hL : laidMetH Tryz.prog laid W) (h0 : (laid.all fun x => x.2.handleName?.isNone) = true) (h1 : ("math/bits.deBruijn64tab", Rows.laid_math_bits_deBruijn64tab) ∈ laid) (h2 : ("internal/strconv.uint64pow10", Rows.laid_internal_strconv_uint64pow10) ∈ laid)
    (h3 : ("unicode/utf8.first", Rows.laid_unicode_utf8_first) ∈ laid) (h4 : ("unicode/utf8.acceptRanges", Rows.laid_unicode_utf8_acceptRanges) ∈ laid) : Gl W.heap.size W := by
  have hd := deb_of hL h0 h1
  have ht := tab10_of hL h0 h2
  have hT := tabs_of hL h0 h3 h4
  refine ⟨hT, ht, hd, cell_lt (hT.1 0 (by omega)), cell_lt (hT.2 0 (by omega)).1, ?_, cell_lt hd⟩
  unfold Tab10 Lib.TabIs World.var? at ht
  rw [pow_global] at ht
  simp only [Option.bind_some] at ht
  rcases Nat.lt_or_ge (3 : Nat) W.heap.size with h' | h'
  · exact h'
  · rw [Array.getElem?_eq_none h'] at ht; cases ht
end Go.Proofs.YtpbfdgjeocmikaaGreatDoor
