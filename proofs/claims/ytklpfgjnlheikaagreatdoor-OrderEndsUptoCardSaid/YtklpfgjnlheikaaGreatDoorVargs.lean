/-
  Arguments that are values; the tables of the library as a row lists them.
-/
import Derived.Test.YtklpfgjnlheikaaGreatDoorRows
import Derived.Test.YtklpfgjnlheikaaGreatDoorVbas
import Derived.Test.YtklpfgjnlheikaaGreatDoorUlib
import Derived.ProofKit
import Derived.OpenShut
import Derived.SizedLaws
import Derived.Lib.LaidU8
import Derived.PinnedBridge
import Derived.MakeChecks
set_option linter.unusedVariables false
set_option linter.unusedSimpArgs false
namespace Go.Proofs.YtklpfgjnlheikaaGreatDoor
open Go.ChangeShapes Go.WideShapes Go.ChangeAt Go.RowKit

theorem tabs_of {W : World} {laid : List (String × DataW Unit)} (hL : laidMetH Tryz.prog laid W) (h0 : (laid.all fun x => x.2.handleName?.isNone) = true) (h1 : ("unicode/utf8.first", Rows.laid_unicode_utf8_first) ∈ laid) (h2 : ("unicode/utf8.acceptRanges", Rows.laid_unicode_utf8_acceptRanges) ∈ laid) : Tabs W := by
  rw [MakeChecks.laidMetH_plain _ _ _ h0] at hL
  have r1 := Lib.laidMet.reads hL h1
  have r2 := Lib.laidMet.reads hL h2
  have e1 : Rows.laid_unicode_utf8_first = Lib.firstData := Pinned.utf8First_eq
  have e2 : Rows.laid_unicode_utf8_acceptRanges = Lib.acceptData := by kernel_rfl
  rw [e1] at r1
  rw [e2] at r2
  exact utf8Tabs_of_reads (ρ := Tryz.lays197_ren) { Tryz.lays197 with } ⟨by kernel_rfl, by kernel_rfl, by kernel_rfl, by kernel_rfl, by kernel_rfl, by kernel_rfl, by kernel_rfl⟩ r1 r2
theorem fits_of {H : Type} {ts : List TypeId} {ds : List (DataW H)} (h : (DataW.weightsEach Tryz.prog ts ds).all (· ≤ reachBytes) = true) {j : Nat} {t : TypeId} {d : DataW H} (ht : ts[j]? = some t) (hd : ds[j]? = some d) : Fits t d :=
  fun m hm => by simpa using List.all_eq_true.1 h m (DataW.weights_mem_each (j := j) (t := t) ht hd m hm)
theorem row_len {H : Type} {enc : TypeId × Value → H} {W : World} {fuel : Nat} {A : Option Addr} {n c : Nat} {y : DataW H × List MemPlace}
    (h : DataW.trod enc Tryz.prog W 0 (fun _ => true) true fuel 50 [.slice A n c] = some y) (hw : Fits 50 y.1) : n ≤ 1256584717458 := by
  rcases DataW.trod_slice Tryz.underlying50 h with ⟨hcs, _⟩ | ⟨a, len, cap, elems, rest, n2, _, hcs, hy3, _, hlc, hcm, hel, hee, _, _⟩
  · injection hcs with h1
    injection h1 with h1 h2
    subst h1 h2
    omega
  · injection hcs with h1
    injection h1 with h1 h2
    subst h1 h2
    rw [hy3] at hw
    have := (fits_row hw).1
    omega
end Go.Proofs.YtklpfgjnlheikaaGreatDoor
