/-
  An argument of type []int or []uint8, opened once, nil or not: it reads as numbers, below the heap's size; the tables of the library as a row lists them.
-/
import Derived.Test.YtdgjkhldlmhedaaDoorRows
import Derived.Test.YtdgjkhldlmhedaaDoorUalive
import Derived.ProofKit
import Derived.OpenShut
import Derived.SizedLaws
import Derived.Lib.LaidU8
import Derived.PinnedBridge
import Derived.MakeChecks
set_option linter.unusedVariables false
set_option linter.unusedSimpArgs false
namespace Go.Proofs.YtdgjkhldlmhedaaDoor
open Go.ChangeShapes Go.WideShapes Go.ChangeAt Go.RowKit

theorem own : ownKnob Tryd.prog.godebug = none := by kernel_rfl
theorem laidOut : laidOutB Tryd.prog = true := by kernel_rfl
theorem cells64 : Tryd.prog.cellsOf 3 = 1 := by kernel_rfl
theorem cells8 : Tryd.prog.cellsOf 5 = 1 := by kernel_rfl
theorem bytes64 : Tryd.prog.bytesOf 3 = 8 := by kernel_rfl
theorem bytes8 : Tryd.prog.bytesOf 5 = 1 := by kernel_rfl

theorem tabs_of {W : World} {laid : List (String × DataW Unit)} (hL : laidMetH Tryd.prog laid W) (h0 : (laid.all fun x => x.2.handleName?.isNone) = true) (h1 : ("unicode/utf8.first", Rows.laid_unicode_utf8_first) ∈ laid) (h2 : ("unicode/utf8.acceptRanges", Rows.laid_unicode_utf8_acceptRanges) ∈ laid) : Tabs W := by
  rw [MakeChecks.laidMetH_plain _ _ _ h0] at hL
  have r1 := Lib.laidMet.reads hL h1
  have r2 := Lib.laidMet.reads hL h2
  have e1 : Rows.laid_unicode_utf8_first = Lib.firstData := Pinned.utf8First_eq
  have e2 : Rows.laid_unicode_utf8_acceptRanges = Lib.acceptData := by kernel_rfl
  rw [e1] at r1
  rw [e2] at r2
  exact utf8Tabs_of_reads (ρ := Tryd.lays197_ren) { Tryd.lays197 with } ⟨by kernel_rfl, by kernel_rfl, by kernel_rfl, by kernel_rfl, by kernel_rfl, by kernel_rfl, by kernel_rfl⟩ r1 r2

theorem viewZ {H : Type} {enc : TypeId × Value → H} {W : World} {fuel : Nat} {a0 : Option Addr} {len cap : Nat} {d : DataW H} {p : List MemPlace}
    (hf : DataW.trod enc Tryd.prog W 0 (fun _ => true) true fuel 27 (Value.slice a0 len cap).cells.toList = some (d, p)) :
    ∃ l : List Int, RdV W (fun b => b < W.heap.size) a0 len (zs64 l) ∧ L64 l ∧ len ≤ 9223372036854775807 ∧ (d = .nil ∧ len = 0 ∨ ∃ zs sp, zs.length = len ∧ d = .slice (lits .i64 zs) sp) := by
  rcases open_ints Tryd.underlying27 Tryd.underlying3 cells64 hf with ⟨hcs, hx⟩ | ⟨a, len', cap', zs, hcs, _, hl, hm, hz, hx, hcell, hwz⟩
  · simp [Value.cells] at hcs
    obtain ⟨rfl, rfl, rfl⟩ := hcs
    simp only [Prod.mk.injEq] at hx
    obtain ⟨rfl, rfl⟩ := hx
    exact ⟨[], RdV.nil _ _ _, (fun z hz => (List.not_mem_nil hz).elim), by omega, .inl ⟨rfl, rfl⟩⟩
  · simp [Value.cells] at hcs
    obtain ⟨rfl, rfl, rfl⟩ := hcs
    simp only [Prod.mk.injEq] at hx
    obtain ⟨rfl, rfl⟩ := hx
    simp only [if_true] at hz
    refine ⟨zs.take len, ⟨by rw [zs64_length, List.length_take]; omega, fun h0 => ?_⟩, fun z hzm => ?_, by unfold maxLen at hm; omega, .inr ⟨zs.take len, _, by simp; omega, rfl⟩⟩
    · obtain ⟨b, off, sp⟩ := a
      have h1 := hcell 0 (by omega)
      have hsp : sp = none := by simpa [Addr.add] using World.cell?_spot h1
      subst hsp
      refine ⟨b, off, rfl, by simpa [Addr.add] using World.block_lt_of_cell? W _ h1, fun j v hv => ?_⟩
      have hj := (List.getElem?_eq_some_iff.1 hv).1
      rw [zs64_length, List.length_take] at hj
      have := hcell j (by omega)
      rw [Addr.add_lit] at this
      rw [this, ← hv, zs64_get (z := zs.getD j 0)]
      rw [List.getElem?_take, if_pos (by omega), List.getD_eq_getElem?_getD, List.getElem?_eq_getElem (by omega)]; rfl
    · have := hwz z (List.mem_of_mem_take hzm)
      simp [Lit.wf, IntKind.min, IntKind.max, IntKind.signed, IntKind.bits] at this
      omega

theorem viewB {H : Type} {enc : TypeId × Value → H} {W : World} {fuel : Nat} {a0 : Option Addr} {len cap : Nat} {d : DataW H} {p : List MemPlace}
    (hf : DataW.trod enc Tryd.prog W 0 (fun _ => true) true fuel 41 (Value.slice a0 len cap).cells.toList = some (d, p)) :
    ∃ l : List UInt8, RdV W (fun b => b < W.heap.size) a0 len (bs8 l) ∧ len ≤ 9223372036854775807 ∧ (d = .nil ∧ len = 0 ∨ ∃ zs sp, zs.length = len ∧ d = .slice (lits .u8 zs) sp) := by
  rcases open_ints Tryd.underlying41 Tryd.underlying5 cells8 hf with ⟨hcs, hx⟩ | ⟨a, len', cap', zs, hcs, _, hl, hm, hz, hx, hcell, hwz⟩
  · simp [Value.cells] at hcs
    obtain ⟨rfl, rfl, rfl⟩ := hcs
    simp only [Prod.mk.injEq] at hx
    obtain ⟨rfl, rfl⟩ := hx
    exact ⟨[], RdV.nil _ _ _, by omega, .inl ⟨rfl, rfl⟩⟩
  · simp [Value.cells] at hcs
    obtain ⟨rfl, rfl, rfl⟩ := hcs
    simp only [Prod.mk.injEq] at hx
    obtain ⟨rfl, rfl⟩ := hx
    simp only [if_true] at hz
    refine ⟨(zs.take len).map fun z => z.toNat.toUInt8, ⟨by rw [bs8_length, List.length_map, List.length_take]; omega, fun h0 => ?_⟩, by unfold maxLen at hm; omega, .inr ⟨zs.take len, _, by simp; omega, rfl⟩⟩
    obtain ⟨b, off, sp⟩ := a
    have h1 := hcell 0 (by omega)
    have hsp : sp = none := by simpa [Addr.add] using World.cell?_spot h1
    subst hsp
    refine ⟨b, off, rfl, by simpa [Addr.add] using World.block_lt_of_cell? W _ h1, fun j v hv => ?_⟩
    have hj := (List.getElem?_eq_some_iff.1 hv).1
    rw [bs8_length, List.length_map, List.length_take] at hj
    have := hcell j (by omega)
    rw [Addr.add_lit] at this
    have hzj : zs[j]? = some (zs[j]'(by omega)) := List.getElem?_eq_getElem (by omega)
    have hgd : zs.getD j 0 = zs[j]'(by omega) := by rw [List.getD_eq_getElem?_getD, hzj]; rfl
    have hwf := hwz _ (List.getElem_mem (show j < zs.length by omega))
    simp [Lit.wf, IntKind.min, IntKind.max, IntKind.signed, IntKind.bits] at hwf
    rw [this, ← hv, bs8_get (z := (zs[j]'(by omega)).toNat.toUInt8)]
    · rw [hgd, toU8_toNat (by omega) (by omega)]
      congr 2
      omega
    · rw [List.getElem?_map, List.getElem?_take, if_pos (by omega), hzj]; rfl

/-- What the bound on what is read gives. -/
theorem bulk_one {H : Type} (d : DataW H) : 1 ≤ Rows.uptoBulk d := by
  cases d with
  | lit l => cases l <;> simp [Rows.uptoBulk]
  | _ => simp [Rows.uptoBulk]
theorem bulk_len {H : Type} : ∀ l : List (DataW H), l.length ≤ Rows.uptoBulkAll l
  | [] => Nat.zero_le _
  | d :: l => by
    have h1 := bulk_one d
    have h2 := bulk_len l
    simp only [Rows.uptoBulkAll, List.length_cons]
    omega
theorem bulk_mem {H : Type} {d : DataW H} : ∀ {l : List (DataW H)}, d ∈ l → Rows.uptoSmall H l = true → Rows.uptoBulk d ≤ 1048576 := by
  intro l h hk
  have hb : Rows.uptoBulkAll l ≤ 1048576 := of_decide_eq_true hk
  have hle : Rows.uptoBulk d ≤ Rows.uptoBulkAll l := by
    clear hk hb
    induction l with
    | nil => cases h
    | cons x r ih =>
      simp only [Rows.uptoBulkAll]
      rcases List.mem_cons.1 h with rfl | h
      · omega
      · have := ih h; omega
  omega
theorem bulk_string {H : Type} {b : List UInt8} {l : List (DataW H)} (h : DataW.lit (.string b) ∈ l) (hk : Rows.uptoSmall H l = true) : b.length ≤ 1048576 := by
  have := bulk_mem h hk
  simp only [Rows.uptoBulk] at this
  omega
theorem bulk_slice {H : Type} {a b : List (DataW H)} {l : List (DataW H)} (h : DataW.slice a b ∈ l) (hk : Rows.uptoSmall H l = true) : a.length ≤ 1048576 := by
  have h1 := bulk_mem h hk
  have h2 := bulk_len a
  simp only [Rows.uptoBulk] at h1
  omega
end Go.Proofs.YtdgjkhldlmhedaaDoor
