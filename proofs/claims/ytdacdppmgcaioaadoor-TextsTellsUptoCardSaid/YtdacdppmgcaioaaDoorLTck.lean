/-
  Contracts of check and of written.
-/
import Derived.Test.YtdacdppmgcaioaaDoorLTst
import Derived.Test.YtdacdppmgcaioaaDoorLUcheck
set_option linter.unusedVariables false
set_option linter.unusedSimpArgs false
namespace Go.Proofs.YtdacdppmgcaioaaDoor
open Go.RowKit Go.Lib

/-- A row of texts that stands in memory below B. -/
def RdX (w : World) (B : Nat) (A : Option Addr) (xs : List ByteArray) : Prop := ∀ i x, xs[i]? = some x → ∃ g off, A = some ⟨g, off, none⟩ ∧ g < B ∧ w.cell? ⟨g, off + i, none⟩ = some (.string x)
theorem RdX.below {w w' : World} {B : Nat} {A : Option Addr} {xs : List ByteArray} (h : RdX w B A xs) (hb : Below B w w') : RdX w' B A xs := fun i x hx => by
  obtain ⟨g, off, e, hg, hc⟩ := h i x hx
  exact ⟨g, off, e, hg, (hb.cell (p := ⟨g, off + i, none⟩) hg).trans hc⟩
theorem RdX.up {w : World} {B B' : Nat} {A : Option Addr} {xs : List ByteArray} (h : RdX w B A xs) (hB : B ≤ B') : RdX w B' A xs := fun i x hx => by
  obtain ⟨g, off, e, hg, hc⟩ := h i x hx
  exact ⟨g, off, e, by omega, hc⟩
/-- The error of the first text that has one. -/
def errX (xs : List ByteArray) : Nat := if (xs.all fun x => isT x.data.toList) = true then 0 else 61
theorem errX_nil : errX [] = 0 := rfl
theorem errX_ok {xs : List ByteArray} (h : ∀ x ∈ xs, isT x.data.toList = true) : errX xs = 0 := if_pos (List.all_eq_true.2 h)
theorem errX_no {xs : List ByteArray} {x : ByteArray} (hx : x ∈ xs) (h : isT x.data.toList = false) : errX xs = 61 := if_neg (fun h2 => by rw [List.all_eq_true.1 h2 x hx] at h; cases h)
theorem errX_all {xs : List ByteArray} (h : errX xs = 0) : ∀ x ∈ xs, isT x.data.toList = true := fun x hx => by
  cases hb : isT x.data.toList with
  | true => rfl
  | false => rw [errX_no hx hb] at h; cases h
theorem errX_cases (xs : List ByteArray) : errX xs = 0 ∨ errX xs = 61 := by
  unfold errX; split <;> simp

set_option maxHeartbeats 2000000 in
set_option maxRecDepth 100000 in
theorem check_c {A : Option Addr} {c : Nat} {xs : List ByteArray} (w : World) (hT : Tabs w) (hx : RdX w w.heap.size A xs) (hs : ∀ x ∈ xs, x.size ≤ 140737488355328) (hn : xs.length ≤ 9223372036854775806) :
    Calls Tryd.prog 43 #[.slice A xs.length c] w fun e w' => e = .returned (.int .i64 (errX xs : Int)) ∧ Below w.heap.size w w' := by
  obtain ⟨B, hB⟩ : ∃ B, w.heap.size = B := ⟨_, rfl⟩
  obtain ⟨n, hnl⟩ : ∃ n, xs.length = n := ⟨_, rfl⟩
  rw [hB] at hx ⊢
  rw [hnl] at hn ⊢
  have HT := Lib.hid hT
  have HX := Lib.hid hx
  have HS := Lib.hid hs
  have HB := Lib.hid hB
  have HN := Lib.hid hnl
  clear hT hx hs hB hnl
  go_enter Tryd.func43, Tryd.ntmps43
  go_wp2_with fail
  go_loopw [9] (fun iv wr => ∃ i : Nat, i ≤ n ∧ iv = .int .i64 (i : Int) ∧ Hid (∀ x ∈ xs.take i, isT x.data.toList = true) ∧ Hid (Below B w wr) ∧ Hid (B ≤ wr.heap.size)) (fun iv _ => n - (RowKit.intOf iv).toNat)
  case atStart => exact ⟨0, Nat.zero_le _, rfl, by show ∀ x ∈ xs.take 0, _; simp, Below.refl _ _, by show B ≤ _; rw [HB.out]; omega⟩
  case round =>
    obtain ⟨i, hin, rfl, hok, hbel, hsz⟩ := hrel
    by_cases hi : i < n
    · have hilt : (i : Int) < (n : Int) := by omega
      have hi0 : (0 : Int) ≤ (i : Int) := by omega
      have hit : ((i : Int)).toNat = i := by omega
      have hiw : IntKind.i64.wrap ((i : Int) + 1) = (i : Int) + 1 := IntWalk.i64_in _ (by omega)
      obtain ⟨x, hxi⟩ : ∃ x, xs[i]? = some x := ⟨_, List.getElem?_eq_getElem (by rw [HN.out]; exact hi)⟩
      obtain ⟨g, off, rfl, hg, hc⟩ := HX.out i x hxi
      have d0 : wr.cell? ⟨g, off + i, none⟩ = some (.string x) := (hbel.out.cell (p := ⟨g, off + i, none⟩) hg).trans hc
      have hmem : x ∈ xs := List.mem_of_getElem? hxi
      have huc := UCheck_c x wr (HT.out.below (hbel.out.mono (by have := HB.out; omega))) (HS.out x hmem)
      have hE : (errT x.data.toList = 0 ∧ isT x.data.toList = true) ∨ (errT x.data.toList = 61 ∧ isT x.data.toList = false) := by
        unfold errT
        cases isT x.data.toList <;> simp
      obtain ⟨E, hEE⟩ : ∃ E, errT x.data.toList = E := ⟨_, rfl⟩
      obtain ⟨Q, hQ⟩ : ∃ Q, badAt x.data.toList = Q := ⟨_, rfl⟩
      rw [hEE, hQ] at huc
      rw [hEE] at hE
      have htk : xs.take (i + 1) = xs.take i ++ [x] := by rw [List.take_add_one, hxi]; rfl
      have HTK := Lib.hid htk
      have HM := Lib.hid hmem
      have HU := Lib.hid huc
      have HOK := Lib.hid hok.out
      have HBE := Lib.hid hbel.out
      have HSZ := Lib.hid hsz.out
      clear htk hmem huc hok hbel hsz hc hxi hEE hQ
      rcases hE with ⟨rfl, hgood⟩ | ⟨rfl, hbad⟩
      · have HG := Lib.hid hgood
        clear hgood
        go_wp2_with fail
        refine HU.out.mono ?_
        rintro e w1 ⟨rfl, hb1⟩
        have HB1 := Lib.hid (HBE.out.trans (hb1.mono HSZ.out))
        have HSZ1 := Lib.hid (Nat.le_trans HSZ.out hb1.size)
        clear hb1 d0
        go_wp2_with fail
        go_roundw
        case rel =>
          refine ⟨i + 1, by omega, by go_num, ?_, HB1.out, HSZ1.out⟩
          show ∀ y ∈ xs.take (i + 1), _
          rw [HTK.out]
          intro y hy
          rcases List.mem_append.1 hy with hy | hy
          · exact HOK.out y hy
          · rw [show y = x by simpa using hy]; exact HG.out
        case measure => simp [RowKit.intOf]; omega
      · have HG := Lib.hid hbad
        clear hbad
        go_wp2_with fail
        refine HU.out.mono ?_
        rintro e w1 ⟨rfl, hb1⟩
        have HB1 := Lib.hid (HBE.out.trans (hb1.mono HSZ.out))
        clear hb1 d0
        go_wp2_with fail
        go_ret
        exact ⟨by rw [errX_no HM.out HG.out]; rfl, HB1.out⟩
    · have hni : ¬ (i : Int) < (n : Int) := by omega
      have hall : errX xs = 0 := errX_ok (by
        have := hok.out
        rwa [show i = n by omega, ← HN.out, List.take_length] at this)
      have HA := Lib.hid hall
      have HBE := Lib.hid hbel.out
      clear hall hok hbel
      go_wp2_with fail
      go_ret
      exact ⟨by rw [HA.out]; rfl, HBE.out⟩
end Go.Proofs.YtdacdppmgcaioaaDoor
