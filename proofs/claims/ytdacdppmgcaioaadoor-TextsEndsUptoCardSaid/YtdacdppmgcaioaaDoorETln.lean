/-
  Lines: the program's and the reference's.
-/
import Derived.Test.YtdacdppmgcaioaaDoorETcv
import Derived.Test.YtdacdppmgcaioaaDoorETbaw
set_option linter.unusedVariables false
set_option linter.unusedSimpArgs false
namespace Go.Proofs.YtdacdppmgcaioaaDoor
open Go.RowKit Go.Lib

/-- Parts without the empty one behind the last. -/
def linesP (ps : List (List UInt8)) : List (List UInt8) := if ps.getLast? = some [] then ps.dropLast else ps
theorem lines_last {xs : List ByteArray} {x : ByteArray} (h : xs.getLast? = some x) : linesP (xs.map dl) = if x = ⟨#[]⟩ then (xs.dropLast).map dl else xs.map dl := by
  unfold linesP
  rw [List.getLast?_map, h]
  by_cases hx : x = ⟨#[]⟩
  · rw [if_pos (by rw [hx]; rfl), if_pos hx, List.map_dropLast]
  · rw [if_neg (fun e => hx (by
      have e2 : dl x = [] := by simpa using e
      exact ByteArray.ext (Array.ext' (by show x.data.toList = _; rw [show x.data.toList = [] from e2])))), if_neg hx]
theorem last_get {xs : List ByteArray} {k : Nat} (hk : xs.length = k + 1) : ∃ x, xs[k]? = some x ∧ xs.getLast? = some x := by
  have h : k < xs.length := by omega
  refine ⟨xs[k], List.getElem?_eq_getElem h, ?_⟩
  rw [List.getLast?_eq_getElem?, hk, Nat.add_sub_cancel, List.getElem?_eq_getElem h]
theorem rdx_dropLast {w : World} {B : Nat} {A : Option Addr} {xs : List ByteArray} (h : RdX w B A xs) : RdX w B A xs.dropLast := fun i x hx => by
  rw [List.getElem?_dropLast] at hx
  split at hx
  · exact h i x hx
  · cases hx
/-- What Lines comes to. -/
def LinesE (s : ByteArray) (e : Ending) (w' : World) : Prop :=
  (errX [s] = 61 ∧ e = .returned (.tuple #[.slice none 0 0, .int .i64 61])) ∨
    (errX [s] = 0 ∧ (∃ p ∈ cutP (nxOf [10]) s.data.toList, 16384 < p.length) ∧ e = .returned (.tuple #[.slice none 0 0, .int .i64 5])) ∨
    (errX [s] = 0 ∧ (∀ p ∈ cutP (nxOf [10]) s.data.toList, p.length ≤ 16384) ∧ ∃ (A : Option Addr) (c : Nat) (xs : List ByteArray), xs.map dl = linesP (cutP (nxOf [10]) s.data.toList) ∧ e = .returned (.tuple #[.slice A xs.length c, .int .i64 0]) ∧ RdX w' w'.heap.size A xs)
theorem check1_c (s : ByteArray) (w : World) (hT : Tabs w) (hs : s.size ≤ 140737488355328) :
    Calls Tryd.prog 43 #[.slice (some ⟨w.heap.size, 0, none⟩) 1 1] (w.alloc (.cells #[.string s] 9)) fun e w' => e = .returned (.int .i64 (errX [s] : Int)) ∧ Below w.heap.size w w' := by
  have h := check_c (c := 1) (w.alloc (.cells #[.string s] 9)) (hT.below ((Below.refl _ w).alloc (Nat.le_refl _) _)) (rdx1 w s) (by intro x hx; simp at hx; subst hx; exact hs) (by simp)
  refine h.mono fun e w' ⟨he, hb⟩ => ⟨he, ?_⟩
  have h1 : Below w.heap.size w (w.alloc (.cells #[.string s] 9)) := (Below.refl _ w).alloc (Nat.le_refl _) _
  exact h1.trans (hb.mono (by rw [World.size_alloc]; omega))
set_option maxHeartbeats 4000000 in
set_option maxRecDepth 100000 in
theorem Lines_c {m : Int} (s : ByteArray) (w : World) (hT : Tabs w) (hm : w.cell? ⟨0, 0, none⟩ = some (.int .i64 m)) (hs : s.size ≤ 1048576) :
    Calls Tryd.prog 34 #[.string s] w fun e w' => LinesE s e w' ∧ Below w.heap.size w w' := by
  have hck := check1_c s w hT (by omega)
  have hmlt := cell_lt hm
  obtain ⟨E, hE⟩ : ∃ E, errX [s] = E := ⟨_, rfl⟩
  have hc := errX_cases [s]
  rw [hE] at hck hc
  have HC := Lib.hid hck
  have HE := Lib.hid hE
  clear hck
  rcases hc with rfl | rfl
  · obtain ⟨B, hB⟩ : ∃ B, w.heap.size = B := ⟨_, rfl⟩
    have HT := Lib.hid hT
    have HM := Lib.hid hm
    have HBB := Lib.hid hB
    rw [hB] at hmlt
    clear hE hT hm hB
    go_enter Tryd.func34, Tryd.ntmps34
    go_wp2_with fail
    refine HC.out.mono ?_
    rintro e w1 ⟨rfl, hb1⟩
    have HB := Lib.hid hb1
    clear hb1
    go_wp2_with fail
    refine (placeOf_c _ _).mono ?_
    rintro e w2 ⟨rfl, rfl⟩
    have hb2 : Below w.heap.size w (w1.alloc (.cells #[.string ⟨#[10]⟩] 9)) := HB.out.alloc HB.out.size _
    have hnew := World.alloc_heap_new w1 (.cells #[.string ⟨#[10]⟩] 9)
    have hT2 : Tabs (w1.alloc (.cells #[.string ⟨#[10]⟩] 9)) := HT.out.below hb2
    have hm2 : (w1.alloc (.cells #[.string ⟨#[10]⟩] 9)).cell? ⟨0, 0, none⟩ = some (.int .i64 m) := (hb2.cell (p := ⟨0, 0, none⟩) (by have := HBB.out; show 0 < _; omega)).trans HM.out
    have hup : w.heap.size ≤ (w1.alloc (.cells #[.string ⟨#[10]⟩] 9)).heap.size := hb2.size
    have hcut := cut_c (fn := 71) (caps := #[.pointer (some ⟨w1.heap.size, 0, none⟩)]) (nxOf_goes [10]) s _ hT2 (by omega) (fun ar W => by kernel_rfl) (placeOf1_c ⟨#[10]⟩ _ (by decide) hm2 hnew (by rw [World.size_alloc]; omega) (Nat.le_refl _) (by have := HBB.out; omega))
    have HCU := Lib.hid hcut
    have HB2 := Lib.hid hb2
    have HUP := Lib.hid hup
    clear hT2 hb2 hcut hup hm2 hnew
    go_wp2_with fail
    refine HCU.out.mono ?_
    rintro e w3 ⟨hcE, hb3⟩
    have HB3 := Lib.hid (HB2.out.trans (hb3.mono HUP.out))
    clear hb3
    rcases hcE with ⟨hle, g, c, xs, hxs, hgb, hgl, rfl, hcap, hrd⟩ | ⟨hbig, rfl⟩
    · have hne : xs ≠ [] := fun e => by
        have h2 := hxs
        rw [e] at h2
        exact cutP_ne (nxOf [10]) s.data.toList h2.symm
      obtain ⟨k, hk⟩ : ∃ k, xs.length = k + 1 := ⟨xs.length - 1, by
        have : xs.length ≠ 0 := fun h => hne (List.length_eq_zero_iff.1 h)
        omega⟩
      obtain ⟨x, hx1, hx2⟩ := last_get hk
      have hll := lines_last hx2
      have hkb : k ≤ 1048577 := by
        have h1 : xs.length = (cutP (nxOf [10]) s.data.toList).length := by rw [← hxs, List.length_map]
        have h2 := cutP_len (nxOf_goes [10]) _ s.data.toList (Nat.le_refl _)
        rw [← sizeT_list] at h2
        omega
      obtain ⟨g2, off, hae, -, hcx⟩ := hrd k x hx1
      injection hae with hae; injection hae with hg2 ho2
      subst hg2 ho2
      rw [Nat.zero_add] at hcx
      have hw : IntKind.i64.wrap (((k + 1 : Nat) : Int) - 1) = (k : Int) := by rw [IntWalk.i64_in _ (by omega)]; omega
      have hwk : IntKind.i64.wrap ((k : Int) + 1 - 1) = (k : Int) := by rw [IntWalk.i64_in _ (by omega)]; omega
      have hk0 : decide ((0 : Int) ≤ (k : Int)) = true := decide_eq_true (by omega)
      have hkI : (0 : Int) ≤ (k : Int) := by omega
      have hkk : ((k : Int)).toNat = k := by omega
      have hle2 := Lib.hid hle
      have HRD := Lib.hid hrd
      have HXS := Lib.hid (show xs.map dl = _ from hxs)
      have HLL := Lib.hid hll
      have HK := Lib.hid hk
      rw [hk] at hcap ⊢
      have hkc : k ≤ c := by omega
      clear hle hrd hxs hll hne hx1 hx2
      by_cases hxe : x = ⟨#[]⟩
      · subst hxe
        go_wp2_with fail
        go_ret2
        refine ⟨.inr (.inr ⟨HE.out, hle2.out, some ⟨g, 0, none⟩, c, xs.dropLast, ?_, ?_, (rdx_dropLast HRD.out).up (by omega)⟩), HB3.out⟩
        · rw [← HXS.out, HLL.out]; simp
        · rw [List.length_dropLast, HK.out, Nat.add_sub_cancel]; rfl
      · have hxb : x.toList.isEmpty = false := ne_emptyT hxe
        go_wp2_with fail
        go_ret2
        refine ⟨.inr (.inr ⟨HE.out, hle2.out, some ⟨g, 0, none⟩, c, xs, ?_, ?_, HRD.out.up (by omega)⟩), HB3.out⟩
        · rw [← HXS.out, HLL.out, if_neg hxe]
        · rw [HK.out]; rfl
    · have HBI := Lib.hid hbig
      clear hbig
      go_wp2_with fail
      go_ret2
      exact ⟨.inr (.inl ⟨HE.out, HBI.out, rfl⟩), HB3.out⟩
  · clear hE hT hmlt
    go_enter Tryd.func34, Tryd.ntmps34
    go_wp2_with fail
    refine HC.out.mono ?_
    rintro e w1 ⟨rfl, hb1⟩
    have HB := Lib.hid hb1
    clear hb1
    go_wp2_with fail
    go_ret2
    exact ⟨.inl ⟨HE.out, rfl⟩, HB.out⟩
end Go.Proofs.YtdacdppmgcaioaaDoor
