/-
  Contract of utf.Count.
-/
import Derived.Test.YtdgjkhldlmhedaaDoorUrow
set_option linter.unusedVariables false
set_option linter.unusedSimpArgs false
namespace Go.Proofs.YtdgjkhldlmhedaaDoor
open Go.RowKit Go.Lib

theorem rc_from (s : ByteArray) : ∀ f pos, s.size ≤ pos + f → runeCountFrom s f pos = (pcs (s.data.toList.drop pos)).length := by
  have hsz : s.size = s.data.toList.length := by rw [Array.length_toList]; rfl
  intro f
  induction f with
  | zero =>
    intro pos h
    rw [List.drop_eq_nil_of_le (by omega)]
    rfl
  | succ f ih =>
    intro pos h
    by_cases hp : pos < s.size
    · have hne : s.data.toList.drop pos ≠ [] := by
        intro e
        have := congrArg List.length e
        rw [List.length_drop, List.length_nil] at this
        omega
      have hw := wid_ge (s.data.toList.drop pos)
      rw [pcs_cons hne, List.length_cons]
      unfold runeCountFrom
      rw [if_pos hp, ← decodeL_drop s pos]
      rw [ih (pos + (decodeL (s.data.toList.drop pos)).2) (by unfold wid at hw; omega), List.drop_drop]
      unfold wid
      omega
    · rw [runeCountFrom_end s _ pos hp, List.drop_eq_nil_of_le (by omega)]
      rfl
theorem rc_eq (s : ByteArray) : runeCount s = (pcs s.data.toList).length := by
  have := rc_from s s.size 0 (by omega)
  rw [List.drop_zero] at this
  exact this
theorem rcount_c (s : ByteArray) (w : World) (hs : s.size ≤ 140737488355328) :
    Calls Tryd.prog 33 #[.string s] w fun e w' => e = .returned (.int .i64 ((pcs s.data.toList).length : Int)) ∧ Below w.heap.size w w' := by
  refine (Tryd.utf8_RuneCountInString s w (by omega)).mono ?_
  rintro e w' ⟨rfl, pos, rfl⟩
  rw [rc_eq]
  exact ⟨rfl, (Below.refl _ _).alloc (Nat.le_refl _) _⟩
def cntT (L : List UInt8) : Nat := if isT L = true then (pcs L).length else 0
theorem pcs_len (L : List UInt8) : (pcs L).length ≤ L.length := by
  refine text_ind (p := fun l => (pcs l).length ≤ l.length) (Nat.le_refl _) (fun l hl ih => ?_) L
  have h1 := wid_ge l
  have h2 := wid_le hl
  rw [List.length_drop] at ih
  show (pcs l).length ≤ l.length
  rw [pcs_cons hl, List.length_cons]
  omega

set_option maxRecDepth 100000 in
theorem Count_c (s : ByteArray) (w : World) (hT : Tabs w) (hs : s.size ≤ 140737488355328) :
    Calls Tryd.prog 13 #[.string s] w fun e w' => e = .returned (.tuple #[.int .i64 (cntT s.data.toList : Int), .int .i64 (errT s.data.toList : Int)]) ∧ Below w.heap.size w w' := by
  have hC := Check_c s w hT hs
  have hR := fun W => rcount_c s W hs
  generalize s.data.toList = L at hC hR ⊢
  generalize hB : badAt L = B at hC
  clear hB
  by_cases h : isT L = true
  · have e1 : errT L = 0 := by unfold errT; rw [if_pos h]
    have e2 : cntT L = (pcs L).length := by unfold cntT; rw [if_pos h]
    rw [e1] at hC ⊢
    rw [e2]
    generalize (pcs L).length = N at hR ⊢
    clear e1 e2 h
    go_enter Tryd.func13, Tryd.ntmps13
    go_wp2_with fail
    refine hC.mono ?_
    rintro e w1 ⟨rfl, hb1⟩
    go_wp2_with fail
    refine (hR w1).mono ?_
    rintro e w2 ⟨rfl, hb2⟩
    go_wp2
    go_ret2
    exact ⟨rfl, hb1.trans (hb2.mono hb1.size)⟩
  · have e1 : errT L = 61 := by unfold errT; rw [if_neg h]
    have e2 : cntT L = 0 := by unfold cntT; rw [if_neg h]
    rw [e1] at hC ⊢
    rw [e2]
    clear e1 e2 h
    go_enter Tryd.func13, Tryd.ntmps13
    go_wp2_with fail
    refine hC.mono ?_
    rintro e w1 ⟨rfl, hb1⟩
    go_wp2
    go_ret2
    exact ⟨rfl, hb1⟩
end Go.Proofs.YtdgjkhldlmhedaaDoor
