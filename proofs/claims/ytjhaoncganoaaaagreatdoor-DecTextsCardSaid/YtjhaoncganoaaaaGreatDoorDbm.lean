/-
  A decimal's text is read as it. Plain mathematics: what has the form of a number, and what it tells.
-/
import Derived.Test.YtjhaoncganoaaaaGreatDoorDnump
import Derived.Test.YtjhaoncganoaaaaGreatDoorDprt
import Derived.Test.YtjhaoncganoaaaaGreatDoorDsgn
set_option linter.unusedVariables false
set_option linter.unusedSimpArgs false
namespace Go.Proofs.YtjhaoncganoaaaaGreatDoor
open Go.RowKit

theorem nth_at (A : List Nat) (c : Nat) (B : List Nat) : nth (A ++ c :: B) A.length = c := by
  unfold nth
  rw [List.getD_eq_getElem?_getD, List.getElem?_append_right (Nat.le_refl _), Nat.sub_self]; rfl
theorem nth_end (A : List Nat) : nth A A.length = 0 := nth_none (Nat.le_refl _)
/-- What may stand behind digits. -/
def NoDig (B : List Nat) : Prop := B = [] ∨ ∃ c r, B = c :: r ∧ isDig c = false
theorem tw_all {R : List Nat} (h : allDig R = true) {B : List Nat} (hB : NoDig B) : (R ++ B).takeWhile isDig = R := by
  induction R with
  | nil =>
    rcases hB with rfl | ⟨c, r, rfl, hc⟩
    · rfl
    · rw [List.nil_append, List.takeWhile_cons_of_neg (by rw [hc]; decide)]
  | cons c R ih =>
    simp [allDig] at h
    rw [List.cons_append, List.takeWhile_cons_of_pos h.1, ih (by simp [allDig]; exact h.2)]
theorem dEnd_run {A R B : List Nat} (h : allDig R = true) (hB : NoDig B) : dEnd (A ++ (R ++ B)) A.length = A.length + R.length := by
  unfold dEnd
  rw [List.drop_left, tw_all h hB]
/-- The pieces of a number's text. -/
structure Pcs (sg wh fp pp : List Nat) : Prop where
  sg : sg = [] ∨ sg = [45]
  wh : wh = [48] ∨ ∃ c r, wh = c :: r ∧ allDig wh = true ∧ c ≠ 48
  fp : fp = [] ∨ ∃ f, fp = 46 :: f ∧ allDig f = true ∧ f ≠ []
  pp : pp = [] ∨ ∃ e s p, pp = e :: (s ++ p) ∧ (e = 101 ∨ e = 69) ∧ (s = [] ∨ s = [43] ∨ s = [45]) ∧ allDig p = true ∧ p ≠ []
theorem Pcs.parts {sg wh fp pp : List Nat} (h : Pcs sg wh fp pp) : Parts (sg ++ (wh ++ (fp ++ pp))) sg wh fp pp := by
  refine ⟨rfl, h.sg, ?_, h.fp, h.pp⟩
  rcases h.wh with rfl | ⟨c, r, rfl, h1, _⟩
  · exact ⟨by decide, by simp⟩
  · exact ⟨h1, by simp⟩
theorem isDig_46 : isDig 46 = false := by decide
theorem Pcs.noDig2 {sg wh fp pp : List Nat} (h : Pcs sg wh fp pp) : NoDig pp := by
  rcases h.pp with rfl | ⟨e, s, p, rfl, he, _⟩
  · exact .inl rfl
  · refine .inr ⟨e, _, rfl, ?_⟩
    rcases he with rfl | rfl <;> decide
theorem Pcs.noDig1 {sg wh fp pp : List Nat} (h : Pcs sg wh fp pp) : NoDig (fp ++ pp) := by
  rcases h.fp with e | ⟨f, e, _⟩
  · rw [e]; exact h.noDig2
  · rw [e]; exact .inr ⟨46, f ++ pp, rfl, isDig_46⟩
theorem Pcs.form {sg wh fp pp : List Nat} (h : Pcs sg wh fp pp) : form (sg ++ (wh ++ (fp ++ pp))) = some (sg ++ (wh ++ (fp ++ pp))).length := by
  obtain ⟨d, r, hw, hd⟩ : ∃ d r, wh = d :: r ∧ isDig d = true := by
    rcases h.wh with e | ⟨c, r, e, h1, _⟩
    · exact ⟨48, [], e, by decide⟩
    · refine ⟨c, r, e, ?_⟩
      rw [e] at h1
      simp [allDig] at h1
      exact h1.1
  have hwd : allDig wh = true := by
    rcases h.wh with e | ⟨c, r, e, h1, _⟩
    · rw [e]; decide
    · exact h1
  have hs : fSgn (sg ++ (wh ++ (fp ++ pp))) = sg.length := by
    unfold fSgn
    rcases h.sg with e | e
    · rw [e, hw, List.nil_append, if_neg]
      · rfl
      · show ¬ nth (d :: (r ++ (fp ++ pp))) 0 = 45
        have : nth (d :: (r ++ (fp ++ pp))) 0 = d := rfl
        rw [this]
        intro e2
        rw [e2] at hd
        cases hd
    · rw [e, if_pos (show nth ([45] ++ (wh ++ (fp ++ pp))) 0 = 45 from rfl)]; rfl
  have hn0 : nth (sg ++ (wh ++ (fp ++ pp))) sg.length = d := by rw [hw]; exact nth_at sg d _
  have h1 : fWhole (sg ++ (wh ++ (fp ++ pp))) sg.length = some (sg.length + wh.length) := by
    unfold fWhole
    rw [hn0, if_pos hd]
    by_cases h48 : d = 48
    · rw [if_pos h48]
      rcases h.wh with e | ⟨c, r2, e, _, hc⟩
      · rw [e]; rfl
      · rw [e] at hw
        injection hw with hw1
        exact absurd (hw1.trans h48) hc
    · rw [if_neg h48, dEnd_run hwd h.noDig1]
  have h2 : fFrac (sg ++ (wh ++ (fp ++ pp))) (sg.length + wh.length) = some (sg.length + wh.length + fp.length) := by
    have e0 : sg ++ (wh ++ (fp ++ pp)) = (sg ++ wh) ++ (fp ++ pp) := by simp
    have l0 : sg.length + wh.length = (sg ++ wh).length := by simp
    rw [e0, l0]
    unfold fFrac
    rcases h.fp with e | ⟨f, e, hf, hne⟩
    · rw [e, List.nil_append]
      rw [if_neg]
      · rfl
      · rcases h.pp with e2 | ⟨x, s, p, e2, hx, _⟩
        · rw [e2, List.append_nil, nth_end]; omega
        · rw [e2, nth_at]; omega
    · have e3 : (sg ++ wh) ++ (fp ++ pp) = (sg ++ wh) ++ 46 :: (f ++ pp) := by rw [e]; rfl
      have e4 : (sg ++ wh) ++ 46 :: (f ++ pp) = ((sg ++ wh) ++ [46]) ++ (f ++ pp) := by simp
      have l4 : (sg ++ wh).length + 1 = ((sg ++ wh) ++ [46]).length := by rw [List.length_append (bs := [46])]; rfl
      rw [e3, nth_at, if_pos rfl, e4, l4, dEnd_run hf h.noDig2]
      obtain ⟨c, f2, rfl⟩ : ∃ c f2, f = c :: f2 := by
        cases f with
        | nil => exact absurd rfl hne
        | cons c f2 => exact ⟨c, f2, rfl⟩
      rw [show ((sg ++ wh) ++ [46]) ++ ((c :: f2) ++ pp) = ((sg ++ wh) ++ [46]) ++ c :: (f2 ++ pp) by rfl, nth_at, if_pos (by simp [allDig] at hf; exact hf.1), e]
      congr 1
      simp
      omega
  have h3 : fPow (sg ++ (wh ++ (fp ++ pp))) (sg.length + wh.length + fp.length) = some (sg ++ (wh ++ (fp ++ pp))).length := by
    have e0 : sg ++ (wh ++ (fp ++ pp)) = (sg ++ (wh ++ fp)) ++ pp := by simp
    have l0 : sg.length + wh.length + fp.length = (sg ++ (wh ++ fp)).length := by simp; omega
    rw [e0, l0]
    unfold fPow
    rcases h.pp with e | ⟨x, s, p, e, hx, hs2, hp, hne⟩
    · rw [e, List.append_nil, if_neg (by rw [nth_end]; omega)]
    · obtain ⟨c, p2, rfl⟩ : ∃ c p2, p = c :: p2 := by
        cases p with
        | nil => exact absurd rfl hne
        | cons c p2 => exact ⟨c, p2, rfl⟩
      have hc : isDig c = true := by simp [allDig] at hp; exact hp.1
      rw [e, nth_at, if_pos hx]
      have e4 : (sg ++ (wh ++ fp)) ++ x :: (s ++ c :: p2) = ((sg ++ (wh ++ fp)) ++ [x]) ++ (s ++ c :: p2) := by simp
      have l4 : (sg ++ (wh ++ fp)).length + 1 = ((sg ++ (wh ++ fp)) ++ [x]).length := by rw [List.length_append (bs := [x])]; rfl
      have e5 : ((sg ++ (wh ++ fp)) ++ [x]) ++ (s ++ c :: p2) = (((sg ++ (wh ++ fp)) ++ [x]) ++ s) ++ c :: p2 := by simp
      have hsg2 : fSg ((sg ++ (wh ++ fp)) ++ x :: (s ++ c :: p2)) ((sg ++ (wh ++ fp)).length + 1) = (((sg ++ (wh ++ fp)) ++ [x]) ++ s).length := by
        unfold fSg
        rw [e4, l4]
        rcases hs2 with rfl | rfl | rfl
        · rw [List.nil_append, nth_at, if_neg]
          · simp
          · intro h2
            rcases h2 with h2 | h2 <;> (rw [h2] at hc; cases hc)
        · rw [show ([43] ++ c :: p2 : List Nat) = 43 :: (c :: p2) from rfl, nth_at, if_pos (.inl rfl)]
          simp; omega
        · rw [show ([45] ++ c :: p2 : List Nat) = 45 :: (c :: p2) from rfl, nth_at, if_pos (.inr rfl)]
          simp; omega
      have hlen : (sg ++ (wh ++ fp) ++ x :: (s ++ c :: p2)).length = (((sg ++ (wh ++ fp)) ++ [x]) ++ s).length + (c :: p2).length := by simp; omega
      rw [hsg2, hlen, e4, e5, nth_at, if_pos hc]
      have := dEnd_run (A := ((sg ++ (wh ++ fp)) ++ [x]) ++ s) (B := []) hp (.inl rfl)
      rw [List.append_nil] at this
      rw [this]
  unfold Go.Proofs.YtjhaoncganoaaaaGreatDoor.form
  rw [hs, h1]
  show (fFrac _ _).bind _ = _
  rw [h2]
  exact h3
end Go.Proofs.YtjhaoncganoaaaaGreatDoor
