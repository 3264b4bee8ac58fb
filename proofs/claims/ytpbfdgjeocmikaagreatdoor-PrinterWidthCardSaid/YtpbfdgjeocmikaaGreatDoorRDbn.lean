/-
  A decimal's text is read as it. Plain mathematics: the text in its pieces, and what they tell.
-/
import Derived.Test.YtpbfdgjeocmikaaGreatDoorRDbm
set_option linter.unusedVariables false
set_option linter.unusedSimpArgs false
namespace Go.Proofs.YtpbfdgjeocmikaaGreatDoor
open Go.RowKit

theorem decD : ∀ (u : Nat), allDig ((Lib.decDigits u).map (·.toNat)) = true ∧ pnum ((Lib.decDigits u).map (·.toNat)) = u ∧ (Lib.decDigits u).map (·.toNat) ≠ [] := by
  intro u
  induction u using Nat.strongRecOn with
  | _ u ih =>
    rw [Lib.decDigits]
    by_cases h : u < 10
    · rw [dif_pos h]
      have e : (UInt8.ofNat (48 + u)).toNat = 48 + u := by rw [UInt8.toNat_ofNat']; omega
      rw [List.map_cons, List.map_nil, e]
      refine ⟨?_, ?_, by simp⟩
      · simp [allDig, isDig]; omega
      · show 0 * 10 + (48 + u - 48) = u
        omega
    · rw [dif_neg h]
      obtain ⟨h1, h2, h3⟩ := ih (u / 10) (by omega)
      have e : (UInt8.ofNat (48 + u % 10)).toNat = 48 + u % 10 := by rw [UInt8.toNat_ofNat']; omega
      rw [List.map_append, List.map_cons, List.map_nil, e]
      refine ⟨?_, ?_, by simp⟩
      · rw [allDig_snoc, h1]; simp [isDig]; omega
      · rw [pnum_snoc, h2]; omega
theorem itoD (k : Nat) : allDig (itoO (k : Int)) = true ∧ pnum (itoO (k : Int)) = k ∧ itoO (k : Int) ≠ [] := by
  have e : itoO (k : Int) = (Lib.decDigits k).map (·.toNat) := by
    unfold itoO Lib.itoa
    rw [if_neg (by omega)]
    simp
  rw [e]
  exact decD k
theorem numO_dig (v : Nat) : allDig (numO v) = true ∧ pnum (numO v) = v ∧ ((v = 0 ∧ numO v = [48]) ∨ ∃ c r, numO v = c :: r ∧ c ≠ 48) := by
  unfold numO
  by_cases h0 : v = 0
  · rw [if_pos h0, h0]
    exact ⟨by decide, by decide, .inl ⟨rfl, rfl⟩⟩
  · rw [if_neg h0]
    obtain ⟨h1, h2⟩ := dgOf_ok v v (Nat.le_refl _)
    have hne := dOf_ne (v := v) (by omega)
    have hD : DCan (dOf v) := h1
    have hV : dval (dOf v) = v := h2
    unfold chars
    have hA := allDig_chars hD.1
    refine ⟨hA, ?_, .inr ?_⟩
    · rw [← dval_pnum]
      rw [List.map_reverse, List.reverse_reverse, List.map_map]
      rw [show ((fun x => x - 48) ∘ fun x => x + 48) = (id : Nat → Nat) by funext x; simp]
      rw [List.map_id, hV]
    · obtain ⟨d, hd⟩ : ∃ d, (dOf v).getLast? = some d := ⟨_, List.getLast?_eq_some_getLast hne⟩
      have hlast : nth (dOf v) ((dOf v).length - 1) = d := by
        unfold nth
        rw [List.getD_eq_getElem?_getD, ← List.getLast?_eq_getElem?, hd]; rfl
      have hd0 : d ≠ 0 := by
        have := hD.2.resolve_left hne
        rw [hlast] at this
        exact this
      obtain ⟨r, hr⟩ : ∃ r, dOf v = r ++ [d] := List.getLast?_eq_some_iff.1 hd
      rw [hr, List.map_append, List.reverse_append]
      exact ⟨d + 48, _, rfl, by omega⟩
theorem pnum_rep : ∀ k : Nat, pnum (List.replicate k 48) = 0
  | 0 => rfl
  | k + 1 => by rw [List.replicate_succ, pnum_cons, pnum_rep k]; omega
theorem allDig_rep (k : Nat) : allDig (List.replicate k 48) = true := by
  unfold allDig
  rw [List.all_eq_true]
  intro x hx
  rw [List.mem_replicate] at hx
  rw [hx.2]; decide
theorem allDig_app {a b : List Nat} (ha : allDig a = true) (hb : allDig b = true) : allDig (a ++ b) = true := by
  unfold allDig at ha hb ⊢
  rw [List.all_append, ha, hb]; rfl
/-- What pieces tell. -/
theorem Pcs.told {sg wh fp pp f : List Nat} (h : Pcs sg wh fp pp) (hf : fp = [] ∧ f = [] ∨ fp = 46 :: f) {X : List Nat} (hX : X = sg ++ (wh ++ (fp ++ pp))) :
    tNeg X = decide (sg = [45]) ∧ tVal X = pnum (wh ++ f) ∧ (tMan X).2.2 = f.length ∧ (pp = [] → tPow X = (false, 0)) ∧ (∀ e s p, pp = e :: (s ++ p) → (e = 101 ∨ e = 69) → (s = [] ∨ s = [43] ∨ s = [45]) → allDig p = true → tPow X = (s == [45], pnum p)) := by
  have hP := h.parts
  have hM := mant_octs hP
  obtain ⟨f2, hfa, hf2, hm1, hm2⟩ := mfold_parts hP
  have hff : f2 = f := by
    rcases hf with ⟨e1, e2⟩ | e1
    · rcases hf2 with ⟨_, e3⟩ | e3
      · rw [e2, e3]
      · rw [e1] at e3; cases e3
    · rcases hf2 with ⟨e3, _⟩ | e3
      · rw [e1] at e3; cases e3
      · rw [e1] at e3; injection e3 with _ e3; exact e3.symm
  subst hff
  have hX2 : X = (sg ++ (wh ++ fp)) ++ pp := by rw [hX]; simp
  have hcut : cutE X = sg ++ (wh ++ fp) := by
    rw [hX2]
    rcases h.pp with e | ⟨e, s, p, e1, he, _⟩
    · rw [e, List.append_nil]; exact cutE_plain hM
    · rw [e1]; exact cutE_at hM he _
  have htM : tMan X = mfold (sg ++ (wh ++ fp)) := by unfold tMan; rw [hcut]
  have htP : tPow X = pfold (X.drop ((sg ++ (wh ++ fp)).length + 1)) := by unfold tPow; rw [hcut]
  refine ⟨?_, ?_, by rw [htM, hm2], ?_, ?_⟩
  · unfold tNeg
    rcases h.sg with e | e
    · rw [e, show decide (([] : List Nat) = [45]) = false from by decide, hX, e, beq_eq_false_iff_ne]
      obtain ⟨d, r, hw, hd⟩ : ∃ d r, wh = d :: r ∧ d ≠ 45 := by
        rcases h.wh with e2 | ⟨c, r, e2, h1, _⟩
        · exact ⟨48, [], e2, by decide⟩
        · refine ⟨c, r, e2, ?_⟩
          rw [e2] at h1
          simp [allDig] at h1
          intro e3
          rw [e3] at h1
          exact absurd h1.1 (by decide)
      rw [hw]
      exact hd
    · rw [hX, e]; rfl
  · unfold tVal
    rw [htM, hm1]
    exact dval_pnum _
  · intro e
    rw [htP, hX2, e, List.append_nil, List.drop_of_length_le (by omega)]; rfl
  · intro e s p e1 he hs hpa
    rw [htP, hX2, e1, List.drop_append, List.drop_of_length_le (by omega), List.nil_append, show (sg ++ (wh ++ fp)).length + 1 - (sg ++ (wh ++ fp)).length = 1 by omega]
    show pfold (s ++ p) = _
    exact pfold_parts hs hpa
end Go.Proofs.YtpbfdgjeocmikaaGreatDoor
