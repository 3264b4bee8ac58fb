/-
  Signed numbers: a decimal as a whole number; a decimal is told by its number. Plain mathematics.
  A decimal's text is read as it. Plain mathematics: what has the form of a number, and what it tells.
  A decimal's text is read as it. Plain mathematics: the text in its pieces, and what they tell.
-/
import Derived.Test.YtcanfiaooabocaaGreatDoorQDop
import Derived.Test.YtcanfiaooabocaaGreatDoorQDref
import Derived.Test.YtcanfiaooabocaaGreatDoorQDset
import Derived.Laws.Concat
import Derived.Test.YtcanfiaooabocaaGreatDoorQDprt
set_option linter.unusedVariables false
set_option linter.unusedSimpArgs false
namespace Go.Proofs.YtcanfiaooabocaaGreatDoor

/-- A signed size as a number. -/
def sg (neg : Bool) (v : Nat) : Int := if neg = true then -(v : Int) else (v : Int)
/-- The power of ten by which a decimal of this exponent is made whole. -/
def sp (e : Int) : Nat := 10 ^ (e + 5000).toNat
/-- A decimal as a whole number. -/
def sv (neg : Bool) (v : Nat) (e : Int) : Int := sg neg (v * sp e)
theorem sp_pos (e : Int) : 0 < sp e := Nat.pow_pos (by omega)
theorem sp_add {e : Int} {p : Nat} (h : -5000 ≤ e) : sp (e + (p : Int)) = 10 ^ p * sp e := by
  unfold sp
  rw [show (e + (p : Int) + 5000).toNat = p + (e + 5000).toNat by omega, Nat.pow_add]
theorem sg_mul (neg : Bool) (v k : Nat) : sg neg (v * k) = sg neg v * (k : Int) := by
  cases neg
  · show ((v * k : Nat) : Int) = (v : Int) * (k : Int); simp
  · show -((v * k : Nat) : Int) = -(v : Int) * (k : Int); simp [Int.neg_mul]
theorem sg_natAbs (neg : Bool) (v : Nat) : (sg neg v).natAbs = v := by cases neg <;> simp [sg]
theorem sg_inj {na nb : Bool} {X Y : Nat} (h : sg na X = sg nb Y) : X = Y ∧ (0 < X → na = nb) := by
  have h1 : X = Y := by rw [← sg_natAbs na X, h, sg_natAbs]
  refine ⟨h1, fun h0 => ?_⟩
  subst h1
  cases na <;> cases nb <;> simp [sg] at h <;> first | rfl | omega
theorem dOf_low (v : Nat) : nth (dOf v) 0 = v % 10 := by
  rcases Nat.eq_zero_or_pos v with h | h
  · subst h; rfl
  · obtain ⟨f, rfl⟩ : ∃ f, v = f + 1 := ⟨v - 1, by omega⟩
    unfold dOf dgOf
    rw [if_neg (by omega), nth_cons_zero]
theorem pow_cancel {v1 v2 a b : Nat} (h1 : v1 % 10 ≠ 0) (h : v1 * 10 ^ a = v2 * 10 ^ b) : b ≤ a ∧ v2 = v1 * 10 ^ (a - b) := by
  have hle : b ≤ a := by
    rcases Nat.lt_or_ge a b with h2 | h2
    · exfalso
      obtain ⟨d, rfl⟩ : ∃ d, b = a + 1 + d := ⟨b - a - 1, by omega⟩
      rw [Nat.pow_add, Nat.pow_add, Nat.pow_one] at h
      have h3 : v1 * 10 ^ a = (v2 * 10 * 10 ^ d) * 10 ^ a := by rw [h]; ac_rfl
      have h4 := Nat.eq_of_mul_eq_mul_right (Nat.pow_pos (by omega)) h3
      apply h1
      rw [h4, show v2 * 10 * 10 ^ d = 10 * (v2 * 10 ^ d) by ac_rfl]
      exact Nat.mul_mod_right _ _
    · exact h2
  refine ⟨hle, ?_⟩
  have h3 : v2 * 10 ^ b = (v1 * 10 ^ (a - b)) * 10 ^ b := by
    rw [← h, Nat.mul_assoc, ← Nat.pow_add, Nat.sub_add_cancel hle]
  exact Nat.eq_of_mul_eq_mul_right (Nat.pow_pos (by omega)) h3

/-- What a decimal that may be is: 0, or with a last digit that is not 0. -/
theorem okB_cases {neg : Bool} {xs : List Nat} {exp : Int} (hl : L32 xs) (h : okB neg xs exp = true) :
    (xs = [] ∧ neg = false ∧ exp = 0) ∨ (0 < val xs ∧ val xs % 10 ≠ 0) := by
  obtain ⟨a1, _, _, _, a5, a6⟩ := okB_true hl h
  by_cases h0 : xs.length = 0
  · exact .inl ⟨List.eq_nil_of_length_eq_zero h0, a5 h0⟩
  · have h2 := a6 h0
    rw [dOf_low] at h2
    exact .inr ⟨by omega, h2⟩
/-- What is settled of a number that a decimal tells is that decimal. -/
theorem settle_back {na s : Bool} {xs : List Nat} {e1 lo : Int} {Z : Nat} (hx : L32 xs) (h1 : okB na xs e1 = true) (hlo : -5000 ≤ lo) (h : sg s Z * (sp lo : Int) = sv na (val xs) e1) :
    stE Z lo = 0 ∧ stN s Z lo = na ∧ stX Z lo = e1 ∧ stZ Z lo = xs := by
  rw [← sg_mul] at h
  obtain ⟨hm, hs⟩ := sg_inj h
  obtain ⟨c1, c2, c3, r1, _, _⟩ := okB_true hx h1
  rcases okB_cases hx h1 with ⟨z1, z2, z3⟩ | ⟨z1, z2⟩
  · have hZ : Z = 0 := by
      have h0 : Z * sp lo = 0 := by rw [hm, z1]; exact Nat.zero_mul _
      rcases Nat.mul_eq_zero.1 h0 with h3 | h3
      · exact h3
      · have := sp_pos lo; omega
    rw [hZ, z1, z2, z3]
    exact st_zero s lo
  · have hZp : 0 < Z * sp lo := by rw [hm]; exact Nat.mul_pos z1 (sp_pos e1)
    have hsn := hs hZp
    subst hsn
    unfold sp at hm
    obtain ⟨l1, v1⟩ := pow_cancel z2 hm.symm
    obtain ⟨k, hk⟩ : ∃ k, k = (e1 + 5000).toNat - (lo + 5000).toNat := ⟨_, rfl⟩
    rw [← hk] at v1
    have hke : lo + (k : Int) = e1 := by omega
    have hl : (dOf (val xs)).length ≤ 300 := by
      have h3 := h1
      unfold okB at h3
      rw [Bool.and_eq_true, Bool.and_eq_true, decide_eq_true_eq, decide_eq_true_eq] at h3
      exact h3.2.1
    have h4 := st_ok (v := Z) (k := k) (exp := lo) (es := dOf (val xs)) s (dOf_can _) (by rw [dOf_low]; exact z2) (by rw [dOf_val, v1, Nat.mul_comm]; rfl) hl (by omega)
    rw [hke, dOf_val, ← eq_lim c1] at h4
    exact h4
end Go.Proofs.YtcanfiaooabocaaGreatDoor

namespace Go.Proofs.YtcanfiaooabocaaGreatDoor
open Go.RowKit

theorem nth_at (A : List Nat) (c : Nat) (B : List Nat) : nth (A ++ c :: B) A.length = c := by
  unfold nth
  rw [List.getD_eq_getElem?_getD, List.getElem?_append_right (Nat.le_refl _), Nat.sub_self]; rfl
theorem nth_end (A : List Nat) : nth A A.length = 0 := nth_none (Nat.le_refl _)
/-- What may stand behind digits. -/
def NoDig (B : List Nat) : Prop := B = [] ∨ ∃ c r, B = c :: r ∧ isDig c = false
theorem tw_allD {R : List Nat} (h : allDig R = true) {B : List Nat} (hB : NoDig B) : (R ++ B).takeWhile isDig = R := by
  induction R with
  | nil =>
    rcases hB with rfl | ⟨c, r, rfl, hc⟩
    · rfl
    · rw [List.nil_append, List.takeWhile_cons_of_neg (by rw [hc]; decide)]
  | cons c R ih =>
    simp [allDig] at h
    rw [List.cons_append, List.takeWhile_cons_of_pos h.1, ih (by simp [allDig]; exact h.2)]
theorem dEnd_run {A R B : List Nat} (h : allDig R = true) (hB : NoDig B) : dEnd (A ++ (R ++ B)) A.length = A.length + R.length := by
  unfold dEnd
  rw [List.drop_left, tw_allD h hB]
/-- The pieces of a number's text. -/
structure Pcs (sg wh fp pp : List Nat) : Prop where
  sg : sg = [] ∨ sg = [45]
  wh : wh = [48] ∨ ∃ c r, wh = c :: r ∧ allDig wh = true ∧ c ≠ 48
  fp : fp = [] ∨ ∃ f, fp = 46 :: f ∧ allDig f = true ∧ f ≠ []
  pp : pp = [] ∨ ∃ e s p, pp = e :: (s ++ p) ∧ (e = 101 ∨ e = 69) ∧ (s = [] ∨ s = [43] ∨ s = [45]) ∧ allDig p = true ∧ p ≠ []
theorem Pcs.parts {sg wh fp pp : List Nat} (h : Pcs sg wh fp pp) : Parts (sg ++ (wh ++ (fp ++ pp))) sg wh fp pp := by
  refine ⟨rfl, h.sg, ?_, h.fp, h.pp⟩
  rcases h.wh with rfl | ⟨c, r, rfl, h1, _⟩
  · exact ⟨by decide, by simp⟩
  · exact ⟨h1, by simp⟩
theorem isDig_46 : isDig 46 = false := by decide
theorem Pcs.noDig2 {sg wh fp pp : List Nat} (h : Pcs sg wh fp pp) : NoDig pp := by
  rcases h.pp with rfl | ⟨e, s, p, rfl, he, _⟩
  · exact .inl rfl
  · refine .inr ⟨e, _, rfl, ?_⟩
    rcases he with rfl | rfl <;> decide
theorem Pcs.noDig1 {sg wh fp pp : List Nat} (h : Pcs sg wh fp pp) : NoDig (fp ++ pp) := by
  rcases h.fp with e | ⟨f, e, _⟩
  · rw [e]; exact h.noDig2
  · rw [e]; exact .inr ⟨46, f ++ pp, rfl, isDig_46⟩
theorem Pcs.form {sg wh fp pp : List Nat} (h : Pcs sg wh fp pp) : form (sg ++ (wh ++ (fp ++ pp))) = some (sg ++ (wh ++ (fp ++ pp))).length := by
  obtain ⟨d, r, hw, hd⟩ : ∃ d r, wh = d :: r ∧ isDig d = true := by
    rcases h.wh with e | ⟨c, r, e, h1, _⟩
    · exact ⟨48, [], e, by decide⟩
    · refine ⟨c, r, e, ?_⟩
      rw [e] at h1
      simp [allDig] at h1
      exact h1.1
  have hwd : allDig wh = true := by
    rcases h.wh with e | ⟨c, r, e, h1, _⟩
    · rw [e]; decide
    · exact h1
  have hs : fSgn (sg ++ (wh ++ (fp ++ pp))) = sg.length := by
    unfold fSgn
    rcases h.sg with e | e
    · rw [e, hw, List.nil_append, if_neg]
      · rfl
      · show ¬ nth (d :: (r ++ (fp ++ pp))) 0 = 45
        have : nth (d :: (r ++ (fp ++ pp))) 0 = d := rfl
        rw [this]
        intro e2
        rw [e2] at hd
        cases hd
    · rw [e, if_pos (show nth ([45] ++ (wh ++ (fp ++ pp))) 0 = 45 from rfl)]; rfl
  have hn0 : nth (sg ++ (wh ++ (fp ++ pp))) sg.length = d := by rw [hw]; exact nth_at sg d _
  have h1 : fWhole (sg ++ (wh ++ (fp ++ pp))) sg.length = some (sg.length + wh.length) := by
    unfold fWhole
    rw [hn0, if_pos hd]
    by_cases h48 : d = 48
    · rw [if_pos h48]
      rcases h.wh with e | ⟨c, r2, e, _, hc⟩
      · rw [e]; rfl
      · rw [e] at hw
        injection hw with hw1
        exact absurd (hw1.trans h48) hc
    · rw [if_neg h48, dEnd_run hwd h.noDig1]
  have h2 : fFrac (sg ++ (wh ++ (fp ++ pp))) (sg.length + wh.length) = some (sg.length + wh.length + fp.length) := by
    have e0 : sg ++ (wh ++ (fp ++ pp)) = (sg ++ wh) ++ (fp ++ pp) := by simp
    have l0 : sg.length + wh.length = (sg ++ wh).length := by simp
    rw [e0, l0]
    unfold fFrac
    rcases h.fp with e | ⟨f, e, hf, hne⟩
    · rw [e, List.nil_append]
      rw [if_neg]
      · rfl
      · rcases h.pp with e2 | ⟨x, s, p, e2, hx, _⟩
        · rw [e2, List.append_nil, nth_end]; omega
        · rw [e2, nth_at]; omega
    · have e3 : (sg ++ wh) ++ (fp ++ pp) = (sg ++ wh) ++ 46 :: (f ++ pp) := by rw [e]; rfl
      have e4 : (sg ++ wh) ++ 46 :: (f ++ pp) = ((sg ++ wh) ++ [46]) ++ (f ++ pp) := by simp
      have l4 : (sg ++ wh).length + 1 = ((sg ++ wh) ++ [46]).length := by rw [List.length_append (bs := [46])]; rfl
      rw [e3, nth_at, if_pos rfl, e4, l4, dEnd_run hf h.noDig2]
      obtain ⟨c, f2, rfl⟩ : ∃ c f2, f = c :: f2 := by
        cases f with
        | nil => exact absurd rfl hne
        | cons c f2 => exact ⟨c, f2, rfl⟩
      rw [show ((sg ++ wh) ++ [46]) ++ ((c :: f2) ++ pp) = ((sg ++ wh) ++ [46]) ++ c :: (f2 ++ pp) by rfl, nth_at, if_pos (by simp [allDig] at hf; exact hf.1), e]
      congr 1
      simp
      omega
  have h3 : fPow (sg ++ (wh ++ (fp ++ pp))) (sg.length + wh.length + fp.length) = some (sg ++ (wh ++ (fp ++ pp))).length := by
    have e0 : sg ++ (wh ++ (fp ++ pp)) = (sg ++ (wh ++ fp)) ++ pp := by simp
    have l0 : sg.length + wh.length + fp.length = (sg ++ (wh ++ fp)).length := by simp; omega
    rw [e0, l0]
    unfold fPow
    rcases h.pp with e | ⟨x, s, p, e, hx, hs2, hp, hne⟩
    · rw [e, List.append_nil, if_neg (by rw [nth_end]; omega)]
    · obtain ⟨c, p2, rfl⟩ : ∃ c p2, p = c :: p2 := by
        cases p with
        | nil => exact absurd rfl hne
        | cons c p2 => exact ⟨c, p2, rfl⟩
      have hc : isDig c = true := by simp [allDig] at hp; exact hp.1
      rw [e, nth_at, if_pos hx]
      have e4 : (sg ++ (wh ++ fp)) ++ x :: (s ++ c :: p2) = ((sg ++ (wh ++ fp)) ++ [x]) ++ (s ++ c :: p2) := by simp
      have l4 : (sg ++ (wh ++ fp)).length + 1 = ((sg ++ (wh ++ fp)) ++ [x]).length := by rw [List.length_append (bs := [x])]; rfl
      have e5 : ((sg ++ (wh ++ fp)) ++ [x]) ++ (s ++ c :: p2) = (((sg ++ (wh ++ fp)) ++ [x]) ++ s) ++ c :: p2 := by simp
      have hsg2 : fSg ((sg ++ (wh ++ fp)) ++ x :: (s ++ c :: p2)) ((sg ++ (wh ++ fp)).length + 1) = (((sg ++ (wh ++ fp)) ++ [x]) ++ s).length := by
        unfold fSg
        rw [e4, l4]
        rcases hs2 with rfl | rfl | rfl
        · rw [List.nil_append, nth_at, if_neg]
          · simp
          · intro h2
            rcases h2 with h2 | h2 <;> (rw [h2] at hc; cases hc)
        · rw [show ([43] ++ c :: p2 : List Nat) = 43 :: (c :: p2) from rfl, nth_at, if_pos (.inl rfl)]
          simp; omega
        · rw [show ([45] ++ c :: p2 : List Nat) = 45 :: (c :: p2) from rfl, nth_at, if_pos (.inr rfl)]
          simp; omega
      have hlen : (sg ++ (wh ++ fp) ++ x :: (s ++ c :: p2)).length = (((sg ++ (wh ++ fp)) ++ [x]) ++ s).length + (c :: p2).length := by simp; omega
      rw [hsg2, hlen, e4, e5, nth_at, if_pos hc]
      have := dEnd_run (A := ((sg ++ (wh ++ fp)) ++ [x]) ++ s) (B := []) hp (.inl rfl)
      rw [List.append_nil] at this
      rw [this]
  unfold Go.Proofs.YtcanfiaooabocaaGreatDoor.form
  rw [hs, h1]
  show (fFrac _ _).bind _ = _
  rw [h2]
  exact h3
end Go.Proofs.YtcanfiaooabocaaGreatDoor

namespace Go.Proofs.YtcanfiaooabocaaGreatDoor
open Go.RowKit

theorem decD : ∀ (u : Nat), allDig ((Lib.decDigits u).map (·.toNat)) = true ∧ pnum ((Lib.decDigits u).map (·.toNat)) = u ∧ (Lib.decDigits u).map (·.toNat) ≠ [] := by
  intro u
  induction u using Nat.strongRecOn with
  | _ u ih =>
    rw [Lib.decDigits]
    by_cases h : u < 10
    · rw [dif_pos h]
      have e : (UInt8.ofNat (48 + u)).toNat = 48 + u := by rw [UInt8.toNat_ofNat']; omega
      rw [List.map_cons, List.map_nil, e]
      refine ⟨?_, ?_, by simp⟩
      · simp [allDig, isDig]; omega
      · show 0 * 10 + (48 + u - 48) = u
        omega
    · rw [dif_neg h]
      obtain ⟨h1, h2, h3⟩ := ih (u / 10) (by omega)
      have e : (UInt8.ofNat (48 + u % 10)).toNat = 48 + u % 10 := by rw [UInt8.toNat_ofNat']; omega
      rw [List.map_append, List.map_cons, List.map_nil, e]
      refine ⟨?_, ?_, by simp⟩
      · rw [allDig_snoc, h1]; simp [isDig]; omega
      · rw [pnum_snoc, h2]; omega
theorem itoD (k : Nat) : allDig (itoO (k : Int)) = true ∧ pnum (itoO (k : Int)) = k ∧ itoO (k : Int) ≠ [] := by
  have e : itoO (k : Int) = (Lib.decDigits k).map (·.toNat) := by
    unfold itoO Lib.itoa
    rw [if_neg (by omega)]
    simp
  rw [e]
  exact decD k
theorem numO_dig (v : Nat) : allDig (numO v) = true ∧ pnum (numO v) = v ∧ ((v = 0 ∧ numO v = [48]) ∨ ∃ c r, numO v = c :: r ∧ c ≠ 48) := by
  unfold numO
  by_cases h0 : v = 0
  · rw [if_pos h0, h0]
    exact ⟨by decide, by decide, .inl ⟨rfl, rfl⟩⟩
  · rw [if_neg h0]
    obtain ⟨h1, h2⟩ := dgOf_ok v v (Nat.le_refl _)
    have hne := dOf_ne (v := v) (by omega)
    have hD : DCan (dOf v) := h1
    have hV : dval (dOf v) = v := h2
    unfold chars
    have hA := allDig_chars hD.1
    refine ⟨hA, ?_, .inr ?_⟩
    · rw [← dval_pnum]
      rw [List.map_reverse, List.reverse_reverse, List.map_map]
      rw [show ((fun x => x - 48) ∘ fun x => x + 48) = (id : Nat → Nat) by funext x; simp]
      rw [List.map_id, hV]
    · obtain ⟨d, hd⟩ : ∃ d, (dOf v).getLast? = some d := ⟨_, List.getLast?_eq_some_getLast hne⟩
      have hlast : nth (dOf v) ((dOf v).length - 1) = d := by
        unfold nth
        rw [List.getD_eq_getElem?_getD, ← List.getLast?_eq_getElem?, hd]; rfl
      have hd0 : d ≠ 0 := by
        have := hD.2.resolve_left hne
        rw [hlast] at this
        exact this
      obtain ⟨r, hr⟩ : ∃ r, dOf v = r ++ [d] := List.getLast?_eq_some_iff.1 hd
      rw [hr, List.map_append, List.reverse_append]
      exact ⟨d + 48, _, rfl, by omega⟩
theorem pnum_rep : ∀ k : Nat, pnum (List.replicate k 48) = 0
  | 0 => rfl
  | k + 1 => by rw [List.replicate_succ, pnum_cons, pnum_rep k]; omega
theorem allDig_rep (k : Nat) : allDig (List.replicate k 48) = true := by
  unfold allDig
  rw [List.all_eq_true]
  intro x hx
  rw [List.mem_replicate] at hx
  rw [hx.2]; decide
theorem allDig_app {a b : List Nat} (ha : allDig a = true) (hb : allDig b = true) : allDig (a ++ b) = true := by
  unfold allDig at ha hb ⊢
  rw [List.all_append, ha, hb]; rfl
/-- What pieces tell. -/
theorem Pcs.told {sg wh fp pp f : List Nat} (h : Pcs sg wh fp pp) (hf : fp = [] ∧ f = [] ∨ fp = 46 :: f) {X : List Nat} (hX : X = sg ++ (wh ++ (fp ++ pp))) :
    tNeg X = decide (sg = [45]) ∧ tVal X = pnum (wh ++ f) ∧ (tMan X).2.2 = f.length ∧ (pp = [] → tPow X = (false, 0)) ∧ (∀ e s p, pp = e :: (s ++ p) → (e = 101 ∨ e = 69) → (s = [] ∨ s = [43] ∨ s = [45]) → allDig p = true → tPow X = (s == [45], pnum p)) := by
  have hP := h.parts
  have hM := mant_octs hP
  obtain ⟨f2, hfa, hf2, hm1, hm2⟩ := mfold_parts hP
  have hff : f2 = f := by
    rcases hf with ⟨e1, e2⟩ | e1
    · rcases hf2 with ⟨_, e3⟩ | e3
      · rw [e2, e3]
      · rw [e1] at e3; cases e3
    · rcases hf2 with ⟨e3, _⟩ | e3
      · rw [e1] at e3; cases e3
      · rw [e1] at e3; injection e3 with _ e3; exact e3.symm
  subst hff
  have hX2 : X = (sg ++ (wh ++ fp)) ++ pp := by rw [hX]; simp
  have hcut : cutE X = sg ++ (wh ++ fp) := by
    rw [hX2]
    rcases h.pp with e | ⟨e, s, p, e1, he, _⟩
    · rw [e, List.append_nil]; exact cutE_plain hM
    · rw [e1]; exact cutE_at hM he _
  have htM : tMan X = mfold (sg ++ (wh ++ fp)) := by unfold tMan; rw [hcut]
  have htP : tPow X = pfold (X.drop ((sg ++ (wh ++ fp)).length + 1)) := by unfold tPow; rw [hcut]
  refine ⟨?_, ?_, by rw [htM, hm2], ?_, ?_⟩
  · unfold tNeg
    rcases h.sg with e | e
    · rw [e, show decide (([] : List Nat) = [45]) = false from by decide, hX, e, beq_eq_false_iff_ne]
      obtain ⟨d, r, hw, hd⟩ : ∃ d r, wh = d :: r ∧ d ≠ 45 := by
        rcases h.wh with e2 | ⟨c, r, e2, h1, _⟩
        · exact ⟨48, [], e2, by decide⟩
        · refine ⟨c, r, e2, ?_⟩
          rw [e2] at h1
          simp [allDig] at h1
          intro e3
          rw [e3] at h1
          exact absurd h1.1 (by decide)
      rw [hw]
      exact hd
    · rw [hX, e]; rfl
  · unfold tVal
    rw [htM, hm1]
    exact dval_pnum _
  · intro e
    rw [htP, hX2, e, List.append_nil, List.drop_of_length_le (by omega)]; rfl
  · intro e s p e1 he hs hpa
    rw [htP, hX2, e1, List.drop_append, List.drop_of_length_le (by omega), List.nil_append, show (sg ++ (wh ++ fp)).length + 1 - (sg ++ (wh ++ fp)).length = 1 by omega]
    show pfold (s ++ p) = _
    exact pfold_parts hs hpa
end Go.Proofs.YtcanfiaooabocaaGreatDoor
