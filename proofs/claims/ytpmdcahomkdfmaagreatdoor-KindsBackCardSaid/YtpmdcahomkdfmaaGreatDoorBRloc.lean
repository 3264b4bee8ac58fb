/-
  What is read of the beginning of octets does not hang on what follows: an answer that ends ahead of the end, and a fault ahead of the end. Pure, no program.
-/
import Derived.Test.YtpmdcahomkdfmaaGreatDoorBRfull
set_option linter.unusedVariables false
set_option linter.unusedSimpArgs false
namespace Go.Proofs.YtpmdcahomkdfmaaGreatDoor
open Go.Lib

/-- The errors that stand where they are, whatever follows. -/
def Firm (e : Nat) : Prop := e = 33 ∨ e = 61 ∨ e = 42
theorem not_firm8 : ¬ Firm 8 := by unfold Firm; omega
theorem nf {e : Nat} {P : Prop} (h : 8 = e) (he : Firm e) : P := by subst h; exact absurd he not_firm8
/-- Reading that looks no farther than it goes: places grow, none is behind the end, a firm fault is not ahead; what ends ahead of the end, with something or with a firm fault, ends so whatever follows. -/
structure Good {α : Type} (F : Rd1 α) : Prop where
  up : ∀ b p a q, p ≤ b.length → F b p = .ok a q → p ≤ q ∧ q ≤ b.length
  dn : ∀ b p q e, p ≤ b.length → F b p = .bad q e → q ≤ b.length ∧ (Firm e → p ≤ q ∧ q < b.length)
  ok : ∀ b p a q r, p ≤ b.length → F b p = .ok a q → q < b.length → F (b ++ r) p = .ok a q
  bad : ∀ b p q e r, p ≤ b.length → F b p = .bad q e → Firm e → q < b.length → F (b ++ r) p = .bad q e

theorem Good.pure {α : Type} (a : α) : Good (rPure a) := by
  refine ⟨fun b p a2 q hp h => ?_, fun b p q e hp h => ?_, fun b p a2 q r hp h hq => ?_, fun b p q e r hp h he hq => ?_⟩ <;> (first | unfold rPure at h ⊢ | unfold rPure at h)
  · injection h with h1 h2; omega
  · cases h
  · exact h
  · cases h
theorem Good.at {α β : Type} {F : Rd1 α} {G : α → Rd1 β} (hF : Good F) (hG : ∀ a, Good (G a)) : Good (rAt F G) := by
  refine ⟨fun b p a2 q hp h => ?_, fun b p q e hp h => ?_, fun b p a2 q r hp h hq => ?_, fun b p q e r hp h he hq => ?_⟩ <;> (first | unfold rAt at h ⊢ | unfold rAt at h)
  · cases hf : F b p with
    | ok a q1 =>
      rw [hf] at h
      have h1 := hF.up b p a q1 hp hf
      have h2 := (hG a).up b q1 a2 q h1.2 h
      omega
    | bad q1 e => rw [hf] at h; cases h
  · cases hf : F b p with
    | ok a q1 =>
      rw [hf] at h
      have h1 := hF.up b p a q1 hp hf
      have h2 := (hG a).dn b q1 q e h1.2 h
      exact ⟨h2.1, fun he => by have := h2.2 he; omega⟩
    | bad q1 e1 =>
      rw [hf] at h
      have h1 := hF.dn b p q1 e1 hp hf
      simp only [RR.bind] at h
      injection h with h2 h3
      subst h2 h3
      exact h1
  · cases hf : F b p with
    | ok a q1 =>
      rw [hf] at h
      have h1 := hF.up b p a q1 hp hf
      have h2 := (hG a).up b q1 a2 q h1.2 h
      rw [hF.ok b p a q1 r hp hf (by omega)]
      exact (hG a).ok b q1 a2 q r h1.2 h hq
    | bad q1 e => rw [hf] at h; cases h
  · cases hf : F b p with
    | ok a q1 =>
      rw [hf] at h
      have h1 := hF.up b p a q1 hp hf
      have h2 := (hG a).dn b q1 q e h1.2 h
      have h3 := h2.2 he
      rw [hF.ok b p a q1 r hp hf (by omega)]
      exact (hG a).bad b q1 q e r h1.2 h he hq
    | bad q1 e1 =>
      rw [hf] at h
      simp only [RR.bind] at h
      injection h with h2 h3
      subst h2 h3
      rw [hF.bad b p q1 e1 r hp hf he hq]
      rfl
theorem Good.ite {α : Type} {c : Prop} [Decidable c] {F G : Rd1 α} (hF : Good F) (hG : Good G) : Good (if c then F else G) := by
  by_cases h : c
  · rw [if_pos h]; exact hF
  · rw [if_neg h]; exact hG
theorem get_left {b : List UInt8} {p : Nat} (r : List UInt8) (h : p < b.length) : (b ++ r)[p]? = b[p]? := List.getElem?_append_left h
theorem Good.peek : Good rPeek := by
  refine ⟨fun b p a2 q hp h => ?_, fun b p q e hp h => ?_, fun b p a2 q r hp h hq => ?_, fun b p q e r hp h he hq => ?_⟩ <;> (first | unfold rPeek at h ⊢ | unfold rPeek at h)
  · cases hb : b[p]? with
    | none => rw [hb] at h; cases h
    | some c => rw [hb] at h; injection h with h1 h2; omega
  · cases hb : b[p]? with
    | none => rw [hb] at h; injection h with h1 h2; exact ⟨by omega, nf h2⟩
    | some c => rw [hb] at h; cases h
  · cases hb : b[p]? with
    | none => rw [hb] at h; cases h
    | some c =>
      have hlt := (List.getElem?_eq_some_iff.1 hb).1
      rw [get_left r hlt]; exact h
  · cases hb : b[p]? with
    | none =>
      rw [hb] at h
      injection h with h1 h2
      rw [← h2] at he
      rcases he with he | he | he <;> omega
    | some c => rw [hb] at h; cases h
theorem Good.need (f : UInt8 → Bool) : Good (rNeed f) := by
  refine ⟨fun b p a2 q hp h => ?_, fun b p q e hp h => ?_, fun b p a2 q r hp h hq => ?_, fun b p q e r hp h he hq => ?_⟩ <;> (first | unfold rNeed at h ⊢ | unfold rNeed at h) <;> cases hb : b[p]? with
    | none =>
      rw [hb] at h
      first
        | (injection h with h1 h2; exact ⟨by omega, nf h2⟩)
        | (injection h with h1 h2; rw [← h2] at he; rcases he with he | he | he <;> omega)
        | cases h
    | some c =>
      have hlt := (List.getElem?_eq_some_iff.1 hb).1
      rw [hb] at h
      first
        | (rw [get_left r hlt, hb]; exact h)
        | (simp only at h; split at h
           · first
             | (injection h with h1 h2; omega)
             | cases h
           · first
             | (injection h with h1 h2; exact ⟨by omega, fun _ => by omega⟩)
             | cases h)
theorem Good.skip (f : UInt8 → Bool) : Good (rSkip f) := by
  refine ⟨fun b p a2 q hp h => ?_, fun b p q e hp h => ?_, fun b p a2 q r hp h hq => ?_, fun b p q e r hp h he hq => ?_⟩ <;> (first | unfold rSkip at h ⊢ | unfold rSkip at h) <;> cases hb : b[p]? with
    | none =>
      rw [hb] at h
      have hge := List.getElem?_eq_none_iff.1 hb
      first
        | (injection h with h1 h2; omega)
        | cases h
    | some c =>
      have hlt := (List.getElem?_eq_some_iff.1 hb).1
      rw [hb] at h
      first
        | (rw [get_left r hlt, hb]; exact h)
        | (simp only at h; split at h
           · first
             | (injection h with h1 h2; omega)
             | cases h
           · first
             | (injection h with h1 h2; omega)
             | cases h)
/-- What all fits stops at what does not. -/
theorem tw_left {f : UInt8 → Bool} : ∀ (l r : List UInt8), (l.takeWhile f).length < l.length → (l ++ r).takeWhile f = l.takeWhile f
  | [], _, h => by simp at h
  | c :: t, r, h => by
    by_cases hc : f c = true
    · simp only [List.takeWhile_cons, hc, List.cons_append, if_true, List.length_cons] at h ⊢
      rw [tw_left t r (by omega)]
    · simp only [List.takeWhile_cons, hc, List.cons_append, Bool.false_eq_true, if_false]
theorem drop_left {b r : List UInt8} {p : Nat} (h : p ≤ b.length) : (b ++ r).drop p = b.drop p ++ r := List.drop_append_of_le_length h
theorem twB_le {f : UInt8 → Bool} (l : List UInt8) : (l.takeWhile f).length ≤ l.length := (List.takeWhile_sublist f).length_le
theorem Good.skips (f : UInt8 → Bool) : Good (rSkips f) := by
  refine ⟨fun b p a2 q hp h => ?_, fun b p q e hp h => ?_, fun b p a2 q r hp h hq => ?_, fun b p q e r hp h he hq => ?_⟩ <;> (first | unfold rSkips at h ⊢ | unfold rSkips at h)
  · injection h with h1 h2
    have := twB_le (f := f) (b.drop p)
    rw [List.length_drop] at this
    omega
  · cases h
  · injection h with h1 h2
    rw [drop_left hp, tw_left _ _ (by rw [List.length_drop]; omega), h2]
  · cases h
theorem Good.apart : Good rApart := by
  refine ⟨fun b p a2 q hp h => ?_, fun b p q e hp h => ?_, fun b p a2 q r hp h hq => ?_, fun b p q e r hp h he hq => ?_⟩ <;> (first | unfold rApart at h ⊢ | unfold rApart at h) <;> cases hb : b[p]? with
    | none =>
      rw [hb] at h
      have hge := List.getElem?_eq_none_iff.1 hb
      first
        | (injection h with h1 h2; omega)
        | cases h
    | some c =>
      have hlt := (List.getElem?_eq_some_iff.1 hb).1
      rw [hb] at h
      first
        | (rw [get_left r hlt, hb]; exact h)
        | (simp only at h; split at h
           · first
             | (injection h with h1 h2; exact ⟨by omega, fun _ => by omega⟩)
             | cases h
           · first
             | (injection h with h1 h2; omega)
             | cases h)
theorem Good.word : ∀ w, Good (rWord w)
  | [] => Good.apart
  | c :: r => (Good.need _).at fun _ => Good.word r
theorem Good.digits : Good rDigits := (Good.need _).at fun _ => Good.skips _
theorem Good.numeral : Good rNumeral :=
  (Good.skip _).at fun _ => (Good.skip _).at fun z => (Good.ite (Good.pure _) Good.digits).at fun _ => (Good.skip _).at fun f =>
    (Good.ite Good.digits (Good.pure _)).at fun _ => (Good.skip _).at fun e => Good.ite ((Good.skip _).at fun _ => Good.digits) (Good.pure _)

theorem fE_val (s : List Nat) : fE s = 0 ∨ fE s = 5 ∨ fE s = 32 ∨ fE s = 51 ∨ fE s = 52 := by
  unfold fE gE stE
  repeat' split
  all_goals omega
theorem fE_firm (s : List Nat) : ¬ Firm (fE s) := by
  unfold Firm
  rcases fE_val s with h | h | h | h | h <;> omega
theorem cut_left {b r : List UInt8} {p q : Nat} (hq : q ≤ b.length) : cutN (b ++ r) p q = cutN b p q := by
  unfold cutN
  by_cases hp : p ≤ b.length
  · rw [drop_left hp, List.take_append_of_le_length (by rw [List.length_drop]; omega)]
  · rw [show q - p = 0 by omega]; simp
/-- Not ahead of a place, where it began there. -/
theorem Good.number : Good rNumber := by
  have hN : Good rNumeral := Good.numeral
  have hA : Good rApart := Good.apart
  refine ⟨fun b p a2 q hp h => ?_, fun b p q e hp h => ?_, fun b p a2 q r hp h hq => ?_, fun b p q e r hp h he hq => ?_⟩ <;> (first | unfold rNumber at h ⊢ | unfold rNumber at h)
  · cases hf : rNumeral b p with
    | bad q1 e => rw [hf] at h; cases h
    | ok a q1 =>
      rw [hf] at h
      have h1 := hN.up b p a q1 hp hf
      simp only [RR.bind] at h
      split at h
      · cases ha : rApart b q1 with
        | bad q2 e => rw [ha] at h; cases h
        | ok a3 q2 =>
          rw [ha] at h
          have h2 := hA.up b q1 a3 q2 h1.2 ha
          injection h with h3 h4
          omega
      · cases h
  · cases hf : rNumeral b p with
    | bad q1 e1 =>
      rw [hf] at h
      have h1 := hN.dn b p q1 e1 hp hf
      simp only [RR.bind] at h
      injection h with h2 h3
      subst h2 h3
      exact h1
    | ok a q1 =>
      rw [hf] at h
      have h1 := hN.up b p a q1 hp hf
      simp only [RR.bind] at h
      split at h
      · cases ha : rApart b q1 with
        | bad q2 e2 =>
          rw [ha] at h
          have h2 := hA.dn b q1 q2 e2 h1.2 ha
          injection h with h3 h4
          subst h3 h4
          exact ⟨h2.1, fun he => by have := h2.2 he; omega⟩
        | ok a3 q2 => rw [ha] at h; cases h
      · injection h with h3 h4
        exact ⟨by omega, fun he => absurd (h4 ▸ he) (fE_firm _)⟩
  · cases hf : rNumeral b p with
    | bad q1 e => rw [hf] at h; cases h
    | ok a q1 =>
      rw [hf] at h
      have h1 := hN.up b p a q1 hp hf
      simp only [RR.bind] at h
      split at h
      · rename_i h0
        cases ha : rApart b q1 with
        | bad q2 e => rw [ha] at h; cases h
        | ok a3 q2 =>
          rw [ha] at h
          have h2 := hA.up b q1 a3 q2 h1.2 ha
          injection h with h3 h4
          rw [hN.ok b p a q1 r hp hf (by omega)]
          simp only [RR.bind]
          rw [cut_left (by omega), if_pos h0, hA.ok b q1 a3 q2 r h1.2 ha (by omega), h3, h4]
      · cases h
  · cases hf : rNumeral b p with
    | bad q1 e1 =>
      rw [hf] at h
      simp only [RR.bind] at h
      injection h with h2 h3
      subst h2 h3
      rw [hN.bad b p q1 e1 r hp hf he hq]
      rfl
    | ok a q1 =>
      rw [hf] at h
      have h1 := hN.up b p a q1 hp hf
      simp only [RR.bind] at h
      split at h
      · rename_i h0
        cases ha : rApart b q1 with
        | bad q2 e2 =>
          rw [ha] at h
          have h2 := hA.dn b q1 q2 e2 h1.2 ha
          injection h with h3 h4
          subst h3 h4
          have h9 := h2.2 he
          rw [hN.ok b p a q1 r hp hf (by omega)]
          simp only [RR.bind]
          rw [cut_left (by omega), if_pos h0, hA.bad b q1 q2 e2 r h1.2 ha he hq]
        | ok a3 q2 => rw [ha] at h; cases h
      · injection h with h3 h4
        rw [← h4] at he
        exact absurd he (fE_firm _)

/-- Reading that is done with what it went over, from a place m on: what it comes to hangs on nothing behind, firm faults stand at m or behind it. -/
structure Closed (m : Nat) {α : Type} (F : Rd1 α) : Prop where
  up : ∀ b p a q, m ≤ p → p ≤ b.length → F b p = .ok a q → p ≤ q ∧ q ≤ b.length
  dn : ∀ b p q e, m ≤ p → p ≤ b.length → m < b.length → F b p = .bad q e → q ≤ b.length ∧ (Firm e → m ≤ q ∧ q < b.length)
  ok : ∀ b p a q r, m ≤ p → p ≤ b.length → F b p = .ok a q → F (b ++ r) p = .ok a q
  bad : ∀ b p q e r, m ≤ p → p ≤ b.length → F b p = .bad q e → Firm e → F (b ++ r) p = .bad q e
theorem Closed.pure {m : Nat} {α : Type} (a : α) : Closed m (rPure a) := by
  refine ⟨fun b p a2 q hm hp h => ?_, fun b p q e hm hp hml h => ?_, fun b p a2 q r hm hp h => ?_, fun b p q e r hm hp h he => ?_⟩ <;> (first | unfold rPure at h ⊢ | unfold rPure at h)
  · injection h with h1 h2; omega
  · cases h
  · exact h
  · cases h
theorem Closed.fail {m : Nat} {α : Type} : Closed m (rFail 8 : Rd1 α) := by
  refine ⟨fun b p a2 q hm hp h => ?_, fun b p q e2 hm hp hml h => ?_, fun b p a2 q r hm hp h => ?_, fun b p q e2 r hm hp h he => ?_⟩ <;> (first | unfold rFail at h ⊢ | unfold rFail at h)
  · cases h
  · injection h with h1 h2; exact ⟨by omega, nf h2⟩
  · cases h
  · exact h
theorem Closed.must {m : Nat} (is : Bool) : Closed m (rMust m is) := by
  cases is
  · refine ⟨fun b p a2 q hm hp h => ?_, fun b p q e2 hm hp hml h => ?_, fun b p a2 q r hm hp h => ?_, fun b p q e2 r hm hp h he => h⟩
    · cases h
    · injection h with h1 h2; exact ⟨by omega, fun _ => by omega⟩
    · cases h
  · exact Closed.pure ()
theorem Closed.at {m : Nat} {α β : Type} {F : Rd1 α} {G : α → Rd1 β} (hF : Closed m F) (hG : ∀ a, Closed m (G a)) : Closed m (rAt F G) := by
  refine ⟨fun b p a2 q hm hp h => ?_, fun b p q e hm hp hml h => ?_, fun b p a2 q r hm hp h => ?_, fun b p q e r hm hp h he => ?_⟩ <;> (first | unfold rAt at h ⊢ | unfold rAt at h)
  · cases hf : F b p with
    | ok a q1 =>
      rw [hf] at h
      have h1 := hF.up b p a q1 hm hp hf
      have h2 := (hG a).up b q1 a2 q (by omega) h1.2 h
      omega
    | bad q1 e => rw [hf] at h; cases h
  · cases hf : F b p with
    | ok a q1 =>
      rw [hf] at h
      have h1 := hF.up b p a q1 hm hp hf
      exact (hG a).dn b q1 q e (by omega) h1.2 hml h
    | bad q1 e1 =>
      rw [hf] at h
      have h1 := hF.dn b p q1 e1 hm hp hml hf
      simp only [RR.bind] at h
      injection h with h2 h3
      subst h2 h3
      exact h1
  · cases hf : F b p with
    | ok a q1 =>
      rw [hf] at h
      have h1 := hF.up b p a q1 hm hp hf
      rw [hF.ok b p a q1 r hm hp hf]
      exact (hG a).ok b q1 a2 q r (by omega) h1.2 h
    | bad q1 e => rw [hf] at h; cases h
  · cases hf : F b p with
    | ok a q1 =>
      rw [hf] at h
      have h1 := hF.up b p a q1 hm hp hf
      rw [hF.ok b p a q1 r hm hp hf]
      exact (hG a).bad b q1 q e r (by omega) h1.2 h he
    | bad q1 e1 =>
      rw [hf] at h
      simp only [RR.bind] at h
      injection h with h2 h3
      subst h2 h3
      rw [hF.bad b p q1 e1 r hm hp hf he]
      rfl
theorem Closed.ite {m : Nat} {α : Type} {c : Prop} [Decidable c] {F G : Rd1 α} (hF : Closed m F) (hG : Closed m G) : Closed m (if c then F else G) := by
  by_cases h : c
  · rw [if_pos h]; exact hF
  · rw [if_neg h]; exact hG
/-- The octet that comes, which stays. -/
theorem Closed.peek {m : Nat} : Closed m rPeek := by
  refine ⟨fun b p a2 q hm hp h => Good.peek.up b p a2 q hp h, fun b p q e hm hp hml h => ?_, fun b p a2 q r hm hp h => ?_, fun b p q e r hm hp h he => ?_⟩
  · have := Good.peek.dn b p q e hp h
    exact ⟨this.1, fun he => by have := this.2 he; omega⟩
  · unfold rPeek at h ⊢
    cases hb : b[p]? with
    | none => rw [hb] at h; cases h
    | some c => rw [get_left r (List.getElem?_eq_some_iff.1 hb).1]; exact h
  · unfold rPeek at h
    cases hb : b[p]? with
    | none =>
      rw [hb] at h
      injection h with h1 h2
      rw [← h2] at he
      rcases he with he | he | he <;> omega
    | some c => rw [hb] at h; cases h
/-- The same, where an octet stands. -/
structure ClosedS (m : Nat) {α : Type} (F : Rd1 α) : Prop where
  up : ∀ b p a q, m ≤ p → p < b.length → F b p = .ok a q → p ≤ q ∧ q ≤ b.length
  dn : ∀ b p q e, m ≤ p → p < b.length → F b p = .bad q e → q ≤ b.length ∧ (Firm e → m ≤ q ∧ q < b.length)
  ok : ∀ b p a q r, m ≤ p → p < b.length → F b p = .ok a q → F (b ++ r) p = .ok a q
  bad : ∀ b p q e r, m ≤ p → p < b.length → F b p = .bad q e → Firm e → F (b ++ r) p = .bad q e
theorem Closed.s {m : Nat} {α : Type} {F : Rd1 α} (h : Closed m F) : ClosedS m F :=
  ⟨fun b p a q hm hp => h.up b p a q hm (by omega), fun b p q e hm hp => h.dn b p q e hm (by omega) (by omega), fun b p a q r hm hp => h.ok b p a q r hm (by omega), fun b p q e r hm hp => h.bad b p q e r hm (by omega)⟩
/-- Behind the octet. -/
theorem Closed.over {m : Nat} {α : Type} {G : Rd1 α} (h : Closed m G) : ClosedS m (fun b p => G b (p + 1)) :=
  ⟨fun b p a q hm hp hf => by have := h.up b (p + 1) a q (by omega) (by omega) hf; omega, fun b p q e hm hp hf => h.dn b (p + 1) q e (by omega) (by omega) (by omega) hf, fun b p a q r hm hp hf => h.ok b (p + 1) a q r (by omega) (by omega) hf, fun b p q e r hm hp hf he => h.bad b (p + 1) q e r (by omega) (by omega) hf he⟩
theorem ClosedS.ite {m : Nat} {α : Type} {c : Prop} [Decidable c] {F G : Rd1 α} (hF : ClosedS m F) (hG : ClosedS m G) : ClosedS m (if c then F else G) := by
  by_cases h : c
  · rw [if_pos h]; exact hF
  · rw [if_neg h]; exact hG
theorem ClosedS.must {m : Nat} {α : Type} {K : Rd1 α} (is : Bool) (h : ClosedS m K) : ClosedS m (rAt (rMust m is) fun _ => K) := by
  cases is
  · refine ⟨fun b p a q hm hp hf => ?_, fun b p q e hm hp hf => ?_, fun b p a q r hm hp hf => ?_, fun b p q e r hm hp hf he => hf⟩
    · cases hf
    · injection hf with h1 h2; exact ⟨by omega, fun _ => by omega⟩
    · cases hf
  · exact h
theorem Closed.stop {m : Nat} {α : Type} : Closed m (fun _ _ => RR.bad m 33 : Rd1 α) := by
  refine ⟨fun b p a q hm hp hf => ?_, fun b p q e hm hp hml hf => ?_, fun b p a q r hm hp hf => ?_, fun b p q e r hm hp hf he => hf⟩
  · cases hf
  · injection hf with h1 h2; exact ⟨by omega, fun _ => by omega⟩
  · cases hf
theorem peek_at {b : List UInt8} {p : Nat} : (∃ c, b[p]? = some c ∧ p < b.length ∧ rPeek b p = .ok c p ∧ ∀ r, rPeek (b ++ r) p = .ok c p) ∨ (b.length ≤ p ∧ rPeek b p = .bad p 8) := by
  cases hb : b[p]? with
  | none =>
    right
    exact ⟨List.getElem?_eq_none_iff.1 hb, by unfold rPeek; rw [hb]⟩
  | some c =>
    left
    have hlt := (List.getElem?_eq_some_iff.1 hb).1
    exact ⟨c, rfl, hlt, by unfold rPeek; rw [hb], fun r => by unfold rPeek; rw [get_left r hlt, hb]⟩
theorem ClosedS.fail {m : Nat} {α : Type} (e : Nat) : ClosedS m (rFail e : Rd1 α) := by
  refine ⟨fun b p a2 q hm hp h => ?_, fun b p q e2 hm hp h => ?_, fun b p a2 q r hm hp h => ?_, fun b p q e2 r hm hp h he => ?_⟩ <;> (first | unfold rFail at h ⊢ | unfold rFail at h)
  · cases h
  · injection h with h1 h2; exact ⟨by omega, fun _ => by omega⟩
  · cases h
  · exact h
theorem Closed.see {m : Nat} {α : Type} {H : UInt8 → Rd1 α} (hH : ∀ c, ClosedS m (H c)) : Closed m (rAt rPeek H) := by
  refine ⟨fun b p a2 q hm hp h => ?_, fun b p q e hm hp hml h => ?_, fun b p a2 q r hm hp h => ?_, fun b p q e r hm hp h he => ?_⟩ <;> (first | unfold rAt at h ⊢ | unfold rAt at h) <;> rcases peek_at (b := b) (p := p) with ⟨c, -, hlt, h1, h2⟩ | ⟨hge, h1⟩ <;> rw [h1] at h <;> simp only [RR.bind] at h
  · exact (hH c).up b p a2 q hm hlt h
  · cases h
  · exact (hH c).dn b p q e hm hlt h
  · injection h with h3 h4; exact ⟨by omega, nf h4⟩
  · rw [h2 r]; exact (hH c).ok b p a2 q r hm hlt h
  · cases h
  · rw [h2 r]; exact (hH c).bad b p q e r hm hlt h he
  · injection h with h3 h4; rw [← h4] at he; exact absurd he not_firm8
theorem Closed.hex {m : Nat} : ∀ k n, Closed m (rHex k n)
  | 0, n => Closed.pure n
  | k + 1, n => by
    unfold rHex
    refine Closed.see fun c => ?_
    cases hexOf c with
    | none => exact ClosedS.fail 33
    | some d => exact (Closed.hex k _).over
theorem Closed.low {m : Nat} : Closed m (rLow m) := by
  unfold rLow
  refine Closed.see fun c => ClosedS.must _ (Closed.over (G := rAt rPeek fun d => rAt (rMust m (d == 117)) fun _ => fun b p => _) (Closed.see fun d => ClosedS.must _ (Closed.over (G := rAt (rHex 1 0) fun x => _) ?_)))
  exact (Closed.hex 1 0).at fun x => (Closed.must _).at fun _ => (Closed.hex 1 0).at fun y => (Closed.must _).at fun _ => (Closed.hex 2 0).at fun z => Closed.pure _
theorem Closed.coded {m : Nat} : Closed m (rCoded m) := by
  unfold rCoded
  exact (Closed.hex 4 0).at fun n => Closed.ite (Closed.pure _) (Closed.ite Closed.stop (Closed.low.at fun z => Closed.pure _))
theorem ClosedS.escape {m : Nat} : ClosedS m rEscape := by
  have key : ∀ p, Closed p (rAt rPeek fun c => if c == 117 then fun b q => rCoded p b (q + 1) else match escOf c with
    | some x => fun _ q => .ok x (q + 1)
    | none => fun _ _ => .bad p 33) := fun p => Closed.see fun c => ClosedS.ite (Closed.over Closed.coded) (by
      cases escOf c with
      | none => exact Closed.stop.s
      | some x => exact Closed.over (G := rPure x) (Closed.pure x))
  refine ⟨fun b p a2 q hm hp h => ?_, fun b p q e hm hp h => ?_, fun b p a2 q r hm hp h => ?_, fun b p q e r hm hp h he => ?_⟩
  · have := (key p).up b (p + 1) a2 q (by omega) (by omega) h; omega
  · have := (key p).dn b (p + 1) q e (by omega) (by omega) (by omega) h
    exact ⟨this.1, fun he => by have := this.2 he; omega⟩
  · exact (key p).ok b (p + 1) a2 q r (by omega) (by omega) h
  · exact (key p).bad b (p + 1) q e r (by omega) (by omega) h he
theorem full_left {l : List UInt8} (r : List UInt8) (h : fullL l = true) : fullL (l ++ r) = true ∧ decodeL (l ++ r) = decodeL l := ⟨full_more r h, full_dec r h⟩
theorem ClosedS.raw {m : Nat} : ClosedS m (fun b p => if fullL (b.drop p) then (if partOf (b.drop p) = -1 then .bad p 61 else .ok (partOf (b.drop p)) (p + wid (b.drop p))) else .bad b.length 8 : Rd1 Int) := by
  have hd : ∀ (b : List UInt8) (p : Nat) (r : List UInt8), p < b.length → fullL (b.drop p) = true → fullL ((b ++ r).drop p) = true ∧ partOf ((b ++ r).drop p) = partOf (b.drop p) ∧ wid ((b ++ r).drop p) = wid (b.drop p) := fun b p r hp h => by
    rw [drop_left (by omega)]
    obtain ⟨h1, h2⟩ := full_left r h
    refine ⟨h1, ?_, ?_⟩
    · unfold partOf; rw [h2]
    · unfold wid; rw [h2]
  refine ⟨fun b p a2 q hm hp h => ?_, fun b p q e hm hp h => ?_, fun b p a2 q r hm hp h => ?_, fun b p q e r hm hp h he => ?_⟩ <;> split at h <;> try split at h
  · cases h
  · injection h with h1 h2
    have := wid_le (l := b.drop p) (fun e => by rw [List.drop_eq_nil_iff] at e; omega)
    rw [List.length_drop] at this
    omega
  · cases h
  · injection h with h1 h2; exact ⟨by omega, fun _ => by omega⟩
  · cases h
  · injection h with h1 h2; exact ⟨by omega, nf h2⟩
  · cases h
  · rename_i hf hn
    obtain ⟨e1, e2, e3⟩ := hd b p r hp hf
    rw [if_pos e1, e2, if_neg hn, e3]; exact h
  · cases h
  · rename_i hf hn
    obtain ⟨e1, e2, e3⟩ := hd b p r hp hf
    rw [if_pos e1, e2, if_pos hn]; exact h
  · cases h
  · injection h with h1 h2; rw [← h2] at he; exact absurd he not_firm8
theorem Closed.char {m : Nat} : Closed m rChar := by
  unfold rChar
  exact Closed.see fun c => ClosedS.ite ClosedS.escape (ClosedS.ite (ClosedS.fail 33) ClosedS.raw)
theorem Closed.chars {m : Nat} : ∀ n acc, Closed m (rChars n acc)
  | 0, acc => Closed.fail
  | n + 1, acc => by
    unfold rChars
    exact Closed.see fun c => ClosedS.ite (Closed.over (G := rPure acc) (Closed.pure acc)) (Closed.char.at fun x => Closed.chars n _).s
theorem ClosedS.text {m : Nat} : ClosedS m rText := by
  have key := fun p => (Closed.chars (m := p) fuelR [])
  refine ⟨fun b p a2 q hm hp h => ?_, fun b p q e hm hp h => ?_, fun b p a2 q r hm hp h => ?_, fun b p q e r hm hp h he => ?_⟩ <;> (first | unfold rText at h ⊢ | unfold rText at h) <;> cases hf : rChars fuelR [] b (p + 1) with
    | ok t q1 =>
      rw [hf] at h
      have h1 := (key p).up b (p + 1) t q1 (by omega) (by omega) hf
      simp only [RR.bind] at h
      first
        | (rw [(key p).ok b (p + 1) t q1 r (by omega) (by omega) hf]; simp only [RR.bind]; exact h)
        | (split at h
           · first
             | (injection h with h2 h3; exact ⟨by omega, fun _ => by omega⟩)
             | (injection h with h2 h3; omega)
             | cases h
           · first
             | (injection h with h2 h3; omega)
             | cases h)
    | bad q1 e1 =>
      rw [hf] at h
      have h1 := (key p).dn b (p + 1) q1 e1 (by omega) (by omega) (by omega) hf
      simp only [RR.bind] at h
      first
        | (cases h; done)
        | (injection h with h2 h3
           subst h2 h3
           first
             | exact ⟨h1.1, fun he => by have := h1.2 he; omega⟩
             | (rw [(key p).bad b (p + 1) q1 e1 r (by omega) (by omega) hf he]; rfl))
end Go.Proofs.YtpmdcahomkdfmaaGreatDoor
