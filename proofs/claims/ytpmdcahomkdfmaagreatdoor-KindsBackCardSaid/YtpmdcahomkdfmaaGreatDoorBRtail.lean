/-
  What stands ahead of a firm fault does not hang on what stands behind it: values, all values. Pure, no program.
  A value that is read is read the same where white space follows; white space ahead of a text and behind it changes nothing but places. Pure, no program.
-/
import Derived.Test.YtpmdcahomkdfmaaGreatDoorBRloc
import Derived.Test.YtpmdcahomkdfmaaGreatDoorBRfull
set_option linter.unusedVariables false
set_option linter.unusedSimpArgs false
namespace Go.Proofs.YtpmdcahomkdfmaaGreatDoor
open Go.Lib

/-- Reading that wants an octet. -/
def Needs {α : Type} (F : Rd1 α) : Prop := ∀ b : List UInt8, F b b.length = .bad b.length 8
theorem Needs.at {α β : Type} {F : Rd1 α} {G : α → Rd1 β} (h : Needs F) : Needs (rAt F G) := fun b => by
  unfold rAt
  rw [h b]
  rfl
theorem Needs.peek : Needs rPeek := fun b => by
  unfold rPeek
  rw [List.getElem?_eq_none (Nat.le_refl _)]
theorem Needs.need (f : UInt8 → Bool) : Needs (rNeed f) := fun b => by
  unfold rNeed
  rw [List.getElem?_eq_none (Nat.le_refl _)]
theorem Needs.fail {α : Type} : Needs (rFail 8 : Rd1 α) := fun b => rfl
theorem Needs.skips {α : Type} {f : UInt8 → Bool} {K : Unit → Rd1 α} (h : Needs (K ())) : Needs (rAt (rSkips f) K) := fun b => by
  unfold rAt rSkips
  rw [List.drop_length]
  exact h b

theorem Closed.mid {m : Nat} {α β : Type} {F : Rd1 α} {K : α → Rd1 β} (hF : Good F) (hK : ∀ a, Closed m (K a)) (hn : ∀ a, Needs (K a)) : Closed m (rAt F K) := by
  refine ⟨fun b p a2 q hm hp h => ?_, fun b p q e hm hp hml h => ?_, fun b p a2 q r hm hp h => ?_, fun b p q e r hm hp h he => ?_⟩ <;> (first | unfold rAt at h ⊢ | unfold rAt at h)
  · cases hf : F b p with
    | ok a q1 =>
      rw [hf] at h
      have h1 := hF.up b p a q1 hp hf
      have h2 := (hK a).up b q1 a2 q (by omega) h1.2 h
      omega
    | bad q1 e => rw [hf] at h; cases h
  · cases hf : F b p with
    | ok a q1 =>
      rw [hf] at h
      have h1 := hF.up b p a q1 hp hf
      exact (hK a).dn b q1 q e (by omega) h1.2 hml h
    | bad q1 e1 =>
      rw [hf] at h
      have h1 := hF.dn b p q1 e1 hp hf
      simp only [RR.bind] at h
      injection h with h2 h3
      subst h2 h3
      exact ⟨h1.1, fun he => by have := h1.2 he; omega⟩
  · cases hf : F b p with
    | ok a q1 =>
      rw [hf] at h
      have h1 := hF.up b p a q1 hp hf
      have hlt : q1 < b.length := by
        rcases Nat.lt_or_ge q1 b.length with hl | hl
        · exact hl
        · have : q1 = b.length := by omega
          subst this
          simp only [RR.bind] at h
          rw [hn a b] at h
          cases h
      rw [hF.ok b p a q1 r hp hf hlt]
      exact (hK a).ok b q1 a2 q r (by omega) h1.2 h
    | bad q1 e => rw [hf] at h; cases h
  · cases hf : F b p with
    | ok a q1 =>
      rw [hf] at h
      have h1 := hF.up b p a q1 hp hf
      have hlt : q1 < b.length := by
        rcases Nat.lt_or_ge q1 b.length with hl | hl
        · exact hl
        · have : q1 = b.length := by omega
          subst this
          simp only [RR.bind] at h
          rw [hn a b] at h
          injection h with h2 h3
          rw [← h3] at he
          exact absurd he not_firm8
      rw [hF.ok b p a q1 r hp hf hlt]
      exact (hK a).bad b q1 q e r (by omega) h1.2 h he
    | bad q1 e1 =>
      rw [hf] at h
      have h1 := hF.dn b p q1 e1 hp hf
      simp only [RR.bind] at h
      injection h with h2 h3
      subst h2 h3
      have hlt := (h1.2 he).2
      rw [hF.bad b p q1 e1 r hp hf he hlt]
      rfl

theorem Needs.see {α : Type} {H : UInt8 → Rd1 α} : Needs (rAt rPeek H) := Needs.peek.at
theorem Closed.need {m : Nat} (f : UInt8 → Bool) : Closed m (rNeed f) := by
  have e : rNeed f = rAt rPeek fun c => if f c then (fun b p => rPure () b (p + 1)) else rFail 33 := by
    funext b p
    unfold rNeed rAt rPeek
    cases b[p]? with
    | none => rfl
    | some c =>
      simp only [RR.bind]
      split
      · rfl
      · rfl
  rw [e]
  exact Closed.see fun c => ClosedS.ite (Closed.over (Closed.pure ())) (ClosedS.fail 33)
/-- The items of a list or an object. -/
theorem items_needs {α : Type} (end_ : UInt8) (item : Nat → Rd1 α) (n nth : Nat) : Needs (rItemsF end_ item n nth) := by
  cases n with
  | zero => exact Needs.fail
  | succ n => exact Needs.see
theorem Closed.items {m : Nat} {α : Type} {end_ : UInt8} {item : Nat → Rd1 α} (hi : ∀ nth, Good (item nth)) (hn : ∀ nth, Needs (item nth)) : ∀ n nth, Closed m (rItemsF end_ item n nth)
  | 0, nth => Closed.fail
  | n + 1, nth => by
    unfold rItemsF
    refine Closed.see fun c => ClosedS.ite (Closed.over (G := rPure []) (Closed.pure [])) (Closed.s ?_)
    refine Closed.mid (Good.ite (Good.at (Good.need _) fun _ => Good.skips _) (Good.pure _)) (fun _ => ?_) (fun _ => (hn nth).at)
    refine Closed.mid (hi nth) (fun a => ?_) (fun a => Needs.skips ((items_needs end_ item n (nth + 1)).at))
    exact Closed.mid (Good.skips _) (fun _ => (Closed.items hi hn n (nth + 1)).at fun l => Closed.pure _) (fun _ => (items_needs end_ item n (nth + 1)).at)
theorem ClosedS.items {m : Nat} {α : Type} {end_ : UInt8} {item : Nat → Rd1 α} (hi : ∀ nth, Good (item nth)) (hn : ∀ nth, Needs (item nth)) : ClosedS m (rItems end_ item) :=
  Closed.over (Closed.mid (Good.skips _) (fun _ => Closed.items hi hn fuelR 1) (fun _ => items_needs end_ item fuelR 1))
theorem ClosedS.held {m : Nat} {α : Type} {F : Rd1 α} (hF : ClosedS m F) (mk : α → VT) : ClosedS m (fun b p => (F b p).bind fun l q => rHeld p (mk l) b q) := by
  have h3 : ¬ Firm 3 := by unfold Firm; omega
  refine ⟨fun b p a2 q hm hp h => ?_, fun b p q e hm hp h => ?_, fun b p a2 q r hm hp h => ?_, fun b p q e r hm hp h he => ?_⟩ <;> cases hf : F b p with
    | ok l q1 =>
      have h1 := hF.up b p l q1 hm hp hf
      simp only [hf, RR.bind] at h
      unfold rHeld at h
      first
        | (simp only [hF.ok b p l q1 r hm hp hf, RR.bind]; exact h)
        | (split at h
           · first
             | (injection h with h2 h4; exact ⟨by omega, fun he => absurd (h4 ▸ he) h3⟩)
             | cases h
           · first
             | (injection h with h2 h4; omega)
             | cases h)
    | bad q1 e1 =>
      have h1 := hF.dn b p q1 e1 hm hp hf
      simp only [hf, RR.bind] at h
      first
        | (cases h; done)
        | (injection h with h2 h4
           subst h2 h4
           first
             | exact h1
             | (simp only [hF.bad b p q1 e1 r hm hp hf he, RR.bind]))
/-- Good, where an octet stands. -/
structure GoodS {α : Type} (F : Rd1 α) : Prop where
  up : ∀ b p a q, p < b.length → F b p = .ok a q → p ≤ q ∧ q ≤ b.length
  dn : ∀ b p q e, p < b.length → F b p = .bad q e → q ≤ b.length ∧ (Firm e → p ≤ q ∧ q < b.length)
  ok : ∀ b p a q r, p < b.length → F b p = .ok a q → q < b.length → F (b ++ r) p = .ok a q
  bad : ∀ b p q e r, p < b.length → F b p = .bad q e → Firm e → q < b.length → F (b ++ r) p = .bad q e
theorem Good.s {α : Type} {F : Rd1 α} (h : Good F) : GoodS F :=
  ⟨fun b p a q hp => h.up b p a q (by omega), fun b p q e hp => h.dn b p q e (by omega), fun b p a q r hp => h.ok b p a q r (by omega), fun b p q e r hp => h.bad b p q e r (by omega)⟩
theorem ClosedS.g {α : Type} {F : Rd1 α} (h : ∀ m, ClosedS m F) : GoodS F :=
  ⟨fun b p a q hp hf => (h p).up b p a q (Nat.le_refl _) hp hf, fun b p q e hp hf => (h p).dn b p q e (Nat.le_refl _) hp hf, fun b p a q r hp hf _ => (h p).ok b p a q r (Nat.le_refl _) hp hf, fun b p q e r hp hf he _ => (h p).bad b p q e r (Nat.le_refl _) hp hf he⟩
theorem GoodS.ite {α : Type} {c : Prop} [Decidable c] {F G : Rd1 α} (hF : GoodS F) (hG : GoodS G) : GoodS (if c then F else G) := by
  by_cases h : c
  · rw [if_pos h]; exact hF
  · rw [if_neg h]; exact hG
theorem GoodS.at {α β : Type} {F : Rd1 α} {G : α → Rd1 β} (hF : GoodS F) (hG : ∀ a, Good (G a)) : GoodS (rAt F G) := by
  refine ⟨fun b p a2 q hp h => ?_, fun b p q e hp h => ?_, fun b p a2 q r hp h hq => ?_, fun b p q e r hp h he hq => ?_⟩ <;> (first | unfold rAt at h ⊢ | unfold rAt at h)
  · cases hf : F b p with
    | ok a q1 =>
      rw [hf] at h
      have h1 := hF.up b p a q1 hp hf
      have h2 := (hG a).up b q1 a2 q h1.2 h
      omega
    | bad q1 e => rw [hf] at h; cases h
  · cases hf : F b p with
    | ok a q1 =>
      rw [hf] at h
      have h1 := hF.up b p a q1 hp hf
      have h2 := (hG a).dn b q1 q e h1.2 h
      exact ⟨h2.1, fun he => by have := h2.2 he; omega⟩
    | bad q1 e1 =>
      rw [hf] at h
      have h1 := hF.dn b p q1 e1 hp hf
      simp only [RR.bind] at h
      injection h with h2 h3
      subst h2 h3
      exact h1
  · cases hf : F b p with
    | ok a q1 =>
      rw [hf] at h
      have h1 := hF.up b p a q1 hp hf
      have h2 := (hG a).up b q1 a2 q h1.2 h
      rw [hF.ok b p a q1 r hp hf (by omega)]
      exact (hG a).ok b q1 a2 q r h1.2 h hq
    | bad q1 e => rw [hf] at h; cases h
  · cases hf : F b p with
    | ok a q1 =>
      rw [hf] at h
      have h1 := hF.up b p a q1 hp hf
      have h2 := (hG a).dn b q1 q e h1.2 h
      have h3 := h2.2 he
      rw [hF.ok b p a q1 r hp hf (by omega)]
      exact (hG a).bad b q1 q e r h1.2 h he hq
    | bad q1 e1 =>
      rw [hf] at h
      simp only [RR.bind] at h
      injection h with h2 h3
      subst h2 h3
      rw [hF.bad b p q1 e1 r hp hf he hq]
      rfl
theorem Good.see {α : Type} {H : UInt8 → Rd1 α} (hH : ∀ c, GoodS (H c)) : Good (rAt rPeek H) := by
  refine ⟨fun b p a2 q hp h => ?_, fun b p q e hp h => ?_, fun b p a2 q r hp h hq => ?_, fun b p q e r hp h he hq => ?_⟩ <;> (first | unfold rAt at h ⊢ | unfold rAt at h) <;> rcases peek_at (b := b) (p := p) with ⟨c, -, hlt, h1, h2⟩ | ⟨hge, h1⟩ <;> rw [h1] at h <;> simp only [RR.bind] at h
  · exact (hH c).up b p a2 q hlt h
  · cases h
  · exact (hH c).dn b p q e hlt h
  · injection h with h3 h4; exact ⟨by omega, nf h4⟩
  · rw [h2 r]; exact (hH c).ok b p a2 q r hlt h hq
  · cases h
  · rw [h2 r]; exact (hH c).bad b p q e r hlt h he hq
  · injection h with h3 h4; exact nf h4 he
theorem Good.begin (k nth : Nat) : Good (rBegin k nth) := by
  unfold rBegin
  exact Good.see fun c => GoodS.ite (ClosedS.g fun m => ClosedS.fail _) (GoodS.ite (ClosedS.g fun m => ClosedS.fail _) (GoodS.ite (ClosedS.g fun m => ClosedS.fail _) (Good.pure _).s))
theorem Good.key (nth : Nat) : Good (rKey nth) := by
  unfold rKey
  exact Good.see fun c => GoodS.ite (GoodS.ite (ClosedS.g fun m => ClosedS.fail _) (ClosedS.g fun m => ClosedS.text)) (ClosedS.g fun m => ClosedS.fail _)
theorem value_needs (mk : List (ByteArray × VT) → VT) (k nth : Nat) : Needs (rValue mk k nth) := by
  cases k with
  | zero => exact Needs.see.at
  | succ k => exact Needs.see.at
theorem Good.value (mk : List (ByteArray × VT) → VT) : ∀ k nth, Good (rValue mk k nth)
  | 0, nth => by
    unfold rValue
    exact (Good.begin 0 nth).at fun _ => Good.see fun c => GoodS.ite (GoodS.at (ClosedS.g fun m => ClosedS.text) fun t => Good.pure _) (Good.s (Good.ite ((Good.word _).at fun _ => Good.pure _) (Good.ite ((Good.word _).at fun _ => Good.pure _) (Good.ite ((Good.word _).at fun _ => Good.pure _) Good.number))))
  | k + 1, nth => by
    have ih := Good.value mk k
    have hn := value_needs mk k
    have hpair : ∀ n, Good (rAt (rKey n) fun key => rAt (rSkips isWs) fun _ => rAt (rNeed (· == 58)) fun _ => rAt (rSkips isWs) fun _ => rAt (rValue mk k n) fun v => rPure (key, v)) := fun n =>
      (Good.key n).at fun key => (Good.skips _).at fun _ => (Good.need _).at fun _ => (Good.skips _).at fun _ => (ih n).at fun v => Good.pure _
    unfold rValue
    exact (Good.begin (k + 1) nth).at fun _ => Good.see fun c => GoodS.ite (ClosedS.g fun m => ClosedS.held (ClosedS.items ih hn) _) (GoodS.ite (ClosedS.g fun m => ClosedS.held (ClosedS.items hpair (fun n => Needs.see.at)) _) (GoodS.ite (GoodS.at (ClosedS.g fun m => ClosedS.text) fun t => Good.pure _) (Good.s (Good.ite ((Good.word _).at fun _ => Good.pure _) (Good.ite ((Good.word _).at fun _ => Good.pure _) (Good.ite ((Good.word _).at fun _ => Good.pure _) Good.number))))))

end Go.Proofs.YtpmdcahomkdfmaaGreatDoor

namespace Go.Proofs.YtpmdcahomkdfmaaGreatDoor
open Go.Lib

/-- Reading that comes to something, and comes to it where white space follows. -/
def Tail {α : Type} (F : Rd1 α) : Prop := ∀ (b : List UInt8) (p : Nat) (a : α) (q : Nat) (c : UInt8) (r : List UInt8), p ≤ b.length → isWs c = true → F b p = .ok a q → F (b ++ c :: r) p = .ok a q ∧ p ≤ q ∧ q ≤ b.length
theorem Tail.pure {α : Type} (a : α) : Tail (rPure a) := fun b p a2 q c r hp hc h => by
  unfold rPure at h ⊢
  injection h with h1 h2
  subst h1 h2
  exact ⟨rfl, Nat.le_refl _, hp⟩
theorem Tail.at {α β : Type} {F : Rd1 α} {G : α → Rd1 β} (hF : Tail F) (hG : ∀ a, Tail (G a)) : Tail (rAt F G) := fun b p a2 q c r hp hc h => by
  unfold rAt at h ⊢
  cases hf : F b p with
  | bad q1 e => rw [hf] at h; cases h
  | ok a q1 =>
    rw [hf] at h
    obtain ⟨h1, h2, h3⟩ := hF b p a q1 c r hp hc hf
    obtain ⟨h4, h5, h6⟩ := hG a b q1 a2 q c r h3 hc h
    rw [h1]
    exact ⟨h4, by omega, h6⟩
theorem Tail.ite {α : Type} {c : Prop} [Decidable c] {F G : Rd1 α} (hF : Tail F) (hG : Tail G) : Tail (if c then F else G) := by
  by_cases h : c
  · rw [if_pos h]; exact hF
  · rw [if_neg h]; exact hG
theorem Closed.tail {α : Type} {F : Rd1 α} (h : ∀ m, Closed m F) : Tail F := fun b p a q c r hp hc hf => ⟨(h p).ok b p a q _ (Nat.le_refl _) hp hf, (h p).up b p a q (Nat.le_refl _) hp hf⟩
theorem get_mid (b : List UInt8) (c : UInt8) (r : List UInt8) : (b ++ c :: r)[b.length]? = some c := by simp
theorem Tail.skip {f : UInt8 → Bool} (hf : ∀ c, isWs c = true → f c = false) : Tail (rSkip f) := fun b p a q c r hp hc h => by
  have hup := (Good.skip f).up b p a q hp h
  refine ⟨?_, hup⟩
  unfold rSkip at h ⊢
  cases hb : b[p]? with
  | none =>
    have hge := List.getElem?_eq_none_iff.1 hb
    obtain rfl : p = b.length := by omega
    rw [hb] at h
    rw [get_mid]
    simp only [hf c hc]
    exact h
  | some d =>
    have hlt := (List.getElem?_eq_some_iff.1 hb).1
    rw [get_left _ hlt]
    exact h
theorem tw_mid {f : UInt8 → Bool} {c : UInt8} (hf : f c = false) : ∀ (l r : List UInt8), (l ++ c :: r).takeWhile f = l.takeWhile f
  | [], r => by simp [hf]
  | d :: t, r => by
    have := tw_mid hf t r
    by_cases hd : f d = true
    · simp only [List.cons_append, List.takeWhile_cons, hd, if_true, this]
    · simp only [List.cons_append, List.takeWhile_cons, hd, Bool.false_eq_true, if_false]
theorem Tail.skips {f : UInt8 → Bool} (hf : ∀ c, isWs c = true → f c = false) : Tail (rSkips f) := fun b p a q c r hp hc h => by
  have hup := (Good.skips f).up b p a q hp h
  refine ⟨?_, hup⟩
  unfold rSkips at h ⊢
  rw [drop_left hp, tw_mid (hf c hc)]
  exact h
theorem ws_wd (c : UInt8) (h : isWs c = true) : isWd c = false := by
  unfold isWs at h
  simp only [Bool.or_eq_true, beq_iff_eq] at h
  rcases h with ((h | h) | h) | h <;> subst h <;> decide
theorem ws_dg (c : UInt8) (h : isWs c = true) : isDg c = false := by
  have := ws_wd c h
  unfold isWd at this
  simp only [Bool.or_eq_false_iff] at this
  exact this.1.1.1.1.1.1
theorem ws_not (d : UInt8) (hd : isWd d = true) (c : UInt8) (h : isWs c = true) : (c == d) = false := by
  rw [beq_eq_false_iff_ne]
  rintro rfl
  rw [ws_wd c h] at hd
  cases hd
theorem Tail.apart : Tail rApart := fun b p a q c r hp hc h => by
  have hup := Good.apart.up b p a q hp h
  refine ⟨?_, hup⟩
  unfold rApart at h ⊢
  cases hb : b[p]? with
  | none =>
    have hge := List.getElem?_eq_none_iff.1 hb
    obtain rfl : p = b.length := by omega
    rw [hb] at h
    rw [get_mid]
    simp only [ws_wd c hc]
    exact h
  | some d =>
    have hlt := (List.getElem?_eq_some_iff.1 hb).1
    rw [get_left _ hlt]
    exact h
theorem Tail.need (f : UInt8 → Bool) : Tail (rNeed f) := Closed.tail fun m => Closed.need f
theorem Tail.word : ∀ w, Tail (rWord w)
  | [] => Tail.apart
  | c :: r => (Tail.need _).at fun _ => Tail.word r
theorem Tail.digits : Tail rDigits := (Tail.need _).at fun _ => Tail.skips ws_dg
theorem Tail.numeral : Tail rNumeral :=
  (Tail.skip (ws_not 45 (by decide))).at fun _ => (Tail.skip (ws_not 48 (by decide))).at fun z => (Tail.ite (Tail.pure _) Tail.digits).at fun _ => (Tail.skip (ws_not 46 (by decide))).at fun f =>
    (Tail.ite Tail.digits (Tail.pure _)).at fun _ => (Tail.skip (fun c h => by rw [ws_not 101 (by decide) c h, ws_not 69 (by decide) c h]; rfl)).at fun e => Tail.ite ((Tail.skip (fun c h => by rw [ws_not 43 (by decide) c h, ws_not 45 (by decide) c h]; rfl)).at fun _ => Tail.digits) (Tail.pure _)
theorem Tail.number : Tail rNumber := fun b p a q c r hp hc h => by
  unfold rNumber at h ⊢
  cases hf : rNumeral b p with
  | bad q1 e => rw [hf] at h; cases h
  | ok a1 q1 =>
    rw [hf] at h
    obtain ⟨h1, h2, h3⟩ := Tail.numeral b p a1 q1 c r hp hc hf
    rw [h1]
    simp only [RR.bind] at h ⊢
    rw [cut_left h3]
    split at h
    · rename_i h0
      rw [if_pos h0]
      cases ha : rApart b q1 with
      | bad q2 e => rw [ha] at h; cases h
      | ok a2 q2 =>
        rw [ha] at h
        obtain ⟨h4, h5, h6⟩ := Tail.apart b q1 a2 q2 c r h3 hc ha
        rw [h4]
        injection h with h7 h8
        subst h8
        rw [← h7]
        exact ⟨rfl, by omega, h6⟩
    · cases h
/-- .. where an octet stands. -/
def TailS {α : Type} (F : Rd1 α) : Prop := ∀ (b : List UInt8) (p : Nat) (a : α) (q : Nat) (c : UInt8) (r : List UInt8), p < b.length → isWs c = true → F b p = .ok a q → F (b ++ c :: r) p = .ok a q ∧ p ≤ q ∧ q ≤ b.length
theorem Tail.s {α : Type} {F : Rd1 α} (h : Tail F) : TailS F := fun b p a q c r hp => h b p a q c r (by omega)
theorem ClosedS.tail {α : Type} {F : Rd1 α} (h : ∀ m, ClosedS m F) : TailS F := fun b p a q c r hp hc hf => ⟨(h p).ok b p a q _ (Nat.le_refl _) hp hf, (h p).up b p a q (Nat.le_refl _) hp hf⟩
theorem TailS.ite {α : Type} {c : Prop} [Decidable c] {F G : Rd1 α} (hF : TailS F) (hG : TailS G) : TailS (if c then F else G) := by
  by_cases h : c
  · rw [if_pos h]; exact hF
  · rw [if_neg h]; exact hG
theorem TailS.at {α β : Type} {F : Rd1 α} {G : α → Rd1 β} (hF : TailS F) (hG : ∀ a, Tail (G a)) : TailS (rAt F G) := fun b p a2 q c r hp hc h => by
  unfold rAt at h ⊢
  cases hf : F b p with
  | bad q1 e => rw [hf] at h; cases h
  | ok a q1 =>
    rw [hf] at h
    obtain ⟨h1, h2, h3⟩ := hF b p a q1 c r hp hc hf
    obtain ⟨h4, h5, h6⟩ := hG a b q1 a2 q c r h3 hc h
    rw [h1]
    exact ⟨h4, by omega, h6⟩
theorem Tail.see {α : Type} {H : UInt8 → Rd1 α} (hH : ∀ c, TailS (H c)) : Tail (rAt rPeek H) := fun b p a q c r hp hc h => by
  unfold rAt at h ⊢
  rcases peek_at (b := b) (p := p) with ⟨d, -, hlt, h1, h2⟩ | ⟨hge, h1⟩
  · rw [h1] at h
    rw [h2]
    exact hH d b p a q c r hlt hc h
  · rw [h1] at h; cases h
theorem Tail.begin (k nth : Nat) : Tail (rBegin k nth) := by
  unfold rBegin
  exact Tail.see fun c => TailS.ite (ClosedS.tail fun m => ClosedS.fail _) (TailS.ite (ClosedS.tail fun m => ClosedS.fail _) (TailS.ite (ClosedS.tail fun m => ClosedS.fail _) (Tail.pure _).s))
theorem Tail.value (mk : List (ByteArray × VT) → VT) : ∀ k nth, Tail (rValue mk k nth)
  | 0, nth => by
    unfold rValue
    exact (Tail.begin 0 nth).at fun _ => Tail.see fun c => TailS.ite (TailS.at (ClosedS.tail fun m => ClosedS.text) fun t => Tail.pure _) (Tail.s (Tail.ite ((Tail.word _).at fun _ => Tail.pure _) (Tail.ite ((Tail.word _).at fun _ => Tail.pure _) (Tail.ite ((Tail.word _).at fun _ => Tail.pure _) Tail.number))))
  | k + 1, nth => by
    have ih := Good.value mk k
    have hn := value_needs mk k
    have hpair : ∀ n, Good (rAt (rKey n) fun key => rAt (rSkips isWs) fun _ => rAt (rNeed (· == 58)) fun _ => rAt (rSkips isWs) fun _ => rAt (rValue mk k n) fun v => rPure (key, v)) := fun n =>
      (Good.key n).at fun key => (Good.skips _).at fun _ => (Good.need _).at fun _ => (Good.skips _).at fun _ => (ih n).at fun v => Good.pure _
    unfold rValue
    exact (Tail.begin (k + 1) nth).at fun _ => Tail.see fun c => TailS.ite (ClosedS.tail fun m => ClosedS.held (ClosedS.items ih hn) _) (TailS.ite (ClosedS.tail fun m => ClosedS.held (ClosedS.items hpair (fun n => Needs.see.at)) _) (TailS.ite (TailS.at (ClosedS.tail fun m => ClosedS.text) fun t => Tail.pure _) (Tail.s (Tail.ite ((Tail.word _).at fun _ => Tail.pure _) (Tail.ite ((Tail.word _).at fun _ => Tail.pure _) (Tail.ite ((Tail.word _).at fun _ => Tail.pure _) Tail.number))))))
end Go.Proofs.YtpmdcahomkdfmaaGreatDoor
