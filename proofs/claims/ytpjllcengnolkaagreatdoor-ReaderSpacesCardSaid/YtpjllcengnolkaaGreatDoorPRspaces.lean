/-
  A value that is read is read the same where white space follows; white space ahead of a text and behind it changes nothing but places. Pure, no program.
  White space ahead of a text and behind it changes nothing but places. Pure, no program.
-/
import Derived.Test.YtpjllcengnolkaaGreatDoorPRshift
set_option linter.unusedVariables false
set_option linter.unusedSimpArgs false
namespace Go.Proofs.YtpjllcengnolkaaGreatDoor
open Go.Lib

/-- Reading that comes to something, and comes to it where white space follows. -/
def Tail {α : Type} (F : Rd1 α) : Prop := ∀ (b : List UInt8) (p : Nat) (a : α) (q : Nat) (c : UInt8) (r : List UInt8), p ≤ b.length → isWs c = true → F b p = .ok a q → F (b ++ c :: r) p = .ok a q ∧ p ≤ q ∧ q ≤ b.length
theorem Tail.pure {α : Type} (a : α) : Tail (rPure a) := fun b p a2 q c r hp hc h => by
  unfold rPure at h ⊢
  injection h with h1 h2
  subst h1 h2
  exact ⟨rfl, Nat.le_refl _, hp⟩
theorem Tail.at {α β : Type} {F : Rd1 α} {G : α → Rd1 β} (hF : Tail F) (hG : ∀ a, Tail (G a)) : Tail (rAt F G) := fun b p a2 q c r hp hc h => by
  unfold rAt at h ⊢
  cases hf : F b p with
  | bad q1 e => rw [hf] at h; cases h
  | ok a q1 =>
    rw [hf] at h
    obtain ⟨h1, h2, h3⟩ := hF b p a q1 c r hp hc hf
    obtain ⟨h4, h5, h6⟩ := hG a b q1 a2 q c r h3 hc h
    rw [h1]
    exact ⟨h4, by omega, h6⟩
theorem Tail.ite {α : Type} {c : Prop} [Decidable c] {F G : Rd1 α} (hF : Tail F) (hG : Tail G) : Tail (if c then F else G) := by
  by_cases h : c
  · rw [if_pos h]; exact hF
  · rw [if_neg h]; exact hG
theorem Closed.tail {α : Type} {F : Rd1 α} (h : ∀ m, Closed m F) : Tail F := fun b p a q c r hp hc hf => ⟨(h p).ok b p a q _ (Nat.le_refl _) hp hf, (h p).up b p a q (Nat.le_refl _) hp hf⟩
theorem get_mid (b : List UInt8) (c : UInt8) (r : List UInt8) : (b ++ c :: r)[b.length]? = some c := by simp
theorem Tail.skip {f : UInt8 → Bool} (hf : ∀ c, isWs c = true → f c = false) : Tail (rSkip f) := fun b p a q c r hp hc h => by
  have hup := (Good.skip f).up b p a q hp h
  refine ⟨?_, hup⟩
  unfold rSkip at h ⊢
  cases hb : b[p]? with
  | none =>
    have hge := List.getElem?_eq_none_iff.1 hb
    obtain rfl : p = b.length := by omega
    rw [hb] at h
    rw [get_mid]
    simp only [hf c hc]
    exact h
  | some d =>
    have hlt := (List.getElem?_eq_some_iff.1 hb).1
    rw [get_left _ hlt]
    exact h
theorem tw_mid {f : UInt8 → Bool} {c : UInt8} (hf : f c = false) : ∀ (l r : List UInt8), (l ++ c :: r).takeWhile f = l.takeWhile f
  | [], r => by simp [hf]
  | d :: t, r => by
    have := tw_mid hf t r
    by_cases hd : f d = true
    · simp only [List.cons_append, List.takeWhile_cons, hd, if_true, this]
    · simp only [List.cons_append, List.takeWhile_cons, hd, Bool.false_eq_true, if_false]
theorem Tail.skips {f : UInt8 → Bool} (hf : ∀ c, isWs c = true → f c = false) : Tail (rSkips f) := fun b p a q c r hp hc h => by
  have hup := (Good.skips f).up b p a q hp h
  refine ⟨?_, hup⟩
  unfold rSkips at h ⊢
  rw [drop_left hp, tw_mid (hf c hc)]
  exact h
theorem ws_wd (c : UInt8) (h : isWs c = true) : isWd c = false := by
  unfold isWs at h
  simp only [Bool.or_eq_true, beq_iff_eq] at h
  rcases h with ((h | h) | h) | h <;> subst h <;> decide
theorem ws_dg (c : UInt8) (h : isWs c = true) : isDg c = false := by
  have := ws_wd c h
  unfold isWd at this
  simp only [Bool.or_eq_false_iff] at this
  exact this.1.1.1.1.1.1
theorem ws_not (d : UInt8) (hd : isWd d = true) (c : UInt8) (h : isWs c = true) : (c == d) = false := by
  rw [beq_eq_false_iff_ne]
  rintro rfl
  rw [ws_wd c h] at hd
  cases hd
theorem Tail.apart : Tail rApart := fun b p a q c r hp hc h => by
  have hup := Good.apart.up b p a q hp h
  refine ⟨?_, hup⟩
  unfold rApart at h ⊢
  cases hb : b[p]? with
  | none =>
    have hge := List.getElem?_eq_none_iff.1 hb
    obtain rfl : p = b.length := by omega
    rw [hb] at h
    rw [get_mid]
    simp only [ws_wd c hc]
    exact h
  | some d =>
    have hlt := (List.getElem?_eq_some_iff.1 hb).1
    rw [get_left _ hlt]
    exact h
theorem Tail.need (f : UInt8 → Bool) : Tail (rNeed f) := Closed.tail fun m => Closed.need f
theorem Tail.word : ∀ w, Tail (rWord w)
  | [] => Tail.apart
  | c :: r => (Tail.need _).at fun _ => Tail.word r
theorem Tail.digits : Tail rDigits := (Tail.need _).at fun _ => Tail.skips ws_dg
theorem Tail.numeral : Tail rNumeral :=
  (Tail.skip (ws_not 45 (by decide))).at fun _ => (Tail.skip (ws_not 48 (by decide))).at fun z => (Tail.ite (Tail.pure _) Tail.digits).at fun _ => (Tail.skip (ws_not 46 (by decide))).at fun f =>
    (Tail.ite Tail.digits (Tail.pure _)).at fun _ => (Tail.skip (fun c h => by rw [ws_not 101 (by decide) c h, ws_not 69 (by decide) c h]; rfl)).at fun e => Tail.ite ((Tail.skip (fun c h => by rw [ws_not 43 (by decide) c h, ws_not 45 (by decide) c h]; rfl)).at fun _ => Tail.digits) (Tail.pure _)
theorem Tail.number : Tail rNumber := fun b p a q c r hp hc h => by
  unfold rNumber at h ⊢
  cases hf : rNumeral b p with
  | bad q1 e => rw [hf] at h; cases h
  | ok a1 q1 =>
    rw [hf] at h
    obtain ⟨h1, h2, h3⟩ := Tail.numeral b p a1 q1 c r hp hc hf
    rw [h1]
    simp only [RR.bind] at h ⊢
    rw [cut_left h3]
    split at h
    · rename_i h0
      rw [if_pos h0]
      cases ha : rApart b q1 with
      | bad q2 e => rw [ha] at h; cases h
      | ok a2 q2 =>
        rw [ha] at h
        obtain ⟨h4, h5, h6⟩ := Tail.apart b q1 a2 q2 c r h3 hc ha
        rw [h4]
        injection h with h7 h8
        subst h8
        rw [← h7]
        exact ⟨rfl, by omega, h6⟩
    · cases h
/-- .. where an octet stands. -/
def TailS {α : Type} (F : Rd1 α) : Prop := ∀ (b : List UInt8) (p : Nat) (a : α) (q : Nat) (c : UInt8) (r : List UInt8), p < b.length → isWs c = true → F b p = .ok a q → F (b ++ c :: r) p = .ok a q ∧ p ≤ q ∧ q ≤ b.length
theorem Tail.s {α : Type} {F : Rd1 α} (h : Tail F) : TailS F := fun b p a q c r hp => h b p a q c r (by omega)
theorem ClosedS.tail {α : Type} {F : Rd1 α} (h : ∀ m, ClosedS m F) : TailS F := fun b p a q c r hp hc hf => ⟨(h p).ok b p a q _ (Nat.le_refl _) hp hf, (h p).up b p a q (Nat.le_refl _) hp hf⟩
theorem TailS.ite {α : Type} {c : Prop} [Decidable c] {F G : Rd1 α} (hF : TailS F) (hG : TailS G) : TailS (if c then F else G) := by
  by_cases h : c
  · rw [if_pos h]; exact hF
  · rw [if_neg h]; exact hG
theorem TailS.at {α β : Type} {F : Rd1 α} {G : α → Rd1 β} (hF : TailS F) (hG : ∀ a, Tail (G a)) : TailS (rAt F G) := fun b p a2 q c r hp hc h => by
  unfold rAt at h ⊢
  cases hf : F b p with
  | bad q1 e => rw [hf] at h; cases h
  | ok a q1 =>
    rw [hf] at h
    obtain ⟨h1, h2, h3⟩ := hF b p a q1 c r hp hc hf
    obtain ⟨h4, h5, h6⟩ := hG a b q1 a2 q c r h3 hc h
    rw [h1]
    exact ⟨h4, by omega, h6⟩
theorem Tail.see {α : Type} {H : UInt8 → Rd1 α} (hH : ∀ c, TailS (H c)) : Tail (rAt rPeek H) := fun b p a q c r hp hc h => by
  unfold rAt at h ⊢
  rcases peek_at (b := b) (p := p) with ⟨d, -, hlt, h1, h2⟩ | ⟨hge, h1⟩
  · rw [h1] at h
    rw [h2]
    exact hH d b p a q c r hlt hc h
  · rw [h1] at h; cases h
theorem Tail.begin (k nth : Nat) : Tail (rBegin k nth) := by
  unfold rBegin
  exact Tail.see fun c => TailS.ite (ClosedS.tail fun m => ClosedS.fail _) (TailS.ite (ClosedS.tail fun m => ClosedS.fail _) (TailS.ite (ClosedS.tail fun m => ClosedS.fail _) (Tail.pure _).s))
theorem Tail.value (mk : List (ByteArray × VT) → VT) : ∀ k nth, Tail (rValue mk k nth)
  | 0, nth => by
    unfold rValue
    exact (Tail.begin 0 nth).at fun _ => Tail.see fun c => TailS.ite (TailS.at (ClosedS.tail fun m => ClosedS.text) fun t => Tail.pure _) (Tail.s (Tail.ite ((Tail.word _).at fun _ => Tail.pure _) (Tail.ite ((Tail.word _).at fun _ => Tail.pure _) (Tail.ite ((Tail.word _).at fun _ => Tail.pure _) Tail.number))))
  | k + 1, nth => by
    have ih := Good.value mk k
    have hn := value_needs mk k
    have hpair : ∀ n, Good (rAt (rKey n) fun key => rAt (rSkips isWs) fun _ => rAt (rNeed (· == 58)) fun _ => rAt (rSkips isWs) fun _ => rAt (rValue mk k n) fun v => rPure (key, v)) := fun n =>
      (Good.key n).at fun key => (Good.skips _).at fun _ => (Good.need _).at fun _ => (Good.skips _).at fun _ => (ih n).at fun v => Good.pure _
    unfold rValue
    exact (Tail.begin (k + 1) nth).at fun _ => Tail.see fun c => TailS.ite (ClosedS.tail fun m => ClosedS.held (ClosedS.items ih hn) _) (TailS.ite (ClosedS.tail fun m => ClosedS.held (ClosedS.items hpair (fun n => Needs.see.at)) _) (TailS.ite (TailS.at (ClosedS.tail fun m => ClosedS.text) fun t => Tail.pure _) (Tail.s (Tail.ite ((Tail.word _).at fun _ => Tail.pure _) (Tail.ite ((Tail.word _).at fun _ => Tail.pure _) (Tail.ite ((Tail.word _).at fun _ => Tail.pure _) Tail.number))))))
end Go.Proofs.YtpjllcengnolkaaGreatDoor

namespace Go.Proofs.YtpjllcengnolkaaGreatDoor
open Go.Lib

/-- Reading whose faults have an error. -/
def Nz {α : Type} (F : Rd1 α) : Prop := ∀ b p q e, F b p = .bad q e → e ≠ 0
theorem Nz.pure {α : Type} (a : α) : Nz (rPure a) := fun b p q e h => by unfold rPure at h; cases h
theorem Nz.fail {α : Type} {e : Nat} (he : e ≠ 0) : Nz (rFail e : Rd1 α) := fun b p q e2 h => by unfold rFail at h; injection h with h1 h2; omega
theorem Nz.at {α β : Type} {F : Rd1 α} {G : α → Rd1 β} (hF : Nz F) (hG : ∀ a, Nz (G a)) : Nz (rAt F G) := fun b p q e h => by
  unfold rAt at h
  cases hf : F b p with
  | ok a q1 => rw [hf] at h; exact hG a b q1 q e h
  | bad q1 e1 => rw [hf] at h; simp only [RR.bind] at h; injection h with h1 h2; subst h2; exact hF b p q1 e1 hf
theorem Nz.ite {α : Type} {c : Prop} [Decidable c] {F G : Rd1 α} (hF : Nz F) (hG : Nz G) : Nz (if c then F else G) := by
  by_cases h : c
  · rw [if_pos h]; exact hF
  · rw [if_neg h]; exact hG
theorem Nz.over {α : Type} {G : Rd1 α} (h : Nz G) : Nz (fun b p => G b (p + 1)) := fun b p q e hf => h b (p + 1) q e hf
theorem Nz.stop {α : Type} (m : Nat) : Nz (fun _ _ => .bad m 33 : Rd1 α) := fun b p q e h => by injection h with h1 h2; omega
theorem Nz.must (m : Nat) (is : Bool) : Nz (rMust m is) := by
  cases is
  · exact Nz.stop m
  · exact Nz.pure ()
theorem Nz.peek : Nz rPeek := fun b p q e h => by
  unfold rPeek at h
  split at h
  · cases h
  · injection h with h1 h2; omega
theorem Nz.need (f : UInt8 → Bool) : Nz (rNeed f) := fun b p q e h => by
  unfold rNeed at h
  split at h
  · split at h
    · cases h
    · injection h with h1 h2; omega
  · injection h with h1 h2; omega
theorem Nz.skip (f : UInt8 → Bool) : Nz (rSkip f) := fun b p q e h => by
  unfold rSkip at h
  split at h
  · split at h <;> cases h
  · cases h
theorem Nz.skips (f : UInt8 → Bool) : Nz (rSkips f) := fun b p q e h => by unfold rSkips at h; cases h
theorem Nz.apart : Nz rApart := fun b p q e h => by
  unfold rApart at h
  split at h
  · split at h
    · injection h with h1 h2; omega
    · cases h
  · cases h
theorem Nz.word : ∀ w, Nz (rWord w)
  | [] => Nz.apart
  | c :: r => (Nz.need _).at fun _ => Nz.word r
theorem Nz.digits : Nz rDigits := (Nz.need _).at fun _ => Nz.skips _
theorem Nz.numeral : Nz rNumeral :=
  (Nz.skip _).at fun _ => (Nz.skip _).at fun z => (Nz.ite (Nz.pure _) Nz.digits).at fun _ => (Nz.skip _).at fun f =>
    (Nz.ite Nz.digits (Nz.pure _)).at fun _ => (Nz.skip _).at fun e => Nz.ite ((Nz.skip _).at fun _ => Nz.digits) (Nz.pure _)
theorem Nz.number : Nz rNumber := fun b p q e h => by
  unfold rNumber at h
  cases hf : rNumeral b p with
  | bad q1 e1 => rw [hf] at h; simp only [RR.bind] at h; injection h with h1 h2; subst h2; exact Nz.numeral b p q1 e1 hf
  | ok a q1 =>
    rw [hf] at h
    simp only [RR.bind] at h
    split at h
    · cases ha : rApart b q1 with
      | bad q2 e2 => rw [ha] at h; simp only at h; injection h with h1 h2; subst h2; exact Nz.apart b q1 q2 e2 ha
      | ok a2 q2 => rw [ha] at h; cases h
    · rename_i h0
      injection h with h1 h2
      omega
theorem Nz.hex : ∀ k n, Nz (rHex k n)
  | 0, n => Nz.pure n
  | k + 1, n => by
    unfold rHex
    refine Nz.peek.at fun c => ?_
    cases hexOf c with
    | none => exact Nz.fail (by decide)
    | some d => exact Nz.over (Nz.hex k _)
theorem Nz.low (m : Nat) : Nz (rLow m) := by
  unfold rLow
  exact Nz.peek.at fun c => (Nz.must _ _).at fun _ => Nz.over (G := rAt rPeek fun d => rAt (rMust m (d == 117)) fun _ => fun b p => _) (Nz.peek.at fun d => (Nz.must _ _).at fun _ => Nz.over (G := rAt (rHex 1 0) fun x => _) ((Nz.hex 1 0).at fun x => (Nz.must _ _).at fun _ => (Nz.hex 1 0).at fun y => (Nz.must _ _).at fun _ => (Nz.hex 2 0).at fun z => Nz.pure _))
theorem Nz.coded (m : Nat) : Nz (rCoded m) := by
  unfold rCoded
  exact (Nz.hex 4 0).at fun n => Nz.ite (Nz.pure _) (Nz.ite (Nz.stop m) ((Nz.low m).at fun z => Nz.pure _))
theorem Nz.escape : Nz rEscape := fun b p q e h => by
  have key : Nz (rAt rPeek fun c => if c == 117 then fun b q => rCoded p b (q + 1) else match escOf c with
    | some x => fun _ q => .ok x (q + 1)
    | none => fun _ _ => .bad p 33) := Nz.peek.at fun c => Nz.ite (Nz.over (Nz.coded p)) (by
      cases escOf c with
      | none => exact Nz.stop p
      | some x => exact Nz.over (Nz.pure x))
  exact key b (p + 1) q e h
theorem Nz.char : Nz rChar := by
  unfold rChar
  refine Nz.peek.at fun c => Nz.ite Nz.escape (Nz.ite (Nz.fail (by decide)) fun b p q e h => ?_)
  split at h
  · split at h
    · injection h with h1 h2; omega
    · cases h
  · injection h with h1 h2; omega
theorem Nz.chars : ∀ n acc, Nz (rChars n acc)
  | 0, acc => Nz.fail (by decide)
  | n + 1, acc => by
    unfold rChars
    exact Nz.peek.at fun c => Nz.ite (Nz.over (Nz.pure acc)) (Nz.char.at fun x => Nz.chars n _)
theorem Nz.text : Nz rText := fun b p q e h => by
  unfold rText at h
  cases hf : rChars fuelR [] b (p + 1) with
  | bad q1 e1 => rw [hf] at h; simp only [RR.bind] at h; injection h with h1 h2; subst h2; exact Nz.chars _ _ b (p + 1) q1 e1 hf
  | ok t q1 =>
    rw [hf] at h
    simp only [RR.bind] at h
    split at h
    · injection h with h1 h2; omega
    · cases h
theorem Nz.itemsF {α : Type} {end_ : UInt8} {item : Nat → Rd1 α} (hi : ∀ nth, Nz (item nth)) : ∀ n nth, Nz (rItemsF end_ item n nth)
  | 0, nth => Nz.fail (by decide)
  | n + 1, nth => by
    unfold rItemsF
    exact Nz.peek.at fun c => Nz.ite (Nz.over (G := rPure []) (Nz.pure [])) ((Nz.ite ((Nz.need _).at fun _ => Nz.skips _) (Nz.pure _)).at fun _ => (hi nth).at fun a => (Nz.skips _).at fun _ => (Nz.itemsF hi n (nth + 1)).at fun l => Nz.pure _)
theorem Nz.items {α : Type} {end_ : UInt8} {item : Nat → Rd1 α} (hi : ∀ nth, Nz (item nth)) : Nz (rItems end_ item) := Nz.over ((Nz.skips _).at fun _ => Nz.itemsF hi fuelR 1)
theorem Nz.held {α : Type} {F : Rd1 α} (hF : Nz F) (mk : α → VT) : Nz (fun b p => (F b p).bind fun l q => rHeld p (mk l) b q) := fun b p q e h => by
  cases hf : F b p with
  | bad q1 e1 => simp only [hf, RR.bind] at h; injection h with h1 h2; subst h2; exact hF b p q1 e1 hf
  | ok l q1 =>
    simp only [hf, RR.bind] at h
    unfold rHeld at h
    split at h
    · injection h with h1 h2; omega
    · cases h
theorem Nz.begin (k nth : Nat) : Nz (rBegin k nth) := by
  unfold rBegin
  exact Nz.peek.at fun c => Nz.ite (Nz.fail (by decide)) (Nz.ite (Nz.fail (by decide)) (Nz.ite (Nz.fail (by decide)) (Nz.pure _)))
theorem Nz.key (nth : Nat) : Nz (rKey nth) := by
  unfold rKey
  exact Nz.peek.at fun c => Nz.ite (Nz.ite (Nz.fail (by decide)) Nz.text) (Nz.fail (by decide))
theorem Nz.value (mk : List (ByteArray × VT) → VT) : ∀ k nth, Nz (rValue mk k nth)
  | 0, nth => by
    unfold rValue
    exact (Nz.begin 0 nth).at fun _ => Nz.peek.at fun c => Nz.ite (Nz.text.at fun t => Nz.pure _) (Nz.ite ((Nz.word _).at fun _ => Nz.pure _) (Nz.ite ((Nz.word _).at fun _ => Nz.pure _) (Nz.ite ((Nz.word _).at fun _ => Nz.pure _) Nz.number)))
  | k + 1, nth => by
    have ih := Nz.value mk k
    unfold rValue
    exact (Nz.begin (k + 1) nth).at fun _ => Nz.peek.at fun c => Nz.ite (Nz.held (Nz.items ih) _) (Nz.ite (Nz.held (Nz.items fun n => (Nz.key n).at fun key => (Nz.skips _).at fun _ => (Nz.need _).at fun _ => (Nz.skips _).at fun _ => (ih n).at fun v => Nz.pure _) _) (Nz.ite (Nz.text.at fun t => Nz.pure _) (Nz.ite ((Nz.word _).at fun _ => Nz.pure _) (Nz.ite ((Nz.word _).at fun _ => Nz.pure _) (Nz.ite ((Nz.word _).at fun _ => Nz.pure _) Nz.number)))))

def noV : VT := .mk 0 false [] 0 ⟨#[]⟩ [] []
/-- The only value, and the length; or a fault and its place. -/
def rRead (mk : List (ByteArray × VT) → VT) (b : List UInt8) : VT × Nat × Nat :=
  if 65536 < b.length then (noV, 0, 5)
  else match rNext mk b 0 with
    | .bad q e => (noV, q, e)
    | .ok none _ => (noV, b.length, 8)
    | .ok (some v) q => if q + ((b.drop q).takeWhile isWs).length < b.length then (noV, q + ((b.drop q).takeWhile isWs).length, 22) else (v, b.length, 0)

theorem tw_all {x b : List UInt8} (hx : ∀ c ∈ x, isWs c = true) : ((x ++ b).takeWhile isWs).length = x.length + (b.takeWhile isWs).length := by
  rw [List.takeWhile_append_of_pos hx, List.length_append]
theorem rNext_shift (mk : List (ByteArray × VT) → VT) {x b : List UInt8} (hx : ∀ c ∈ x, isWs c = true) : rNext mk (x ++ b) 0 = (rNext mk b 0).shift x.length := by
  unfold rNext
  rw [List.drop_zero, List.drop_zero, tw_all hx, List.length_append]
  by_cases h : 0 + (b.takeWhile isWs).length = b.length
  · rw [if_pos h, if_pos (by omega)]; rfl
  · rw [if_neg h, if_neg (by omega), show 0 + (x.length + (b.takeWhile isWs).length) = x.length + (0 + (b.takeWhile isWs).length) by omega]
    have hv : rValue mk 64 1 (x ++ b) (x.length + (0 + (b.takeWhile isWs).length)) = (rValue mk 64 1 b (0 + (b.takeWhile isWs).length)).shift x.length := Shift.value mk 64 1 0 x b _
    rw [hv]
    cases rValue mk 64 1 b (0 + (b.takeWhile isWs).length) <;> rfl
/-- White space ahead. -/
theorem rRead_ahead (mk : List (ByteArray × VT) → VT) {x b : List UInt8} (hx : ∀ c ∈ x, isWs c = true) (hb : x.length + b.length ≤ 65536) : rRead mk (x ++ b) = ((rRead mk b).1, x.length + (rRead mk b).2.1, (rRead mk b).2.2) := by
  unfold rRead
  rw [List.length_append, if_neg (by omega), if_neg (by omega), rNext_shift mk hx]
  cases rNext mk b 0 with
  | bad q e => rfl
  | ok v q =>
    cases v with
    | none => rfl
    | some v =>
      simp only [RR.shift]
      rw [drop_shift]
      split
      · rename_i h
        rw [if_pos (by omega), Nat.add_assoc]
      · rename_i h
        rw [if_neg (by omega)]
theorem tw_full {l : List UInt8} (h : l.length ≤ (l.takeWhile isWs).length) : ∀ c ∈ l, isWs c = true := by
  induction l with
  | nil => intro c hc; simp at hc
  | cons d t ih =>
    by_cases hd : isWs d = true
    · simp only [List.takeWhile_cons, hd, if_true, List.length_cons] at h
      intro c hc
      rcases List.mem_cons.1 hc with rfl | hc
      · exact hd
      · exact ih (by omega) c hc
    · simp only [List.takeWhile_cons, hd, Bool.false_eq_true, if_false, List.length_cons, List.length_nil] at h
      omega
/-- White space behind. -/
theorem rRead_behind (mk : List (ByteArray × VT) → VT) {b r : List UInt8} {c : UInt8} {v : VT} {k : Nat} (hc : isWs c = true) (hr : ∀ d ∈ r, isWs d = true) (h : rRead mk b = (v, k, 0)) (hs : b.length + 1 + r.length ≤ 65536) : rRead mk (b ++ c :: r) = (v, b.length + 1 + r.length, 0) := by
  have hcr : ∀ d ∈ c :: r, isWs d = true := fun d hd => by
    rcases List.mem_cons.1 hd with rfl | hd
    · exact hc
    · exact hr d hd
  unfold rRead at h ⊢
  rw [if_neg (by omega)] at h
  rw [if_neg (by rw [List.length_append, List.length_cons]; omega)]
  have hw := twB_le (f := isWs) b
  have hlen : (b ++ c :: r).length = b.length + 1 + r.length := by rw [List.length_append, List.length_cons]; omega
  by_cases hend : 0 + (b.takeWhile isWs).length = b.length
  · have : rNext mk b 0 = .ok none b.length := by unfold rNext; rw [List.drop_zero, if_pos hend]
    rw [this] at h
    simp only [Prod.mk.injEq] at h
    omega
  · have hN : rNext mk b 0 = (rValue mk 64 1 b (0 + (b.takeWhile isWs).length)).bind fun v q => .ok (some v) q := by unfold rNext; rw [List.drop_zero, if_neg hend]
    have hN2 : rNext mk (b ++ c :: r) 0 = (rValue mk 64 1 (b ++ c :: r) (0 + (b.takeWhile isWs).length)).bind fun v q => .ok (some v) q := by
      unfold rNext
      rw [List.drop_zero, tw_left _ _ (by omega), if_neg (by rw [hlen]; omega)]
    rw [hN] at h
    rw [hN2]
    cases hv : rValue mk 64 1 b (0 + (b.takeWhile isWs).length) with
    | bad q e =>
      rw [hv] at h
      simp only [RR.bind, Prod.mk.injEq] at h
      exact absurd h.2.2 (Nz.value mk 64 1 b _ q e hv)
    | ok v2 q =>
      obtain ⟨h1, h2, h3⟩ := Tail.value mk 64 1 b _ v2 q c r (by omega) hc hv
      rw [hv] at h
      rw [h1]
      simp only [RR.bind] at h ⊢
      by_cases hl : q + ((b.drop q).takeWhile isWs).length < b.length
      · rw [if_pos hl] at h
        simp only [Prod.mk.injEq] at h
        omega
      · rw [if_neg hl] at h
        simp only [Prod.mk.injEq] at h
        have hall : ∀ d ∈ b.drop q, isWs d = true := tw_full (by rw [List.length_drop]; omega)
        rw [drop_left h3, tw_all hall, List.length_drop, hlen]
        have ht : ((c :: r).takeWhile isWs).length = 1 + r.length := by
          have := tw_all (b := []) hcr
          simp at this
          simp [this]
          omega
        rw [ht, if_neg (by omega), h.1]
end Go.Proofs.YtpjllcengnolkaaGreatDoor
