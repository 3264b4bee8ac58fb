/-
  White space ahead of a text and behind it changes nothing but places. Pure, no program.
  What is cut off ends too early, at its end (or with a number that may not be, so far). Pure, no program.
-/
import Derived.Test.YtpjllcengnolkaaGreatDoorHRtail
set_option linter.unusedVariables false
set_option linter.unusedSimpArgs false
namespace Go.Proofs.YtpjllcengnolkaaGreatDoor
open Go.Lib

/-- Reading whose faults have an error. -/
def Nz {α : Type} (F : Rd1 α) : Prop := ∀ b p q e, F b p = .bad q e → e ≠ 0
theorem Nz.pure {α : Type} (a : α) : Nz (rPure a) := fun b p q e h => by unfold rPure at h; cases h
theorem Nz.fail {α : Type} {e : Nat} (he : e ≠ 0) : Nz (rFail e : Rd1 α) := fun b p q e2 h => by unfold rFail at h; injection h with h1 h2; omega
theorem Nz.at {α β : Type} {F : Rd1 α} {G : α → Rd1 β} (hF : Nz F) (hG : ∀ a, Nz (G a)) : Nz (rAt F G) := fun b p q e h => by
  unfold rAt at h
  cases hf : F b p with
  | ok a q1 => rw [hf] at h; exact hG a b q1 q e h
  | bad q1 e1 => rw [hf] at h; simp only [RR.bind] at h; injection h with h1 h2; subst h2; exact hF b p q1 e1 hf
theorem Nz.ite {α : Type} {c : Prop} [Decidable c] {F G : Rd1 α} (hF : Nz F) (hG : Nz G) : Nz (if c then F else G) := by
  by_cases h : c
  · rw [if_pos h]; exact hF
  · rw [if_neg h]; exact hG
theorem Nz.over {α : Type} {G : Rd1 α} (h : Nz G) : Nz (fun b p => G b (p + 1)) := fun b p q e hf => h b (p + 1) q e hf
theorem Nz.stop {α : Type} (m : Nat) : Nz (fun _ _ => .bad m 33 : Rd1 α) := fun b p q e h => by injection h with h1 h2; omega
theorem Nz.must (m : Nat) (is : Bool) : Nz (rMust m is) := by
  cases is
  · exact Nz.stop m
  · exact Nz.pure ()
theorem Nz.peek : Nz rPeek := fun b p q e h => by
  unfold rPeek at h
  split at h
  · cases h
  · injection h with h1 h2; omega
theorem Nz.need (f : UInt8 → Bool) : Nz (rNeed f) := fun b p q e h => by
  unfold rNeed at h
  split at h
  · split at h
    · cases h
    · injection h with h1 h2; omega
  · injection h with h1 h2; omega
theorem Nz.skip (f : UInt8 → Bool) : Nz (rSkip f) := fun b p q e h => by
  unfold rSkip at h
  split at h
  · split at h <;> cases h
  · cases h
theorem Nz.skips (f : UInt8 → Bool) : Nz (rSkips f) := fun b p q e h => by unfold rSkips at h; cases h
theorem Nz.apart : Nz rApart := fun b p q e h => by
  unfold rApart at h
  split at h
  · split at h
    · injection h with h1 h2; omega
    · cases h
  · cases h
theorem Nz.word : ∀ w, Nz (rWord w)
  | [] => Nz.apart
  | c :: r => (Nz.need _).at fun _ => Nz.word r
theorem Nz.digits : Nz rDigits := (Nz.need _).at fun _ => Nz.skips _
theorem Nz.numeral : Nz rNumeral :=
  (Nz.skip _).at fun _ => (Nz.skip _).at fun z => (Nz.ite (Nz.pure _) Nz.digits).at fun _ => (Nz.skip _).at fun f =>
    (Nz.ite Nz.digits (Nz.pure _)).at fun _ => (Nz.skip _).at fun e => Nz.ite ((Nz.skip _).at fun _ => Nz.digits) (Nz.pure _)
theorem Nz.number : Nz rNumber := fun b p q e h => by
  unfold rNumber at h
  cases hf : rNumeral b p with
  | bad q1 e1 => rw [hf] at h; simp only [RR.bind] at h; injection h with h1 h2; subst h2; exact Nz.numeral b p q1 e1 hf
  | ok a q1 =>
    rw [hf] at h
    simp only [RR.bind] at h
    split at h
    · cases ha : rApart b q1 with
      | bad q2 e2 => rw [ha] at h; simp only at h; injection h with h1 h2; subst h2; exact Nz.apart b q1 q2 e2 ha
      | ok a2 q2 => rw [ha] at h; cases h
    · rename_i h0
      injection h with h1 h2
      omega
theorem Nz.hex : ∀ k n, Nz (rHex k n)
  | 0, n => Nz.pure n
  | k + 1, n => by
    unfold rHex
    refine Nz.peek.at fun c => ?_
    cases hexOf c with
    | none => exact Nz.fail (by decide)
    | some d => exact Nz.over (Nz.hex k _)
theorem Nz.low (m : Nat) : Nz (rLow m) := by
  unfold rLow
  exact Nz.peek.at fun c => (Nz.must _ _).at fun _ => Nz.over (G := rAt rPeek fun d => rAt (rMust m (d == 117)) fun _ => fun b p => _) (Nz.peek.at fun d => (Nz.must _ _).at fun _ => Nz.over (G := rAt (rHex 1 0) fun x => _) ((Nz.hex 1 0).at fun x => (Nz.must _ _).at fun _ => (Nz.hex 1 0).at fun y => (Nz.must _ _).at fun _ => (Nz.hex 2 0).at fun z => Nz.pure _))
theorem Nz.coded (m : Nat) : Nz (rCoded m) := by
  unfold rCoded
  exact (Nz.hex 4 0).at fun n => Nz.ite (Nz.pure _) (Nz.ite (Nz.stop m) ((Nz.low m).at fun z => Nz.pure _))
theorem Nz.escape : Nz rEscape := fun b p q e h => by
  have key : Nz (rAt rPeek fun c => if c == 117 then fun b q => rCoded p b (q + 1) else match escOf c with
    | some x => fun _ q => .ok x (q + 1)
    | none => fun _ _ => .bad p 33) := Nz.peek.at fun c => Nz.ite (Nz.over (Nz.coded p)) (by
      cases escOf c with
      | none => exact Nz.stop p
      | some x => exact Nz.over (Nz.pure x))
  exact key b (p + 1) q e h
theorem Nz.char : Nz rChar := by
  unfold rChar
  refine Nz.peek.at fun c => Nz.ite Nz.escape (Nz.ite (Nz.fail (by decide)) fun b p q e h => ?_)
  split at h
  · split at h
    · injection h with h1 h2; omega
    · cases h
  · injection h with h1 h2; omega
theorem Nz.chars : ∀ n acc, Nz (rChars n acc)
  | 0, acc => Nz.fail (by decide)
  | n + 1, acc => by
    unfold rChars
    exact Nz.peek.at fun c => Nz.ite (Nz.over (Nz.pure acc)) (Nz.char.at fun x => Nz.chars n _)
theorem Nz.text : Nz rText := fun b p q e h => by
  unfold rText at h
  cases hf : rChars fuelR [] b (p + 1) with
  | bad q1 e1 => rw [hf] at h; simp only [RR.bind] at h; injection h with h1 h2; subst h2; exact Nz.chars _ _ b (p + 1) q1 e1 hf
  | ok t q1 =>
    rw [hf] at h
    simp only [RR.bind] at h
    split at h
    · injection h with h1 h2; omega
    · cases h
theorem Nz.itemsF {α : Type} {end_ : UInt8} {item : Nat → Rd1 α} (hi : ∀ nth, Nz (item nth)) : ∀ n nth, Nz (rItemsF end_ item n nth)
  | 0, nth => Nz.fail (by decide)
  | n + 1, nth => by
    unfold rItemsF
    exact Nz.peek.at fun c => Nz.ite (Nz.over (G := rPure []) (Nz.pure [])) ((Nz.ite ((Nz.need _).at fun _ => Nz.skips _) (Nz.pure _)).at fun _ => (hi nth).at fun a => (Nz.skips _).at fun _ => (Nz.itemsF hi n (nth + 1)).at fun l => Nz.pure _)
theorem Nz.items {α : Type} {end_ : UInt8} {item : Nat → Rd1 α} (hi : ∀ nth, Nz (item nth)) : Nz (rItems end_ item) := Nz.over ((Nz.skips _).at fun _ => Nz.itemsF hi fuelR 1)
theorem Nz.held {α : Type} {F : Rd1 α} (hF : Nz F) (mk : α → VT) : Nz (fun b p => (F b p).bind fun l q => rHeld p (mk l) b q) := fun b p q e h => by
  cases hf : F b p with
  | bad q1 e1 => simp only [hf, RR.bind] at h; injection h with h1 h2; subst h2; exact hF b p q1 e1 hf
  | ok l q1 =>
    simp only [hf, RR.bind] at h
    unfold rHeld at h
    split at h
    · injection h with h1 h2; omega
    · cases h
theorem Nz.begin (k nth : Nat) : Nz (rBegin k nth) := by
  unfold rBegin
  exact Nz.peek.at fun c => Nz.ite (Nz.fail (by decide)) (Nz.ite (Nz.fail (by decide)) (Nz.ite (Nz.fail (by decide)) (Nz.pure _)))
theorem Nz.key (nth : Nat) : Nz (rKey nth) := by
  unfold rKey
  exact Nz.peek.at fun c => Nz.ite (Nz.ite (Nz.fail (by decide)) Nz.text) (Nz.fail (by decide))
theorem Nz.value (mk : List (ByteArray × VT) → VT) : ∀ k nth, Nz (rValue mk k nth)
  | 0, nth => by
    unfold rValue
    exact (Nz.begin 0 nth).at fun _ => Nz.peek.at fun c => Nz.ite (Nz.text.at fun t => Nz.pure _) (Nz.ite ((Nz.word _).at fun _ => Nz.pure _) (Nz.ite ((Nz.word _).at fun _ => Nz.pure _) (Nz.ite ((Nz.word _).at fun _ => Nz.pure _) Nz.number)))
  | k + 1, nth => by
    have ih := Nz.value mk k
    unfold rValue
    exact (Nz.begin (k + 1) nth).at fun _ => Nz.peek.at fun c => Nz.ite (Nz.held (Nz.items ih) _) (Nz.ite (Nz.held (Nz.items fun n => (Nz.key n).at fun key => (Nz.skips _).at fun _ => (Nz.need _).at fun _ => (Nz.skips _).at fun _ => (ih n).at fun v => Nz.pure _) _) (Nz.ite (Nz.text.at fun t => Nz.pure _) (Nz.ite ((Nz.word _).at fun _ => Nz.pure _) (Nz.ite ((Nz.word _).at fun _ => Nz.pure _) (Nz.ite ((Nz.word _).at fun _ => Nz.pure _) Nz.number)))))

def noV : VT := .mk 0 false [] 0 ⟨#[]⟩ [] []
/-- The only value, and the length; or a fault and its place. -/
def rRead (mk : List (ByteArray × VT) → VT) (b : List UInt8) : VT × Nat × Nat :=
  if 65536 < b.length then (noV, 0, 5)
  else match rNext mk b 0 with
    | .bad q e => (noV, q, e)
    | .ok none _ => (noV, b.length, 8)
    | .ok (some v) q => if q + ((b.drop q).takeWhile isWs).length < b.length then (noV, q + ((b.drop q).takeWhile isWs).length, 22) else (v, b.length, 0)

end Go.Proofs.YtpjllcengnolkaaGreatDoor

namespace Go.Proofs.YtpjllcengnolkaaGreatDoor
open Go.Lib

/-- A number's error. -/
def NumE (e : Nat) : Prop := e = 5 ∨ e = 51 ∨ e = 52
/-- Too early, or a number that may not be. -/
def Early {α : Type} (n : Nat) (r : RR α) : Prop := r = .bad n 8 ∨ ∃ q e, r = .bad q e ∧ NumE e
theorem Early.bind {α β : Type} {n : Nat} {r : RR α} {f : α → Nat → RR β} (h : Early n r) : Early n (r.bind f) := by
  rcases h with h | ⟨q, e, h, he⟩
  · left; rw [h]; rfl
  · right; exact ⟨q, e, by rw [h]; rfl, he⟩
theorem take_get {b : List UInt8} {p n : Nat} (h : p < n) : (b.take n)[p]? = b[p]? := by rw [List.getElem?_take, if_pos h]
theorem take_end {b : List UInt8} {n : Nat} : (b.take n)[n]? = none := by rw [List.getElem?_take, if_neg (by omega)]
theorem take_len {b : List UInt8} {n : Nat} (h : n ≤ b.length) : (b.take n).length = n := by rw [List.length_take]; omega
theorem take_drop2 (b : List UInt8) (p n : Nat) : (b.take n).drop p = (b.drop p).take (n - p) := List.drop_take ..

/-- Reading that ends where it ends in what is cut off behind it, and too early in what is cut off within. -/
structure C2 {α : Type} (F : Rd1 α) : Prop where
  up : ∀ b p a q, p ≤ b.length → F b p = .ok a q → p ≤ q ∧ q ≤ b.length
  back : ∀ b p a q n, p ≤ n → n ≤ b.length → F b p = .ok a q → q ≤ n → F (b.take n) p = .ok a q
  cut : ∀ b p a q n, p ≤ n → n ≤ b.length → F b p = .ok a q → n < q → Early n (F (b.take n) p)
/-- The same, of what may end anywhere. -/
structure C3 {α : Type} (F : Rd1 α) : Prop where
  up : ∀ b p a q, p ≤ b.length → F b p = .ok a q → p ≤ q ∧ q ≤ b.length
  back : ∀ b p a q n, p ≤ n → n ≤ b.length → F b p = .ok a q → q ≤ n → F (b.take n) p = .ok a q
  cut : ∀ b p a q n, p ≤ n → n ≤ b.length → F b p = .ok a q → n < q → Early n (F (b.take n) p) ∨ ∃ a', F (b.take n) p = .ok a' n
theorem C2.c3 {α : Type} {F : Rd1 α} (h : C2 F) : C3 F := ⟨h.up, h.back, fun b p a q n h1 h2 h3 h4 => .inl (h.cut b p a q n h1 h2 h3 h4)⟩
/-- At the end: too early, or nothing more. -/
def AtEnd {α : Type} (F : Rd1 α) : Prop := ∀ b : List UInt8, F b b.length = .bad b.length 8 ∨ ∃ a, F b b.length = .ok a b.length
theorem C2.pure {α : Type} (a : α) : C2 (rPure a) := by
  refine ⟨fun b p a2 q hp h => ?_, fun b p a2 q n hp hn h hq => h, fun b p a2 q n hp hn h hq => ?_⟩ <;> unfold rPure at h <;> injection h with h1 h2 <;> omega
theorem C2.fail {α : Type} {e : Nat} : C2 (rFail e : Rd1 α) := by
  refine ⟨fun b p a2 q hp h => ?_, fun b p a2 q n hp hn h hq => ?_, fun b p a2 q n hp hn h hq => ?_⟩ <;> unfold rFail at h <;> cases h
theorem C2.stop {α : Type} (m : Nat) : C2 (fun _ _ => .bad m 33 : Rd1 α) := by
  refine ⟨fun b p a2 q hp h => ?_, fun b p a2 q n hp hn h hq => ?_, fun b p a2 q n hp hn h hq => ?_⟩ <;> cases h
theorem C2.must (m : Nat) (is : Bool) : C2 (rMust m is) := by
  cases is
  · exact C2.stop m
  · exact C2.pure ()
theorem C2.at {α β : Type} {F : Rd1 α} {G : α → Rd1 β} (hF : C2 F) (hG : ∀ a, C2 (G a)) : C2 (rAt F G) := by
  refine ⟨fun b p a2 q hp h => ?_, fun b p a2 q n hp hn h hq => ?_, fun b p a2 q n hp hn h hq => ?_⟩ <;> (first | unfold rAt at h ⊢ | unfold rAt at h) <;> cases hf : F b p with
    | bad q1 e => rw [hf] at h; cases h
    | ok a q1 =>
      rw [hf] at h
      have h1 := hF.up b p a q1 (by omega) hf
      have h2 := (hG a).up b q1 a2 q h1.2 h
      first
        | (exact ⟨by omega, h2.2⟩)
        | (rw [hF.back b p a q1 n hp hn hf (by omega)]
           exact (hG a).back b q1 a2 q n (by omega) hn h hq)
        | (rcases Nat.lt_or_ge n q1 with hl | hl
           · exact (hF.cut b p a q1 n hp hn hf hl).bind
           · rw [hF.back b p a q1 n hp hn hf hl]
             exact (hG a).cut b q1 a2 q n hl hn h hq)
theorem C3.at {α β : Type} {F : Rd1 α} {G : α → Rd1 β} (hF : C3 F) (hG : ∀ a, C3 (G a)) (he : ∀ a, AtEnd (G a)) : C3 (rAt F G) := by
  refine ⟨fun b p a2 q hp h => ?_, fun b p a2 q n hp hn h hq => ?_, fun b p a2 q n hp hn h hq => ?_⟩ <;> (first | unfold rAt at h ⊢ | unfold rAt at h) <;> cases hf : F b p with
    | bad q1 e => rw [hf] at h; cases h
    | ok a q1 =>
      rw [hf] at h
      have h1 := hF.up b p a q1 (by omega) hf
      have h2 := (hG a).up b q1 a2 q h1.2 h
      first
        | (exact ⟨by omega, h2.2⟩)
        | (rw [hF.back b p a q1 n hp hn hf (by omega)]
           exact (hG a).back b q1 a2 q n (by omega) hn h hq)
        | (rcases Nat.lt_or_ge n q1 with hl | hl
           · rcases hF.cut b p a q1 n hp hn hf hl with h3 | ⟨a', h3⟩
             · exact .inl h3.bind
             · rw [h3]
               have h4 := he a' (b.take n)
               rw [take_len hn] at h4
               rcases h4 with h4 | ⟨a'', h4⟩
               · exact .inl (.inl h4)
               · exact .inr ⟨a'', h4⟩
           · rw [hF.back b p a q1 n hp hn hf hl]
             exact (hG a).cut b q1 a2 q n hl hn h hq)
theorem C2.mid {α β : Type} {F : Rd1 α} {G : α → Rd1 β} (hF : C3 F) (hG : ∀ a, C2 (G a)) (hn : ∀ a, Needs (G a)) : C2 (rAt F G) := by
  refine ⟨fun b p a2 q hp h => ?_, fun b p a2 q n hp hnn h hq => ?_, fun b p a2 q n hp hnn h hq => ?_⟩ <;> (first | unfold rAt at h ⊢ | unfold rAt at h) <;> cases hf : F b p with
    | bad q1 e => rw [hf] at h; cases h
    | ok a q1 =>
      rw [hf] at h
      have h1 := hF.up b p a q1 (by omega) hf
      have h2 := (hG a).up b q1 a2 q h1.2 h
      first
        | (exact ⟨by omega, h2.2⟩)
        | (rw [hF.back b p a q1 n hp hnn hf (by omega)]
           exact (hG a).back b q1 a2 q n (by omega) hnn h hq)
        | (rcases Nat.lt_or_ge n q1 with hl | hl
           · rcases hF.cut b p a q1 n hp hnn hf hl with h3 | ⟨a', h3⟩
             · exact h3.bind
             · rw [h3]
               have h4 := hn a' (b.take n)
               rw [take_len hnn] at h4
               exact .inl h4
           · rw [hF.back b p a q1 n hp hnn hf hl]
             exact (hG a).cut b q1 a2 q n hl hnn h hq)
theorem C2.ite {α : Type} {c : Prop} [Decidable c] {F G : Rd1 α} (hF : C2 F) (hG : C2 G) : C2 (if c then F else G) := by
  by_cases h : c
  · rw [if_pos h]; exact hF
  · rw [if_neg h]; exact hG
theorem C3.ite {α : Type} {c : Prop} [Decidable c] {F G : Rd1 α} (hF : C3 F) (hG : C3 G) : C3 (if c then F else G) := by
  by_cases h : c
  · rw [if_pos h]; exact hF
  · rw [if_neg h]; exact hG
theorem C2.need (f : UInt8 → Bool) : C2 (rNeed f) := by
  refine ⟨fun b p a q hp h => (Good.need f).up b p a q hp h, fun b p a q n hp hn h hq => ?_, fun b p a q n hp hn h hq => ?_⟩ <;> unfold rNeed at h ⊢ <;> cases hb : b[p]? with
    | none => rw [hb] at h; cases h
    | some c =>
      rw [hb] at h
      simp only at h
      split at h
      · rename_i hf
        injection h with h1 h2
        first
          | (rw [take_get (by omega), hb]
             simp only
             rw [if_pos hf, ← h1, h2])
          | (obtain rfl : n = p := by omega
             rw [take_end]
             exact .inl rfl)
      · cases h
theorem C3.skip (f : UInt8 → Bool) : C3 (rSkip f) := by
  refine ⟨fun b p a q hp h => (Good.skip f).up b p a q hp h, fun b p a q n hp hn h hq => ?_, fun b p a q n hp hn h hq => ?_⟩
  · have hup := (Good.skip f).up b p a q (by omega) h
    rcases Nat.lt_or_ge p n with hl | hl
    · unfold rSkip at h ⊢
      rw [take_get hl]
      exact h
    · obtain rfl : p = n := by omega
      unfold rSkip at h ⊢
      rw [take_end]
      cases hb : b[p]? with
      | none => rw [hb] at h; exact h
      | some c =>
        rw [hb] at h
        simp only at h
        split at h
        · injection h with h1 h2; omega
        · exact h
  · unfold rSkip at h ⊢
    cases hb : b[p]? with
    | none => rw [hb] at h; injection h with h1 h2; omega
    | some c =>
      rw [hb] at h
      simp only at h
      split at h
      · injection h with h1 h2
        obtain rfl : n = p := by omega
        rw [take_end]
        exact .inr ⟨false, rfl⟩
      · injection h with h1 h2; omega
theorem tw_take {f : UInt8 → Bool} : ∀ (l : List UInt8) (k : Nat), ((l.take k).takeWhile f).length = min k (l.takeWhile f).length
  | [], k => by simp
  | c :: t, 0 => by simp
  | c :: t, k + 1 => by
    have := tw_take (f := f) t k
    by_cases hc : f c = true
    · simp only [List.take_succ_cons, List.takeWhile_cons, hc, if_true, List.length_cons, this]
      omega
    · simp only [List.take_succ_cons, List.takeWhile_cons, hc, Bool.false_eq_true, if_false, List.length_nil]
      omega
theorem C3.skips (f : UInt8 → Bool) : C3 (rSkips f) := by
  refine ⟨fun b p a q hp h => (Good.skips f).up b p a q hp h, fun b p a q n hp hn h hq => ?_, fun b p a q n hp hn h hq => ?_⟩ <;> unfold rSkips at h ⊢ <;> injection h with h1 h2 <;> rw [take_drop2, tw_take]
  · rw [Nat.min_eq_right (by omega), h2]
  · rw [Nat.min_eq_left (by omega)]
    exact .inr ⟨(), by rw [show p + (n - p) = n by omega]⟩
theorem C3.apart : C3 rApart := by
  have hq0 : ∀ b p a q, rApart b p = .ok a q → q = p := fun b p a q h => by
    unfold rApart at h
    split at h
    · split at h
      · cases h
      · injection h with h1 h2; exact h2.symm
    · injection h with h1 h2; exact h2.symm
  refine ⟨fun b p a q hp h => Good.apart.up b p a q hp h, fun b p a q n hp hn h hq => ?_, fun b p a q n hp hn h hq => ?_⟩
  · obtain rfl := hq0 b p a q h
    rcases Nat.lt_or_ge q n with hl | hl
    · unfold rApart at h ⊢
      rw [take_get hl]
      exact h
    · obtain rfl : q = n := by omega
      unfold rApart
      rw [take_end]
  · have := hq0 b p a q h
    omega
end Go.Proofs.YtpjllcengnolkaaGreatDoor
