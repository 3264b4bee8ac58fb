/-
  What is cut off within: words, items, values; an octet form of numbers. Pure, no program.
-/
import Derived.Test.YtipomnogabnfdaaGreatDoorPRcutb
set_option linter.unusedVariables false
set_option linter.unusedSimpArgs false
namespace Go.Proofs.YtipomnogabnfdaaGreatDoor
open Go.Lib

theorem C3.at2 {α β : Type} {F : Rd1 α} {G : α → Rd1 β} (hF : C2 F) (hG : ∀ a, C3 (G a)) : C3 (rAt F G) := by
  refine ⟨fun b p a2 q hp h => ?_, fun b p a2 q n hp hn h hq => ?_, fun b p a2 q n hp hn h hq => ?_⟩ <;> (first | unfold rAt at h ⊢ | unfold rAt at h) <;> cases hf : F b p with
    | bad q1 e => rw [hf] at h; cases h
    | ok a q1 =>
      rw [hf] at h
      have h1 := hF.up b p a q1 (by omega) hf
      have h2 := (hG a).up b q1 a2 q h1.2 h
      first
        | (exact ⟨by omega, h2.2⟩)
        | (rw [hF.back b p a q1 n hp hn hf (by omega)]
           exact (hG a).back b q1 a2 q n (by omega) hn h hq)
        | (rcases Nat.lt_or_ge n q1 with hl | hl
           · exact .inl (hF.cut b p a q1 n hp hn hf hl).bind
           · rw [hF.back b p a q1 n hp hn hf hl]
             exact (hG a).cut b q1 a2 q n hl hn h hq)
theorem E3.at2 {α β : Type} {F : Rd1 α} {G : α → Rd1 β} (hF : E2 F) (hG : ∀ a, C3 (G a)) : E3 (rAt F G) := by
  refine ⟨fun b p a2 q hp h => ?_, fun b p a2 q n hp hn h hq => ?_, fun b p a2 q n hp hn h hq => ?_⟩ <;> (first | unfold rAt at h ⊢ | unfold rAt at h) <;> cases hf : F b p with
    | bad q1 e => rw [hf] at h; cases h
    | ok a q1 =>
      rw [hf] at h
      have h1 := hF.up b p a q1 (by omega) hf
      have h2 := (hG a).up b q1 a2 q h1.2 h
      first
        | (exact ⟨by omega, h2.2⟩)
        | (rw [hF.back b p a q1 n hp hn hf (by omega)]
           exact (hG a).back b q1 a2 q n (by omega) hn h hq)
        | (rcases Nat.lt_or_ge n q1 with hl | hl
           · exact .inl (hF.cut b p a q1 n hp hn hf hl).bind
           · rw [hF.back b p a q1 n hp hn hf hl]
             exact (hG a).cut b q1 a2 q n hl hn h hq)
theorem E3.map {α β : Type} {F : Rd1 α} {g : α → β} (hF : E3 F) : E3 (rAt F fun a => rPure (g a)) := by
  refine ⟨fun b p a2 q hp h => ?_, fun b p a2 q n hp hn h hq => ?_, fun b p a2 q n hp hn h hq => ?_⟩ <;> (first | unfold rAt at h ⊢ | unfold rAt at h) <;> cases hf : F b p with
    | bad q1 e => rw [hf] at h; cases h
    | ok a q1 =>
      rw [hf] at h
      unfold rPure at h
      simp only [RR.bind] at h
      injection h with h3 h4
      subst h4
      first
        | (exact hF.up b p a q1 hp hf)
        | (rw [hF.back b p a q1 n hp hn hf hq, ← h3]; rfl)
        | (rcases hF.cut b p a q1 n hp hn hf hq with h5 | ⟨a', h5⟩
           · exact .inl h5.bind
           · exact .inr ⟨g a', by rw [h5]; rfl⟩)
theorem E2.need (f : UInt8 → Bool) : E2 (rNeed f) := by
  refine ⟨fun b p a q hp h => ?_, fun b p a q n hp => (C2.need f).back b p a q n (by omega), fun b p a q n hp => (C2.need f).cut b p a q n (by omega)⟩
  have h1 := (C2.need f).up b p a q (by omega) h
  unfold rNeed at h
  split at h
  · split at h
    · injection h with h2 h3; omega
    · cases h
  · cases h
theorem C3.word : ∀ w, C3 (rWord w)
  | [] => C3.apart
  | c :: r => C3.at2 (C2.need _) fun _ => C3.word r
theorem E3.word (c : UInt8) (w : List UInt8) : E3 (rWord (c :: w)) := E3.at2 (E2.need _) fun _ => C3.word w
/-- What eats of what may end anywhere and then needs an octet. -/
theorem E2.of {α : Type} {F : Rd1 α} (h : C2 F) (he : ∀ b p a q, p < b.length → F b p = .ok a q → p < q) : E2 F :=
  ⟨fun b p a q hp hf => ⟨he b p a q hp hf, (h.up b p a q (by omega) hf).2⟩, fun b p a q n hp => h.back b p a q n (by omega), fun b p a q n hp => h.cut b p a q n (by omega)⟩
theorem E2.mid {α β : Type} {F : Rd1 α} {G : α → Rd1 β} (hF : C3 F) (hG : ∀ a, E2 (G a)) (hn : ∀ a, Needs (G a)) : E2 (rAt F G) := by
  refine E2.of (C2.mid hF (fun a => (hG a).c2 (hn a)) hn) fun b p a2 q hp h => ?_
  unfold rAt at h
  cases hf : F b p with
  | bad q1 e => rw [hf] at h; cases h
  | ok a q1 =>
    rw [hf] at h
    have h1 := hF.up b p a q1 (by omega) hf
    rcases Nat.lt_or_ge q1 b.length with hl | hl
    · have := (hG a).up b q1 a2 q hl h; omega
    · obtain rfl : q1 = b.length := by omega
      simp only [RR.bind] at h
      rw [hn a b] at h; cases h
/-- What may end anywhere but eats, and then needs an octet. -/
theorem E2.mid3 {α β : Type} {F : Rd1 α} {G : α → Rd1 β} (hF : E3 F) (hN : Needs F) (hG : ∀ a, C2 (G a)) (hn : ∀ a, Needs (G a)) : E2 (rAt F G) := by
  refine E2.of (C2.mid (hF.c3 hN) hG hn) fun b p a2 q hp h => ?_
  unfold rAt at h
  cases hf : F b p with
  | bad q1 e => rw [hf] at h; cases h
  | ok a q1 =>
    rw [hf] at h
    have h1 := hF.up b p a q1 (by omega) hf
    have := (hG a).up b q1 a2 q h1.2 h
    omega
theorem C2.items {α : Type} {end_ : UInt8} {item : Nat → Rd1 α} (hi : ∀ nth, E3 (item nth)) (hn : ∀ nth, Needs (item nth)) : ∀ n nth, C2 (rItemsF end_ item n nth)
  | 0, nth => C2.fail
  | n + 1, nth => by
    unfold rItemsF
    have ih := C2.items (end_ := end_) hi hn n (nth + 1)
    have hin := items_needs end_ item n (nth + 1)
    refine C2.see fun c => E2.ite (E2.step []) ?_
    refine E2.mid (C3.ite (C3.at2 (C2.need _) fun _ => C3.skips _) (C2.pure ()).c3) (fun _ => ?_) (fun _ => (hn nth).at)
    refine E2.mid3 (hi nth) (hn nth) (fun a => ?_) (fun a => Needs.skips hin.at)
    exact C2.mid (C3.skips _) (fun _ => ih.at fun l => C2.pure _) (fun _ => hin.at)
theorem E2.items {α : Type} {end_ : UInt8} {item : Nat → Rd1 α} (hi : ∀ nth, E3 (item nth)) (hn : ∀ nth, Needs (item nth)) : E2 (rItems end_ item) :=
  E2.over (G := fun _ => _) fun _ => C2.mid (C3.skips _) (fun _ => C2.items hi hn fuelR 1) (fun _ => items_needs end_ item fuelR 1)
theorem C2.held (m : Nat) (v : VT) : C2 (rHeld m v) := by
  have hs : rHeld m v = if 16384 < (seen v).length then (fun _ _ => .bad m 3) else rPure v := by
    funext b p
    unfold rHeld
    by_cases h : 16384 < (seen v).length
    · rw [if_pos h, if_pos h]
    · rw [if_neg h, if_neg h]; rfl
  rw [hs]
  refine C2.ite ?_ (C2.pure v)
  refine ⟨fun b p a2 q hp h => ?_, fun b p a2 q n hp hn h hq => ?_, fun b p a2 q n hp hn h hq => ?_⟩ <;> cases h
theorem E2.held {α : Type} {F : Rd1 α} (hF : E2 F) (mk : α → VT) : E2 (fun b p => (F b p).bind fun l q => rHeld p (mk l) b q) :=
  E2.at (G := fun m l => rHeld m (mk l)) hF fun m l => C2.held m _
theorem Stay.begin (k nth : Nat) : Stay (rBegin k nth) := by
  unfold rBegin
  exact Stay.at Stay.peek fun c => Stay.ite (Stay.fail _) (Stay.ite (Stay.fail _) (Stay.ite (Stay.fail _) (Stay.pure _)))
theorem E2.key (nth : Nat) : E2 (rKey nth) := by
  unfold rKey
  exact E2.see fun c => E2.ite (E2.ite (E2.fail (m := fun p => p)) E2.text) (E2.fail (m := fun p => p))
end Go.Proofs.YtipomnogabnfdaaGreatDoor
