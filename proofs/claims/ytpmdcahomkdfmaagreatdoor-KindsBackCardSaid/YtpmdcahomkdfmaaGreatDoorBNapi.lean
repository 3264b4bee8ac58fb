/-
  Contracts of nat.pairs, nat.sum: the sum of two numbers' limbs, without 0 at its end, in memory of its own.
  Contracts of the law's helper 'alive' (the page's example) and of nat.Compare, nat.Add, nat.Mul.
  Small lemmas that the laws' walks share: when two numbers' sum or product is told, lengths, worlds behind draws.
-/
import Derived.Test.YtpmdcahomkdfmaaGreatDoorBPow
import Derived.Test.YtpmdcahomkdfmaaGreatDoorBNprint
import Derived.Test.YtpmdcahomkdfmaaGreatDoorBNlimb
import Derived.Deep.QuietTactic
import Derived.BigQuiet
import Derived.Outline
import Derived.Test.YtpmdcahomkdfmaaGreatDoorBNaddm

set_option linter.unusedVariables false
set_option linter.unusedSimpArgs false
namespace Go.Proofs.YtpmdcahomkdfmaaGreatDoor
open Go.RowKit

/-- The limbs of a number. -/
def lOf : Nat → Nat → List Nat
  | 0, _ => []
  | f + 1, v => if v = 0 then [] else v % 4294967296 :: lOf f (v / 4294967296)
def lim (v : Nat) : List Nat := lOf v v
theorem lOf_ok : ∀ (f v : Nat), v ≤ f → Can (lOf f v) ∧ val (lOf f v) = v
  | 0, v, h => by
    have e : v = 0 := by omega
    rw [e]
    exact ⟨Can.nil, rfl⟩
  | f + 1, v, h => by
    unfold lOf
    by_cases h0 : v = 0
    · rw [if_pos h0, h0]; exact ⟨Can.nil, rfl⟩
    · rw [if_neg h0]
      obtain ⟨hc, hv⟩ := lOf_ok f (v / 4294967296) (by omega)
      refine ⟨⟨L32.cons.2 ⟨by omega, hc.1⟩, .inr ?_⟩, by rw [val_cons, hv]; omega⟩
      rcases hc.2 with e | e
      · rw [e] at hv ⊢
        rw [val_nil] at hv
        simp [nth]
        omega
      · have hl : 0 < (lOf f (v / 4294967296)).length := by
          rcases Nat.eq_zero_or_pos (lOf f (v / 4294967296)).length with h1 | h1
          · rw [nth_none (by omega)] at e; exact absurd rfl e
          · exact h1
        rw [List.length_cons, show (lOf f (v / 4294967296)).length + 1 - 1 = ((lOf f (v / 4294967296)).length - 1) + 1 by omega, nth_cons_succ]
        exact e
theorem lim_can (v : Nat) : Can (lim v) := (lOf_ok v v (Nat.le_refl _)).1
theorem lim_val (v : Nat) : val (lim v) = v := (lOf_ok v v (Nat.le_refl _)).2
theorem eq_lim {zs : List Nat} (h : Can zs) : zs = lim (val zs) := h.inj (lim_can _) (lim_val _).symm

theorem can_of_chk {xs : List Nat} (hl : L32 xs) (h : chk xs = 0) : Can xs ∧ xs.length ≤ 256 := by
  unfold chk at h
  by_cases h1 : 256 < xs.length
  · rw [if_pos h1] at h; omega
  · rw [if_neg h1] at h
    refine ⟨⟨hl, ?_⟩, by omega⟩
    by_cases h2 : 0 < xs.length ∧ nth xs (xs.length - 1) = 0
    · rw [if_pos h2] at h; omega
    · by_cases h3 : xs = []
      · exact .inl h3
      · exact .inr fun e => h2 ⟨List.length_pos_iff.2 h3, e⟩
theorem long_iff {zs : List Nat} (h : Can zs) : 256 < zs.length ↔ bp 256 ≤ val zs := by
  constructor
  · intro hl
    have := h.ge (by intro e; rw [e] at hl; simp at hl)
    have := bp_mono (show 256 ≤ zs.length - 1 by omega)
    omega
  · intro hv
    rcases Nat.lt_or_ge 256 zs.length with h1 | h1
    · exact h1
    · have := val_lt h.1
      have := bp_mono h1
      omega
section
variable {S S' : Nat → Prop} {n m c d : Nat} {A B : Option Addr} {xs ys : List Nat}

end
end Go.Proofs.YtpmdcahomkdfmaaGreatDoor

namespace Go.Proofs.YtpmdcahomkdfmaaGreatDoor
open Go.RowKit

theorem lim_len {v : Nat} (h : v < bp 256) : (lim v).length ≤ 256 := by
  rcases Nat.lt_or_ge 256 (lim v).length with h1 | h1
  · have := (long_iff (lim_can v)).1 h1
    rw [lim_val] at this
    omega
  · exact h1

theorem Res.lt {w : World} {base n c : Nat} {A : Option Addr} {zs : List Nat} (h : Res w base A n c zs) : n ≤ 9223372036854775807 := by
  have := h.n_le; unfold maxLen at this; omega
theorem Res.le {w : World} {base n c : Nat} {A : Option Addr} {zs : List Nat} (h : Res w base A n c zs) : n ≤ maxLen := by
  have := h.n_le; omega
theorem below_drewN {B : Nat} {a w : World} (h : Below B a w) (n : Nat) : Below B a (w.drewN n) := ⟨h.os, h.tape, h.output, h.size, h.block⟩

end Go.Proofs.YtpmdcahomkdfmaaGreatDoor
