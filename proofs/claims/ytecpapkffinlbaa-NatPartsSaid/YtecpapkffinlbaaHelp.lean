/-
  Small lemmas that the laws' walks share: when two numbers' sum or product is told, lengths, worlds behind draws.
-/
import Derived.Test.YtecpapkffinlbaaApi

set_option linter.unusedVariables false
set_option linter.unusedSimpArgs false
namespace Go.Proofs.Ytecpapkffinlbaa
open Go.RowKit

theorem chk2_ok {xs ys : List Nat} (hx : Can xs) (hy : Can ys) (h1 : xs.length ≤ 256) (h2 : ys.length ≤ 256) : chk2 xs ys = 0 := by
  unfold chk2
  rw [if_pos (chk_can hx h1), chk_can hy h2]
theorem binE_ok {xs ys : List Nat} {v : Nat} (hx : Can xs) (hy : Can ys) (h1 : xs.length ≤ 256) (h2 : ys.length ≤ 256) (hv : v < bp 256) : binE xs ys v = 0 := by
  unfold binE
  rw [if_pos (chk2_ok hx hy h1 h2), if_neg (by omega)]
theorem binE_zero {xs ys : List Nat} {v : Nat} (hx : L32 xs) (hy : L32 ys) (h : binE xs ys v = 0) : (Can xs ∧ xs.length ≤ 256) ∧ (Can ys ∧ ys.length ≤ 256) ∧ v < bp 256 ∧ binZ xs ys v = lim v := by
  have hz : binZ xs ys v = lim v := if_pos h
  unfold binE at h
  by_cases h0 : chk2 xs ys = 0
  · rw [if_pos h0] at h
    obtain ⟨hx2, hy2⟩ := can_of_chk2 hx hy h0
    refine ⟨hx2, hy2, ?_, hz⟩
    rcases Nat.lt_or_ge v (bp 256) with h1 | h1
    · exact h1
    · rw [if_pos h1] at h; omega
  · rw [if_neg h0] at h; exact absurd h h0
theorem lim_len {v : Nat} (h : v < bp 256) : (lim v).length ≤ 256 := by
  rcases Nat.lt_or_ge 256 (lim v).length with h1 | h1
  · have := (long_iff (lim_can v)).1 h1
    rw [lim_val] at this
    omega
  · exact h1

theorem Res.zero_len {w : World} {base n c : Nat} {A : Option Addr} (h : Res w base A n c []) : n = 0 := h.len.symm

theorem Res.lt {w : World} {base n c : Nat} {A : Option Addr} {zs : List Nat} (h : Res w base A n c zs) : n ≤ 9223372036854775807 := by
  have := h.n_le; unfold maxLen at this; omega
theorem Res.le {w : World} {base n c : Nat} {A : Option Addr} {zs : List Nat} (h : Res w base A n c zs) : n ≤ maxLen := by
  have := h.n_le; omega
theorem below_drewN {B : Nat} {a w : World} (h : Below B a w) (n : Nat) : Below B a (w.drewN n) := ⟨h.os, h.tape, h.output, h.size, h.block⟩

end Go.Proofs.Ytecpapkffinlbaa
