/-
  Contracts of nat.pairs, nat.sum: the sum of two numbers' limbs, without 0 at its end, in memory of its own.
  Contracts of the law's helper 'alive' (the page's example) and of nat.Compare, nat.Add, nat.Mul.
  Small lemmas that the laws' walks share: when two numbers' sum or product is told, lengths, worlds behind draws.
-/
import Derived.Test.YtjjpagdnjafgaaaGreatDoorGNiter
import Derived.Test.YtjjpagdnjafgaaaGreatDoorGPow
import Derived.Test.YtjjpagdnjafgaaaGreatDoorGNprint
import Derived.Test.YtjjpagdnjafgaaaGreatDoorGNcomp

set_option linter.unusedVariables false
set_option linter.unusedSimpArgs false
namespace Go.Proofs.YtjjpagdnjafgaaaGreatDoor
open Go.RowKit

/-- The limbs of a number. -/
def lOf : Nat → Nat → List Nat
  | 0, _ => []
  | f + 1, v => if v = 0 then [] else v % 4294967296 :: lOf f (v / 4294967296)
def lim (v : Nat) : List Nat := lOf v v
theorem lOf_ok : ∀ (f v : Nat), v ≤ f → Can (lOf f v) ∧ val (lOf f v) = v
  | 0, v, h => by
    have e : v = 0 := by omega
    rw [e]
    exact ⟨Can.nil, rfl⟩
  | f + 1, v, h => by
    unfold lOf
    by_cases h0 : v = 0
    · rw [if_pos h0, h0]; exact ⟨Can.nil, rfl⟩
    · rw [if_neg h0]
      obtain ⟨hc, hv⟩ := lOf_ok f (v / 4294967296) (by omega)
      refine ⟨⟨L32.cons.2 ⟨by omega, hc.1⟩, .inr ?_⟩, by rw [val_cons, hv]; omega⟩
      rcases hc.2 with e | e
      · rw [e] at hv ⊢
        rw [val_nil] at hv
        simp [nth]
        omega
      · have hl : 0 < (lOf f (v / 4294967296)).length := by
          rcases Nat.eq_zero_or_pos (lOf f (v / 4294967296)).length with h1 | h1
          · rw [nth_none (by omega)] at e; exact absurd rfl e
          · exact h1
        rw [List.length_cons, show (lOf f (v / 4294967296)).length + 1 - 1 = ((lOf f (v / 4294967296)).length - 1) + 1 by omega, nth_cons_succ]
        exact e
theorem lim_can (v : Nat) : Can (lim v) := (lOf_ok v v (Nat.le_refl _)).1
theorem lim_val (v : Nat) : val (lim v) = v := (lOf_ok v v (Nat.le_refl _)).2
theorem eq_lim {zs : List Nat} (h : Can zs) : zs = lim (val zs) := h.inj (lim_can _) (lim_val _).symm

theorem can_of_chk {xs : List Nat} (hl : L32 xs) (h : chk xs = 0) : Can xs ∧ xs.length ≤ 256 := by
  unfold chk at h
  by_cases h1 : 256 < xs.length
  · rw [if_pos h1] at h; omega
  · rw [if_neg h1] at h
    refine ⟨⟨hl, ?_⟩, by omega⟩
    by_cases h2 : 0 < xs.length ∧ nth xs (xs.length - 1) = 0
    · rw [if_pos h2] at h; omega
    · by_cases h3 : xs = []
      · exact .inl h3
      · exact .inr fun e => h2 ⟨List.length_pos_iff.2 h3, e⟩
/-- The errors of two numbers, ahead of all else. -/
def chk2 (xs ys : List Nat) : Nat := if chk xs = 0 then chk ys else chk xs
theorem can_of_chk2 {xs ys : List Nat} (hx : L32 xs) (hy : L32 ys) (h : chk2 xs ys = 0) : (Can xs ∧ xs.length ≤ 256) ∧ Can ys ∧ ys.length ≤ 256 := by
  unfold chk2 at h
  by_cases h1 : chk xs = 0
  · rw [if_pos h1] at h; exact ⟨can_of_chk hx h1, can_of_chk hy h⟩
  · rw [if_neg h1] at h; exact absurd h h1
theorem long_iff {zs : List Nat} (h : Can zs) : 256 < zs.length ↔ bp 256 ≤ val zs := by
  constructor
  · intro hl
    have := h.ge (by intro e; rw [e] at hl; simp at hl)
    have := bp_mono (show 256 ≤ zs.length - 1 by omega)
    omega
  · intro hv
    rcases Nat.lt_or_ge 256 zs.length with h1 | h1
    · exact h1
    · have := val_lt h.1
      have := bp_mono h1
      omega
/-- What is answered where v has been reckoned of two numbers: the error, and the limbs. -/
def binE (xs ys : List Nat) (v : Nat) : Nat := if chk2 xs ys = 0 then (if bp 256 ≤ v then 51 else 0) else chk2 xs ys
def binZ (xs ys : List Nat) (v : Nat) : List Nat := if binE xs ys v = 0 then lim v else []
theorem binZ_err {xs ys : List Nat} {v : Nat} (h : binE xs ys v ≠ 0) : binZ xs ys v = [] := if_neg h

/-- The last step of a sum or a product: the error for too many limbs. -/
theorem bin_end {zs xs ys : List Nat} {v : Nat} (hc : Can zs) (hv : val zs = v) (h0 : chk2 xs ys = 0) :
    (256 < zs.length → binE xs ys v = 51 ∧ binZ xs ys v = []) ∧ (zs.length ≤ 256 → binE xs ys v = 0 ∧ binZ xs ys v = zs) := by
  have hl := long_iff hc
  rw [hv] at hl
  constructor
  · intro h
    have e : binE xs ys v = 51 := by unfold binE; rw [if_pos h0, if_pos (hl.1 h)]
    exact ⟨e, binZ_err (by rw [e]; omega)⟩
  · intro h
    have e : binE xs ys v = 0 := by unfold binE; rw [if_pos h0, if_neg (fun h' => by have := hl.2 h'; omega)]
    refine ⟨e, ?_⟩
    unfold binZ
    rw [if_pos e, ← hv]
    exact (eq_lim hc).symm

section
variable {S S' : Nat → Prop} {n m c d : Nat} {A B : Option Addr} {xs ys : List Nat}

theorem Mul_c (w : World) (ha : Rd w S A n xs) (hb : Rd w S' B m ys) (hS : ∀ b, S b → b < w.heap.size) (hS' : ∀ b, S' b → b < w.heap.size) (hn : n ≤ 9223372036854775807) (hm : m ≤ 9223372036854775807) :
    Calls Tryz.prog 109 #[.slice A n c, .slice B m d] w fun e w' => ∃ A' n' c', e = .returned (.tuple #[.slice A' n' c', .int .i64 (binE xs ys (val xs * val ys) : Int)]) ∧ Res w' w.heap.size A' n' c' (binZ xs ys (val xs * val ys)) ∧ Below w.heap.size w w' := by
  have h1 := checkBoth_c (c := c) (d := d) w ha hb hn hm
  have e1 : (if chk xs = 0 then chk ys else chk xs) = chk2 xs ys := rfl
  rw [e1] at h1
  by_cases h0 : chk2 xs ys = 0
  · obtain ⟨⟨hcx, hlx⟩, hcy, hly⟩ := can_of_chk2 ha.l32 hb.l32 h0
    have hs := product_c (c := c) (d := d) w ha hb hS hS' (by rw [← ha.len]; omega) (by rw [← hb.len]; omega)
    have HS := Lib.hid hs
    rw [h0] at h1
    have H0 := Lib.hid h0
    have H1 := Lib.hid h1
    clear h1 hs h0 e1
    go_enter Tryz.func109, Tryz.ntmps109
    go_wp2_with fail
    refine H1.out.mono ?_
    rintro e w' ⟨rfl, rfl⟩
    go_wp2_with fail
    refine HS.out.mono ?_
    rintro e w1 ⟨A', n', c', zs, rfl, hres, hcan, hval, hbel⟩
    have HE := Lib.hid (bin_end hcan hval H0.out)
    have hl := Lib.hid hres.len
    clear hval
    by_cases hlong : 256 < n'
    · have hn' := hres.n_le
      unfold maxLen at hn'
      go_wp2_with (go_at_call 142; refine (fit_many _ _ _ _ (by omega) hlong).mono ?_; rintro e w' ⟨rfl, rfl⟩)
      go_ret2
      obtain ⟨e1, e2⟩ := HE.out.1 (by rw [hl.out]; exact hlong)
      rw [e1, e2]
      exact ⟨none, 0, 0, rfl, Res.nil _ _, hbel⟩
    · go_wp2_with (go_at_call 142; refine (fit_ok _ _ _ _ (by omega)).mono ?_; rintro e w' ⟨rfl, rfl⟩)
      go_ret2
      obtain ⟨e1, e2⟩ := HE.out.2 (by rw [hl.out]; omega)
      rw [e1, e2]
      exact ⟨A', n', c', rfl, hres, hbel⟩
  · have e2 : binE xs ys (val xs * val ys) = chk2 xs ys := if_neg h0
    have e3 := binZ_err (xs := xs) (ys := ys) (v := val xs * val ys) (by rw [e2]; exact h0)
    rw [e2, e3]
    have hb : (((chk2 xs ys : Nat) : Int) != 0) = true := by rw [bne_iff_ne]; omega
    have H1 := Lib.hid h1
    clear h1 h0 e1 e2 e3
    go_enter Tryz.func109, Tryz.ntmps109
    go_wp2_with fail
    refine H1.out.mono ?_
    rintro e w' ⟨rfl, rfl⟩
    go_wp2
    go_ret2
    exact ⟨none, 0, 0, rfl, Res.nil _ _, Below.refl _ _⟩
theorem Compare_c (w : World) (ha : Rd w S A n xs) (hb : Rd w S' B m ys) (hn : n ≤ 9223372036854775807) (hm : m ≤ 9223372036854775807) :
    Calls Tryz.prog 70 #[.slice A n c, .slice B m d] w fun e w' => e = .returned (.tuple #[.int .i64 (if chk2 xs ys = 0 then cmp xs ys else 0), .int .i64 (chk2 xs ys : Int)]) ∧ ∃ k, w' = w.drewN k := by
  have h1 := checkBoth_c (c := c) (d := d) w ha hb hn hm
  have e1 : (if chk xs = 0 then chk ys else chk xs) = chk2 xs ys := rfl
  rw [e1] at h1
  by_cases h0 : chk2 xs ys = 0
  · rw [if_pos h0]
    have hs := compare_c (c := c) (d := d) w ha hb hn hm
    have HS := Lib.hid hs
    rw [h0] at h1 ⊢
    have H1 := Lib.hid h1
    clear h1 hs h0 e1
    go_enter Tryz.func70, Tryz.ntmps70
    go_wp2_with fail
    refine H1.out.mono ?_
    rintro e w' ⟨rfl, rfl⟩
    go_wp2_with fail
    refine HS.out.mono ?_
    rintro e w1 ⟨rfl, k, rfl⟩
    go_wp2
    go_ret2
    exact ⟨rfl, k, rfl⟩
  · rw [if_neg h0]
    have hb : (((chk2 xs ys : Nat) : Int) != 0) = true := by rw [bne_iff_ne]; omega
    have H1 := Lib.hid h1
    clear h1 h0 e1
    go_enter Tryz.func70, Tryz.ntmps70
    go_wp2_with fail
    refine H1.out.mono ?_
    rintro e w' ⟨rfl, rfl⟩
    go_wp2
    go_ret2
    exact ⟨rfl, 0, rfl⟩
end
end Go.Proofs.YtjjpagdnjafgaaaGreatDoor

namespace Go.Proofs.YtjjpagdnjafgaaaGreatDoor
open Go.RowKit

theorem chk2_ok {xs ys : List Nat} (hx : Can xs) (hy : Can ys) (h1 : xs.length ≤ 256) (h2 : ys.length ≤ 256) : chk2 xs ys = 0 := by
  unfold chk2
  rw [if_pos (chk_can hx h1), chk_can hy h2]
theorem binE_ok {xs ys : List Nat} {v : Nat} (hx : Can xs) (hy : Can ys) (h1 : xs.length ≤ 256) (h2 : ys.length ≤ 256) (hv : v < bp 256) : binE xs ys v = 0 := by
  unfold binE
  rw [if_pos (chk2_ok hx hy h1 h2), if_neg (by omega)]
theorem lim_len {v : Nat} (h : v < bp 256) : (lim v).length ≤ 256 := by
  rcases Nat.lt_or_ge 256 (lim v).length with h1 | h1
  · have := (long_iff (lim_can v)).1 h1
    rw [lim_val] at this
    omega
  · exact h1

theorem Res.lt {w : World} {base n c : Nat} {A : Option Addr} {zs : List Nat} (h : Res w base A n c zs) : n ≤ 9223372036854775807 := by
  have := h.n_le; unfold maxLen at this; omega
theorem Res.le {w : World} {base n c : Nat} {A : Option Addr} {zs : List Nat} (h : Res w base A n c zs) : n ≤ maxLen := by
  have := h.n_le; omega
theorem below_drewN {B : Nat} {a w : World} (h : Below B a w) (n : Nat) : Below B a (w.drewN n) := ⟨h.os, h.tape, h.output, h.size, h.block⟩

end Go.Proofs.YtjjpagdnjafgaaaGreatDoor
