/-
  Contracts of nat.compare, nat.checkBoth, nat.fit and bolterplain.SameLimbs: what they return of slices that read as limbs; they only read.
-/
import Derived.Test.YtecpapkffinlbaaSmall
import Derived.Deep.QuietTactic
import Derived.BigQuiet
import Derived.Outline
set_option linter.unusedVariables false
set_option linter.unusedSimpArgs false
namespace Go.Proofs.Ytecpapkffinlbaa
open Go.RowKit

/-- From the highest of k limbs on: -1, 0, 1. -/
def cmpH (xs ys : List Nat) : Nat → Int
  | 0 => 0
  | k + 1 => if nth xs k < nth ys k then -1 else if nth ys k < nth xs k then 1 else cmpH xs ys k
theorem cmpH_same {xs ys : List Nat} {j : Nat} (h : nth xs j = nth ys j) : cmpH xs ys (j + 1) = cmpH xs ys j := by
  unfold cmpH; rw [if_neg (by omega), if_neg (by omega)]
  cases j <;> rfl
theorem cmpH_other {xs ys : List Nat} {j : Nat} (h : nth xs j ≠ nth ys j) : cmpH xs ys (j + 1) = if decide (((nth ys j : Nat) : Int) < ((nth xs j : Nat) : Int)) then 1 else -1 := by
  unfold cmpH
  by_cases h1 : nth xs j < nth ys j
  · rw [if_pos h1, if_neg (by simp; omega)]
  · rw [if_neg h1, if_pos (by omega), if_pos (by simp; omega)]
def cmp (xs ys : List Nat) : Int := if xs.length < ys.length then -1 else if ys.length < xs.length then 1 else cmpH xs ys xs.length

theorem cmpH_val {xs ys : List Nat} (hx : L32 xs) (hy : L32 ys) (hl : xs.length = ys.length) : ∀ k, k ≤ xs.length → (∀ j, k ≤ j → j < xs.length → nth xs j = nth ys j) →
    cmpH xs ys k = if val xs < val ys then -1 else if val ys < val xs then 1 else 0
  | 0, _, h => by
    have e : val xs = val ys := by
      congr 1
      apply List.ext_getElem hl
      intro i h1 h2
      have := h i (by omega) h1
      rwa [nth_get h1, nth_get h2] at this
    rw [e, if_neg (by omega), if_neg (by omega)]; rfl
  | k + 1, hk, h => by
    unfold cmpH
    by_cases h1 : nth xs k < nth ys k
    · rw [if_pos h1, if_pos (val_lt_of_high hx hy k hl (by omega) h1 (fun j hj hj2 => h j (by omega) hj2))]
    · rw [if_neg h1]
      by_cases h2 : nth ys k < nth xs k
      · have := val_lt_of_high hy hx k hl.symm (by omega) h2 (fun j hj hj2 => (h j (by omega) (by omega)).symm)
        rw [if_pos h2, if_neg (by omega), if_pos this]
      · rw [if_neg h2]
        exact cmpH_val hx hy hl k (by omega) (fun j hj hj2 => by
          by_cases e : j = k
          · subst e; omega
          · exact h j (by omega) hj2)
theorem cmp_val {xs ys : List Nat} (hx : Can xs) (hy : Can ys) : cmp xs ys = if val xs < val ys then -1 else if val ys < val xs then 1 else 0 := by
  unfold cmp
  by_cases h1 : xs.length < ys.length
  · rw [if_pos h1, if_pos (Can.lt_of_length hx.1 hy h1)]
  · rw [if_neg h1]
    by_cases h2 : ys.length < xs.length
    · have := Can.lt_of_length hy.1 hx h2
      rw [if_pos h2, if_neg (by omega), if_pos this]
    · rw [if_neg h2]
      exact cmpH_val hx.1 hy.1 (by omega) _ (Nat.le_refl _) (fun j hj hj2 => by omega)

theorem compare_c {S S' : Nat → Prop} {n m c d : Nat} {A B : Option Addr} {xs ys : List Nat} (w : World) (ha : Rd w S A n xs) (hb : Rd w S' B m ys) (_hn : n ≤ 9223372036854775807) (_hm : m ≤ 9223372036854775807) :
    Calls Try.prog 21 #[.slice A n c, .slice B m d] w fun e w' => e = .returned (.int .i64 (cmp xs ys)) ∧ ∃ k, w' = w.drewN k := by
  have hl1 := ha.len
  have hl2 := hb.len
  subst hl1 hl2
  unfold cmp
  by_cases h1 : xs.length < ys.length
  · rw [if_pos h1]
    have hne : ((xs.length : Int) != (ys.length : Int)) = true := by rw [bne_iff_ne]; omega
    go_enter Try.func21, Try.ntmps21
    go_wp2_with (go_at_call 35; refine (sign_c _ _).mono ?_; rintro e w' ⟨rfl, rfl⟩)
    go_ret
    exact ⟨rfl, 0, rfl⟩
  · rw [if_neg h1]
    by_cases h2 : ys.length < xs.length
    · rw [if_pos h2]
      have hne : ((xs.length : Int) != (ys.length : Int)) = true := by rw [bne_iff_ne]; omega
      go_enter Try.func21, Try.ntmps21
      go_wp2_with (go_at_call 35; refine (sign_c _ _).mono ?_; rintro e w' ⟨rfl, rfl⟩)
      go_ret
      exact ⟨rfl, 0, rfl⟩
    · rw [if_neg h2]
      have hle : xs.length = ys.length := by omega
      have hne : ((xs.length : Int) != (ys.length : Int)) = false := by rw [hle]; simp
      have HL := Lib.hid hle
      clear h1 h2 hle
      go_enter Try.func21, Try.ntmps21
      go_wp2
      go_loopw [5] (fun i wr => ∃ k q : Nat, k ≤ xs.length ∧ Hid (cmpH xs ys k = cmpH xs ys xs.length) ∧ i = .int .i64 ((k : Int) - 1) ∧ wr = w.drewN q) (fun i _ => (intOf i + 1).toNat)
      case atStart => exact ⟨xs.length, 0, Nat.le_refl _, rfl, rfl, rfl⟩
      case round =>
        obtain ⟨k, q, hk, ht, rfl, rfl⟩ := hrel
        by_cases h0 : k = 0
        · subst h0
          have he : Hid (cmpH xs ys xs.length = 0) := ht.out.symm
          clear ht
          go_wp2
          go_ret
          rw [he.out]
          exact ⟨rfl, by first | exact ⟨_, rfl⟩ | (simp only [World.drewN_drewN]; exact ⟨_, rfl⟩)⟩
        · obtain ⟨j, rfl⟩ : ∃ j, k = j + 1 := ⟨k - 1, by omega⟩
          obtain ⟨b1, o1, rfl, _, hc1⟩ := ha.at_ (k := j) (by omega)
          obtain ⟨b2, o2, rfl, _, hc2⟩ := hb.at_ (k := j) (by rw [← HL.out]; omega)
          have hj2 : (j : Int) < (ys.length : Int) := by rw [← HL.out]; omega
          by_cases heq : nth xs j = nth ys j
          · have hs : Hid (cmpH xs ys j = cmpH xs ys xs.length) := (cmpH_same heq).symm.trans ht.out
            have hbn : (((nth xs j : Nat) : Int) != ((nth ys j : Nat) : Int)) = false := by rw [heq]; simp
            clear ht heq
            go_wp2
            go_quiet (fail)
            go_wp2
            go_roundw
            case rel => exact ⟨j, _, by omega, hs, by go_num, rfl⟩
            case measure => simp [intOf]
          · have hbn : (((nth xs j : Nat) : Int) != ((nth ys j : Nat) : Int)) = true := by rw [bne_iff_ne]; omega
            by_cases h3 : nth ys j < nth xs j
            · have hs : Hid (cmpH xs ys xs.length = 1) := ht.out.symm.trans ((cmpH_other heq).trans (by rw [if_pos (by simp; omega)]))
              have hd : decide (nth ys j < nth xs j) = true := by simpa using h3
              clear ht heq h3
              go_wp2
              go_quiet (fail)
              go_wp2
              go_quiet ((go_at_call 35; exact quiet_more (sign_c _ _)))
              go_wp2
              go_ret
              rw [hs.out]
              exact ⟨rfl, by first | exact ⟨_, rfl⟩ | (simp only [World.drewN_drewN]; exact ⟨_, rfl⟩)⟩
            · have hs : Hid (cmpH xs ys xs.length = -1) := ht.out.symm.trans ((cmpH_other heq).trans (by rw [if_neg (by simp; omega)]))
              have hd : decide (nth ys j < nth xs j) = false := by simpa using h3
              clear ht heq h3
              go_wp2
              go_quiet (fail)
              go_wp2
              go_quiet ((go_at_call 35; exact quiet_more (sign_c _ _)))
              go_wp2
              go_ret
              rw [hs.out]
              exact ⟨rfl, by first | exact ⟨_, rfl⟩ | (simp only [World.drewN_drewN]; exact ⟨_, rfl⟩)⟩

theorem checkBoth_c {S S' : Nat → Prop} {n m c d : Nat} {A B : Option Addr} {xs ys : List Nat} (w : World) (ha : Rd w S A n xs) (hb : Rd w S' B m ys) (hn : n ≤ 9223372036854775807) (hm : m ≤ 9223372036854775807) :
    Calls Try.prog 16 #[.slice A n c, .slice B m d] w fun e w' => e = .returned (.int .i64 ((if chk xs = 0 then chk ys else chk xs : Nat) : Int)) ∧ w = w' := by
  by_cases h0 : chk xs = 0
  · have h1 := Check_c (c := c) w ha hn
    have h2 := Check_c (c := d) w hb hm
    rw [if_pos h0]
    rw [h0] at h1
    clear h0
    have H1 := Lib.hid h1
    have H2 := Lib.hid h2
    clear h1 h2
    go_enter Try.func16, Try.ntmps16
    go_wp2_with fail
    refine H1.out.mono ?_
    rintro e w' ⟨rfl, rfl⟩
    go_wp2_with fail
    refine H2.out.mono ?_
    rintro e w' ⟨rfl, rfl⟩
    go_wp2
    go_ret
    exact ⟨rfl, rfl⟩
  · have h1 := Check_c (c := c) w ha hn
    rw [if_neg h0]
    have hb : (((chk xs : Nat) : Int) != 0) = true := by rw [bne_iff_ne]; omega
    have H1 := Lib.hid h1
    clear h1 h0
    go_enter Try.func16, Try.ntmps16
    go_wp2_with fail
    refine H1.out.mono ?_
    rintro e w' ⟨rfl, rfl⟩
    go_wp2
    go_ret
    exact ⟨rfl, rfl⟩

theorem fit_many (A : Option Addr) (n c : Nat) (w : World) (_hn : n ≤ 9223372036854775807) (_h : 256 < n) :
    Calls Try.prog 18 #[.slice A n c] w fun e w' => e = .returned (.tuple #[.slice none 0 0, .int .i64 51]) ∧ w = w' := by
  go_enter Try.func18, Try.ntmps18
  go_wp2
  go_ret2
  exact ⟨rfl, rfl⟩
theorem fit_ok (A : Option Addr) (n c : Nat) (w : World) (_h : n ≤ 256) :
    Calls Try.prog 18 #[.slice A n c] w fun e w' => e = .returned (.tuple #[.slice A n c, .int .i64 0]) ∧ w = w' := by
  go_enter Try.func18, Try.ntmps18
  go_wp2
  go_ret2
  exact ⟨rfl, rfl⟩

end Go.Proofs.Ytecpapkffinlbaa
