/-
  Contract of bolterplain.SameLimbs: it tells whether two lists of limbs are one.
-/
import Derived.Test.YtecpapkffinlbaaComp

set_option linter.unusedVariables false
set_option linter.unusedSimpArgs false
namespace Go.Proofs.Ytecpapkffinlbaa
open Go.RowKit

/-- bolterplain.SameLimbs answers whether two are one. -/
theorem SameLimbs_c {S S' : Nat → Prop} {n m c d : Nat} {A B : Option Addr} {xs ys : List Nat} (w : World) (ha : Rd w S A n xs) (hb : Rd w S' B m ys) (_hn : n ≤ 9223372036854775807) (_hm : m ≤ 9223372036854775807) :
    Calls Try.prog 11 #[.slice A n c, .slice B m d] w fun e w' => e = .returned (.bool (decide (xs = ys))) ∧ ∃ k, w' = w.drewN k := by
  have hl1 := ha.len
  have hl2 := hb.len
  subst hl1 hl2
  by_cases h1 : xs.length = ys.length
  · have hne : ((xs.length : Int) != (ys.length : Int)) = false := by rw [h1]; simp
    have HL := Lib.hid h1
    clear h1
    go_enter Try.func11, Try.ntmps11
    go_wp2
    go_loopw [5] (fun i wr => ∃ k q : Nat, k ≤ xs.length ∧ (∀ j, j < k → Hid (nth xs j = nth ys j)) ∧ i = .int .i64 (k : Int) ∧ wr = w.drewN q) (fun i _ => xs.length - (intOf i).toNat)
    case atStart => exact ⟨0, 0, Nat.zero_le _, (fun j hj => absurd hj (by omega)), rfl, rfl⟩
    case round =>
      obtain ⟨k, q, hk, ht, rfl, rfl⟩ := hrel
      by_cases h0 : k = xs.length
      · have he : Hid (decide (xs = ys) = true) := by
          show decide (xs = ys) = true
          rw [decide_eq_true_iff]
          apply List.ext_getElem HL.out
          intro i h1 h2
          have := (ht i (by omega)).out
          rwa [nth_get h1, nth_get h2] at this
        subst h0
        clear ht
        go_wp2
        go_ret
        rw [he.out]
        exact ⟨rfl, by first | exact ⟨_, rfl⟩ | (simp only [World.drewN_drewN]; exact ⟨_, rfl⟩)⟩
      · have hlt : k < xs.length := by omega
        obtain ⟨b1, o1, rfl, _, hc1⟩ := ha.at_ hlt
        obtain ⟨b2, o2, rfl, _, hc2⟩ := hb.at_ (k := k) (by rw [← HL.out]; omega)
        have hj2 : (k : Int) < (ys.length : Int) := by rw [← HL.out]; omega
        by_cases heq : nth xs k = nth ys k
        · have ht2 : ∀ j, j < k + 1 → Hid (nth xs j = nth ys j) := fun j hj => by
            by_cases e : j = k
            · subst e; exact heq
            · exact ht j (by omega)
          have hbn : (((nth xs k : Nat) : Int) != ((nth ys k : Nat) : Int)) = false := by rw [heq]; simp
          clear ht heq
          have HT := Lib.hid ht2
          clear ht2
          go_wp2
          go_quiet (fail)
          go_wp2
          go_roundw
          case rel => exact ⟨k + 1, _, by omega, HT.out, by go_num, rfl⟩
          case measure => simp [intOf]; omega
        · have he : Hid (decide (xs = ys) = false) := by
            show decide (xs = ys) = false
            rw [decide_eq_false_iff_not]
            rintro rfl
            exact heq rfl
          have hbn : (((nth xs k : Nat) : Int) != ((nth ys k : Nat) : Int)) = true := by rw [bne_iff_ne]; omega
          clear ht heq
          go_wp2
          go_quiet (fail)
          go_wp2
          go_ret
          rw [he.out]
          exact ⟨rfl, by first | exact ⟨_, rfl⟩ | (simp only [World.drewN_drewN]; exact ⟨_, rfl⟩)⟩
  · have hne : ((xs.length : Int) != (ys.length : Int)) = true := by rw [bne_iff_ne]; omega
    have he : Hid (decide (xs = ys) = false) := by
      show decide (xs = ys) = false
      rw [decide_eq_false_iff_not]
      rintro rfl
      exact h1 rfl
    clear h1
    go_enter Try.func11, Try.ntmps11
    go_wp2
    go_ret
    rw [he.out]
    exact ⟨rfl, 0, rfl⟩

theorem SameLimbs_eq {S S' : Nat → Prop} {n m c d : Nat} {A B : Option Addr} {xs ys : List Nat} (w : World) (ha : Rd w S A n xs) (hb : Rd w S' B m ys) (h : xs = ys) (hn : n ≤ maxLen) (hm : m ≤ maxLen) :
    Calls Try.prog 11 #[.slice A n c, .slice B m d] w fun e w' => e = .returned (.bool true) ∧ ∃ k, w' = w.drewN k := by
  refine (SameLimbs_c (c := c) (d := d) w ha hb (by unfold maxLen at hn; omega) (by unfold maxLen at hm; omega)).mono ?_
  rintro e w' ⟨rfl, k, rfl⟩
  rw [decide_eq_true h]
  exact ⟨rfl, k, rfl⟩

end Go.Proofs.Ytecpapkffinlbaa
