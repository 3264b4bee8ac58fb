/-
  Contracts of nat's small functions (sign, limbAt, Check). Each says what the call returns; the world is as it was.
-/
import Derived.Test.YtipomnogabnfdaaGreatDoorPNmem
set_option linter.unusedVariables false
set_option linter.unusedSimpArgs false
namespace Go.Proofs.YtipomnogabnfdaaGreatDoor
open Go.RowKit

/-- What Check answers. -/
def chk (xs : List Nat) : Nat := if 256 < xs.length then 5 else if 0 < xs.length ∧ nth xs (xs.length - 1) = 0 then 9 else 0

theorem Check_c {S : Nat → Prop} {n c : Nat} {A : Option Addr} {xs : List Nat} (w : World) (h : Rd w S A n xs) (_hn : n ≤ 9223372036854775807) :
    Calls Tryz.prog 117 #[.slice A n c] w fun e w' => e = .returned (.int .i64 (chk xs : Int)) ∧ w = w' := by
  have hl := h.len
  subst hl
  unfold chk
  by_cases h1 : 256 < xs.length
  · rw [if_pos h1]
    go_enter Tryz.func117, Tryz.ntmps117
    go_wp2
    go_ret
    exact ⟨rfl, rfl⟩
  · rw [if_neg h1]
    by_cases h0 : 0 < xs.length
    · obtain ⟨b, off, rfl, _, hc⟩ := h.at_ (k := xs.length - 1) (by omega)
      by_cases hz : nth xs (xs.length - 1) = 0
      · rw [if_pos ⟨h0, hz⟩]
        rw [hz] at hc
        clear hz
        go_enter Tryz.func117, Tryz.ntmps117
        go_wp2
        go_ret
        exact ⟨rfl, rfl⟩
      · rw [if_neg (fun hh => hz hh.2)]
        have hb : (((nth xs (xs.length - 1) : Nat) : Int) == 0) = false := by rw [beq_eq_false_iff_ne]; omega
        clear hz
        go_enter Tryz.func117, Tryz.ntmps117
        go_wp2
        go_ret
        exact ⟨rfl, rfl⟩
    · rw [if_neg (fun hh => h0 hh.1)]
      go_enter Tryz.func117, Tryz.ntmps117
      go_wp2
      go_ret
      exact ⟨rfl, rfl⟩

theorem trim_c {S : Nat → Prop} {n c : Nat} {A : Option Addr} {xs : List Nat} (w : World) (h : Rd w S A n xs) (_hn : n ≤ 9223372036854775807) (_hc : n ≤ c) :
    Calls Tryz.prog 115 #[.slice A n c] w fun e w' => e = .returned (.slice A (tl xs n) c) ∧ w = w' := by
  go_enter Tryz.func115, Tryz.ntmps115
  go_wp2
  go_loop [3] (fun i => ∃ k : Nat, k ≤ n ∧ Hid (tl xs k = tl xs n) ∧ i = .int .i64 k) (fun i => (RowKit.intOf i).toNat)
  case atStart => exact ⟨n, Nat.le_refl _, rfl, rfl⟩
  case round =>
    obtain ⟨k, hk, ht, rfl⟩ := hrel
    by_cases h0 : k = 0
    · subst h0
      have he : Hid (tl xs n = 0) := ht.out.symm
      clear ht
      go_wp2
      go_ret
      rw [he.out]
      exact ⟨rfl, rfl⟩
    · obtain ⟨j, rfl⟩ : ∃ j, k = j + 1 := ⟨k - 1, by omega⟩
      obtain ⟨b, off, rfl, _, hcell⟩ := h.at_ (k := j) (by omega)
      by_cases hz : nth xs j = 0
      · have hs : Hid (tl xs j = tl xs n) := (tl_step hz).symm.trans ht.out
        rw [hz] at hcell
        clear hz ht
        go_wp2
        go_round
        case rel => exact ⟨j, by omega, hs, by go_num⟩
        case measure => simp [RowKit.intOf]
      · have he : Hid (tl xs n = j + 1) := ht.out.symm.trans (tl_stop hz)
        have hb : (((nth xs j : Nat) : Int) == 0) = false := by rw [beq_eq_false_iff_ne]; omega
        clear hz ht
        go_wp2
        go_ret
        rw [he.out]
        exact ⟨rfl, rfl⟩
end Go.Proofs.YtipomnogabnfdaaGreatDoor
