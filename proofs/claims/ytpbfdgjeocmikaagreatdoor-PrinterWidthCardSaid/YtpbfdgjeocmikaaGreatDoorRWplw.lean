/-
  Contracts of Compact and of the law's num; the page's example, as the law asks it.
  The walk of PrinterPlain.
-/
import Derived.Test.YtpbfdgjeocmikaaGreatDoorRWio
set_option linter.unusedVariables false
set_option linter.unusedSimpArgs false
namespace Go.Proofs.YtpbfdgjeocmikaaGreatDoor
open Go.RowKit Go.Lib

theorem lnum9_c (z : Int) (w : World) : Calls Tryz.prog 12 #[.int .i64 z] w fun e w' => e = .returned (.int .i64 z) ∧ w = w' := by
  go_enter Tryz.func12, Tryz.ntmps12
  go_wp2_with fail
  go_ret
  exact ⟨rfl, rfl⟩

/-- The page's example: an object of a list of a number. -/
def exL : VT := .mk 5 false [] 0 ⟨#[]⟩ [numT 1] []
def exO : VT := .mk 6 false [] 0 ⟨#[]⟩ [exL] [⟨#[97]⟩]
theorem err_exO : errV exO = 0 := by kernel_rfl
theorem out_exO : prV quoteC numP 1 0 exO = [123, 10, 32, 34, 97, 34, 58, 32, 91, 10, 32, 32, 49, 10, 32, 93, 10, 125] := by kernel_rfl
set_option maxRecDepth 100000 in
set_option maxHeartbeats 4000000 in
theorem alive9_c (w : World) (hG : Gl w.heap.size w) : Calls Tryz.prog 8 #[] w fun e w' => e = .returned (.bool true) ∧ Below w.heap.size w w' := by
  obtain ⟨kb, hkb⟩ : ∃ b, w.heap.size = b := ⟨_, rfl⟩
  obtain ⟨w0, hw0⟩ : ∃ w0, w.alloc (.cells #[.string ⟨#[97]⟩] 9) = w0 := ⟨_, rfl⟩
  have hb0 : Below kb w w0 := by rw [← hw0, ← hkb]; exact (Below.refl _ w).alloc (Nat.le_refl _) _
  have hm0 : w0.heap[kb]? = some (.cells #[.string ⟨#[97]⟩] 9) := by rw [← hw0, ← hkb]; exact World.alloc_heap_new _ _
  have hs0 : w0.heap.size = kb + 1 := by rw [← hw0, World.size_alloc, hkb]
  rw [hkb] at hG
  have HW0 := Lib.hid hw0
  have HC1 := num_c 1 (by omega) w0
  rw [hs0] at HC1
  have HG := Lib.hid hG
  have HB0 := Lib.hid hb0
  have HM0 := Lib.hid hm0
  clear hG hb0 hm0 hw0
  go_enter Tryz.func8, Tryz.ntmps8
  go_wp2_with fail
  rw [HW0.out]
  try rw [hkb]
  refine HC1.mono ?_
  rintro e' w1 ⟨cs1, rfl, hv1, hb1⟩
  clear HC1
  obtain ⟨k1, n1, A1, m1, c1, e1, t1, LA1, lm1, lc1, KA1, km1, kc1, rfl, -, -⟩ := hv1.seven
  obtain ⟨rb, hrb⟩ : ∃ b, w1.heap.size = b := ⟨_, rfl⟩
  obtain ⟨w4, hw4⟩ : ∃ w4, ((w1.alloc (.cells #[.int .i64 k1, .bool n1, .slice A1 m1 c1, .int .i64 e1, .string t1, .slice LA1 lm1 lc1, .slice KA1 km1 kc1] 28)).alloc (.cells #[.int .i64 5, .bool false, .slice none 0 0, .int .i64 0, .string ⟨#[]⟩, .slice (some ⟨rb, 0, none⟩) 1 1, .slice none 0 0] 28)).alloc (.cells #[.int .i64 6, .bool false, .slice none 0 0, .int .i64 0, .string ⟨#[]⟩, .slice (some ⟨rb + 1, 0, none⟩) 1 1, .slice (some ⟨kb, 0, none⟩) 1 1] 28) = w4 := ⟨_, rfl⟩
  have hkr : kb + 1 ≤ rb := by have := hb1.size; omega
  have hb4 : Below rb w1 w4 := by rw [← hw4, ← hrb]; exact (((Below.refl _ w1).alloc (Nat.le_refl _) _).alloc (by rw [World.size_alloc]; omega) _).alloc (by rw [World.size_alloc, World.size_alloc]; omega) _
  have hr4 : w4.heap[rb]? = some (.cells #[.int .i64 k1, .bool n1, .slice A1 m1 c1, .int .i64 e1, .string t1, .slice LA1 lm1 lc1, .slice KA1 km1 kc1] 28) := by
    rw [← hw4, Below.heap_alloc _ _ _ (by simp; omega), Below.heap_alloc _ _ _ (by simp; omega), ← hrb]; exact World.alloc_heap_new _ _
  have hl4 : w4.heap[rb + 1]? = some (.cells #[.int .i64 5, .bool false, .slice none 0 0, .int .i64 0, .string ⟨#[]⟩, .slice (some ⟨rb, 0, none⟩) 1 1, .slice none 0 0] 28) := by
    rw [← hw4, Below.heap_alloc _ _ _ (by simp; omega)]
    have := World.alloc_heap_new (w1.alloc (.cells #[.int .i64 k1, .bool n1, .slice A1 m1 c1, .int .i64 e1, .string t1, .slice LA1 lm1 lc1, .slice KA1 km1 kc1] 28)) (.cells #[.int .i64 5, .bool false, .slice none 0 0, .int .i64 0, .string ⟨#[]⟩, .slice (some ⟨rb, 0, none⟩) 1 1, .slice none 0 0] 28)
    rwa [World.size_alloc, hrb] at this
  have ho4 : w4.heap[rb + 1 + 1]? = some (.cells #[.int .i64 6, .bool false, .slice none 0 0, .int .i64 0, .string ⟨#[]⟩, .slice (some ⟨rb + 1, 0, none⟩) 1 1, .slice (some ⟨kb, 0, none⟩) 1 1] 28) := by
    rw [← hw4]
    have := World.alloc_heap_new ((w1.alloc (.cells #[.int .i64 k1, .bool n1, .slice A1 m1 c1, .int .i64 e1, .string t1, .slice LA1 lm1 lc1, .slice KA1 km1 kc1] 28)).alloc (.cells #[.int .i64 5, .bool false, .slice none 0 0, .int .i64 0, .string ⟨#[]⟩, .slice (some ⟨rb, 0, none⟩) 1 1, .slice none 0 0] 28)) (.cells #[.int .i64 6, .bool false, .slice none 0 0, .int .i64 0, .string ⟨#[]⟩, .slice (some ⟨rb + 1, 0, none⟩) 1 1, .slice (some ⟨kb, 0, none⟩) 1 1] 28)
    rwa [World.size_alloc, World.size_alloc, hrb] at this
  have hs4 : w4.heap.size = rb + 3 := by rw [← hw4]; simp; omega
  have hk4 : w4.heap[kb]? = some (.cells #[.string ⟨#[97]⟩] 9) := (hb4.block kb (by omega)).trans ((hb1.block kb (by omega)).trans HM0.out)
  have hbw : Below kb w w4 := HB0.out.trans ((hb1.mono (by omega)).trans (hb4.mono (by omega)))
  have hv1' : VIn w4 (fun b => b < w4.heap.size) (numT 1) [.int .i64 k1, .bool n1, .slice A1 m1 c1, .int .i64 e1, .string t1, .slice LA1 lm1 lc1, .slice KA1 km1 kc1] := (hv1.keep fun p hp => hb4.cell (by have := hp.2; omega)).more fun b hb => by have := hb.2; omega
  have hvL : VIn w4 (fun b => b < w4.heap.size) exL [.int .i64 5, .bool false, .slice none 0 0, .int .i64 0, .string ⟨#[]⟩, .slice (some ⟨rb, 0, none⟩) 1 1, .slice none 0 0] :=
    .mk (cs := fun _ => [.int .i64 k1, .bool n1, .slice A1 m1 c1, .int .i64 e1, .string t1, .slice LA1 lm1 lc1, .slice KA1 km1 kc1]) (Rd.nil _ _ _) (by omega) (by decide) ⟨rfl, fun h0 => absurd h0 (by omega)⟩ (by omega) rfl (by omega) (Nat.le_refl _)
      (fun _ => ⟨rb, 0, rfl, by show rb < _; omega, fun i hi => by
        obtain rfl : i = 0 := by omega
        exact ⟨rfl, fun t ht => by
          match t, ht with
          | 0, _ => exact cell_at hr4 rfl
          | 1, _ => exact cell_at hr4 rfl
          | 2, _ => exact cell_at hr4 rfl
          | 3, _ => exact cell_at hr4 rfl
          | 4, _ => exact cell_at hr4 rfl
          | 5, _ => exact cell_at hr4 rfl
          | 6, _ => exact cell_at hr4 rfl⟩⟩)
      (fun i x hi => by
        match i, hi with
        | 0, hi => injection hi with hi; subst hi; exact hv1')
  have hvO : VIn w4 (fun b => b < w4.heap.size) exO [.int .i64 6, .bool false, .slice none 0 0, .int .i64 0, .string ⟨#[]⟩, .slice (some ⟨rb + 1, 0, none⟩) 1 1, .slice (some ⟨kb, 0, none⟩) 1 1] :=
    .mk (cs := fun _ => [.int .i64 5, .bool false, .slice none 0 0, .int .i64 0, .string ⟨#[]⟩, .slice (some ⟨rb, 0, none⟩) 1 1, .slice none 0 0]) (Rd.nil _ _ _) (by omega) (by decide) ⟨rfl, fun _ => ⟨kb, 0, rfl, by show kb < _; omega, fun i k hi => by
        match i, hi with
        | 0, hi => injection hi with hi; subst hi; exact ⟨cell_at hk4 rfl, by decide⟩⟩⟩ (by omega) rfl (by omega) (Nat.le_refl _)
      (fun _ => ⟨rb + 1, 0, rfl, by show rb + 1 < _; omega, fun i hi => by
        obtain rfl : i = 0 := by omega
        exact ⟨rfl, fun t ht => by
          match t, ht with
          | 0, _ => exact cell_at hl4 rfl
          | 1, _ => exact cell_at hl4 rfl
          | 2, _ => exact cell_at hl4 rfl
          | 3, _ => exact cell_at hl4 rfl
          | 4, _ => exact cell_at hl4 rfl
          | 5, _ => exact cell_at hl4 rfl
          | 6, _ => exact cell_at hl4 rfl⟩⟩)
      (fun i x hi => by
        match i, hi with
        | 0, hi => injection hi with hi; subst hi; exact hvL)
  have hc := indent_c 1 w4 (((HG.out.low hbw)).up (by omega)) hvO (fun b h => h)
  have HC := Lib.hid hc
  have HBW := Lib.hid hbw
  have HW4 := Lib.hid hw4
  clear hc hvO hvL hv1' hv1 hk4 ho4 hl4 hr4 hb4 hbw hw4 hb1
  go_wp2_with fail
  try rw [hrb]
  rw [HW4.out]
  refine HC.out.mono ?_
  rintro e9 w5 ⟨he, hb5⟩
  have hBw : Below kb w w5 := HBW.out.trans (hb5.mono (by omega))
  have HBW5 := Lib.hid hBw
  clear hb5 hBw
  unfold IndE at he
  rw [err_exO, if_neg (by decide), if_neg (by decide), show ((1 : Int).toNat) = 1 from rfl, out_exO] at he
  rcases he with ⟨-, rfl⟩ | ⟨hl, -⟩
  case inr => exact absurd hl (by decide)
  go_wp2_with (first | (go_at_call 12; refine (lnum9_c _ _).mono ?_; rintro e' w' ⟨rfl, rfl⟩))
  go_ret
  rw [hkb]
  exact ⟨rfl, HBW5.out⟩
end Go.Proofs.YtpbfdgjeocmikaaGreatDoor

namespace Go.Proofs.YtpbfdgjeocmikaaGreatDoor
open Go.RowKit Go.Lib

theorem drop_at (a : ByteArray) (k : Nat) (h : k < a.size) : a.data.toList.drop k = a[k] :: a.data.toList.drop (k + 1) := by
  have hl : k < a.data.toList.length := by rw [Array.length_toList]; exact h
  rw [List.drop_eq_getElem_cons hl]
  rfl
theorem u8n {c : UInt8} {n : Nat} (h : n < 256) : c = n.toUInt8 ↔ (c.toNat : Int) = n := by
  constructor
  · rintro rfl
    show ((n % 256 : Nat) : Int) = n
    omega
  · intro e
    apply UInt8.toNat.inj
    show c.toNat = n % 256
    omega

end Go.Proofs.YtpbfdgjeocmikaaGreatDoor
