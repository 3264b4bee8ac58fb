/-
  Contract of nat.guessDigit: from the highest limbs alone, how often the divisor goes into the rest, or one more.
  Contract of nat.takeMultiple: over a window of a row of one's own, it takes a multiple out, in place, and tells whether the highest limb could not lend what is missing.
  Contract of nat.takeOut: over a window of a row of one's own, it takes the divisor out as often as it goes in, and answers how often.
  Contracts of nat.shiftLeft and nat.shiftRight: a number times, and divided by, a power of two below a limb, in memory of its own.
  Contract of nat.shiftRight: a number divided by a power of two below a limb, in memory of its own.
  The two functions of math/bits that the code calls, by the shelf's contracts, laid in plain words at this seat's program; and what a limb's length says.
  Contract of nat.divideLong: quotient and rest by a divisor of two limbs or more.
  Contracts of nat.divide and nat.Div.
  Contracts of nat.bitLen and nat.powerOfTwo; reading a row's number off the world.
  Contracts of nat.root and nat.Root: the greatest number whose square is not above the number.
-/
import Derived.Test.YtobfeneeehmpcaaGreatDoorYNlimb
import Derived.BigQuiet
import Derived.Test.YtobfeneeehmpcaaGreatDoorYNaddm
import Derived.Test.YtobfeneeehmpcaaGreatDoorYNcomp
import Derived.Shelf.Small.Bits
import Derived.Test.YtobfeneeehmpcaaGreatDoorProg
import Derived.Test.YtobfeneeehmpcaaGreatDoorYPow
import Derived.Lib.ItoaNum
import Derived.BigRegion
import Derived.Deep.RegionWith
import Derived.Test.YtobfeneeehmpcaaGreatDoorYNapi
import Derived.OwnWalk
set_option linter.unusedVariables false
set_option linter.unusedSimpArgs false
namespace Go.Proofs.YtobfeneeehmpcaaGreatDoor
open Go.RowKit

/-- The invariant's first half: a guess that fails the test is above the quotient. -/
theorem guess_above {R R3 D D2 P top v1 v0 u0 g left : Nat} (hD : D2 * P ≤ D) (hR : R < (R3 + 1) * P) (hR3 : R3 = top * 4294967296 + u0) (hD2 : D2 = v1 * 4294967296 + v0)
    (htop : top = g * v1 + left) (h : left * 4294967296 + u0 < g * v0) : R < g * D := by
  have h1 : R3 + 1 ≤ g * D2 := by
    rw [hR3, hD2, htop, Nat.mul_add, Nat.add_mul, Nat.mul_assoc]
    omega
  have h2 : (R3 + 1) * P ≤ g * D2 * P := Nat.mul_le_mul_right _ h1
  have h3 : g * D2 * P ≤ g * D := by rw [Nat.mul_assoc]; exact Nat.mul_le_mul_left _ hD
  omega
/-- Its end: a guess that passes is the quotient or one more. -/
theorem guess_near {R R3 D D2 P top v1 v0 u0 g left : Nat} (hD : D < (D2 + 1) * P) (hR : R3 * P ≤ R) (hR3 : R3 = top * 4294967296 + u0) (hD2 : D2 = v1 * 4294967296 + v0)
    (htop : top = g * v1 + left) (h : g * v0 ≤ left * 4294967296 + u0) (hg : g ≤ D2 + 1) (hg1 : 1 ≤ g) : (g - 1) * D ≤ R := by
  have h1 : g * D2 ≤ R3 := by
    rw [hR3, hD2, htop, Nat.mul_add, Nat.add_mul, Nat.mul_assoc]
    omega
  have h2 : (g - 1) * (D2 + 1) ≤ g * D2 := by
    obtain ⟨k, rfl⟩ : ∃ k, g = k + 1 := ⟨g - 1, by omega⟩
    rw [Nat.add_sub_cancel, Nat.mul_add, Nat.add_mul]
    omega
  have h3 : (g - 1) * D ≤ (g - 1) * ((D2 + 1) * P) := Nat.mul_le_mul_left _ (by omega)
  have h4 : (g - 1) * ((D2 + 1) * P) ≤ R := by
    rw [← Nat.mul_assoc]
    exact Nat.le_trans (Nat.mul_le_mul_right _ (Nat.le_trans h2 h1)) hR
  omega
/-- A number by its two highest limbs. -/
theorem val_top2 {ys : List Nat} {n : Nat} (hl : ys.length = n + 2) : val ys = val (ys.take n) + bp n * (nth ys (n + 1) * 4294967296 + nth ys n) := by
  have h1 : ys.take (n + 2) = ys := List.take_of_length_le (by omega)
  have h2 := val_take_succ (xs := ys) (n + 1)
  have h3 := val_take_succ (xs := ys) n
  rw [show n + 1 + 1 = n + 2 from rfl, h1, h3, bp_succ] at h2
  rw [h2, Nat.mul_add, Nat.mul_comm (nth ys (n + 1)), ← Nat.mul_assoc, Nat.mul_comm (bp n) 4294967296]
  omega
theorem val_top3 {xs : List Nat} {n : Nat} (hl : xs.length = n + 3) : val xs = val (xs.take n) + bp n * ((nth xs (n + 2) * 4294967296 + nth xs (n + 1)) * 4294967296 + nth xs n) := by
  have h1 : xs.take (n + 3) = xs := List.take_of_length_le (by omega)
  have h2 := val_take_succ (xs := xs) (n + 2)
  have h3 := val_top2 (ys := xs.take (n + 2)) (n := n) (by rw [List.length_take]; omega)
  rw [List.take_take, Nat.min_eq_left (by omega), nth_take (by omega), nth_take (by omega)] at h3
  rw [show n + 2 + 1 = n + 3 from rfl, h1, h3, show n + 2 = n + 1 + 1 from rfl, bp_succ, bp_succ] at h2
  rw [h2, show n + 2 = n + 1 + 1 from rfl]
  have e : 4294967296 * (4294967296 * bp n) * nth xs (n + 1 + 1) = bp n * (nth xs (n + 1 + 1) * 4294967296 * 4294967296) := by
    simp only [Nat.mul_assoc, Nat.mul_comm, Nat.mul_left_comm]
  rw [e]
  simp only [Nat.mul_add, Nat.add_mul]
  omega
theorem val_take_lt {xs : List Nat} (h : L32 xs) {n : Nat} (hn : n ≤ xs.length) : val (xs.take n) < bp n := by
  have := val_lt (h.take n)
  rwa [List.length_take, Nat.min_eq_left hn] at this

set_option maxRecDepth 100000 in
set_option maxHeartbeats 2000000 in
theorem guessDigit_c {S S' : Nat → Prop} {n c d : Nat} {A B : Option Addr} {xs ys : List Nat} (w : World) (ha : Rd w S A (n + 3) xs) (hb : Rd w S' B (n + 2) ys) (hn : n ≤ 1048576)
    (hv1 : 2147483648 ≤ nth ys (n + 1)) (hlow : val (xs.drop 1) < val ys) :
    Calls Tryz.prog 158 #[.slice A (n + 3) c, .slice B (n + 2) d] w fun e w' => ∃ g, e = .returned (.int .u32 ((g : Nat) : Int)) ∧ g < 4294967296 ∧ val xs < (g + 1) * val ys ∧ (1 ≤ g → (g - 1) * val ys ≤ val xs) ∧ ∃ k, w' = w.drewN k := by
  obtain ⟨b1, o1, rfl, hSb1, hu2⟩ := ha.at_ (k := n + 2) (by omega)
  obtain ⟨b2, o2, rfl, hSb2, hd1⟩ := hb.at_ (k := n + 1) (by omega)
  have hu1 : w.cell? ⟨b1, o1 + (n + 1), none⟩ = some (.int .u32 (nth xs (n + 1) : Int)) := by
    obtain ⟨b, o, e, _, h⟩ := ha.at_ (k := n + 1) (by omega)
    injection e with e; injection e with e1 e2; subst e1 e2; exact h
  have hu0 : w.cell? ⟨b1, o1 + n, none⟩ = some (.int .u32 (nth xs n : Int)) := by
    obtain ⟨b, o, e, _, h⟩ := ha.at_ (k := n) (by omega)
    injection e with e; injection e with e1 e2; subst e1 e2; exact h
  have hd0 : w.cell? ⟨b2, o2 + n, none⟩ = some (.int .u32 (nth ys n : Int)) := by
    obtain ⟨b, o, e, _, h⟩ := hb.at_ (k := n) (by omega)
    injection e with e; injection e with e1 e2; subst e1 e2; exact h
  have b0 := ha.lt n
  have b1' := ha.lt (n + 1)
  have b2' := ha.lt (n + 2)
  have c0 := hb.lt n
  have c1 := hb.lt (n + 1)
  have hxl := ha.len
  have hyl := hb.len
  obtain ⟨u0, hu0e⟩ : ∃ u, u = nth xs n := ⟨_, rfl⟩
  obtain ⟨u1, hu1e⟩ : ∃ u, u = nth xs (n + 1) := ⟨_, rfl⟩
  obtain ⟨u2, hu2e⟩ : ∃ u, u = nth xs (n + 2) := ⟨_, rfl⟩
  obtain ⟨v0, hv0e⟩ : ∃ u, u = nth ys n := ⟨_, rfl⟩
  obtain ⟨v1, hv1e⟩ : ∃ u, u = nth ys (n + 1) := ⟨_, rfl⟩
  obtain ⟨top, htop⟩ : ∃ t, t = u2 * 4294967296 + u1 := ⟨_, rfl⟩
  have hR := val_top3 hxl
  have hD := val_top2 hyl
  have hRl := val_take_lt ha.l32 (n := n) (by omega)
  have hDl := val_take_lt hb.l32 (n := n) (by omega)
  rw [← hu0e, ← hu1e, ← hu2e, ← htop] at hR
  rw [← hv0e, ← hv1e] at hD
  rw [← hu0e] at hu0 b0
  rw [← hu1e] at hu1 b1'
  rw [← hu2e] at hu2 b2'
  rw [← hv0e] at hd0 c0
  rw [← hv1e] at hd1 c1 hv1
  have e1 : val xs < (top * 4294967296 + u0 + 1) * bp n := by rw [hR, Nat.add_mul, Nat.mul_comm (bp n)]; omega
  have e2 : (top * 4294967296 + u0) * bp n ≤ val xs := by rw [hR, Nat.mul_comm (bp n)]; omega
  have e3 : (v1 * 4294967296 + v0) * bp n ≤ val ys := by rw [hD, Nat.mul_comm (bp n)]; exact Nat.le_add_left _ _
  have e4 : val ys < (v1 * 4294967296 + v0 + 1) * bp n := by rw [hD, Nat.add_mul (v1 * 4294967296 + v0), Nat.mul_comm (bp n)]; omega
  have hsplit := val_split xs 1 (by omega)
  have hx0 := val_take_lt ha.l32 (n := 1) (by omega)
  have hbp1 : bp 1 = 4294967296 := by unfold bp; exact Nat.pow_one _
  rw [hbp1] at hsplit hx0
  have e5 : val xs < 4294967296 * val ys := by omega
  have e6 : u2 ≤ v1 := by
    have h1 := val_take_succ (xs := xs.drop 1) (n + 1)
    rw [List.take_of_length_le (by rw [List.length_drop]; omega), nth_drop, show 1 + (n + 1) = n + 2 by omega, ← hu2e] at h1
    have h2 := val_take_succ (xs := ys) (n + 1)
    rw [List.take_of_length_le (by omega), ← hv1e] at h2
    have h3 := val_take_lt hb.l32 (n := n + 1) (by omega)
    rcases Nat.lt_or_ge v1 u2 with h4 | h4
    · have h5 : bp (n + 1) * (v1 + 1) ≤ bp (n + 1) * u2 := Nat.mul_le_mul_left _ h4
      rw [Nat.mul_add] at h5
      omega
    · exact h4
  have htl : top ≤ v1 * 4294967296 + 4294967295 := by
    have : u2 * 4294967296 ≤ v1 * 4294967296 := Nat.mul_le_mul_right _ e6
    omega
  have E1 := Lib.hid e1
  have E2 := Lib.hid e2
  have E3 := Lib.hid e3
  have E4 := Lib.hid e4
  have E5 := Lib.hid e5
  have HT := Lib.hid htl
  have hbit := or_shl b2' b1'
  rw [← htop] at hbit
  have htb : top < 18446744073709551616 := by omega
  have hv1z : ((v1 : Nat) : Int) ≠ 0 := by omega
  obtain ⟨g0, hg0⟩ : ∃ g, g = top / v1 := ⟨_, rfl⟩
  obtain ⟨l0, hl0⟩ : ∃ g, g = top % v1 := ⟨_, rfl⟩
  have hdm : top = g0 * v1 + l0 := by rw [hg0, hl0, Nat.mul_comm]; exact (Nat.div_add_mod top v1).symm
  have hl0v : l0 < v1 := by rw [hl0]; exact Nat.mod_lt _ (by omega)
  have hg0l : g0 ≤ 4294967297 := by
    rw [hg0]
    have : top / v1 < 4294967298 := by
      rw [Nat.div_lt_iff_lt_mul (by omega)]
      omega
    omega
  have hq : (top : Int) / (v1 : Int) = (g0 : Int) := by rw [hg0, Int.natCast_ediv]
  have hr : (top : Int) % (v1 : Int) = (l0 : Int) := by rw [hl0, Int.natCast_emod]
  have hstart : val xs < (g0 + 1) * val ys := by
    have h1 : top + 1 ≤ (g0 + 1) * v1 := by rw [Nat.add_mul]; omega
    have h2 : (top * 4294967296 + u0 + 1) * bp n ≤ (top + 1) * 4294967296 * bp n := Nat.mul_le_mul_right _ (by omega)
    have h3 : (top + 1) * 4294967296 * bp n ≤ (g0 + 1) * v1 * 4294967296 * bp n := Nat.mul_le_mul_right _ (Nat.mul_le_mul_right _ h1)
    have h4 : (g0 + 1) * v1 * 4294967296 * bp n ≤ (g0 + 1) * val ys := by
      rw [Nat.mul_assoc, Nat.mul_assoc]
      refine Nat.mul_le_mul_left _ (Nat.le_trans ?_ e3)
      rw [← Nat.mul_assoc]
      exact Nat.mul_le_mul_right _ (by omega)
    omega
  have HS := Lib.hid hstart
  have HDM := Lib.hid hdm
  clear hstart hdm hg0 hl0 e1 e2 e3 e4 e5 e6 hR hD hRl hDl hsplit hx0 hbp1 htl htop hxl hyl hu0e hu1e hu2e hv0e hv1e hlow
  go_enter Tryz.func158, Tryz.ntmps158
  go_wp2
  go_quiet (fail)
  go_wp2
  go_quiet (fail)
  go_wp2
  go_quiet (fail)
  go_wp2
  go_loop [9, 10] (fun gv lv => ∃ g left : Nat, gv = .int .u64 (g : Int) ∧ lv = .int .u64 (left : Int) ∧ g ≤ 4294967297 ∧ left < 4294967296 ∧ Hid (top = g * v1 + left) ∧ Hid (val xs < (g + 1) * val ys)) (fun gv _ => (RowKit.intOf gv).toNat)
  case atStart => exact ⟨g0, l0, rfl, congrArg (Value.int IntKind.u64) hr, hg0l, by omega, HDM, HS⟩
  case round =>
    obtain ⟨g, left, rfl, rfl, hg, hleft, htop, hab⟩ := hrel
    have hor := or_shl hleft b0
    by_cases hbig : 4294967296 ≤ g
    · have hbi : 0 < (g : Int) / 4294967296 := by omega
      have hdown : val xs < g * val ys := Nat.lt_of_lt_of_le E5.out (Nat.mul_le_mul_right _ hbig)
      have hg1 : 1 ≤ g := by
        rcases Nat.eq_zero_or_pos g with e | e
        · rw [e, Nat.zero_mul] at hdown; omega
        · exact e
      have htop' : top = (g - 1) * v1 + (left + v1) := by
        have h1 := htop.out
        obtain ⟨k, rfl⟩ : ∃ k, g = k + 1 := ⟨g - 1, by omega⟩
        rw [Nat.add_sub_cancel, h1, Nat.add_mul]; omega
      have HTOP := Lib.hid htop'
      have HDN : Hid (val xs < (g - 1 + 1) * val ys) := by
        show _ < _
        rw [Nat.sub_add_cancel hg1]; exact hdown
      clear hdown
      by_cases hfin : 4294967296 ≤ left + v1
      · have hfi : 0 < ((left : Int) + (v1 : Int)) / 4294967296 := by omega
        have hgl : g ≤ 4294967296 := by
          rcases Nat.lt_or_ge 4294967296 g with h1 | h1
          · have h2 : 4294967296 * v1 ≤ (g - 1) * v1 := Nat.mul_le_mul_right _ (by omega)
            have h3 := HT.out
            omega
          · exact h1
        have hend : 1 ≤ g - 1 → (g - 1 - 1) * val ys ≤ val xs := fun h1 => guess_near (P := bp n) E4.out E2.out rfl rfl htop' (by
          have h2 : (g - 1) * v0 ≤ 4294967296 * 4294967296 := Nat.mul_le_mul (by omega) (by omega)
          have h3 : 4294967296 * 4294967296 ≤ (left + v1) * 4294967296 := Nat.mul_le_mul_right _ hfin
          omega) (by omega) h1
        have HE := Lib.hid hend
        clear hend htop'
        go_wp2
        go_ret
        refine ⟨g - 1, congrArg Ending.returned (congrArg (Value.int .u32) (by omega)), by omega, HDN.out, HE.out, _, rfl⟩
      · have hfi : ¬ 0 < ((left : Int) + (v1 : Int)) / 4294967296 := by omega
        clear htop'
        go_wp2
        refine ⟨⟨g - 1, by omega, left + v1, by omega, by omega, by omega, HTOP, HDN⟩, by simp only [RowKit.intOf]; omega⟩
    · have hbi : ¬ 0 < (g : Int) / 4294967296 := by omega
      obtain ⟨pv, hpv⟩ : ∃ p, p = g * v0 := ⟨_, rfl⟩
      have hgv : (g : Int) * (v0 : Int) = (pv : Int) := by rw [hpv]; simp
      have hpb : pv ≤ 4294967295 * 4294967295 := by rw [hpv]; exact Nat.mul_le_mul (by omega) (by omega)
      obtain ⟨lv, hlv⟩ : ∃ p, p = left * 4294967296 + u0 := ⟨_, rfl⟩
      rw [← hlv] at hor
      have hlb : lv < 18446744073709551616 := by omega
      by_cases hc : lv < pv
      · have hci : (lv : Int) < (pv : Int) := by omega
        have hdown : val xs < g * val ys := guess_above (P := bp n) E3.out E1.out rfl rfl htop.out (by rw [← hlv, ← hpv]; exact hc)
        have HPV := Lib.hid hpv
        have HLV := Lib.hid hlv
        clear hpv hlv
        have hg1 : 1 ≤ g := by
          rcases Nat.eq_zero_or_pos g with e | e
          · rw [e, Nat.zero_mul] at hdown; omega
          · exact e
        have htop' : top = (g - 1) * v1 + (left + v1) := by
          have h1 := htop.out
          obtain ⟨k, rfl⟩ : ∃ k, g = k + 1 := ⟨g - 1, by omega⟩
          rw [Nat.add_sub_cancel, h1, Nat.add_mul]; omega
        have HTOP := Lib.hid htop'
        have HDN : Hid (val xs < (g - 1 + 1) * val ys) := by
          show _ < _
          rw [Nat.sub_add_cancel hg1]; exact hdown
        clear hdown
        by_cases hfin : 4294967296 ≤ left + v1
        · have hfi : 0 < ((left : Int) + (v1 : Int)) / 4294967296 := by omega
          have hgl : g ≤ 4294967296 := by
            rcases Nat.lt_or_ge 4294967296 g with h1 | h1
            · have h2 : 4294967296 * v1 ≤ (g - 1) * v1 := Nat.mul_le_mul_right _ (by omega)
              have h3 := HT.out
              omega
            · exact h1
          have hend : 1 ≤ g - 1 → (g - 1 - 1) * val ys ≤ val xs := fun h1 => guess_near (P := bp n) E4.out E2.out rfl rfl htop' (by
            have h2 : (g - 1) * v0 ≤ 4294967296 * 4294967296 := Nat.mul_le_mul (by omega) (by omega)
            have h3 : 4294967296 * 4294967296 ≤ (left + v1) * 4294967296 := Nat.mul_le_mul_right _ hfin
            omega) (by omega) h1
          have HE := Lib.hid hend
          clear hend htop'
          go_wp2
          go_ret
          refine ⟨g - 1, congrArg Ending.returned (congrArg (Value.int .u32) (by omega)), by omega, HDN.out, HE.out, _, rfl⟩
        · have hfi : ¬ 0 < ((left : Int) + (v1 : Int)) / 4294967296 := by omega
          clear htop'
          go_wp2
          refine ⟨⟨g - 1, by omega, left + v1, by omega, by omega, by omega, HTOP, HDN⟩, by simp only [RowKit.intOf]; omega⟩
      · have hci : ¬ (lv : Int) < (pv : Int) := by omega
        have hend : 1 ≤ g → (g - 1) * val ys ≤ val xs := fun h1 => guess_near (P := bp n) E4.out E2.out rfl rfl htop.out (by rw [← hlv, ← hpv]; omega) (by omega) h1
        have HE := Lib.hid hend
        clear hend hpv hlv
        go_wp2
        go_ret
        refine ⟨g, congrArg Ending.returned (congrArg (Value.int .u32) (by omega)), by omega, hab.out, HE.out, _, rfl⟩
end Go.Proofs.YtobfeneeehmpcaaGreatDoor

namespace Go.Proofs.YtobfeneeehmpcaaGreatDoor
open Go.RowKit

/-- One step of the difference, in numbers. -/
theorem takem_step {new old ys : List Nat} {k carry carry' f t x : Nat} (hl : new.length = k) (hv : val new + f * val (ys.take k) = val (old.take k) + bp k * carry) (ht : t = carry + f * nth ys k)
    (hx : x + t = nth old k + 4294967296 * carry') :
    val (new ++ [x]) + f * val (ys.take (k + 1)) = val (old.take (k + 1)) + bp (k + 1) * carry' := by
  rw [val_snoc, hl, val_take_succ, val_take_succ, bp_succ]
  have e : bp k * x + bp k * t = bp k * nth old k + bp k * (4294967296 * carry') := by rw [← Nat.mul_add, hx, Nat.mul_add]
  have e2 : bp k * t = bp k * carry + f * (bp k * nth ys k) := by
    rw [ht, Nat.mul_add, ← Nat.mul_assoc (bp k) f, Nat.mul_comm (bp k) f, Nat.mul_assoc f]
  have e3 : bp k * (4294967296 * carry') = 4294967296 * bp k * carry' := by rw [← Nat.mul_assoc, Nat.mul_comm (bp k)]
  rw [Nat.mul_add f]
  omega

theorem takeMultiple_c {S : Nat → Prop} {base g n c m c2 c3 h : Nat} {B : Option Addr} {old ys : List Nat} (pre post : List Nat) (off f : Nat) (w : World) (hoff : off = pre.length)
    (hown : Res w base (some ⟨g, 0, none⟩) n c (pre ++ (old ++ (h :: post)))) (hlen : old.length = m) (hy : Rd w S B m ys) (hS : ∀ b, S b → b ≠ g) (hf : f < 4294967296) (hm : m ≤ 1048576) (hc2 : m + 1 ≤ c2) :
    Calls Tryz.prog 159 #[.slice (some ⟨g, off, none⟩) (m + 1) c2, .slice B m c3, .int .u32 f] w fun e w' =>
      ∃ new carry, e = .returned (.bool (decide (h < carry))) ∧ new.length = m ∧ L32 new ∧ val new + f * val ys = val old + bp m * carry ∧
        Res w' base (some ⟨g, 0, none⟩) n c (pre ++ (new ++ (h :: post))) ∧ w.grownBy w' (some g) := by
  subst hoff
  have hyl := hy.len
  have hrow := hown.len
  simp only [List.length_append, List.length_cons] at hrow
  have HM := Lib.hid hlen
  have HY := Lib.hid hyl
  have hpn : pre.length + m < n := by omega
  clear hlen hyl hrow
  go_enter Tryz.func159, Tryz.ntmps159
  go_wp2
  go_loopw [7, 13] (fun cr i wr => ∃ (k carry : Nat) (new : List Nat), k ≤ m ∧ i = .int .i64 (k : Int) ∧ cr = .int .u64 (carry : Int) ∧ carry < 4294967296 ∧ L32 new ∧ Hid (new.length = k) ∧
      Hid (val new + f * val (ys.take k) = val (old.take k) + bp k * carry) ∧ Res wr base (some ⟨g, 0, none⟩) n c (pre ++ (new ++ (old.drop k ++ (h :: post)))) ∧ w.grownBy wr (some g)) (fun _ i _ => m - (RowKit.intOf i).toNat)
  case atStart => exact ⟨0, 0, [], Nat.zero_le _, rfl, rfl, by omega, L32.nil, rfl, by show _ = _; simp [val], hown, World.grownBy.refl w _⟩
  case round =>
    obtain ⟨k, carry, new, hk, rfl, rfl, hcar, hnew, hlen, hval, hres, hg⟩ := hrel
    by_cases h0 : k = m
    · subst h0
      have e1 : old.take k = old := List.take_of_length_le (by rw [HM.out]; omega)
      have e2 : ys.take k = ys := List.take_of_length_le (by rw [HY.out]; omega)
      have e3 : old.drop k = [] := List.drop_of_length_le (by rw [HM.out]; omega)
      have hv := Lib.hid hval.out
      rw [e1, e2] at hv
      rw [e3, List.nil_append] at hres
      clear e1 e2 e3 hval
      have hch : wr.cell? ⟨g, pre.length + k, none⟩ = some (.int .u32 (h : Int)) := by
        rw [hres.cell hpn, nth_append_right (by omega), nth_append_right (by rw [hlen.out]; omega), hlen.out, show pre.length + k - pre.length - k = 0 by omega, nth_cons_zero]
      have hh : h < 4294967296 := (L32.cons.1 (L32.append.1 (L32.append.1 hown.l32).2).2).1
      go_wp2
      go_ret
      exact ⟨new, carry, by simp, hlen.out, hnew, hv.out, hres, hg⟩
    · have hlt : k < m := by omega
      obtain ⟨b2, o2, rfl, hSb, hc1⟩ := hy.at_ hlt
      have hcy : wr.cell? ⟨b2, o2 + k, none⟩ = some (.int .u32 (nth ys k : Int)) := only_cell hg (hS _ hSb) hc1
      have hod : old.drop k = nth old k :: old.drop (k + 1) := drop_eq_nth (by rw [HM.out]; exact hlt)
      have hoc : wr.cell? ⟨g, pre.length + k, none⟩ = some (.int .u32 (nth old k : Int)) := by
        rw [hres.cell (by omega), nth_mid pre new _ (h :: post) (by rw [hlen.out]) (by rw [hod]; simp), hod, nth_cons_zero]
      have hfr : wr.frozen? ⟨g, pre.length + k, none⟩ = false := hres.frozen _
      have hy1 := hy.lt k
      have ho1 : nth old k < 4294967296 := nth_lt (L32.append.1 (L32.append.1 hown.l32).2).1 k
      have HD := Lib.hid hod
      obtain ⟨hm0, hm1⟩ := mul_int hf hy1
      clear hc1 hod
      obtain ⟨t, ht⟩ : ∃ t, t = carry + f * nth ys k := ⟨_, rfl⟩
      have htb : t ≤ 4294967295 * 4294967296 := by have := mul_le_u32 hf hy1; omega
      have hw : (carry : Int) + (f : Int) * (nth ys k : Int) = ((t : Nat) : Int) := by rw [ht]; simp
      have HT := Lib.hid ht
      clear ht
      by_cases hb : nth old k < t % 4294967296
      · have hbi : (nth old k : Int) < (t : Int) % 4294967296 := by omega
        go_wp2
        obtain ⟨x, hx⟩ : ∃ x, x = nth old k + 4294967296 - t % 4294967296 := ⟨_, rfl⟩
        obtain ⟨q, hq⟩ : ∃ q, q = t / 4294967296 + 1 := ⟨_, rfl⟩
        have hxl : x < 4294967296 := by omega
        have hql : q < 4294967296 := by omega
        have hxe : ((nth old k : Int) - (t : Int)) % 4294967296 = ((x : Nat) : Int) := by omega
        have hqe : (t : Int) / 4294967296 + 1 = ((q : Nat) : Int) := by omega
        have hstep : x + t = nth old k + 4294967296 * q := by omega
        rw [hxe, hqe]
        refine ⟨⟨k + 1, q, new ++ [x], by omega, by go_num, rfl, hql, hnew.snoc hxl, ?_, ?_, ?_, only_set hg _ _⟩, by simp [RowKit.intOf]; omega⟩
        · show _ = _
          rw [List.length_append, hlen.out]; rfl
        · exact takem_step hlen.out hval.out HT.out hstep
        · have := hres.set (j := pre.length + k) (x := x) hxl
          rwa [HD.out, set_mid pre new _ (h :: post) _ _ (by rw [hlen.out])] at this
      · have hbi : ¬ (nth old k : Int) < (t : Int) % 4294967296 := by omega
        go_wp2
        obtain ⟨x, hx⟩ : ∃ x, x = nth old k - t % 4294967296 := ⟨_, rfl⟩
        obtain ⟨q, hq⟩ : ∃ q, q = t / 4294967296 := ⟨_, rfl⟩
        have hxl : x < 4294967296 := by omega
        have hql : q < 4294967296 := by omega
        have hxe : (nth old k : Int) - (t : Int) % 4294967296 = ((x : Nat) : Int) := by omega
        have hqe : (t : Int) / 4294967296 = ((q : Nat) : Int) := by omega
        have hstep : x + t = nth old k + 4294967296 * q := by omega
        rw [hxe, hqe]
        refine ⟨⟨k + 1, q, new ++ [x], by omega, by go_num, rfl, hql, hnew.snoc hxl, ?_, ?_, ?_, only_set hg _ _⟩, by simp [RowKit.intOf]; omega⟩
        · show _ = _
          rw [List.length_append, hlen.out]; rfl
        · exact takem_step hlen.out hval.out HT.out hstep
        · have := hres.set (j := pre.length + k) (x := x) hxl
          rwa [HD.out, set_mid pre new _ (h :: post) _ _ (by rw [hlen.out])] at this
end Go.Proofs.YtobfeneeehmpcaaGreatDoor

namespace Go.Proofs.YtobfeneeehmpcaaGreatDoor
open Go.RowKit

theorem take_lo {R lo P h carry n1 g D : Nat} (hR : R = lo + P * h) (hv : n1 + g * D = lo + P * carry) (hle : carry ≤ h) (hlt : R < (g + 1) * D) (hD : D < P) : n1 + g * D = R ∧ n1 < D := by
  obtain ⟨e, rfl⟩ : ∃ e, h = carry + e := ⟨h - carry, by omega⟩
  rw [Nat.mul_add] at hR
  rw [Nat.add_mul, Nat.one_mul] at hlt
  rcases Nat.eq_zero_or_pos e with h0 | h0
  · subst h0; omega
  · have : P * 1 ≤ P * e := Nat.mul_le_mul_left _ h0
    omega
theorem take_pos {lo P h carry n1 g D : Nat} (hv : n1 + g * D = lo + P * carry) (hlt : h < carry) (hn1 : n1 < P) : 1 ≤ g := by
  rcases Nat.eq_zero_or_pos g with h0 | h0
  · subst h0
    have : P * 1 ≤ P * carry := Nat.mul_le_mul_left _ (by omega)
    omega
  · exact h0
theorem take_hi {R lo P h carry n1 n2 c2 g D : Nat} (hR : R = lo + P * h) (hv : n1 + g * D = lo + P * carry) (hlt : h < carry) (hn1 : n1 < P) (hD : D < P) (hnear : 1 ≤ g → (g - 1) * D ≤ R)
    (hv2 : n2 + P * c2 = n1 + 1 * D) (hn2 : n2 < P) : n2 + (g - 1) * D = R ∧ n2 < D := by
  have hg := take_pos hv hlt hn1
  have hne := hnear hg
  obtain ⟨q, rfl⟩ : ∃ q, g = q + 1 := ⟨g - 1, by omega⟩
  obtain ⟨e, rfl⟩ : ∃ e, carry = h + 1 + e := ⟨carry - h - 1, by omega⟩
  rw [Nat.mul_add, Nat.mul_add, Nat.mul_one] at hv
  rw [Nat.add_sub_cancel] at hne ⊢
  rw [Nat.add_mul, Nat.one_mul] at hv
  rw [Nat.one_mul] at hv2
  rcases Nat.eq_zero_or_pos e with h0 | h0
  · subst h0
    rcases (show c2 = 0 ∨ c2 = 1 ∨ 2 ≤ c2 by omega) with h1 | h1 | h1
    · subst h1; omega
    · subst h1; omega
    · have : P * 2 ≤ P * c2 := Nat.mul_le_mul_left _ h1
      omega
  · have : P * 1 ≤ P * e := Nat.mul_le_mul_left _ h0
    omega

theorem Res.drewN {w : World} {base n c : Nat} {A : Option Addr} {zs : List Nat} (h : Res w base A n c zs) (k : Nat) : Res (w.drewN k) base A n c zs := h.keep fun _ _ => rfl
theorem Rd.only {a w : World} {S : Nat → Prop} {g n : Nat} {A : Option Addr} {xs : List Nat} (h : Rd a S A n xs) (hg : a.grownBy w (some g)) (hS : ∀ b, S b → b ≠ g) : Rd w S A n xs :=
  ⟨h.len, h.l32, fun hn => by
    obtain ⟨b, off, e, hs, hc⟩ := h.cells hn
    exact ⟨b, off, e, hs, fun j hj => only_cell hg (hS b hs) (hc j hj)⟩⟩
theorem Res.window {w : World} {base n c g : Nat} {pre old post : List Nat} (h : Res w base (some ⟨g, 0, none⟩) n c (pre ++ (old ++ post))) : Rd w (fun b => b = g) (some ⟨g, pre.length, none⟩) old.length old := by
  have hl := h.len
  simp only [List.length_append] at hl
  refine ⟨rfl, (L32.append.1 (L32.append.1 h.l32).2).1, fun _ => ⟨g, pre.length, rfl, rfl, fun j hj => ?_⟩⟩
  rw [h.cell (by omega), nth_append_right (by omega), nth_append_left (by omega), show pre.length + j - pre.length = j by omega]

set_option maxRecDepth 100000 in
theorem takeOut_c {S : Nat → Prop} {base g n c m c2 c3 : Nat} {B : Option Addr} {old ys : List Nat} (pre post : List Nat) (off : Nat) (w : World) (hoff : off = pre.length)
    (hown : Res w base (some ⟨g, 0, none⟩) n c (pre ++ (old ++ post))) (hlen : old.length = m + 3) (hy : Rd w S B (m + 2) ys) (hS : ∀ b, S b → b ≠ g) (hm : m ≤ 1000000) (hc2 : m + 3 ≤ c2)
    (hv1 : 2147483648 ≤ nth ys (m + 1)) (hlow : val (old.drop 1) < val ys) :
    Calls Tryz.prog 152 #[.slice (some ⟨g, off, none⟩) (m + 3) c2, .slice B (m + 2) c3] w fun e w' =>
      ∃ q new x, e = .returned (.int .u32 ((q : Nat) : Int)) ∧ q < 4294967296 ∧ new.length = m + 2 ∧ val new + q * val ys = val old ∧ val new < val ys ∧
        Res w' base (some ⟨g, 0, none⟩) n c (pre ++ (new ++ (x :: post))) ∧ ∃ w1, w.grownBy w1 (some g) ∧ w' = w1 := by
  subst hoff
  have hwin := hown.window
  rw [hlen] at hwin
  have hD : val ys < bp (m + 2) := by have := val_lt hy.l32; rwa [hy.len] at this
  have hsp : old.take (m + 2) ++ (nth old (m + 2) :: post) = old ++ post := by
    have h1 := take_succ_nth (xs := old) (k := m + 2) (by omega)
    rw [List.take_of_length_le (by omega)] at h1
    conv => rhs; rw [h1]
    simp
  have hR : val old = val (old.take (m + 2)) + bp (m + 2) * nth old (m + 2) := by
    have h1 := val_take_succ (xs := old) (m + 2)
    rwa [List.take_of_length_le (by omega)] at h1
  have hlt : (old.take (m + 2)).length = m + 2 := by rw [List.length_take]; omega
  have HD := Lib.hid hD
  have HSP := Lib.hid hsp
  have HR := Lib.hid hR
  have HL := Lib.hid hlt
  clear hD hsp hR hlt
  go_enter Tryz.func152, Tryz.ntmps152
  go_wp2_with fail
  refine (guessDigit_c w hwin hy (by omega) hv1 hlow).mono ?_
  rintro e w1 ⟨q, rfl, hq, hab, hne, k, rfl⟩
  have HAB := Lib.hid hab
  have HNE := Lib.hid hne
  clear hab hne
  have hown1 := hown.drewN k
  rw [← HSP.out] at hown1
  go_wp2_with fail
  refine (takeMultiple_c (old := old.take (m + 2)) (h := nth old (m + 2)) pre post pre.length q _ rfl hown1 HL.out (hy.drewN k) hS hq (by omega) hc2).mono ?_
  rintro e w2 ⟨n1, carry, rfl, hn1l, hn132, hv, hres2, hg2⟩
  have HN1 := Lib.hid hn1l
  have HV := Lib.hid hv
  have hg0 : w.grownBy w2 (some g) := only_trans (only_drewN (World.grownBy.refl w (some g)) k) hg2
  have hn1v : val n1 < bp (m + 2) := by have := val_lt hn132; rwa [hn1l] at this
  have HN1V := Lib.hid hn1v
  clear hn1l hv hn1v
  by_cases hc : nth old (m + 2) < carry
  · have hq1 := take_pos HV.out hc HN1V.out
    have hy2 : Rd w2 S B (m + 2) ys := hy.only hg0 hS
    go_wp2_with fail
    refine (addMultiple_c (old := n1) pre (nth old (m + 2) :: post) pre.length 1 w2 rfl hres2 HN1.out hy2 hS (by omega) (by omega) (by omega)).mono ?_
    rintro e w3 ⟨n2, c2', rfl, hn2l, hn232, hc2', hv2, hres3, hg3⟩
    have HN2 := Lib.hid hn2l
    have HV2 := Lib.hid hv2
    clear hn2l hv2
    go_wp2
    go_ret
    obtain ⟨f1, f2⟩ := take_hi HR.out HV.out hc HN1V.out HD.out HNE.out HV2.out (by have := val_lt hn232; rwa [HN2.out] at this)
    exact ⟨q - 1, n2, _, congrArg Ending.returned (congrArg (Value.int .u32) (by omega)), by omega, HN2.out, f1, f2, hres3, w3, only_trans hg0 hg3, rfl⟩
  · go_wp2_with fail
    go_ret
    obtain ⟨f1, f2⟩ := take_lo HR.out HV.out (by omega) HAB.out HD.out
    exact ⟨q, n1, _, rfl, hq, HN1.out, f1, f2, hres2, w2, hg0, rfl⟩
end Go.Proofs.YtobfeneeehmpcaaGreatDoor

namespace Go.Proofs.YtobfeneeehmpcaaGreatDoor
open Go.RowKit

/-- What one limb, moved, leaves. -/
theorem shl_step {z x p k : Nat} : bp k * ((x * p) % 4294967296 + z) + bp (k + 1) * ((x * p) / 4294967296) = bp k * z + bp k * x * p := by
  rw [Nat.mul_add, bp_succ]
  have e : bp k * ((x * p) % 4294967296) + 4294967296 * bp k * ((x * p) / 4294967296) = bp k * (x * p) := by
    conv => rhs; rw [← Nat.mod_add_div (x * p) 4294967296]
    rw [Nat.mul_add, ← Nat.mul_assoc, Nat.mul_comm 4294967296 (bp k)]
  rw [← Nat.mul_assoc] at e
  omega

/-- A number below a power of two, and a multiple of that, put together. -/
theorem or_low {t z y : Nat} (hz : z < 2 ^ t) (hy : 2 ^ t * y < 4294967296) (hzl : z < 4294967296) : bits .or .u32 (z : Int) ((2 ^ t * y : Nat) : Int) = ((2 ^ t * y + z : Nat) : Int) := by
  rw [u32_or_nat _ _ (by omega) (by omega)]
  have h := Nat.two_pow_add_eq_or_of_lt hz y
  rw [h, Nat.or_comm]
theorem pow_split {s : Nat} (hs : s < 32) : 2 ^ s * 2 ^ (32 - s) = 4294967296 := by
  rw [← Nat.pow_add, show s + (32 - s) = 32 by omega]
theorem shl_low {s x : Nat} (hs : s < 32) : (x * 2 ^ s) % 4294967296 = 2 ^ s * (x % 2 ^ (32 - s)) := by
  rw [← pow_split hs, Nat.mul_comm x, Nat.mul_mod_mul_left]
theorem shl_high {s x : Nat} (hs : s < 32) (hx : x < 4294967296) : (x * 2 ^ s) / 4294967296 < 2 ^ s := by
  rw [Nat.div_lt_iff_lt_mul (by omega), Nat.mul_comm]
  exact Nat.mul_lt_mul_of_pos_left hx (Nat.two_pow_pos _)
theorem pow_le31 {s : Nat} (hs : s < 32) : 2 ^ s ≤ 2147483648 := by
  have := Nat.pow_le_pow_right (n := 2) (by omega) (show s ≤ 31 by omega)
  omega

set_option maxRecDepth 100000 in
theorem shiftLeft_c {S : Nat → Prop} {n c : Nat} {A : Option Addr} {xs : List Nat} (s : Nat) (w : World) (ha : Rd w S A n xs) (hS : ∀ b, S b → b < w.heap.size) (hn : n ≤ 1048576) (hs : s < 32) :
    Calls Tryz.prog 151 #[.slice A n c, .int .i64 (s : Int)] w fun e w' => ∃ zs, e = .returned (.slice (some ⟨w.heap.size, 0, none⟩) (n + 1) (n + 1)) ∧ Res w' w.heap.size (some ⟨w.heap.size, 0, none⟩) (n + 1) (n + 1) zs ∧ val zs = val xs * 2 ^ s ∧ Below w.heap.size w w' := by
  have hl1 := Lib.hid ha.len
  have hmk := fun W => make_at (z := (n : Int) + 1) (n + 1) (by omega) (by omega) W
  go_enter Tryz.func151, Tryz.ntmps151
  go_wp2
  clear hmk
  go_loopw [15] (fun i wr => ∃ (k : Nat) (low : List Nat) (z : Nat), k ≤ n ∧ i = .int .i64 (k : Int) ∧ Hid (low.length = k) ∧ z < 2 ^ s ∧ Hid (val low + bp k * z = val (xs.take k) * 2 ^ s) ∧
      Res wr w.heap.size (some ⟨w.heap.size, 0, none⟩) (n + 1) (n + 1) (low ++ (z :: List.replicate (n - k) 0)) ∧ Below w.heap.size w wr) (fun i _ => n - (RowKit.intOf i).toNat)
  case atStart =>
    refine ⟨0, [], 0, Nat.zero_le _, rfl, rfl, Nat.two_pow_pos _, by show _ = _; simp [val], ?_, (Below.refl _ _).alloc (Nat.le_refl _) _⟩
    exact Res.made w (n + 1) (by omega)
  case round =>
    obtain ⟨k, low, z, hk, rfl, hlen, hz, hval, hres, hbel⟩ := hrel
    by_cases h0 : k = n
    · subst h0
      have e1 : xs.take k = xs := List.take_of_length_le (by rw [hl1.out]; omega)
      have hv := Lib.hid hval.out
      rw [e1] at hv
      clear hval e1
      rw [Nat.sub_self, List.replicate_zero] at hres
      go_wp2
      go_ret
      exact ⟨low ++ [z], rfl, hres, by rw [val_snoc, hlen.out]; exact hv.out, hbel⟩
    · have hlt : k < n := by omega
      obtain ⟨b1, o1, rfl, hSb, hc0⟩ := ha.at_ hlt
      have hc1 : wr.cell? ⟨b1, o1 + k, none⟩ = some (.int .u32 (nth xs k : Int)) := (hbel.cell (p := ⟨b1, o1 + k, none⟩) (hS _ hSb)).trans hc0
      clear hc0
      have hx1 := ha.lt k
      have hrep : List.replicate (n - k) 0 = 0 :: List.replicate (n - (k + 1)) 0 := by rw [show n - k = (n - (k + 1)) + 1 by omega, List.replicate_succ]
      rw [hrep] at hres
      clear hrep
      have hoc : wr.cell? ⟨w.heap.size, k, none⟩ = some (.int .u32 (z : Int)) := by
        rw [hres.cell (by omega), nth_snoc _ _ _ hlen.out.symm]
      have hoc2 : wr.cell? ⟨w.heap.size, k + 1, none⟩ = some (.int .u32 ((0 : Nat) : Int)) := by
        rw [hres.cell (by omega), nth_append_right (by rw [hlen.out]; omega), hlen.out, show k + 1 - k = 0 + 1 by omega, nth_cons_succ, nth_cons_zero]
      have hfr : wr.frozen? ⟨w.heap.size, k, none⟩ = false := hres.frozen _
      have hfr2 : wr.frozen? ⟨w.heap.size, k + 1, none⟩ = false := hres.frozen _
      have hp31 := pow_le31 hs
      obtain ⟨m, hm⟩ : ∃ m, m = nth xs k * 2 ^ s := ⟨_, rfl⟩
      have hmb : m ≤ 4294967296 * 2147483648 := by rw [hm]; exact Nat.mul_le_mul (by omega) hp31
      have hwr : IntKind.u64.wrap ((nth xs k : Int) * 2 ^ s) = (m : Int) := by
        rw [hm, Int.natCast_mul, Int.natCast_pow]
        rw [hm] at hmb
        have h2 : ((nth xs k * 2 ^ s : Nat) : Int) = (nth xs k : Int) * 2 ^ s := by rw [Int.natCast_mul, Int.natCast_pow]; rfl
        have h3 := IntWalk.u64_in ((nth xs k : Int) * 2 ^ s) (by omega)
        exact h3
      have hor : bits .or .u32 (z : Int) ((m : Int) % 4294967296) = ((m % 4294967296 + z : Nat) : Int) := by
        rw [rem_cast, hm, shl_low hs]
        exact or_low hz (by rw [← shl_low hs]; omega) (by omega)
      have hmz : m % 4294967296 + z < 4294967296 := by
        rw [hm, shl_low hs]
        have h1 := Nat.mod_lt (nth xs k) (Nat.two_pow_pos (32 - s))
        have h2 : 2 ^ s * (nth xs k % 2 ^ (32 - s) + 1) ≤ 2 ^ s * 2 ^ (32 - s) := Nat.mul_le_mul_left _ h1
        rw [pow_split hs, Nat.mul_add] at h2
        omega
      have hmh : m / 4294967296 < 2 ^ s := by rw [hm]; exact shl_high hs hx1
      have HM := Lib.hid hm
      clear hm
      go_wp2
      refine ⟨⟨k + 1, low ++ [m % 4294967296 + z], m / 4294967296, by omega, by go_num, ?_, hmh, ?_, ?_, (hbel.setCell (Nat.le_refl _) _).setCell (Nat.le_refl _) _⟩, by simp [RowKit.intOf]; omega⟩
      · show _ = _
        rw [List.length_append, hlen.out]; rfl
      · show _ = _
        rw [val_snoc, hlen.out, Nat.add_assoc, HM.out, shl_step, val_take_succ, Nat.add_mul, ← hval.out]
        omega
      · have h1 := hres.set (j := k) hmz
        rw [set_snoc _ _ _ _ hlen.out.symm] at h1
        have h2 := h1.set (j := k + 1) (x := m / 4294967296) (by have := pow_le31 hs; omega)
        rw [set_snoc _ _ _ _ (by rw [List.length_append, hlen.out]; rfl)] at h2
        have e : ((m : Int) / 4294967296) % 4294967296 = ((m / 4294967296 : Nat) : Int) := by omega
        simpa [e] using h2
end Go.Proofs.YtobfeneeehmpcaaGreatDoor

namespace Go.Proofs.YtobfeneeehmpcaaGreatDoor
open Go.RowKit

theorem shr_high {s x : Nat} (hs : s < 32) : (x * 2 ^ (32 - s)) / 4294967296 = x / 2 ^ s := by
  rw [← pow_split hs, Nat.mul_comm (2 ^ s), Nat.mul_comm x, Nat.mul_div_mul_left _ _ (Nat.two_pow_pos _)]
theorem shr_low {s x : Nat} (hs : s < 32) : (x * 2 ^ (32 - s)) % 4294967296 = 2 ^ (32 - s) * (x % 2 ^ s) := by
  rw [← pow_split hs, Nat.mul_comm (2 ^ s), Nat.mul_comm x, Nat.mul_mod_mul_left]
theorem shr_whole {s x : Nat} (hs : s < 32) : (x * 4294967296) / 2 ^ s = x * 2 ^ (32 - s) := by
  rw [← pow_split hs, Nat.mul_left_comm, Nat.mul_div_cancel_left _ (Nat.two_pow_pos _)]
theorem shr_top {s x : Nat} (hs : s < 32) (hx : x < 4294967296) : x / 2 ^ s < 2 ^ (32 - s) := by
  rw [Nat.div_lt_iff_lt_mul (Nat.two_pow_pos _), Nat.mul_comm, pow_split hs]; exact hx
theorem shr_add {s V x j : Nat} (hs : s < 32) : (V + bp (j + 1) * x) / 2 ^ s = V / 2 ^ s + bp j * (x * 2 ^ (32 - s)) := by
  have e : bp (j + 1) * x = 2 ^ s * (bp j * (x * 2 ^ (32 - s))) := by
    rw [bp_succ, ← pow_split hs]
    simp only [Nat.mul_assoc, Nat.mul_comm, Nat.mul_left_comm]
  rw [e, Nat.add_mul_div_left _ _ (Nat.two_pow_pos _)]
theorem or_zero {x : Nat} (hx : x < 4294967296) : bits .or .u32 0 (x : Int) = (x : Int) := by
  have := u32_or_nat 0 x (by omega) hx
  simpa using this

set_option maxRecDepth 100000 in
theorem shiftRight_c {S : Nat → Prop} {n c : Nat} {A : Option Addr} {xs : List Nat} (s : Nat) (w : World) (ha : Rd w S A n xs) (hS : ∀ b, S b → b < w.heap.size) (hn : n ≤ 1048576) (hs : s < 32) :
    Calls Tryz.prog 153 #[.slice A n c, .int .i64 (s : Int)] w fun e w' => ∃ A' n' c' zs, e = .returned (.slice A' n' c') ∧ Res w' w.heap.size A' n' c' zs ∧ Can zs ∧ val zs = val xs / 2 ^ s ∧ Below w.heap.size w w' := by
  have hl1 := Lib.hid ha.len
  have hmk := fun W => make_at (z := (n : Int)) n rfl (by omega) W
  go_enter Tryz.func153, Tryz.ntmps153
  go_wp2
  clear hmk
  go_loopw [14] (fun i wr => ∃ (k : Nat) (low : List Nat), k ≤ n ∧ i = .int .i64 (k : Int) ∧ Hid (low.length = k) ∧ Hid (∀ j, k = j + 1 → nth low j < 2 ^ (32 - s)) ∧ Hid (val low = val (xs.take k) / 2 ^ s) ∧
      Res wr w.heap.size (some ⟨w.heap.size, 0, none⟩) n n (low ++ List.replicate (n - k) 0) ∧ Below w.heap.size w wr) (fun i _ => n - (RowKit.intOf i).toNat)
  case atStart =>
    refine ⟨0, [], Nat.zero_le _, rfl, rfl, Lib.hid (fun j h => by omega), by show _ = _; simp [val], ?_, (Below.refl _ _).alloc (Nat.le_refl _) _⟩
    exact Res.made w n (by omega)
  case round =>
    obtain ⟨k, low, hk, rfl, hlen, htop, hval, hres, hbel⟩ := hrel
    by_cases h0 : k = n
    · subst h0
      have e1 : xs.take k = xs := List.take_of_length_le (by rw [hl1.out]; omega)
      have hv := Lib.hid hval.out
      rw [e1] at hv
      clear hval e1
      rw [Nat.sub_self, List.replicate_zero, List.append_nil] at hres
      have hf := trim_c wr hres.rd (by omega) (Nat.le_refl _)
      have HF := Lib.hid hf
      clear hf
      go_wp2_with fail
      refine HF.out.mono ?_
      rintro e w' ⟨rfl, rfl⟩
      go_wp2
      go_ret
      have ht := hres.take (tl_le low k)
      refine ⟨_, _, _, trimmed low, rfl, ?_, trimmed_can hres.l32, ?_, hbel⟩
      · unfold trimmed; rw [hlen.out]; exact ht
      · rw [trimmed_val]; exact hv.out
    · have hlt : k < n := by omega
      obtain ⟨b1, o1, rfl, hSb, hc0⟩ := ha.at_ hlt
      have hc1 : wr.cell? ⟨b1, o1 + k, none⟩ = some (.int .u32 (nth xs k : Int)) := (hbel.cell (p := ⟨b1, o1 + k, none⟩) (hS _ hSb)).trans hc0
      clear hc0
      have hx1 := ha.lt k
      have hrep : List.replicate (n - k) 0 = 0 :: List.replicate (n - (k + 1)) 0 := by rw [show n - k = (n - (k + 1)) + 1 by omega, List.replicate_succ]
      rw [hrep] at hres
      clear hrep
      have hoc : wr.cell? ⟨w.heap.size, k, none⟩ = some (.int .u32 0) := by
        have := hres.cell (j := k) (by omega)
        rwa [nth_snoc _ _ _ hlen.out.symm] at this
      have hfr : wr.frozen? ⟨w.heap.size, k, none⟩ = false := hres.frozen _
      obtain ⟨m, hm⟩ : ∃ m, m = nth xs k * 2 ^ (32 - s) := ⟨_, rfl⟩
      have hmb : m ≤ 4294967295 * 4294967296 := by
        rw [hm]
        have : 2 ^ (32 - s) ≤ 2 ^ 32 := Nat.pow_le_pow_right (by omega) (by omega)
        exact Nat.mul_le_mul (by omega) this
      have hmd : (nth xs k : Int) * 4294967296 / 2 ^ s = (m : Int) := by
        rw [hm, ← shr_whole hs]
        simp
      have hmh : m / 4294967296 = nth xs k / 2 ^ s := by rw [hm]; exact shr_high hs
      have hml : m % 4294967296 = 2 ^ (32 - s) * (nth xs k % 2 ^ s) := by rw [hm]; exact shr_low hs
      have hht := shr_top hs hx1
      rw [← hmh] at hht
      have hor1 : bits .or .u32 0 ((m : Int) / 4294967296) = ((m / 4294967296 : Nat) : Int) := by
        rw [div_cast]
        exact or_zero (by omega)
      have HM := Lib.hid hm
      have HML := Lib.hid hml
      have HMT := Lib.hid hht
      clear hm hml hmh hht
      by_cases hk0 : k = 0
      · have hk1 : k < 1 := by omega
        have HK := Lib.hid hk0
        clear hk0
        go_wp2
        refine ⟨⟨k + 1, [m / 4294967296], by omega, by go_num, ?_, ?_, ?_, ?_, hbel.setCell (Nat.le_refl _) _⟩, by simp [RowKit.intOf]; omega⟩
        · show _ = _
          rw [HK.out]; rfl
        · exact Lib.hid (fun j hj => by
            have : j = 0 := by omega
            subst this
            rw [nth_cons_zero]; exact HMT.out)
        · show _ = _
          have e0 := HK.out
          subst e0
          rw [val_take_succ, List.take_zero, val_nil, bp_zero, Nat.one_mul, Nat.zero_add, val_cons, val_nil, HM.out, shr_high hs]
          omega
        · have h1 := hres.set (j := k) (x := m / 4294967296) (by omega)
          have e0 : low = [] := List.eq_nil_of_length_eq_zero (by rw [hlen.out, HK.out])
          rw [set_snoc _ _ _ _ hlen.out.symm, e0, List.nil_append] at h1
          simpa using h1
      · obtain ⟨j, rfl⟩ : ∃ j, k = j + 1 := ⟨k - 1, by omega⟩
        obtain ⟨y, hy⟩ : ∃ y, y = nth low j := ⟨_, rfl⟩
        have hyt : y < 2 ^ (32 - s) := by rw [hy]; exact htop.out j rfl
        have hoj : wr.cell? ⟨w.heap.size, j, none⟩ = some (.int .u32 (y : Int)) := by
          rw [hres.cell (by omega), nth_append_left (by rw [hlen.out]; omega), hy]
        have hfj : wr.frozen? ⟨w.heap.size, j, none⟩ = false := hres.frozen _
        have hyl : y < 4294967296 := by rw [hy]; exact nth_lt (L32.append.1 hres.l32).1 j
        have hor2 : bits .or .u32 (y : Int) ((m : Int) % 4294967296) = ((m % 4294967296 + y : Nat) : Int) := by
          rw [rem_cast, HML.out]
          exact or_low hyt (by rw [← HML.out]; omega) hyl
        have HY := Lib.hid hy
        clear hy
        go_wp2
        have hlo : low = low.take j ++ [y] := by
          have := take_succ_nth (xs := low) (k := j) (by rw [hlen.out]; omega)
          rw [← HY.out, List.take_of_length_le (by rw [hlen.out]; exact Nat.le_refl _)] at this
          exact this
        have hlj : j = (low.take j).length := by rw [List.length_take, hlen.out]; omega
        have hsum : m % 4294967296 + y < 4294967296 := by
          rw [HML.out]
          have h1 := Nat.mod_lt (nth xs (j + 1)) (Nat.two_pow_pos s)
          have h2 : 2 ^ (32 - s) * (nth xs (j + 1) % 2 ^ s + 1) ≤ 2 ^ (32 - s) * 2 ^ s := Nat.mul_le_mul_left _ h1
          rw [Nat.mul_comm (2 ^ (32 - s)) (2 ^ s), pow_split hs, Nat.mul_add] at h2
          omega
        refine ⟨⟨j + 1 + 1, (low.take j ++ [m % 4294967296 + y]) ++ [m / 4294967296], by omega, by go_num, ?_, ?_, ?_, ?_, (hbel.setCell (Nat.le_refl _) _).setCell (Nat.le_refl _) _⟩, by simp [RowKit.intOf]; omega⟩
        · show _ = _
          rw [List.length_append, List.length_append, ← hlj]; rfl
        · exact Lib.hid (fun i hi => by
            have : i = j + 1 := by omega
            subst this
            rw [nth_append_right (by rw [List.length_append, ← hlj]; exact Nat.le_refl _), List.length_append, ← hlj]
            simp only [List.length_singleton, Nat.sub_self, nth_cons_zero]
            exact HMT.out)
        · show _ = _
          rw [val_take_succ, shr_add hs, ← hval.out, ← HM.out]
          conv => rhs; rw [hlo]
          rw [val_snoc, val_snoc, val_snoc, List.length_append, ← hlj, List.length_singleton, Nat.mul_add, bp_succ]
          have e : bp j * (m % 4294967296) + 4294967296 * bp j * (m / 4294967296) = bp j * m := by
            conv => rhs; rw [← Nat.mod_add_div m 4294967296]
            rw [Nat.mul_add, ← Nat.mul_assoc, Nat.mul_comm 4294967296 (bp j)]
          omega
        · have h1 := hres.set (j := j + 1) (x := m / 4294967296) (by omega)
          rw [set_snoc _ _ _ _ hlen.out.symm] at h1
          have h2 := h1.set (j := j) hsum
          have e2 : (low ++ [m / 4294967296] ++ List.replicate (n - (j + 1 + 1)) 0).set j (m % 4294967296 + y) = (low.take j ++ [m % 4294967296 + y]) ++ [m / 4294967296] ++ List.replicate (n - (j + 1 + 1)) 0 := by
            conv => lhs; rw [hlo]
            have := set_snoc (low.take j) ([m / 4294967296] ++ List.replicate (n - (j + 1 + 1)) 0) (m % 4294967296 + y) y hlj
            simpa using this
          rw [e2] at h2
          simpa using h2
end Go.Proofs.YtobfeneeehmpcaaGreatDoor

namespace Go.Proofs.YtobfeneeehmpcaaGreatDoor
open Go.Shelf

def lays133_ren : Go.Shelf.Ren := ⟨fun | 133 => 150 | 128 => 157 | n => n, fun | 51 => 64 | 3 => 3 | 4 => 4 | 46 => 70 | 5 => 5 | 9 => 9 | n => n, fun | n => n⟩
theorem lays133 : Go.Proofs.Lays.n133 Tryz.prog lays133_ren := {
  mixed := by kernel_rfl
  f128 := Tryz.func157.trans (congrArg some (by kernel_rfl))
  f133 := Tryz.func150.trans (congrArg some (by kernel_rfl))
  t3 := Tryz.underlying3
  a3 := Tryz.isAgg3
  z3 := Tryz.sizeOf3
  v3 := Tryz.zeroValue3
  t4 := Tryz.underlying4
  a4 := Tryz.isAgg4
  z4 := Tryz.sizeOf4
  v4 := Tryz.zeroValue4
  t5 := Tryz.underlying5
  a5 := Tryz.isAgg5
  z5 := Tryz.sizeOf5
  v5 := Tryz.zeroValue5
  t9 := Tryz.underlying9
  a9 := Tryz.isAgg9
  z9 := Tryz.sizeOf9
  v9 := Tryz.zeroValue9
  t46 := Tryz.underlying70
  a46 := Tryz.isAgg70
  z46 := Tryz.sizeOf70
  v46 := Tryz.zeroValue70
  t51 := Tryz.underlying64
  a51 := Tryz.isAgg64
  z51 := Tryz.sizeOf64
  v51 := Tryz.zeroValue64 }

theorem LeadingZeros32_c (x : Nat) (w : World) (h : x < 4294967296) : Calls Tryz.prog 150 #[.int .u32 (x : Int)] w fun e w' => e = .returned (.int .i64 (32 - (Lib.bitLen x : Int))) ∧ w' = w :=
  Any.bits_LeadingZeros32 lays133 (x : Int) w (by omega) (by omega)
end Go.Proofs.YtobfeneeehmpcaaGreatDoor

namespace Go.Proofs.YtobfeneeehmpcaaGreatDoor
open Go.RowKit

/-- How far the highest limb is moved up. -/
theorem lead_ok {t : Nat} (h0 : t ≠ 0) (h1 : t < 4294967296) : ∃ s : Nat, s < 32 ∧ (32 - (Lib.bitLen t : Int)) = (s : Int) ∧ 2147483648 ≤ t * 2 ^ s ∧ t * 2 ^ s < 4294967296 := by
  obtain ⟨a, b, c⟩ := Lib.bitLenAux_bounds 64 t (by omega) h0
  have h32 : Lib.bitLen t ≤ 32 := Lib.bitLen_le t 32 (by omega) (by omega)
  obtain ⟨L, hL⟩ : ∃ L, L = Lib.bitLen t := ⟨_, rfl⟩
  change 1 ≤ Lib.bitLen t at a
  change 2 ^ (Lib.bitLen t - 1) ≤ t at b
  change t < 2 ^ Lib.bitLen t at c
  rw [← hL] at a b c h32 ⊢
  refine ⟨32 - L, by omega, by omega, ?_, ?_⟩
  · have h2 : 2 ^ (L - 1) * 2 ^ (32 - L) ≤ t * 2 ^ (32 - L) := Nat.mul_le_mul_right _ b
    rw [← Nat.pow_add, show L - 1 + (32 - L) = 31 by omega] at h2
    exact h2
  · have h2 : t * 2 ^ (32 - L) < 2 ^ L * 2 ^ (32 - L) := Nat.mul_lt_mul_of_pos_right c (Nat.two_pow_pos _)
    rw [← Nat.pow_add, show L + (32 - L) = 32 by omega] at h2
    exact h2
/-- The divisor, moved up. -/
theorem moved_up {ys ds : List Nat} {m s : Nat} (hy : L32 ys) (hl : ys.length = m + 2) (hd : Can ds) (hv : val ds = val ys * 2 ^ s) (h1 : 2147483648 ≤ nth ys (m + 1) * 2 ^ s) (h2 : nth ys (m + 1) * 2 ^ s < 4294967296) (hs : s < 32) :
    ds.length = m + 2 ∧ 2147483648 ≤ nth ds (m + 1) := by
  have ht := val_take_succ (xs := ys) (m + 1)
  rw [List.take_of_length_le (by omega)] at ht
  have hlo := val_take_lt hy (n := m + 1) (by omega)
  have hval : val ds = val (ys.take (m + 1)) * 2 ^ s + bp (m + 1) * (nth ys (m + 1) * 2 ^ s) := by rw [hv, ht, Nat.add_mul, Nat.mul_assoc]
  have hup : val ds < bp (m + 2) := by
    rw [hv]
    have e1 := shl_high (s := s) (x := nth ys (m + 1)) hs (nth_lt hy _)
    have hlow : 2 ^ s * (nth ys (m + 1) + 1) ≤ 4294967296 := by
      have hp := pow_split hs
      have : nth ys (m + 1) < 2 ^ (32 - s) := by
        rcases Nat.lt_or_ge (nth ys (m + 1)) (2 ^ (32 - s)) with h | h
        · exact h
        · have := Nat.mul_le_mul_left (2 ^ s) h
          rw [hp, Nat.mul_comm] at this; omega
      have := Nat.mul_le_mul_left (2 ^ s) this
      rw [hp] at this; exact this
    have h3 : val ys < bp (m + 1) * (nth ys (m + 1) + 1) := by rw [ht, Nat.mul_add]; omega
    have h4 : val ys * 2 ^ s < bp (m + 1) * (nth ys (m + 1) + 1) * 2 ^ s := Nat.mul_lt_mul_of_pos_right h3 (Nat.two_pow_pos _)
    have h5 : bp (m + 1) * (nth ys (m + 1) + 1) * 2 ^ s ≤ bp (m + 1) * 4294967296 := by
      rw [Nat.mul_assoc, Nat.mul_comm (nth ys (m + 1) + 1)]; exact Nat.mul_le_mul_left _ hlow
    have h6 : bp (m + 2) = bp (m + 1) * 4294967296 := by rw [show m + 2 = m + 1 + 1 from rfl, bp_succ, Nat.mul_comm]
    rw [h6]
    exact Nat.lt_of_lt_of_le h4 h5
  have hge : bp (m + 1) * 2147483648 ≤ val ds := by
    rw [hval]
    have := Nat.mul_le_mul_left (bp (m + 1)) h1
    omega
  have hlen : ds.length = m + 2 := by
    have h3 := hd.len_le hup
    rcases Nat.lt_or_ge ds.length (m + 2) with h4 | h4
    · have h5 := val_lt hd.l32
      have h6 := bp_mono (show ds.length ≤ m + 1 by omega)
      have h7 := bp_pos (m + 1)
      omega
    · omega
  refine ⟨hlen, ?_⟩
  have h3 := val_take_succ (xs := ds) (m + 1)
  rw [List.take_of_length_le (by omega)] at h3
  have h4 := val_take_lt hd.l32 (n := m + 1) (by omega)
  rcases Nat.lt_or_ge (nth ds (m + 1)) 2147483648 with h5 | h5
  · have h6 := Nat.mul_le_mul_left (bp (m + 1)) (show nth ds (m + 1) + 1 ≤ 2147483648 by omega)
    rw [Nat.mul_add] at h6
    omega
  · exact h5
/-- One round of the long division, in numbers. -/
theorem divl_step {X pv old new q D qs j T T' : Nat} (h : X = qs * bp (j + 1) * D + T) (hT : T = pv + bp j * old) (ho : new + q * D = old) (hT' : T' = pv + bp j * new) :
    X = (q + 4294967296 * qs) * bp j * D + T' := by
  rw [h, hT, hT', ← ho, bp_succ, Nat.mul_add, Nat.add_mul, Nat.add_mul]
  have e1 : qs * (4294967296 * bp j) * D = 4294967296 * qs * bp j * D := by rw [← Nat.mul_assoc qs, Nat.mul_comm qs]
  have e2 : bp j * (q * D) = q * bp j * D := by rw [← Nat.mul_assoc, Nat.mul_comm (bp j)]
  rw [e1, e2]; omega
theorem divl_low {D T j o0 d pv old : Nat} (h : T < D * bp (j + 1)) (hT : T = pv + bp j * old) (ho : old = o0 + 4294967296 * d) : d < D := by
  rcases Nat.lt_or_ge d D with h1 | h1
  · exact h1
  · have h2 : D * bp (j + 1) ≤ d * bp (j + 1) := Nat.mul_le_mul_right _ h1
    have h3 : d * bp (j + 1) = bp j * (4294967296 * d) := by rw [bp_succ]; simp only [Nat.mul_assoc, Nat.mul_comm, Nat.mul_left_comm]
    have h4 : bp j * (4294967296 * d) ≤ bp j * old := Nat.mul_le_mul_left _ (by omega)
    omega
theorem divl_bound {D j pv new : Nat} (hp : pv < bp j) (hn : new < D) : pv + bp j * new < D * bp j := by
  have h1 : bp j * (new + 1) ≤ bp j * D := Nat.mul_le_mul_left _ hn
  rw [Nat.mul_add] at h1
  rw [Nat.mul_comm D]
  omega
/-- The end: what is moved down again is the rest. -/
theorem divl_end {X Y Q r s : Nat} (h : X * 2 ^ s = Q * (Y * 2 ^ s) + r) (hr : r < Y * 2 ^ s) : X = Q * Y + r / 2 ^ s ∧ r / 2 ^ s < Y := by
  have hp := Nat.two_pow_pos s
  refine ⟨?_, by rw [Nat.div_lt_iff_lt_mul hp]; exact hr⟩
  have h1 : (r + 2 ^ s * (Q * Y)) / 2 ^ s = X := by
    rw [show r + 2 ^ s * (Q * Y) = 2 ^ s * X by rw [Nat.mul_comm (2 ^ s) X, h, ← Nat.mul_assoc Q, Nat.mul_comm (2 ^ s)]; omega]
    exact Nat.mul_div_cancel_left _ hp
  rw [Nat.add_mul_div_left _ _ hp] at h1
  omega

theorem divl_start {X Z D n cnt m s : Nat} (hn : n = cnt + (m + 1)) (hx : X < bp n) (hz : Z = X * 2 ^ s) (hs : s < 32) (hD : bp (m + 1) * 2147483648 ≤ D) : Z < D * bp cnt := by
  have h1 := pow_le31 hs
  have h2 : X * 2 ^ s < bp n * 2 ^ s := Nat.mul_lt_mul_of_pos_right hx (Nat.two_pow_pos _)
  have h3 : bp n * 2 ^ s ≤ bp n * 2147483648 := Nat.mul_le_mul_left _ h1
  have h4 : bp n * 2147483648 = bp (m + 1) * 2147483648 * bp cnt := by rw [hn, bp_add]; simp only [Nat.mul_assoc, Nat.mul_comm, Nat.mul_left_comm]
  have h5 : bp (m + 1) * 2147483648 * bp cnt ≤ D * bp cnt := Nat.mul_le_mul_right _ hD
  omega
theorem top_ge {ds : List Nat} {m : Nat} (hl : ds.length = m + 2) (h : 2147483648 ≤ nth ds (m + 1)) : bp (m + 1) * 2147483648 ≤ val ds := by
  have h3 := val_take_succ (xs := ds) (m + 1)
  rw [List.take_of_length_le (by omega)] at h3
  have := Nat.mul_le_mul_left (bp (m + 1)) h
  omega

set_option maxRecDepth 100000 in
set_option maxHeartbeats 2000000 in
theorem divideLong_c {S S' : Nat → Prop} {n m c d : Nat} {A B : Option Addr} {xs ys : List Nat} (w : World) (ha : Rd w S A n xs) (hb : Rd w S' B (m + 2) ys)
    (hS : ∀ b, S b → b < w.heap.size) (hS' : ∀ b, S' b → b < w.heap.size) (hn : n ≤ 1000000) (hm : m + 2 ≤ n) (hc : Can ys) :
    Calls Tryz.prog 144 #[.slice A n c, .slice B (m + 2) d] w fun e w' => ∃ A1 n1 c1 qs A2 n2 c2 rs, e = .returned (.tuple #[.slice A1 n1 c1, .slice A2 n2 c2]) ∧
      Res w' w.heap.size A1 n1 c1 qs ∧ Res w' w.heap.size A2 n2 c2 rs ∧ Can qs ∧ Can rs ∧ val xs = val qs * val ys + val rs ∧ val rs < val ys ∧ Below w.heap.size w w' := by
  obtain ⟨b2, o2, rfl, hSb2, hct⟩ := hb.at_ (k := m + 1) (by omega)
  have ht0 : nth ys (m + 1) ≠ 0 := by
    rcases hc.2 with h | h
    · have := hb.len; rw [h] at this; simp at this
    · have := hb.len; rw [this] at h; exact h
  have ht1 := hb.lt (m + 1)
  obtain ⟨s, hs, hse, hs1, hs2⟩ := lead_ok ht0 ht1
  have HSE := Lib.hid hse
  have HS1 := Lib.hid hs1
  have HS2 := Lib.hid hs2
  clear hse hs1 hs2 ht0
  have HXL := Lib.hid ha.len
  have HYL := Lib.hid hb.len
  go_enter Tryz.func144, Tryz.ntmps144
  go_wp2_with fail
  refine (LeadingZeros32_c _ w ht1).mono ?_
  rintro e w0 ⟨rfl, rfl⟩
  rw [HSE.out]
  go_wp2_with fail
  refine (shiftLeft_c s w0 ha hS (by omega) hs).mono ?_
  rintro e w1 ⟨zs, rfl, hr1, hz1, hb1⟩
  have hg1 : w0.heap.size < w1.heap.size := by
    rcases hr1.form with ⟨_, h, _⟩ | ⟨g, e, _, h⟩
    · omega
    · injection e with e; injection e with e; omega
  go_wp2_with fail
  refine (shiftLeft_c s w1 (hb.below hb1 hS') (fun b h => by have := hS' b h; omega) (by omega) hs).mono ?_
  rintro e w2 ⟨us, rfl, hr2, hz2, hb2⟩
  have hr1' := hr1.below hb2 (Nat.le_refl _)
  go_wp2_with fail
  refine (trim_c w2 hr2.rd (by omega) (Nat.le_refl _)).mono ?_
  rintro e w3 ⟨rfl, rfl⟩
  have hdc := trimmed_can hr2.l32
  have hdv : val (trimmed us) = val ys * 2 ^ s := by rw [trimmed_val]; exact hz2
  obtain ⟨hdl, hdt⟩ := moved_up hb.l32 HYL.out hdc hdv HS1.out HS2.out hs
  have hrd := hr2.take (tl_le us (m + 2 + 1))
  have htl : tl us (m + 2 + 1) = m + 2 := by
    have := trimmed_length us
    rw [hr2.len] at this
    omega
  have htr : us.take (tl us (m + 2 + 1)) = trimmed us := by unfold trimmed; rw [hr2.len]
  rw [htr, htl] at hrd
  rw [htl]
  obtain ⟨ds, hds⟩ : ∃ ds, ds = trimmed us := ⟨_, rfl⟩
  rw [← hds] at hrd hdc hdv hdl hdt
  have HDV := Lib.hid hdv
  have HZ1 := Lib.hid hz1
  clear hdv hz1 hz2 htl htr hr2 hr1 hds hdl
  obtain ⟨cnt, hcnt⟩ : ∃ cnt, n = cnt + (m + 1) := ⟨n - (m + 1), by omega⟩
  have hmk := fun W => make_at (z := (n : Int) - ((m : Int) + 2) + 1) cnt (by omega) (by omega) W
  have hc1 : 1 ≤ cnt := by omega
  have hc2 : cnt ≤ n := by omega
  have hstart := divl_start hcnt (by have := val_lt ha.l32; rwa [HXL.out] at this) HZ1.out hs (top_ge hrd.len hdt)
  have HST := Lib.hid hstart
  have HC := Lib.hid hcnt
  clear hcnt hstart
  have hg2 : w1.heap.size < w2.heap.size := by
    rcases hrd.form with ⟨_, h, _⟩ | ⟨g, e, _, h⟩
    · omega
    · injection e with e; injection e with e; omega
  go_wp2_with fail
  clear hmk
  go_loopw [11] (fun i wr => ∃ (k : Nat) (rs qs : List Nat), k ≤ cnt ∧ i = .int .i64 ((k : Int) - 1) ∧ Hid (qs.length = cnt - k) ∧ Hid (val xs * 2 ^ s = val qs * bp k * val ds + val (rs.take (k + (m + 2)))) ∧
      Hid (val (rs.take (k + (m + 2))) < val ds * bp k) ∧ Res wr w0.heap.size (some ⟨w0.heap.size, 0, none⟩) (n + 1) (n + 1) rs ∧ Res wr w2.heap.size (some ⟨w2.heap.size, 0, none⟩) cnt cnt (List.replicate k 0 ++ qs) ∧
      Res wr w1.heap.size (some ⟨w1.heap.size, 0, none⟩) (m + 2) (m + 2 + 1) ds ∧ Below w0.heap.size w0 wr) (fun i _ => (RowKit.intOf i + 1).toNat)
  case atStart =>
    have hal : Below w2.heap.size w2 (w2.alloc (zeros32 cnt)) := (Below.refl _ _).alloc (Nat.le_refl _) _
    have ez : zs.take (cnt + (m + 2)) = zs := List.take_of_length_le (by rw [hr1'.len]; have := HC.out; omega)
    refine ⟨cnt, zs, [], Nat.le_refl _, rfl, by show _ = _; simp, ?_, ?_, hr1'.below hal (Nat.le_refl _), ?_, hrd.below hal (Nat.le_refl _), (hb1.trans (hb2.mono hb1.size)).trans (hal.mono (by omega))⟩
    · show _ = _
      rw [ez, HZ1.out, val_nil]; omega
    · show _ < _
      rw [ez]; exact HST.out
    · rw [List.append_nil]; exact Res.made w2 cnt (by omega)
  case round =>
    obtain ⟨k, rs, qs, hk, rfl, hql, hval, hbnd, hrest, hquo, hdiv, hbel⟩ := hrel
    by_cases h0 : k = 0
    · subst h0
      rw [List.replicate_zero, List.nil_append] at hquo
      rw [Nat.zero_add] at hval hbnd
      rw [bp_zero, Nat.mul_one] at hval hbnd
      have hr9 : Rd wr (fun b => w0.heap.size ≤ b ∧ b < wr.heap.size) (some ⟨w0.heap.size, 0, none⟩) (m + 2) (rs.take (m + 2)) := hrest.rd.take (by omega)
      have hq9 := hquo.rd
      obtain ⟨hend1, hend2⟩ := divl_end (X := val xs) (Y := val ys) (Q := val qs) (r := val (rs.take (m + 2))) (s := s) (by rw [hval.out, HDV.out]) (by rw [← HDV.out]; exact hbnd.out)
      have HE1 := Lib.hid hend1
      have HE2 := Lib.hid hend2
      clear hend1 hend2
      go_wp2
      go_region_with (first
        | (go_at_call 76; refine (trim_c wr.drew hq9.drew (by omega) (Nat.le_refl _)).mono ?_; rintro e w' ⟨rfl, rfl⟩)
        | (go_at_call 153; refine (shiftRight_c (S := fun b => w0.heap.size ≤ b ∧ b < wr.heap.size) (xs := rs.take (m + 2)) s wr.drew hr9.drew (fun b h => h.2) (by omega) hs).mono ?_; rintro e w5 ⟨A5, n5, c5, r5, rfl, hr5, hc5, hv5, hb5⟩))
      all_goals
        go_wp2
        go_ret2
        have hq10 := ((hquo.take (tl_le qs cnt)).keep (w' := wr.drew) fun _ _ => rfl).below hb5 (Nat.le_refl _)
        have hql2 := hquo.len
        refine ⟨_, _, _, trimmed qs, _, _, _, r5, rfl, ?_, hr5.more hbel.size, trimmed_can hquo.l32, hc5, ?_, ?_, ?_⟩
        · unfold trimmed; rw [hql2]; exact hq10.more (by omega)
        · rw [trimmed_val, hv5]; exact HE1.out
        · rw [hv5]; exact HE2.out
        · exact (show Below w0.heap.size w0 wr.drew from ⟨hbel.os, hbel.tape, hbel.output, hbel.size, hbel.block⟩).trans (hb5.mono hbel.size)
    · obtain ⟨j, rfl⟩ : ∃ j, k = j + 1 := ⟨k - 1, by omega⟩
      have hrl := Lib.hid hrest.len
      have hjn : j + (m + 3) ≤ n + 1 := by have := HC.out; omega
      have hrest' : Res wr w0.heap.size (some ⟨w0.heap.size, 0, none⟩) (n + 1) (n + 1) (rs.take j ++ ((rs.drop j).take (m + 3) ++ (rs.drop j).drop (m + 3))) := by
        rw [List.take_append_drop, List.take_append_drop]; exact hrest
      have hpl : Hid (j = (rs.take j).length) := by
        show _ = _
        rw [List.length_take, hrl.out]; omega
      have hol : Hid (((rs.drop j).take (m + 3)).length = m + 3) := by
        show _ = _
        rw [List.length_take, List.length_drop, hrl.out]; omega
      have hT : Hid (val (rs.take (j + 1 + (m + 2))) = val (rs.take j) + bp j * val ((rs.drop j).take (m + 3))) := by
        show _ = _
        have h1 := val_split (rs.take (j + 1 + (m + 2))) j (by rw [List.length_take, hrl.out]; omega)
        rw [List.take_take, Nat.min_eq_left (by omega), List.drop_take, show j + 1 + (m + 2) - j = m + 3 by omega] at h1
        exact h1
      have hlow : val (((rs.drop j).take (m + 3)).drop 1) < val ds := by
        refine divl_low hbnd.out hT.out (o0 := nth ((rs.drop j).take (m + 3)) 0) ?_
        have := val_drop (xs := (rs.drop j).take (m + 3)) 0
        rwa [List.drop_zero] at this
      have hw := takeOut_c (c2 := n + 1 - j) (c3 := m + 2 + 1) (rs.take j) ((rs.drop j).drop (m + 3)) j wr hpl.out hrest' hol.out hdiv.rd (fun b h => by omega) (by omega) (by omega) hdt hlow
      have HW := Lib.hid hw
      clear hw hlow hrest'
      go_wp2_with fail
      rw [show j + (m + 2) + 1 - j = m + 3 by omega]
      refine HW.out.mono ?_
      rintro e w4 ⟨q, new, x, rfl, hq, hnl, hsum, hlt, hres1, w4', hg4, rfl⟩
      have HNL := Lib.hid hnl
      have HSUM := Lib.hid hsum
      have HLT := Lib.hid hlt
      clear hnl hsum hlt HW
      have hquo1 := hquo.grown hg4 (fun g e => by injection e with e; injection e with e; intro h; injection h with h; omega)
      have hdiv1 := hdiv.grown hg4 (fun g e => by injection e with e; injection e with e; intro h; injection h with h; omega)
      have hqc : w4.cell? ⟨w2.heap.size, j, none⟩ = some (.int .u32 ((0 : Nat) : Int)) := by
        rw [hquo1.cell (by omega), nth_append_left (by simp), nth_replicate_zero]
      have hqf : w4.frozen? ⟨w2.heap.size, j, none⟩ = false := hquo1.frozen _
      go_wp2
      have hne : ∀ g, (some (⟨w0.heap.size, 0, none⟩ : Addr)) = some ⟨g, 0, none⟩ → some g ≠ some w2.heap.size := fun g e => by injection e with e; injection e with e; intro h; injection h with h; omega
      have hne2 : ∀ g, (some (⟨w1.heap.size, 0, none⟩ : Addr)) = some ⟨g, 0, none⟩ → some g ≠ some w2.heap.size := fun g e => by injection e with e; injection e with e; intro h; injection h with h; omega
      have etk : (rs.take j ++ (new ++ (x :: (rs.drop j).drop (m + 3)))).take (j + (m + 2)) = rs.take j ++ new := by
        rw [← List.append_assoc]
        exact List.take_left' (by rw [List.length_append, ← hpl.out, HNL.out])
      have evt : val (rs.take j ++ new) = val (rs.take j) + bp j * val new := by rw [val_append, ← hpl.out]
      refine ⟨⟨j, _, q :: qs, by omega, congrArg (Value.int .i64) (by omega), ?_, ?_, ?_, hres1.grown (only_set (World.grownBy.refl w4 (some w2.heap.size)) j _) hne, ?_, hdiv1.grown (only_set (World.grownBy.refl w4 (some w2.heap.size)) j _) hne2, (hbel.trans (below_of_only hg4 (Nat.le_refl _) hbel.size)).setCell (by show w0.heap.size ≤ w2.heap.size; omega) _⟩, by simp only [RowKit.intOf]; omega⟩
      · show _ = _
        rw [List.length_cons, hql.out]; omega
      · show _ = _
        rw [etk, val_cons]
        exact divl_step hval.out hT.out HSUM.out evt
      · show _ < _
        rw [etk, evt]
        exact divl_bound (by have := val_lt ((hrest.l32).take j); rwa [← hpl.out] at this) HLT.out
      · have h1 := hquo1.set (j := j) hq
        rw [List.replicate_succ', List.append_assoc, List.singleton_append, set_snoc _ _ _ _ (by simp), List.append_assoc, List.singleton_append] at h1
        exact h1
end Go.Proofs.YtobfeneeehmpcaaGreatDoor

namespace Go.Proofs.YtobfeneeehmpcaaGreatDoor
open Go.RowKit

set_option maxRecDepth 100000 in
set_option maxHeartbeats 1000000 in
theorem divide_c {S S' : Nat → Prop} {n m c d : Nat} {A B : Option Addr} {xs ys : List Nat} (w : World) (ha : Rd w S A n xs) (hb : Rd w S' B m ys)
    (hS : ∀ b, S b → b < w.heap.size) (hS' : ∀ b, S' b → b < w.heap.size) (hn : n ≤ 1000000) (hm : 1 ≤ m) (hmb : m ≤ 1000000) (hcx : Can xs) (hcy : Can ys) :
    Calls Tryz.prog 138 #[.slice A n c, .slice B m d] w fun e w' => ∃ A1 n1 c1 qs A2 n2 c2 rs, e = .returned (.tuple #[.slice A1 n1 c1, .slice A2 n2 c2]) ∧
      Res w' w.heap.size A1 n1 c1 qs ∧ Res w' w.heap.size A2 n2 c2 rs ∧ Can qs ∧ Can rs ∧ val xs = val qs * val ys + val rs ∧ val rs < val ys ∧ Below w.heap.size w w' := by
  have hcv := cmp_val hcx hcy
  by_cases hlt : val xs < val ys
  · rw [if_pos hlt] at hcv
    have HC := Lib.hid hcv
    have HLT := Lib.hid hlt
    clear hcv hlt
    go_enter Tryz.func138, Tryz.ntmps138
    go_wp2_with fail
    refine (compare_c w ha hb (by omega) (by omega)).mono ?_
    rintro e W ⟨rfl, k, hk⟩
    rw [HC.out]
    have haW : Rd W S A n xs := by rw [hk]; exact ha.drewN k
    have hbW : Below w.heap.size w W := by rw [hk]; exact below_drewN (Below.refl _ _) k
    have hsz : W.heap.size = w.heap.size := by rw [hk]; rfl
    clear hk
    have HSZ := Lib.hid hsz
    clear hsz
    go_wp2_with fail
    refine (Clone_c W haW (fun b h => by rw [HSZ.out]; exact hS b h) (by omega)).mono ?_
    rintro e w1 ⟨A1, c1, rfl, hr1, hb1, _⟩
    go_wp2_with fail
    go_ret2
    exact ⟨none, 0, 0, [], A1, n, c1, xs, rfl, Res.nil _ _, hr1.more (by rw [HSZ.out]; exact Nat.le_refl _), Can.nil, hcx, by rw [val_nil]; omega, HLT.out, hbW.trans (hb1.mono (by rw [HSZ.out]; exact Nat.le_refl _))⟩
  · have hge : val ys ≤ val xs := by omega
    have hcn : ¬ cmp xs ys < 0 := by
      rw [hcv, if_neg hlt]; split <;> omega
    clear hcv
    by_cases hm1 : m = 1
    · subst hm1
      obtain ⟨y, rfl⟩ : ∃ y, ys = [y] := by
        have := hb.len
        match ys, this with
        | [y], _ => exact ⟨y, rfl⟩
      obtain ⟨b2, o2, rfl, hSb2, hct⟩ := hb.at_ (k := 0) (by omega)
      rw [nth_cons_zero, Nat.add_zero] at hct
      have hy1 : 1 ≤ y := by
        rcases hcy.2 with h | h
        · cases h
        · simp [nth] at h; omega
      have hy2 : y < 4294967296 := (L32.cons.1 hcy.1).1
      have hvy : val [y] = y := by rw [val_cons, val_nil]; omega
      have HVY := Lib.hid hvy
      clear hvy
      go_enter Tryz.func138, Tryz.ntmps138
      go_wp2_with fail
      refine (compare_c w ha hb (by omega) (by omega)).mono ?_
      rintro e W ⟨rfl, k, hk⟩
      have haW : Rd W S A n xs := by rw [hk]; exact ha.drewN k
      have hbW : Below w.heap.size w W := by rw [hk]; exact below_drewN (Below.refl _ _) k
      have hsz : W.heap.size = w.heap.size := by rw [hk]; rfl
      have hctW : W.cell? ⟨b2, o2, none⟩ = some (.int .u32 (y : Int)) := by rw [hk]; exact hct
      clear hk
      have HSZ := Lib.hid hsz
      clear hsz
      go_wp2_with fail
      go_region_with (first
        | (go_at_call 115; refine (Clone_c W.drew haW.drew (fun b h => by show b < W.heap.size; rw [HSZ.out]; exact hS b h) (by omega)).mono ?_; rintro e w1 ⟨A1, c1, rfl, hr1, hb1, hlt1⟩; have hct1 : w1.cell? ⟨b2, o2, none⟩ = some (.int .u32 (y : Int)) := (hb1.cell (p := ⟨b2, o2, none⟩) (by show b2 < W.heap.size; rw [HSZ.out]; exact hS' _ hSb2)).trans hctW)
        | (go_at_call 116; refine (reduce_c y w1 hr1 hy2 hy1 (by omega)).mono ?_; rintro e w2 ⟨n2, qs, r, rfl, hr2, hc2, hv2, hlt2, hle2, hg2⟩))
      all_goals
        go_wp2_with fail
        refine (From_c r w2 (by omega)).mono ?_
        rintro e w3 ⟨A3, n3, c3, rs, rfl, hr3, hc3, hv3, hb3⟩
        go_wp2_with fail
        go_ret2
        have hbw : Below W.heap.size W w1 := (show Below W.heap.size W W.drew from ⟨rfl, rfl, rfl, Nat.le_refl _, fun _ _ => rfl⟩).trans hb1
        have hg : Below W.heap.size W w2 := hbw.grown hg2 hbw.size (fun k hk => by
          rcases hr1.form with ⟨h, _⟩ | ⟨g, h, h2, _⟩
          · rw [h] at hk; simp [Value.ownBlock] at hk
          · rw [h] at hk; simp [Value.ownBlock] at hk; have h3 : W.heap.size ≤ g := h2; omega)
        have hr2' := (hr2.below hb3 (Nat.le_refl _)).more (base' := w.heap.size) (by show w.heap.size ≤ W.heap.size; rw [HSZ.out]; exact Nat.le_refl _)
        refine ⟨A1, n2, c1, qs, A3, n3, c3, rs, rfl, hr2', hr3.more (by have := hg.size; rw [HSZ.out] at this; exact this), hc2, hc3, by rw [hv3, HVY.out]; exact hv2, by rw [hv3, HVY.out]; exact hlt2, hbW.trans ((hg.trans (hb3.mono hg.size)).mono (by rw [HSZ.out]; exact Nat.le_refl _))⟩
    · obtain ⟨j, rfl⟩ : ∃ j, m = j + 2 := ⟨m - 2, by omega⟩
      have hjn : j + 2 ≤ n := by
        rcases Nat.lt_or_ge n (j + 2) with h | h
        · have := Can.lt_of_length (xs := xs) (ys := ys) hcx.1 hcy (by rw [ha.len, hb.len]; exact h)
          omega
        · exact h
      go_enter Tryz.func138, Tryz.ntmps138
      go_wp2_with fail
      refine (compare_c w ha hb (by omega) (by omega)).mono ?_
      rintro e W ⟨rfl, k, hk⟩
      have haW : Rd W S A n xs := by rw [hk]; exact ha.drewN k
      have hbrW : Rd W S' B (j + 2) ys := by rw [hk]; exact hb.drewN k
      have hbW : Below w.heap.size w W := by rw [hk]; exact below_drewN (Below.refl _ _) k
      have hsz : W.heap.size = w.heap.size := by rw [hk]; rfl
      clear hk
      have HSZ := Lib.hid hsz
      clear hsz
      go_wp2_with fail
      refine (divideLong_c W haW hbrW (fun b h => by rw [HSZ.out]; exact hS b h) (fun b h => by rw [HSZ.out]; exact hS' b h) hn hjn hcy).mono ?_
      rintro e w1 ⟨A1, n1, c1, qs, A2, n2, c2, rs, rfl, hr1, hr2, hc1, hc2, hv, hl, hb1⟩
      go_wp2_with fail
      go_ret2
      exact ⟨_, _, _, qs, _, _, _, rs, rfl, hr1.more (by rw [HSZ.out]; exact Nat.le_refl _), hr2.more (by rw [HSZ.out]; exact Nat.le_refl _), hc1, hc2, hv, hl, hbW.trans (hb1.mono (by rw [HSZ.out]; exact Nat.le_refl _))⟩

def divE (xs ys : List Nat) : Nat := if chk2 xs ys = 0 then (if ys.length = 0 then 53 else 0) else chk2 xs ys

set_option maxRecDepth 100000 in
theorem Div_c {S S' : Nat → Prop} {n m c d : Nat} {A B : Option Addr} {xs ys : List Nat} (w : World) (ha : Rd w S A n xs) (hb : Rd w S' B m ys)
    (hS : ∀ b, S b → b < w.heap.size) (hS' : ∀ b, S' b → b < w.heap.size) (hn : n ≤ 9223372036854775807) (hm : m ≤ 9223372036854775807) :
    Calls Tryz.prog 129 #[.slice A n c, .slice B m d] w fun e w' => ∃ A1 n1 c1 qs A2 n2 c2 rs, e = .returned (.tuple #[.slice A1 n1 c1, .slice A2 n2 c2, .int .i64 (divE xs ys : Int)]) ∧
      Res w' w.heap.size A1 n1 c1 qs ∧ Res w' w.heap.size A2 n2 c2 rs ∧ (divE xs ys ≠ 0 → n1 = 0 ∧ n2 = 0) ∧ (divE xs ys = 0 → Can qs ∧ Can rs ∧ val xs = val qs * val ys + val rs ∧ val rs < val ys) ∧ Below w.heap.size w w' := by
  have h1 := checkBoth_c (c := c) (d := d) w ha hb hn hm
  have e1 : (if chk xs = 0 then chk ys else chk xs) = chk2 xs ys := rfl
  rw [e1] at h1
  clear e1
  have H1 := Lib.hid h1
  clear h1
  by_cases h2 : chk2 xs ys = 0
  · obtain ⟨⟨cx, lx⟩, cy, ly⟩ := can_of_chk2 ha.l32 hb.l32 h2
    rw [ha.len] at lx
    rw [hb.len] at ly
    by_cases hm0 : m = 0
    · have hd : divE xs ys = 53 := by unfold divE; rw [if_pos h2, if_pos (by rw [hb.len]; exact hm0)]
      have HD := Lib.hid hd
      have H2 := Lib.hid h2
      clear hd h2
      have hm1 : m < 1 := by omega
      clear hm0
      go_enter Tryz.func129, Tryz.ntmps129
      go_wp2_with fail
      refine H1.out.mono ?_
      rintro e w1 ⟨rfl, rfl⟩
      rw [H2.out]
      go_wp2_with fail
      go_ret3
      exact ⟨none, 0, 0, [], none, 0, 0, [], by rw [HD.out]; rfl, Res.nil _ _, Res.nil _ _, fun _ => ⟨rfl, rfl⟩, fun h => by rw [HD.out] at h; omega, Below.refl _ _⟩
    · have hd : divE xs ys = 0 := by unfold divE; rw [if_pos h2, if_neg (by rw [hb.len]; exact hm0)]
      have HD := Lib.hid hd
      have H2 := Lib.hid h2
      clear hd h2
      have hm1 : 1 ≤ m := by omega
      clear hm0
      go_enter Tryz.func129, Tryz.ntmps129
      go_wp2_with fail
      refine H1.out.mono ?_
      rintro e w1 ⟨rfl, rfl⟩
      rw [H2.out]
      go_wp2_with fail
      refine (divide_c _ ha hb hS hS' (by omega) hm1 (by omega) cx cy).mono ?_
      rintro e w1 ⟨A1, n1, c1, qs, A2, n2, c2, rs, rfl, hr1, hr2, hc1, hc2, hv, hl, hb1⟩
      go_wp2_with fail
      go_ret3
      exact ⟨_, _, _, qs, _, _, _, rs, by rw [HD.out]; rfl, hr1, hr2, fun h => absurd HD.out h, fun _ => ⟨hc1, hc2, hv, hl⟩, hb1⟩
  · have hd : divE xs ys = chk2 xs ys := by unfold divE; rw [if_neg h2]
    have HD := Lib.hid hd
    have h3 : 1 ≤ chk2 xs ys := by omega
    clear hd h2
    go_enter Tryz.func129, Tryz.ntmps129
    go_wp2_with fail
    refine H1.out.mono ?_
    rintro e w1 ⟨rfl, rfl⟩
    go_wp2_with fail
    go_ret3
    exact ⟨none, 0, 0, [], none, 0, 0, [], by rw [HD.out]; rfl, Res.nil _ _, Res.nil _ _, fun _ => ⟨rfl, rfl⟩, fun h => by rw [HD.out] at h; omega, Below.refl _ _⟩
end Go.Proofs.YtobfeneeehmpcaaGreatDoor
