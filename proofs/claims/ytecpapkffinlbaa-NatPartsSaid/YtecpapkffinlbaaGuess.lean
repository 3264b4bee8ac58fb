/-
  Contract of nat.guessDigit: from the highest limbs alone, how often the divisor goes into the rest, or one more.
-/
import Derived.Test.YtecpapkffinlbaaSmall
import Derived.BigQuiet
set_option linter.unusedVariables false
set_option linter.unusedSimpArgs false
namespace Go.Proofs.Ytecpapkffinlbaa
open Go.RowKit

/-- The invariant's first half: a guess that fails the test is above the quotient. -/
theorem guess_above {R R3 D D2 P top v1 v0 u0 g left : Nat} (hD : D2 * P ≤ D) (hR : R < (R3 + 1) * P) (hR3 : R3 = top * 4294967296 + u0) (hD2 : D2 = v1 * 4294967296 + v0)
    (htop : top = g * v1 + left) (h : left * 4294967296 + u0 < g * v0) : R < g * D := by
  have h1 : R3 + 1 ≤ g * D2 := by
    rw [hR3, hD2, htop, Nat.mul_add, Nat.add_mul, Nat.mul_assoc]
    omega
  have h2 : (R3 + 1) * P ≤ g * D2 * P := Nat.mul_le_mul_right _ h1
  have h3 : g * D2 * P ≤ g * D := by rw [Nat.mul_assoc]; exact Nat.mul_le_mul_left _ hD
  omega
/-- Its end: a guess that passes is the quotient or one more. -/
theorem guess_near {R R3 D D2 P top v1 v0 u0 g left : Nat} (hD : D < (D2 + 1) * P) (hR : R3 * P ≤ R) (hR3 : R3 = top * 4294967296 + u0) (hD2 : D2 = v1 * 4294967296 + v0)
    (htop : top = g * v1 + left) (h : g * v0 ≤ left * 4294967296 + u0) (hg : g ≤ D2 + 1) (hg1 : 1 ≤ g) : (g - 1) * D ≤ R := by
  have h1 : g * D2 ≤ R3 := by
    rw [hR3, hD2, htop, Nat.mul_add, Nat.add_mul, Nat.mul_assoc]
    omega
  have h2 : (g - 1) * (D2 + 1) ≤ g * D2 := by
    obtain ⟨k, rfl⟩ : ∃ k, g = k + 1 := ⟨g - 1, by omega⟩
    rw [Nat.add_sub_cancel, Nat.mul_add, Nat.add_mul]
    omega
  have h3 : (g - 1) * D ≤ (g - 1) * ((D2 + 1) * P) := Nat.mul_le_mul_left _ (by omega)
  have h4 : (g - 1) * ((D2 + 1) * P) ≤ R := by
    rw [← Nat.mul_assoc]
    exact Nat.le_trans (Nat.mul_le_mul_right _ (Nat.le_trans h2 h1)) hR
  omega
/-- A number by its two highest limbs. -/
theorem val_top2 {ys : List Nat} {n : Nat} (hl : ys.length = n + 2) : val ys = val (ys.take n) + bp n * (nth ys (n + 1) * 4294967296 + nth ys n) := by
  have h1 : ys.take (n + 2) = ys := List.take_of_length_le (by omega)
  have h2 := val_take_succ (xs := ys) (n + 1)
  have h3 := val_take_succ (xs := ys) n
  rw [show n + 1 + 1 = n + 2 from rfl, h1, h3, bp_succ] at h2
  rw [h2, Nat.mul_add, Nat.mul_comm (nth ys (n + 1)), ← Nat.mul_assoc, Nat.mul_comm (bp n) 4294967296]
  omega
theorem val_top3 {xs : List Nat} {n : Nat} (hl : xs.length = n + 3) : val xs = val (xs.take n) + bp n * ((nth xs (n + 2) * 4294967296 + nth xs (n + 1)) * 4294967296 + nth xs n) := by
  have h1 : xs.take (n + 3) = xs := List.take_of_length_le (by omega)
  have h2 := val_take_succ (xs := xs) (n + 2)
  have h3 := val_top2 (ys := xs.take (n + 2)) (n := n) (by rw [List.length_take]; omega)
  rw [List.take_take, Nat.min_eq_left (by omega), nth_take (by omega), nth_take (by omega)] at h3
  rw [show n + 2 + 1 = n + 3 from rfl, h1, h3, show n + 2 = n + 1 + 1 from rfl, bp_succ, bp_succ] at h2
  rw [h2, show n + 2 = n + 1 + 1 from rfl]
  have e : 4294967296 * (4294967296 * bp n) * nth xs (n + 1 + 1) = bp n * (nth xs (n + 1 + 1) * 4294967296 * 4294967296) := by
    simp only [Nat.mul_assoc, Nat.mul_comm, Nat.mul_left_comm]
  rw [e]
  simp only [Nat.mul_add, Nat.add_mul]
  omega
theorem val_take_lt {xs : List Nat} (h : L32 xs) {n : Nat} (hn : n ≤ xs.length) : val (xs.take n) < bp n := by
  have := val_lt (h.take n)
  rwa [List.length_take, Nat.min_eq_left hn] at this

set_option maxRecDepth 100000 in
set_option maxHeartbeats 2000000 in
theorem guessDigit_c {S S' : Nat → Prop} {n c d : Nat} {A B : Option Addr} {xs ys : List Nat} (w : World) (ha : Rd w S A (n + 3) xs) (hb : Rd w S' B (n + 2) ys) (hn : n ≤ 1048576)
    (hv1 : 2147483648 ≤ nth ys (n + 1)) (hlow : val (xs.drop 1) < val ys) :
    Calls Try.prog 47 #[.slice A (n + 3) c, .slice B (n + 2) d] w fun e w' => ∃ g, e = .returned (.int .u32 ((g : Nat) : Int)) ∧ g < 4294967296 ∧ val xs < (g + 1) * val ys ∧ (1 ≤ g → (g - 1) * val ys ≤ val xs) ∧ ∃ k, w' = w.drewN k := by
  obtain ⟨b1, o1, rfl, hSb1, hu2⟩ := ha.at_ (k := n + 2) (by omega)
  obtain ⟨b2, o2, rfl, hSb2, hd1⟩ := hb.at_ (k := n + 1) (by omega)
  have hu1 : w.cell? ⟨b1, o1 + (n + 1), none⟩ = some (.int .u32 (nth xs (n + 1) : Int)) := by
    obtain ⟨b, o, e, _, h⟩ := ha.at_ (k := n + 1) (by omega)
    injection e with e; injection e with e1 e2; subst e1 e2; exact h
  have hu0 : w.cell? ⟨b1, o1 + n, none⟩ = some (.int .u32 (nth xs n : Int)) := by
    obtain ⟨b, o, e, _, h⟩ := ha.at_ (k := n) (by omega)
    injection e with e; injection e with e1 e2; subst e1 e2; exact h
  have hd0 : w.cell? ⟨b2, o2 + n, none⟩ = some (.int .u32 (nth ys n : Int)) := by
    obtain ⟨b, o, e, _, h⟩ := hb.at_ (k := n) (by omega)
    injection e with e; injection e with e1 e2; subst e1 e2; exact h
  have b0 := ha.lt n
  have b1' := ha.lt (n + 1)
  have b2' := ha.lt (n + 2)
  have c0 := hb.lt n
  have c1 := hb.lt (n + 1)
  have hxl := ha.len
  have hyl := hb.len
  obtain ⟨u0, hu0e⟩ : ∃ u, u = nth xs n := ⟨_, rfl⟩
  obtain ⟨u1, hu1e⟩ : ∃ u, u = nth xs (n + 1) := ⟨_, rfl⟩
  obtain ⟨u2, hu2e⟩ : ∃ u, u = nth xs (n + 2) := ⟨_, rfl⟩
  obtain ⟨v0, hv0e⟩ : ∃ u, u = nth ys n := ⟨_, rfl⟩
  obtain ⟨v1, hv1e⟩ : ∃ u, u = nth ys (n + 1) := ⟨_, rfl⟩
  obtain ⟨top, htop⟩ : ∃ t, t = u2 * 4294967296 + u1 := ⟨_, rfl⟩
  have hR := val_top3 hxl
  have hD := val_top2 hyl
  have hRl := val_take_lt ha.l32 (n := n) (by omega)
  have hDl := val_take_lt hb.l32 (n := n) (by omega)
  rw [← hu0e, ← hu1e, ← hu2e, ← htop] at hR
  rw [← hv0e, ← hv1e] at hD
  rw [← hu0e] at hu0 b0
  rw [← hu1e] at hu1 b1'
  rw [← hu2e] at hu2 b2'
  rw [← hv0e] at hd0 c0
  rw [← hv1e] at hd1 c1 hv1
  have e1 : val xs < (top * 4294967296 + u0 + 1) * bp n := by rw [hR, Nat.add_mul, Nat.mul_comm (bp n)]; omega
  have e2 : (top * 4294967296 + u0) * bp n ≤ val xs := by rw [hR, Nat.mul_comm (bp n)]; omega
  have e3 : (v1 * 4294967296 + v0) * bp n ≤ val ys := by rw [hD, Nat.mul_comm (bp n)]; exact Nat.le_add_left _ _
  have e4 : val ys < (v1 * 4294967296 + v0 + 1) * bp n := by rw [hD, Nat.add_mul (v1 * 4294967296 + v0), Nat.mul_comm (bp n)]; omega
  have hsplit := val_split xs 1 (by omega)
  have hx0 := val_take_lt ha.l32 (n := 1) (by omega)
  have hbp1 : bp 1 = 4294967296 := by unfold bp; exact Nat.pow_one _
  rw [hbp1] at hsplit hx0
  have e5 : val xs < 4294967296 * val ys := by omega
  have e6 : u2 ≤ v1 := by
    have h1 := val_take_succ (xs := xs.drop 1) (n + 1)
    rw [List.take_of_length_le (by rw [List.length_drop]; omega), nth_drop, show 1 + (n + 1) = n + 2 by omega, ← hu2e] at h1
    have h2 := val_take_succ (xs := ys) (n + 1)
    rw [List.take_of_length_le (by omega), ← hv1e] at h2
    have h3 := val_take_lt hb.l32 (n := n + 1) (by omega)
    rcases Nat.lt_or_ge v1 u2 with h4 | h4
    · have h5 : bp (n + 1) * (v1 + 1) ≤ bp (n + 1) * u2 := Nat.mul_le_mul_left _ h4
      rw [Nat.mul_add] at h5
      omega
    · exact h4
  have htl : top ≤ v1 * 4294967296 + 4294967295 := by
    have : u2 * 4294967296 ≤ v1 * 4294967296 := Nat.mul_le_mul_right _ e6
    omega
  have E1 := Lib.hid e1
  have E2 := Lib.hid e2
  have E3 := Lib.hid e3
  have E4 := Lib.hid e4
  have E5 := Lib.hid e5
  have HT := Lib.hid htl
  have hbit := or_shl b2' b1'
  rw [← htop] at hbit
  have htb : top < 18446744073709551616 := by omega
  have hv1z : ((v1 : Nat) : Int) ≠ 0 := by omega
  obtain ⟨g0, hg0⟩ : ∃ g, g = top / v1 := ⟨_, rfl⟩
  obtain ⟨l0, hl0⟩ : ∃ g, g = top % v1 := ⟨_, rfl⟩
  have hdm : top = g0 * v1 + l0 := by rw [hg0, hl0, Nat.mul_comm]; exact (Nat.div_add_mod top v1).symm
  have hl0v : l0 < v1 := by rw [hl0]; exact Nat.mod_lt _ (by omega)
  have hg0l : g0 ≤ 4294967297 := by
    rw [hg0]
    have : top / v1 < 4294967298 := by
      rw [Nat.div_lt_iff_lt_mul (by omega)]
      omega
    omega
  have hq : (top : Int) / (v1 : Int) = (g0 : Int) := by rw [hg0, Int.natCast_ediv]
  have hr : (top : Int) % (v1 : Int) = (l0 : Int) := by rw [hl0, Int.natCast_emod]
  have hstart : val xs < (g0 + 1) * val ys := by
    have h1 : top + 1 ≤ (g0 + 1) * v1 := by rw [Nat.add_mul]; omega
    have h2 : (top * 4294967296 + u0 + 1) * bp n ≤ (top + 1) * 4294967296 * bp n := Nat.mul_le_mul_right _ (by omega)
    have h3 : (top + 1) * 4294967296 * bp n ≤ (g0 + 1) * v1 * 4294967296 * bp n := Nat.mul_le_mul_right _ (Nat.mul_le_mul_right _ h1)
    have h4 : (g0 + 1) * v1 * 4294967296 * bp n ≤ (g0 + 1) * val ys := by
      rw [Nat.mul_assoc, Nat.mul_assoc]
      refine Nat.mul_le_mul_left _ (Nat.le_trans ?_ e3)
      rw [← Nat.mul_assoc]
      exact Nat.mul_le_mul_right _ (by omega)
    omega
  have HS := Lib.hid hstart
  have HDM := Lib.hid hdm
  clear hstart hdm hg0 hl0 e1 e2 e3 e4 e5 e6 hR hD hRl hDl hsplit hx0 hbp1 htl htop hxl hyl hu0e hu1e hu2e hv0e hv1e hlow
  go_enter Try.func47, Try.ntmps47
  go_wp2
  go_quiet (fail)
  go_wp2
  go_quiet (fail)
  go_wp2
  go_quiet (fail)
  go_wp2
  go_loop [9, 10] (fun gv lv => ∃ g left : Nat, gv = .int .u64 (g : Int) ∧ lv = .int .u64 (left : Int) ∧ g ≤ 4294967297 ∧ left < 4294967296 ∧ Hid (top = g * v1 + left) ∧ Hid (val xs < (g + 1) * val ys)) (fun gv _ => (intOf gv).toNat)
  case atStart => exact ⟨g0, l0, rfl, congrArg (Value.int IntKind.u64) hr, hg0l, by omega, HDM, HS⟩
  case round =>
    obtain ⟨g, left, rfl, rfl, hg, hleft, htop, hab⟩ := hrel
    have hor := or_shl hleft b0
    by_cases hbig : 4294967296 ≤ g
    · have hbi : 0 < (g : Int) / 4294967296 := by omega
      have hdown : val xs < g * val ys := Nat.lt_of_lt_of_le E5.out (Nat.mul_le_mul_right _ hbig)
      have hg1 : 1 ≤ g := by
        rcases Nat.eq_zero_or_pos g with e | e
        · rw [e, Nat.zero_mul] at hdown; omega
        · exact e
      have htop' : top = (g - 1) * v1 + (left + v1) := by
        have h1 := htop.out
        obtain ⟨k, rfl⟩ : ∃ k, g = k + 1 := ⟨g - 1, by omega⟩
        rw [Nat.add_sub_cancel, h1, Nat.add_mul]; omega
      have HTOP := Lib.hid htop'
      have HDN : Hid (val xs < (g - 1 + 1) * val ys) := by
        show _ < _
        rw [Nat.sub_add_cancel hg1]; exact hdown
      clear hdown
      by_cases hfin : 4294967296 ≤ left + v1
      · have hfi : 0 < ((left : Int) + (v1 : Int)) / 4294967296 := by omega
        have hgl : g ≤ 4294967296 := by
          rcases Nat.lt_or_ge 4294967296 g with h1 | h1
          · have h2 : 4294967296 * v1 ≤ (g - 1) * v1 := Nat.mul_le_mul_right _ (by omega)
            have h3 := HT.out
            omega
          · exact h1
        have hend : 1 ≤ g - 1 → (g - 1 - 1) * val ys ≤ val xs := fun h1 => guess_near (P := bp n) E4.out E2.out rfl rfl htop' (by
          have h2 : (g - 1) * v0 ≤ 4294967296 * 4294967296 := Nat.mul_le_mul (by omega) (by omega)
          have h3 : 4294967296 * 4294967296 ≤ (left + v1) * 4294967296 := Nat.mul_le_mul_right _ hfin
          omega) (by omega) h1
        have HE := Lib.hid hend
        clear hend htop'
        go_wp2
        go_ret
        refine ⟨g - 1, congrArg Ending.returned (congrArg (Value.int .u32) (by omega)), by omega, HDN.out, HE.out, _, rfl⟩
      · have hfi : ¬ 0 < ((left : Int) + (v1 : Int)) / 4294967296 := by omega
        clear htop'
        go_wp2
        refine ⟨⟨g - 1, by omega, left + v1, by omega, by omega, by omega, HTOP, HDN⟩, by simp only [intOf]; omega⟩
    · have hbi : ¬ 0 < (g : Int) / 4294967296 := by omega
      obtain ⟨pv, hpv⟩ : ∃ p, p = g * v0 := ⟨_, rfl⟩
      have hgv : (g : Int) * (v0 : Int) = (pv : Int) := by rw [hpv]; simp
      have hpb : pv ≤ 4294967295 * 4294967295 := by rw [hpv]; exact Nat.mul_le_mul (by omega) (by omega)
      obtain ⟨lv, hlv⟩ : ∃ p, p = left * 4294967296 + u0 := ⟨_, rfl⟩
      rw [← hlv] at hor
      have hlb : lv < 18446744073709551616 := by omega
      by_cases hc : lv < pv
      · have hci : (lv : Int) < (pv : Int) := by omega
        have hdown : val xs < g * val ys := guess_above (P := bp n) E3.out E1.out rfl rfl htop.out (by rw [← hlv, ← hpv]; exact hc)
        have HPV := Lib.hid hpv
        have HLV := Lib.hid hlv
        clear hpv hlv
        have hg1 : 1 ≤ g := by
          rcases Nat.eq_zero_or_pos g with e | e
          · rw [e, Nat.zero_mul] at hdown; omega
          · exact e
        have htop' : top = (g - 1) * v1 + (left + v1) := by
          have h1 := htop.out
          obtain ⟨k, rfl⟩ : ∃ k, g = k + 1 := ⟨g - 1, by omega⟩
          rw [Nat.add_sub_cancel, h1, Nat.add_mul]; omega
        have HTOP := Lib.hid htop'
        have HDN : Hid (val xs < (g - 1 + 1) * val ys) := by
          show _ < _
          rw [Nat.sub_add_cancel hg1]; exact hdown
        clear hdown
        by_cases hfin : 4294967296 ≤ left + v1
        · have hfi : 0 < ((left : Int) + (v1 : Int)) / 4294967296 := by omega
          have hgl : g ≤ 4294967296 := by
            rcases Nat.lt_or_ge 4294967296 g with h1 | h1
            · have h2 : 4294967296 * v1 ≤ (g - 1) * v1 := Nat.mul_le_mul_right _ (by omega)
              have h3 := HT.out
              omega
            · exact h1
          have hend : 1 ≤ g - 1 → (g - 1 - 1) * val ys ≤ val xs := fun h1 => guess_near (P := bp n) E4.out E2.out rfl rfl htop' (by
            have h2 : (g - 1) * v0 ≤ 4294967296 * 4294967296 := Nat.mul_le_mul (by omega) (by omega)
            have h3 : 4294967296 * 4294967296 ≤ (left + v1) * 4294967296 := Nat.mul_le_mul_right _ hfin
            omega) (by omega) h1
          have HE := Lib.hid hend
          clear hend htop'
          go_wp2
          go_ret
          refine ⟨g - 1, congrArg Ending.returned (congrArg (Value.int .u32) (by omega)), by omega, HDN.out, HE.out, _, rfl⟩
        · have hfi : ¬ 0 < ((left : Int) + (v1 : Int)) / 4294967296 := by omega
          clear htop'
          go_wp2
          refine ⟨⟨g - 1, by omega, left + v1, by omega, by omega, by omega, HTOP, HDN⟩, by simp only [intOf]; omega⟩
      · have hci : ¬ (lv : Int) < (pv : Int) := by omega
        have hend : 1 ≤ g → (g - 1) * val ys ≤ val xs := fun h1 => guess_near (P := bp n) E4.out E2.out rfl rfl htop.out (by rw [← hlv, ← hpv]; omega) (by omega) h1
        have HE := Lib.hid hend
        clear hend hpv hlv
        go_wp2
        go_ret
        refine ⟨g, congrArg Ending.returned (congrArg (Value.int .u32) (by omega)), by omega, hab.out, HE.out, _, rfl⟩
end Go.Proofs.Ytecpapkffinlbaa
