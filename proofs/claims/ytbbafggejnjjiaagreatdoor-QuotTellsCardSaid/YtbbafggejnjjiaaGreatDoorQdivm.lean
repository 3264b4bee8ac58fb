/-
  A quotient by digits is the quotient rounded; a root by digits is the root cut. Plain lemmas.
-/
import Derived.Test.YtbbafggejnjjiaaGreatDoorQrmod
set_option linter.unusedVariables false
set_option linter.unusedSimpArgs false
namespace Go.Proofs.YtbbafggejnjjiaaGreatDoor
open Go.RowKit

theorem scale_le {x y : Nat} (h : x ≤ y) (k : Nat) : x * k ≤ y * k := Nat.mul_le_mul_right k h
/-- The place at which a quotient has 40 digits is one. -/
theorem place_le {a b n c i j : Nat} (h2 : a * 10 ^ n < 10 ^ 40 * (b * 10 ^ c)) (h3 : 10 ^ 39 * (b * 10 ^ j) ≤ a * 10 ^ i) : n + j ≤ i + c := by
  rcases Nat.lt_or_ge (i + c) (n + j) with h | h
  · exfalso
    obtain ⟨f, hf⟩ : ∃ f, n + j = i + c + 1 + f := ⟨n + j - (i + c + 1), by omega⟩
    have e1 : a * 10 ^ n * 10 ^ j < 10 ^ 40 * (b * 10 ^ c) * 10 ^ j := Nat.mul_lt_mul_of_pos_right h2 (Nat.pow_pos (by omega))
    have e2 : 10 ^ 39 * (b * 10 ^ j) * 10 ^ (c + 1) ≤ a * 10 ^ i * 10 ^ (c + 1) := scale_le h3 _
    have e3 : a * 10 ^ i * 10 ^ (c + 1) ≤ a * 10 ^ n * 10 ^ j := by
      rw [Nat.mul_assoc, Nat.mul_assoc, ← Nat.pow_add, ← Nat.pow_add]
      exact Nat.mul_le_mul_left _ (Nat.pow_le_pow_right (by omega) (by omega))
    have e4 : 10 ^ 39 * (b * 10 ^ j) * 10 ^ (c + 1) = 10 ^ 40 * (b * 10 ^ c) * 10 ^ j := by
      rw [show 10 ^ (c + 1) = 10 ^ c * 10 from Nat.pow_succ .., show 10 ^ 40 = 10 ^ 39 * 10 from rfl]; ac_rfl
    omega
  · exact h
theorem div_match {v1 v2 n cut Q r : Nat} (h1 : 0 < v1) (h2 : 0 < v2) (hQ : v1 * 10 ^ n = Q * v2 + r) (hr : r < v2) (hc : 0 < cut) (l1 : 10 ^ (39 + cut) ≤ Q) (l2 : Q < 10 ^ (40 + cut)) :
    (n : Int) - (cut : Int) = qS v1 v2 ∧
    qZ v1 v2 = Q / 10 ^ cut + (if (decide (5 * 10 ^ (cut - 1) < Q % 10 ^ cut) || (decide (Q % 10 ^ cut = 5 * 10 ^ (cut - 1)) && (decide (0 < r) || decide ((Q / 10 ^ cut) % 2 = 1)))) = true then 1 else 0) := by
  obtain ⟨a1, a2⟩ := nd_bounds h1
  obtain ⟨b1, b2⟩ := nd_bounds h2
  obtain ⟨c1, c2⟩ := shf_40 a1 a2 b1 b2
  rw [show shf v1 v2 (nd v1) (nd v2) = qS v1 v2 from rfl] at c1 c2
  obtain ⟨i, j, hij⟩ : ∃ i j : Nat, qS v1 v2 = (i : Int) - (j : Int) := ⟨(qS v1 v2).toNat, (-(qS v1 v2)).toNat, by omega⟩
  obtain ⟨k, hk, f1, f2⟩ := wd_frac v1 v2 hij
  have g1 : 10 ^ 39 * (v2 * 10 ^ j) ≤ v1 * 10 ^ i := by rw [f1, f2, ← Nat.mul_assoc]; exact scale_le c1 k
  have g2 : v1 * 10 ^ i < 10 ^ 40 * (v2 * 10 ^ j) := by rw [f1, f2, ← Nat.mul_assoc]; exact Nat.mul_lt_mul_of_pos_right c2 hk
  have m1 : 10 ^ 39 * (v2 * 10 ^ cut) ≤ v1 * 10 ^ n := by
    rw [hQ, show 10 ^ 39 * (v2 * 10 ^ cut) = 10 ^ (39 + cut) * v2 by rw [Nat.pow_add]; ac_rfl]
    have := scale_le l1 v2
    omega
  have m2 : v1 * 10 ^ n < 10 ^ 40 * (v2 * 10 ^ cut) := by
    rw [hQ, show 10 ^ 40 * (v2 * 10 ^ cut) = 10 ^ (40 + cut) * v2 by rw [Nat.pow_add]; ac_rfl]
    have := scale_le (show Q + 1 ≤ 10 ^ (40 + cut) from l2) v2
    rw [Nat.add_mul, Nat.one_mul] at this
    omega
  have p1 := place_le m2 g1
  have p2 := place_le g2 m1
  have hs : qS v1 v2 = (n : Int) - (cut : Int) := by omega
  refine ⟨hs.symm, ?_⟩
  obtain ⟨k2, hk2, f3, f4⟩ := wd_frac v1 v2 hs
  have hz : qZ v1 v2 = rnd (v1 * 10 ^ n) (v2 * 10 ^ cut) := by
    rw [f3, f4, rnd_mul hk2]; rfl
  rw [hz]
  obtain ⟨H, hH⟩ : ∃ H, H = 5 * 10 ^ (cut - 1) := ⟨_, rfl⟩
  have hT : 10 ^ cut = 2 * H := by
    rw [hH, ← Nat.mul_assoc, show 2 * 5 = 10 from rfl, Nat.mul_comm, ← Nat.pow_succ]; congr 1; omega
  have hTp : 0 < 10 ^ cut := Nat.pow_pos (by omega)
  rw [← hH]
  have hdm := Nat.div_add_mod Q (10 ^ cut)
  have hml := Nat.mod_lt Q hTp
  generalize hq : Q / 10 ^ cut = q at *
  generalize hl : Q % 10 ^ cut = l at *
  have hN : v1 * 10 ^ n = q * (v2 * 10 ^ cut) + (l * v2 + r) := by
    rw [hQ, ← hdm, Nat.add_mul, show 10 ^ cut * q * v2 = q * (v2 * 10 ^ cut) by ac_rfl]; omega
  have hlt : l * v2 + r < v2 * 10 ^ cut := by
    have := scale_le (show l + 1 ≤ 10 ^ cut from hml) v2
    rw [Nat.add_mul, Nat.one_mul, Nat.mul_comm (10 ^ cut)] at this
    omega
  have hDp : 0 < v2 * 10 ^ cut := Nat.mul_pos h2 hTp
  have hdm2 := (Nat.div_mod_unique hDp).2 ⟨(show (l * v2 + r) + v2 * 10 ^ cut * q = v1 * 10 ^ n by rw [hN, Nat.mul_comm q]; omega), hlt⟩
  unfold rnd
  rw [hdm2.1, hdm2.2]
  congr 1
  have hup : upE q (l * v2 + r) (v2 * 10 ^ cut) = (decide (H < l) || (decide (l = H) && (decide (0 < r) || decide (q % 2 = 1)))) := by
    unfold upE half
    rw [hT, show v2 * (2 * H) = 2 * (H * v2) by ac_rfl]
    rcases Nat.lt_trichotomy l H with h | h | h
    · have h5 := scale_le (show l + 1 ≤ H from h) v2
      rw [Nat.add_mul, Nat.one_mul] at h5
      rw [if_pos (by omega)]
      have e1 : decide (H < l) = false := decide_eq_false (by omega)
      have e2 : decide (l = H) = false := decide_eq_false (by omega)
      rw [e1, e2]; rfl
    · subst h
      rw [if_neg (by omega)]
      have e1 : decide (l < l) = false := decide_eq_false (by omega)
      rw [e1]
      by_cases h0 : 0 < r
      · rw [if_pos (by omega), decide_eq_true h0]; simp
      · rw [if_neg (by omega), decide_eq_false h0]; simp
    · have h5 := scale_le (show H + 1 ≤ l from h) v2
      rw [Nat.add_mul, Nat.one_mul] at h5
      rw [if_neg (by omega), if_pos (by omega), decide_eq_true h]; rfl
  rw [hup]
/-- The length of a quotient's digits. -/
theorem quo_long {v1 v2 n Q r : Nat} (h1 : 0 < v1) (h2 : 0 < v2) (hQ : v1 * 10 ^ n = Q * v2 + r) (hr : r < v2) (hn : nd v2 + 42 ≤ nd v1 + n) : 10 ^ 40 ≤ Q := by
  obtain ⟨a1, a2⟩ := nd_bounds h1
  obtain ⟨b1, b2⟩ := nd_bounds h2
  rcases Nat.lt_or_ge Q (10 ^ 40) with h | h
  · exfalso
    have e1 : Q * v2 + r < 10 ^ 40 * v2 := by
      have := scale_le (show Q + 1 ≤ 10 ^ 40 from h) v2
      rw [Nat.add_mul, Nat.one_mul] at this
      omega
    have e2 : 10 ^ nd v1 * 10 ^ n ≤ 10 * (v1 * 10 ^ n) := by rw [← Nat.mul_assoc]; exact scale_le a1 _
    have e3 : 10 ^ (nd v2 + 42) ≤ 10 ^ nd v1 * 10 ^ n := by rw [← Nat.pow_add]; exact Nat.pow_le_pow_right (by omega) hn
    rw [Nat.pow_add] at e3
    have e4 : v2 * 10 ^ 42 ≤ 10 ^ nd v2 * 10 ^ 42 := scale_le (Nat.le_of_lt b2) _
    omega
  · exact h
/-- A root by digits, cut to 40. -/
theorem root_match {v n r cut R : Nat} {e : Int} (h0 : 0 < v) (hpar : (e - (n : Int)) % 2 = 0) (h1 : r * r ≤ v * 10 ^ n) (h2 : v * 10 ^ n < (r + 1) * (r + 1)) (l1 : 10 ^ (39 + cut) ≤ r) (l2 : r < 10 ^ (40 + cut))
    (g1 : R * R ≤ sqr v (nd v) e) (g2 : sqr v (nd v) e < (R + 1) * (R + 1)) : r / 10 ^ cut = R ∧ (e - (n : Int)) / 2 + (cut : Int) = rtX v e := by
  obtain ⟨a1, a2⟩ := nd_bounds h0
  obtain ⟨c1, c2⟩ := sqr_80 e a1 a2
  have hev := rsh_even (nd v) e
  unfold rtX
  unfold sqr at *
  generalize rsh (nd v) e = s at *
  obtain ⟨i, j, hij⟩ : ∃ i j : Nat, s = (i : Int) - (j : Int) := ⟨s.toNat, (-s).toNat, by omega⟩
  obtain ⟨k, hk, f1, f2⟩ := wd_frac v 1 hij
  have hD : 0 < wd 1 (-s) := wd_pos (by omega) _
  rw [Nat.one_mul] at f2
  have b1 : 10 ^ 78 * wd 1 (-s) ≤ wd v s := (Nat.le_div_iff_mul_le hD).1 c1
  have b2 : wd v s < 10 ^ 80 * wd 1 (-s) := (Nat.div_lt_iff_lt_mul hD).1 c2
  have r1 : R * R * wd 1 (-s) ≤ wd v s := (Nat.le_div_iff_mul_le hD).1 g1
  have r2 : wd v s < (R + 1) * (R + 1) * wd 1 (-s) := (Nat.div_lt_iff_lt_mul hD).1 g2
  generalize wd v s = A' at *
  generalize wd 1 (-s) = D at *
  -- in v 10^i and 10^j
  have B1 : 10 ^ 78 * 10 ^ j ≤ v * 10 ^ i := by rw [f1, f2, ← Nat.mul_assoc]; exact scale_le b1 k
  have B2 : v * 10 ^ i < 10 ^ 80 * 10 ^ j := by rw [f1, f2, ← Nat.mul_assoc]; exact Nat.mul_lt_mul_of_pos_right b2 hk
  have R1 : R * R * 10 ^ j ≤ v * 10 ^ i := by rw [f1, f2, ← Nat.mul_assoc]; exact scale_le r1 k
  have R2 : v * 10 ^ i < (R + 1) * (R + 1) * 10 ^ j := by rw [f1, f2, ← Nat.mul_assoc]; exact Nat.mul_lt_mul_of_pos_right r2 hk
  have L1 : 10 ^ (78 + 2 * cut) ≤ v * 10 ^ n := by
    refine Nat.le_trans ?_ h1
    have := Nat.mul_le_mul l1 l1
    rwa [← Nat.pow_add, show 39 + cut + (39 + cut) = 78 + 2 * cut by omega] at this
  have L2 : v * 10 ^ n < 10 ^ (80 + 2 * cut) := by
    refine Nat.lt_of_lt_of_le h2 ?_
    have := Nat.mul_le_mul (show r + 1 ≤ 10 ^ (40 + cut) from l2) (show r + 1 ≤ 10 ^ (40 + cut) from l2)
    rwa [← Nat.pow_add, show 40 + cut + (40 + cut) = 80 + 2 * cut by omega] at this
  have P1 : n + j < i + 2 * cut + 2 := by
    rcases Nat.lt_or_ge (n + j) (i + 2 * cut + 2) with h | h
    · exact h
    · exfalso
      have q1 : v * 10 ^ n * 10 ^ j < 10 ^ (80 + 2 * cut) * 10 ^ j := Nat.mul_lt_mul_of_pos_right L2 (Nat.pow_pos (by omega))
      have q2 : 10 ^ 78 * 10 ^ j * 10 ^ (2 * cut + 2) ≤ v * 10 ^ i * 10 ^ (2 * cut + 2) := scale_le B1 _
      have q3 : v * 10 ^ i * 10 ^ (2 * cut + 2) ≤ v * 10 ^ n * 10 ^ j := by
        rw [Nat.mul_assoc, Nat.mul_assoc, ← Nat.pow_add, ← Nat.pow_add]
        exact Nat.mul_le_mul_left _ (Nat.pow_le_pow_right (by omega) (by omega))
      have q4 : 10 ^ 78 * 10 ^ j * 10 ^ (2 * cut + 2) = 10 ^ (80 + 2 * cut) * 10 ^ j := by
        rw [← Nat.pow_add, ← Nat.pow_add, ← Nat.pow_add]; congr 1; omega
      omega
  have P2 : i + 2 * cut < n + j + 2 := by
    rcases Nat.lt_or_ge (i + 2 * cut) (n + j + 2) with h | h
    · exact h
    · exfalso
      have q1 : v * 10 ^ i * 10 ^ (2 * cut) < 10 ^ 80 * 10 ^ j * 10 ^ (2 * cut) := Nat.mul_lt_mul_of_pos_right B2 (Nat.pow_pos (by omega))
      have q2 : 10 ^ (78 + 2 * cut) * 10 ^ (j + 2) ≤ v * 10 ^ n * 10 ^ (j + 2) := scale_le L1 _
      have q3 : v * 10 ^ n * 10 ^ (j + 2) ≤ v * 10 ^ i * 10 ^ (2 * cut) := by
        rw [Nat.mul_assoc, Nat.mul_assoc, ← Nat.pow_add, ← Nat.pow_add]
        exact Nat.mul_le_mul_left _ (Nat.pow_le_pow_right (by omega) (by omega))
      have q4 : 10 ^ (78 + 2 * cut) * 10 ^ (j + 2) = 10 ^ 80 * 10 ^ j * 10 ^ (2 * cut) := by
        rw [← Nat.pow_add, ← Nat.pow_add, ← Nat.pow_add]; congr 1; omega
      omega
  have P : n + j = i + 2 * cut := by omega
  refine ⟨?_, by omega⟩
  have hT : 0 < 10 ^ cut := Nat.pow_pos (by omega)
  have hdm := Nat.div_add_mod r (10 ^ cut)
  have hml := Nat.mod_lt r hT
  generalize r / 10 ^ cut = q at *
  generalize r % 10 ^ cut = l at *
  have hvv : v * 10 ^ i * (10 ^ cut * 10 ^ cut) = v * 10 ^ n * 10 ^ j := by
    rw [Nat.mul_assoc, Nat.mul_assoc, ← Nat.pow_add, ← Nat.pow_add, ← Nat.pow_add]; congr 2; omega
  have s1 : (q * 10 ^ cut) * (q * 10 ^ cut) * 10 ^ j ≤ v * 10 ^ i * (10 ^ cut * 10 ^ cut) := by
    rw [hvv]
    refine scale_le (Nat.le_trans ?_ h1) _
    exact Nat.mul_le_mul (by rw [← hdm, Nat.mul_comm]; omega) (by rw [← hdm, Nat.mul_comm]; omega)
  have s2 : v * 10 ^ i * (10 ^ cut * 10 ^ cut) < ((q + 1) * 10 ^ cut) * ((q + 1) * 10 ^ cut) * 10 ^ j := by
    rw [hvv]
    refine Nat.mul_lt_mul_of_pos_right (Nat.lt_of_lt_of_le h2 ?_) (Nat.pow_pos (by omega))
    have : r + 1 ≤ (q + 1) * 10 ^ cut := by rw [← hdm, Nat.add_mul, Nat.one_mul, Nat.mul_comm q]; omega
    exact Nat.mul_le_mul this this
  have t1 : q * q * 10 ^ j ≤ v * 10 ^ i := by
    refine Nat.le_of_mul_le_mul_right (c := 10 ^ cut * 10 ^ cut) ?_ (Nat.mul_pos hT hT)
    calc q * q * 10 ^ j * (10 ^ cut * 10 ^ cut) = (q * 10 ^ cut) * (q * 10 ^ cut) * 10 ^ j := by ac_rfl
      _ ≤ _ := s1
  have t2 : v * 10 ^ i < (q + 1) * (q + 1) * 10 ^ j := by
    refine Nat.lt_of_mul_lt_mul_right (a := 10 ^ cut * 10 ^ cut) ?_
    calc v * 10 ^ i * (10 ^ cut * 10 ^ cut) < _ := s2
      _ = (q + 1) * (q + 1) * 10 ^ j * (10 ^ cut * 10 ^ cut) := by ac_rfl
  have u1 : q * q < (R + 1) * (R + 1) := Nat.lt_of_mul_lt_mul_right (Nat.lt_of_le_of_lt t1 R2)
  have u2 : R * R < (q + 1) * (q + 1) := Nat.lt_of_mul_lt_mul_right (Nat.lt_of_le_of_lt R1 t2)
  rcases Nat.lt_trichotomy q R with h | h | h
  · exfalso
    have := Nat.mul_le_mul (show q + 1 ≤ R from h) (show q + 1 ≤ R from h)
    omega
  · exact h
  · exfalso
    have := Nat.mul_le_mul (show R + 1 ≤ q from h) (show R + 1 ≤ q from h)
    omega
end Go.Proofs.YtbbafggejnjjiaaGreatDoor
