/-
  A quotient rounded to the nearest, the place of its first digit, a root's places; digits as texts stand in the order of fractions. Plain lemmas, no Go.
  Contract of quot.ratio: the quotient of two decimals that may be, the second not 0, rounded and settled. Written by gen_ratio.py.
  Contracts of quot.divide with each of the questions that Floor, Ceil and Round hand in, and of quot.whole with each. Written by gen_whole.py.
  Contract of quot.root: the root of a decimal that may be, cut and settled. Written by gen_root.py.
-/
import Derived.Test.YtbbafggejnjjiaaGreatDoorQcut
import Derived.Test.YtbbafggejnjjiaaGreatDoorDsgn
import Derived.Test.YtbbafggejnjjiaaGreatDoorDsett
import Derived.Deep.CutRange
import Derived.Laws.Cover1
import Derived.Test.YtbbafggejnjjiaaGreatDoorNdiv
set_option linter.unusedVariables false
set_option linter.unusedSimpArgs false
namespace Go.Proofs.YtbbafggejnjjiaaGreatDoor

/-- The number that digits tell, the highest first. -/
def hv : List Nat → Nat
  | [] => 0
  | x :: r => x * 10 ^ r.length + hv r
theorem hv_lt {xs : List Nat} (h : D10 xs) : hv xs < 10 ^ xs.length := by
  induction xs with
  | nil => simp [hv]
  | cons x r ih =>
    have h1 := ih (fun y hy => h y (List.mem_cons_of_mem _ hy))
    have h2 := h x (List.mem_cons_self ..)
    have h3 : (x + 1) * 10 ^ r.length ≤ 10 * 10 ^ r.length := Nat.mul_le_mul_right _ (by omega)
    rw [Nat.succ_mul] at h3
    simp only [hv, List.length_cons, Nat.pow_succ]
    omega
theorem hv_reverse (ds : List Nat) : hv ds.reverse = dval ds := by
  have hap : ∀ xs : List Nat, ∀ d, hv (xs ++ [d]) = 10 * hv xs + d := by
    intro xs d
    induction xs with
    | nil => simp [hv]
    | cons x r ih =>
      simp only [List.cons_append, hv, List.length_append, List.length_cons, List.length_nil, ih, Nat.pow_succ, Nat.mul_add]
      rw [show x * (10 ^ r.length * 10) = 10 * (x * 10 ^ r.length) by rw [Nat.mul_comm (10 ^ r.length) 10, Nat.mul_left_comm]]
      omega
  induction ds with
  | nil => rfl
  | cons x r ih => rw [List.reverse_cons, hap, ih]; simp only [dval]; omega
/-- A digit's octet. -/
def dig8 (x : Nat) : UInt8 := UInt8.ofNat (x + 48)
theorem dig8_lt {x y : Nat} (hx : x < 10) (hy : y < 10) : decide (dig8 x < dig8 y) = decide (x < y) := by
  rw [decide_eq_decide]
  unfold dig8
  rw [UInt8.lt_iff_toNat_lt]
  simp only [UInt8.toNat_ofNat']
  omega
theorem dig8_eq {x y : Nat} (hx : x < 10) (hy : y < 10) : (dig8 x == dig8 y) = decide (x = y) := by
  rw [Bool.eq_iff_iff, beq_iff_eq, decide_eq_true_eq]
  unfold dig8
  rw [← UInt8.toNat_inj]
  simp only [UInt8.toNat_ofNat']
  omega
/-- Digits as texts stand in the order of the fractions that they are with a point ahead. -/
theorem lexD : ∀ (xs ys : List Nat), D10 xs → D10 ys → (ys = [] ∨ ys.getLast? ≠ some 0) → Go.Op.bytesLess (xs.map dig8) (ys.map dig8) = decide (hv xs * 10 ^ ys.length < hv ys * 10 ^ xs.length)
  | xs, [], _, _, _ => by
    cases xs <;> simp [Go.Op.bytesLess, hv]
  | [], y :: ys, _, hy, hl => by
    have hp : 0 < hv (y :: ys) := by
      have hgen : ∀ zs : List Nat, zs ≠ [] → zs.getLast? ≠ some 0 → 0 < hv zs := by
        intro zs
        induction zs with
        | nil => intro h; exact absurd rfl h
        | cons z r ih =>
          intro _ h2
          cases r with
          | nil =>
            simp [hv] at h2 ⊢
            omega
          | cons a b =>
            have := ih (by simp) (by simpa using h2)
            simp only [hv] at this ⊢
            omega
      exact hgen _ (by simp) (hl.resolve_left (by simp))
    simp only [List.map_nil, List.map_cons, Go.Op.bytesLess, hv, List.length_nil, Nat.pow_zero, Nat.mul_one, Nat.zero_mul]
    rw [eq_comm, decide_eq_true_eq]
    simpa [hv] using hp
  | x :: xs, y :: ys, hx, hy, hl => by
    have hx0 := hx x (List.mem_cons_self ..)
    have hy0 := hy y (List.mem_cons_self ..)
    have hxs : D10 xs := fun z hz => hx z (List.mem_cons_of_mem _ hz)
    have hys : D10 ys := fun z hz => hy z (List.mem_cons_of_mem _ hz)
    have hl2 : ys = [] ∨ ys.getLast? ≠ some 0 := by
      cases ys with
      | nil => exact .inl rfl
      | cons a b => exact .inr (by have := hl.resolve_left (by simp); simpa using this)
    have ih := lexD xs ys hxs hys hl2
    have a1 := hv_lt hxs
    have b1 := hv_lt hys
    rw [Bool.eq_iff_iff, decide_eq_true_eq]
    simp only [List.map_cons, Go.Op.bytesLess, hv, List.length_cons, Nat.pow_succ]
    rw [dig8_lt hx0 hy0, dig8_eq hx0 hy0, ih, Bool.or_eq_true, Bool.and_eq_true, decide_eq_true_eq, decide_eq_true_eq, decide_eq_true_eq]
    clear ih
    generalize hv xs = a at *
    generalize hv ys = b at *
    have pn : 0 < 10 ^ xs.length := Nat.pow_pos (by omega)
    have pm : 0 < 10 ^ ys.length := Nat.pow_pos (by omega)
    generalize 10 ^ xs.length = P at *
    generalize 10 ^ ys.length = Q at *
    have e1 : (x * P + a) * (Q * 10) = 10 * (x * (P * Q) + a * Q) := by rw [Nat.mul_comm Q 10, Nat.mul_left_comm, Nat.add_mul, Nat.mul_assoc]
    have e2 : (y * Q + b) * (P * 10) = 10 * (y * (P * Q) + b * P) := by rw [Nat.mul_comm P 10, Nat.mul_left_comm, Nat.add_mul, Nat.mul_assoc, Nat.mul_comm Q P]
    rw [e1, e2]
    have a2 : a * Q < P * Q := Nat.mul_lt_mul_of_pos_right a1 pm
    have b2 : b * P < P * Q := by rw [Nat.mul_comm P Q]; exact Nat.mul_lt_mul_of_pos_right b1 pn
    rcases Nat.lt_trichotomy x y with h | h | h
    · have h3 : (x + 1) * (P * Q) ≤ y * (P * Q) := Nat.mul_le_mul_right _ h
      rw [Nat.succ_mul] at h3
      exact ⟨fun _ => by omega, fun _ => .inl h⟩
    · subst h
      constructor
      · rintro (h | ⟨_, h⟩) <;> omega
      · intro h; exact .inr ⟨rfl, by omega⟩
    · have h3 : (y + 1) * (P * Q) ≤ x * (P * Q) := Nat.mul_le_mul_right _ h
      rw [Nat.succ_mul] at h3
      constructor
      · rintro (h | ⟨h, _⟩) <;> omega
      · intro h; omega

/-- A quotient rounded to the nearest, at the half to the even one. -/
def rnd (n d : Nat) : Nat := n / d + (if upE (n / d) (n % d) d = true then 1 else 0)
theorem half_mul {k : Nat} (hk : 0 < k) (r d : Nat) : half (r * k) (d * k) = half r d := by
  unfold half
  have h1 : 2 * (r * k) < d * k ↔ 2 * r < d := by rw [← Nat.mul_assoc]; exact Nat.mul_lt_mul_right hk
  have h2 : d * k < 2 * (r * k) ↔ d < 2 * r := by rw [← Nat.mul_assoc]; exact Nat.mul_lt_mul_right hk
  simp only [h1, h2]
theorem rnd_mul {k : Nat} (hk : 0 < k) (n d : Nat) : rnd (n * k) (d * k) = rnd n d := by
  unfold rnd upE
  rw [Nat.mul_div_mul_right _ _ hk, Nat.mul_mod_mul_right, half_mul hk]
/-- A rounded quotient misses by no more than a half. -/
theorem rnd_near {n d : Nat} (hd : 0 < d) : 2 * n ≤ (2 * rnd n d + 1) * d ∧ 2 * (rnd n d * d) ≤ 2 * n + d := by
  have h1 := Nat.div_add_mod n d
  have h2 := Nat.mod_lt n hd
  unfold rnd upE half
  rw [Nat.mul_comm] at h1
  generalize n / d = q at *
  generalize n % d = r at *
  by_cases h3 : 2 * r < d
  · simp [h3, Nat.add_mul]
    rw [Nat.mul_assoc]; omega
  · by_cases h4 : d < 2 * r
    · simp [h3, h4, Nat.add_mul, Nat.mul_add]
      rw [Nat.mul_assoc]; omega
    · simp only [h3, h4, if_false]
      by_cases h5 : q % 2 = 1
      · simp [h5, Nat.add_mul, Nat.mul_add]
        rw [Nat.mul_assoc]; omega
      · simp [h5, Nat.add_mul]
        rw [Nat.mul_assoc]; omega
theorem rnd_exact {n d q : Nat} (hd : 0 < d) (h : n = q * d) : rnd n d = q := by
  unfold rnd upE half
  have h1 : n / d = q := by rw [h]; exact Nat.mul_div_cancel _ hd
  have h2 : n % d = 0 := by rw [h]; exact Nat.mul_mod_left _ _
  rw [h1, h2]
  simp [hd]
theorem rnd_ge {n d l : Nat} (hd : 0 < d) (h : l * d ≤ n) : l ≤ rnd n d := by
  unfold rnd
  have : l ≤ n / d := (Nat.le_div_iff_mul_le hd).2 h
  omega
theorem rnd_le {n d u : Nat} (hd : 0 < d) (h : n < u * d) : rnd n d ≤ u := by
  unfold rnd
  have : n / d < u := (Nat.div_lt_iff_lt_mul hd).2 h
  split <;> omega
/-- A fraction widened by a difference of two places. -/
theorem wd_frac (A B : Nat) {i j : Nat} {s : Int} (hs : s = (i : Int) - (j : Int)) : ∃ k, 0 < k ∧ A * 10 ^ i = wd A s * k ∧ B * 10 ^ j = wd B (-s) * k := by
  unfold wd
  by_cases h : j ≤ i
  · refine ⟨10 ^ j, Nat.pow_pos (by omega), ?_, ?_⟩
    · rw [Nat.mul_assoc, ← Nat.pow_add]; congr 2; omega
    · rw [show (-s).toNat = 0 by omega, Nat.pow_zero, Nat.mul_one]
  · refine ⟨10 ^ i, Nat.pow_pos (by omega), ?_, ?_⟩
    · rw [show s.toNat = 0 by omega, Nat.pow_zero, Nat.mul_one]
    · rw [Nat.mul_assoc, ← Nat.pow_add]; congr 2; omega
/-- By how many places a quotient is shifted. -/
def shf (A B La Lb : Nat) : Int := 40 + (Lb : Int) - (La : Int) - (if A * 10 ^ Lb < B * 10 ^ La then 0 else 1)
/-- A quotient that is shifted so has 40 digits. -/
theorem shf_40 {A B La Lb : Nat} (a1 : 10 ^ La ≤ 10 * A) (a2 : A < 10 ^ La) (b1 : 10 ^ Lb ≤ 10 * B) (b2 : B < 10 ^ Lb) :
    10 ^ 39 * wd B (-shf A B La Lb) ≤ wd A (shf A B La Lb) ∧ wd A (shf A B La Lb) < 10 ^ 40 * wd B (-shf A B La Lb) := by
  have hP : 0 < 10 ^ La := Nat.pow_pos (by omega)
  have hQ : 0 < 10 ^ Lb := Nat.pow_pos (by omega)
  by_cases h : A * 10 ^ Lb < B * 10 ^ La
  · have hs : shf A B La Lb = ((40 + Lb : Nat) : Int) - (La : Int) := by unfold shf; rw [if_pos h]; omega
    obtain ⟨k, hk, e1, e2⟩ := wd_frac A B hs
    generalize wd A (shf A B La Lb) = N at *
    generalize wd B (-shf A B La Lb) = D at *
    rw [Nat.pow_add] at e1
    generalize 10 ^ La = P at *
    generalize 10 ^ Lb = Q at *
    refine ⟨?_, ?_⟩
    · refine Nat.le_of_mul_le_mul_right ?_ hk
      rw [← e1, Nat.mul_assoc, ← e2]
      have h1 : B * P ≤ Q * (10 * A) := Nat.mul_le_mul (Nat.le_of_lt b2) a1
      have h2 : A * (10 ^ 40 * Q) = 10 ^ 39 * (Q * (10 * A)) := by
        rw [show 10 ^ 40 = 10 ^ 39 * 10 from rfl, Nat.mul_assoc (10 ^ 39), Nat.mul_left_comm A, Nat.mul_comm A, Nat.mul_comm 10 Q, Nat.mul_assoc Q]
      rw [h2]
      exact Nat.mul_le_mul_left _ h1
    · refine Nat.lt_of_mul_lt_mul_right (a := k) ?_
      rw [← e1, Nat.mul_assoc, ← e2, Nat.mul_left_comm]
      exact Nat.mul_lt_mul_of_pos_left h (by decide)
  · have hs : shf A B La Lb = ((39 + Lb : Nat) : Int) - (La : Int) := by unfold shf; rw [if_neg h]; omega
    obtain ⟨k, hk, e1, e2⟩ := wd_frac A B hs
    generalize wd A (shf A B La Lb) = N at *
    generalize wd B (-shf A B La Lb) = D at *
    rw [Nat.pow_add] at e1
    generalize 10 ^ La = P at *
    generalize 10 ^ Lb = Q at *
    refine ⟨?_, ?_⟩
    · refine Nat.le_of_mul_le_mul_right ?_ hk
      rw [← e1, Nat.mul_assoc, ← e2, Nat.mul_left_comm A]
      exact Nat.mul_le_mul_left _ (by omega)
    · refine Nat.lt_of_mul_lt_mul_right (a := k) ?_
      rw [← e1, Nat.mul_assoc, ← e2, Nat.mul_left_comm A, show 10 ^ 40 = 10 ^ 39 * 10 from rfl, Nat.mul_assoc]
      refine Nat.mul_lt_mul_of_pos_left ?_ (by decide)
      have h1 : A * Q < P * Q := Nat.mul_lt_mul_of_pos_right a2 hQ
      have h2 : P * Q ≤ 10 * (B * P) := by rw [← Nat.mul_assoc, Nat.mul_comm P]; exact Nat.mul_le_mul_right _ b1
      omega

/-- By how many places a number is shifted ahead of its root. -/
def rsh (L : Nat) (e : Int) : Int := if (e - (80 - (L : Int))) % 2 = 0 then 80 - (L : Int) else 79 - (L : Int)
theorem rsh_even (L : Nat) (e : Int) : (e - rsh L e) % 2 = 0 := by unfold rsh; split <;> omega
/-- What is shifted so, cut to a whole number. -/
def sqr (A L : Nat) (e : Int) : Nat := wd A (rsh L e) / wd 1 (-rsh L e)
theorem sqr_80 {A L : Nat} (e : Int) (a1 : 10 ^ L ≤ 10 * A) (a2 : A < 10 ^ L) : 10 ^ 78 ≤ sqr A L e ∧ sqr A L e < 10 ^ 80 := by
  obtain ⟨t, ht, hs⟩ : ∃ t : Nat, (t = 79 ∨ t = 80) ∧ rsh L e = (t : Int) - (L : Int) := by
    unfold rsh
    split
    · exact ⟨80, .inr rfl, rfl⟩
    · exact ⟨79, .inl rfl, rfl⟩
  obtain ⟨k, hk, e1, e2⟩ := wd_frac A 1 hs
  unfold sqr
  have hD : 0 < wd 1 (-rsh L e) := by unfold wd; exact Nat.mul_pos (by omega) (Nat.pow_pos (by omega))
  generalize wd A (rsh L e) = N at *
  generalize wd 1 (-rsh L e) = D at *
  rw [Nat.one_mul] at e2
  rw [e2] at a1 a2
  refine ⟨?_, ?_⟩
  · rw [Nat.le_div_iff_mul_le hD]
    refine Nat.le_of_mul_le_mul_right ?_ hk
    rw [← e1, Nat.mul_assoc]
    generalize D * k = V at *
    rcases ht with rfl | rfl <;> omega
  · rw [Nat.div_lt_iff_lt_mul hD]
    refine Nat.lt_of_mul_lt_mul_right (a := k) ?_
    rw [← e1, Nat.mul_assoc, Nat.mul_comm A]
    have h1 : 10 ^ t ≤ 10 ^ 80 := Nat.pow_le_pow_right (by omega) (by omega)
    exact Nat.lt_of_le_of_lt (Nat.mul_le_mul_right _ h1) (Nat.mul_lt_mul_of_pos_left a2 (Nat.pow_pos (by omega)))

/-- How many digits a number's text has. -/
def nd (v : Nat) : Nat := if v = 0 then 1 else (dOf v).length
theorem nd_pos (v : Nat) : 0 < nd v := by
  unfold nd
  split
  · omega
  · exact List.length_pos_iff.2 (dOf_ne (by omega))
theorem nd_bounds {v : Nat} (h : 0 < v) : 10 ^ nd v ≤ 10 * v ∧ v < 10 ^ nd v := by
  have hp := nd_pos v
  unfold nd at *
  rw [if_neg (by omega)] at *
  have h1 := (dOf_can v).ge (dOf_ne h)
  have h2 := dval_lt (dOf_can v).1
  rw [dOf_val] at h1 h2
  unfold dp at h1 h2
  refine ⟨?_, h2⟩
  obtain ⟨k, hk⟩ : ∃ k, (dOf v).length = k + 1 := ⟨(dOf v).length - 1, by omega⟩
  rw [hk] at h1 ⊢
  rw [Nat.add_sub_cancel] at h1
  rw [Nat.pow_succ]
  omega
theorem nd_lt {v : Nat} : v < 10 ^ nd v := by
  rcases Nat.eq_zero_or_pos v with rfl | h
  · exact Nat.pow_pos (by omega)
  · exact (nd_bounds h).2
theorem nd_le {v k : Nat} (hk : 0 < k) (h : v < 10 ^ k) : nd v ≤ k := by
  rcases Nat.eq_zero_or_pos v with rfl | h0
  · exact hk
  · rcases Nat.lt_or_ge k (nd v) with h1 | h1
    · exfalso
      have h2 := (nd_bounds h0).1
      obtain ⟨j, hj⟩ : ∃ j, nd v = j + 1 := ⟨nd v - 1, by omega⟩
      rw [hj, Nat.pow_succ] at h2
      have h3 : 10 ^ k ≤ 10 ^ j := Nat.pow_le_pow_right (by omega) (by omega)
      omega
    · exact h1
theorem nth_zero_head (ds : List Nat) : nth ds 0 = ds.headD 0 := by cases ds <;> rfl
theorem isDec_hi {v : Nat} {s : ByteArray} (h : IsDec v s) : ∃ l : List Nat, s.toList = l.map dig8 ∧ hv l = v ∧ D10 l ∧ l.length = nd v ∧ (v % 10 ≠ 0 → l = [] ∨ l.getLast? ≠ some 0) := by
  rcases h with ⟨rfl, rfl⟩ | ⟨h0, ds, hc, hd, rfl⟩
  · exact ⟨[0], by rw [Lib.toList_data]; rfl, rfl, fun x hx => by simp at hx; omega, rfl, fun h => absurd rfl h⟩
  · refine ⟨ds.reverse, ?_, by rw [hv_reverse, hd], fun x hx => hc.1 x (List.mem_reverse.1 hx), ?_, ?_⟩
    · rw [Lib.toList_data]
      unfold txt
      simp [dig8, Function.comp_def]
    · unfold nd
      rw [if_neg (by omega), List.length_reverse, ← hd, ← eq_dOf hc]
    · intro h1
      right
      rw [List.getLast?_reverse]
      intro h2
      have h3 : nth ds 0 = 0 := by
        cases ds with
        | nil => simp at h2
        | cons x r => simp at h2; rw [nth_cons_zero]; exact h2
      have h4 := dOf_low v
      rw [← hd, ← eq_dOf hc, hd, h3] at h4
      exact h1 h4.symm
/-- The texts of two numbers stand in the order of their fractions. -/
theorem dec_less {v1 v2 : Nat} {s1 s2 : ByteArray} (h1 : IsDec v1 s1) (h2 : IsDec v2 s2) (h : v2 % 10 ≠ 0) : Go.Op.bytesLess s1.toList s2.toList = decide (v1 * 10 ^ nd v2 < v2 * 10 ^ nd v1) := by
  obtain ⟨l1, a1, a2, a3, a4, _⟩ := isDec_hi h1
  obtain ⟨l2, b1, b2, b3, b4, b5⟩ := isDec_hi h2
  rw [a1, b1, lexD l1 l2 a3 b3 (b5 h), a2, b2, a4, b4]
theorem isDec_nd {v : Nat} {s : ByteArray} (h : IsDec v s) : s.size = nd v := by
  unfold nd
  rcases Nat.eq_zero_or_pos v with h0 | h0
  · rw [if_pos h0]
    rcases h with ⟨_, rfl⟩ | ⟨h1, _⟩
    · rfl
    · omega
  · rw [if_neg (by omega)]; exact isDec_len h h0
/-- A quotient's places and its digits as a whole number. -/
def qS (v1 v2 : Nat) : Int := shf v1 v2 (nd v1) (nd v2)
def qZ (v1 v2 : Nat) : Nat := rnd (wd v1 (qS v1 v2)) (wd v2 (-qS v1 v2))
theorem qS_bounds {v1 v2 : Nat} (h1 : v1 < 10 ^ 300) (h2 : v2 < 10 ^ 300) : -260 ≤ qS v1 v2 ∧ qS v1 v2 ≤ 340 := by
  have a1 := nd_le (by omega) h1
  have a2 := nd_le (by omega) h2
  have b1 := nd_pos v1
  have b2 := nd_pos v2
  unfold qS shf
  split <;> omega
theorem wd_pos {v : Nat} (h : 0 < v) (p : Int) : 0 < wd v p := Nat.mul_pos h (Nat.pow_pos (by omega))
theorem wd_lt {v k t : Nat} {p : Int} (h : v < 10 ^ k) (hp : p ≤ (t : Int)) : wd v p < 10 ^ (k + t) := by
  unfold wd
  rw [Nat.pow_add]
  exact Nat.mul_lt_mul_of_lt_of_le h (Nat.pow_le_pow_right (by omega) (by omega)) (Nat.pow_pos (by omega))
theorem qZ_zero {v2 : Nat} (h : 0 < v2) : qZ 0 v2 = 0 := by
  unfold qZ
  exact rnd_exact (wd_pos h _) (by unfold wd; rw [Nat.zero_mul, Nat.zero_mul])
theorem qZ_40 {v1 v2 : Nat} (h1 : 0 < v1) (h2 : 0 < v2) : 10 ^ 39 ≤ qZ v1 v2 ∧ qZ v1 v2 ≤ 10 ^ 40 := by
  obtain ⟨a1, a2⟩ := nd_bounds h1
  obtain ⟨b1, b2⟩ := nd_bounds h2
  obtain ⟨c1, c2⟩ := shf_40 a1 a2 b1 b2
  have hp := wd_pos h2 (-shf v1 v2 (nd v1) (nd v2))
  exact ⟨rnd_ge hp c1, rnd_le hp c2⟩
theorem ten_bp2 {v k : Nat} (h : v < 10 ^ k) (hk : k ≤ 2000) : 2 * v < bp 256 ∧ v + 1 < bp 256 ∧ v < bp 256 := by
  have h1 : 10 ^ (k + 1) < bp 256 := ten_bp (by omega)
  rw [Nat.pow_succ] at h1
  omega
end Go.Proofs.YtbbafggejnjjiaaGreatDoor

namespace Go.Proofs.YtbbafggejnjjiaaGreatDoor
open Go.RowKit

/-- A quotient's lowest place. -/
def qX (v1 v2 : Nat) (e1 e2 : Int) : Int := e1 - e2 - qS v1 v2
theorem seE_fit {xs : List Nat} {exp : Int} (h : Fit xs) (h1 : -4000 ≤ exp) (h2 : exp ≤ 4000) : seE xs exp = 0 := by
  unfold seE
  rw [chk_can h.can h.len, if_pos rfl, if_pos ⟨h1, h2⟩]
/-- What Settle answers of a number that fits. -/
theorem SetT.told {e : Ending} {w' : World} {base : Nat} {neg : Bool} {xs : List Nat} {exp : Int} (h : SetT e w' base neg xs exp) (hf : Fit xs) (h1 : -4000 ≤ exp) (h2 : exp ≤ 4000) : Told e w' base 0 neg (val xs) exp := by
  have h0 := seE_fit hf h1 h2
  unfold SetT sN sX sZ sE at h
  rw [if_pos h0, if_pos h0, if_pos h0, if_pos h0] at h
  unfold Told opN opX opZ opE
  rw [if_pos rfl, if_pos rfl, if_pos rfl, if_pos rfl]
  exact h
set_option maxRecDepth 100000 in
set_option maxHeartbeats 4000000 in
theorem ratio_c {S : Nat → Prop} {n m c d : Nat} {A B : Option Addr} {xs ys : List Nat} (na nb : Bool) (e1 e2 : Int) (w : World) (ha : Rd w S A n xs) (hb : Rd w S B m ys) (hS : ∀ b, S b → b < w.heap.size) (k1 : okB na xs e1 = true) (k2 : okB nb ys e2 = true) (hy : 0 < val ys) :
    Calls Tryz.prog 61 #[dv na A n c e1, dv nb B m d e2] w fun e w' => Told e w' w.heap.size 0 (na != nb) (qZ (val xs) (val ys)) (qX (val xs) (val ys) e1 e2) ∧ Below w.heap.size w w' := by
  obtain ⟨ZZ, hZZ⟩ : ∃ z, Hid (z = qZ (val xs) (val ys)) := ⟨_, Lib.hid rfl⟩
  rw [← hZZ.out]
  unfold qX
  obtain ⟨Q, hQ⟩ : ∃ q, Hid (q = qS (val xs) (val ys)) := ⟨_, Lib.hid rfl⟩
  rw [← hQ.out]
  obtain ⟨a1, a2, a3, a4, _, _⟩ := okB_true ha.l32 k1
  obtain ⟨b1, b2, b3, b4, _, _⟩ := okB_true hb.l32 k2
  have fx : Fit xs := ⟨a1, a2⟩
  have fy : Fit ys := ⟨b1, b2⟩
  have hy10 : val ys % 10 ≠ 0 := by
    rcases okB_cases hb.l32 k2 with ⟨e, _, _⟩ | ⟨_, h⟩
    · rw [e] at hy; exact absurd hy (by decide)
    · exact h
  obtain ⟨q1, q2⟩ := qS_bounds a3 b3
  rw [← hQ.out] at q1 q2
  have w1b := ten_bp2 (wd_lt (t := 340) (p := Q) a3 (by omega)) (by omega)
  have w2b := ten_bp2 (wd_lt (t := 340) (p := -Q) b3 (by omega)) (by omega)
  have hwp := wd_pos hy (-Q)
  have hZu : ZZ = rnd (wd (val xs) Q) (wd (val ys) (-Q)) := by rw [hZZ.out]; unfold qZ; rw [← hQ.out]
  have hn1 := Lib.hid (nd_le (by omega) a3)
  have hn2 := Lib.hid (nd_le (by omega) b3)
  have HD1 := Lib.hid (fun V (h1 : Rd V S A n xs) hs => digits_c (c := c) V h1 hs fx)
  have HD2 := Lib.hid (fun V (h1 : Rd V S B m ys) hs => digits_c (c := d) V h1 hs fy)
  have HW1 := Lib.hid (fun V (h1 : Rd V S A n xs) hs => qwiden_c (c := c) Q V h1 hs fx ⟨by omega, by omega⟩ w1b.2.2)
  have HW2 := Lib.hid (fun V (h1 : Rd V S B m ys) hs => qwiden_c (c := d) (-Q) V h1 hs fy ⟨by omega, by omega⟩ w2b.2.2)
  have HL1 := Lib.hid w1b.2.1
  have HL2 := Lib.hid w2b.1
  have HP := Lib.hid hwp
  have HZZ := Lib.hid hZu
  have HY := Lib.hid hy10
  have HE := Lib.hid (And.intro a4 b4)
  have HQB := Lib.hid (And.intro q1 q2)
  have up : ∀ {V : World}, Below w.heap.size w V → ∀ b, b < w.heap.size → b < V.heap.size := fun h b hb => by have := h.size; omega
  clear w1b w2b hwp hZu hy10 a1 a2 a3 a4 b1 b2 b3 b4 k1 k2 hy q1 q2
  have hb0 : ∀ o1 o2 o3, Below w.heap.size w (((w.alloc o1).alloc o2).alloc o3) := fun o1 o2 o3 => (((Below.refl _ w).alloc (Nat.le_refl _) o1).alloc (by simp) o2).alloc (by simp; omega) o3
  unfold dv
  go_enter Tryz.func61, Tryz.ntmps61
  go_wp2_with fail
  obtain ⟨ma, mb⟩ := two_new w (.cells #[.bool na, .slice A n c, .int .i64 e1] 24) (.cells #[.bool nb, .slice B m d, .int .i64 e2] 24)
  have ma := heldA (.cells #[.bool false, .slice none 0 0, .int .i64 0] 24) ma
  have mb := heldA (.cells #[.bool false, .slice none 0 0, .int .i64 0] 24) mb
  have mc := World.alloc_heap_new ((w.alloc (.cells #[.bool na, .slice A n c, .int .i64 e1] 24)).alloc (.cells #[.bool nb, .slice B m d, .int .i64 e2] 24)) (.cells #[.bool false, .slice none 0 0, .int .i64 0] 24)
  have hW := hb0 (.cells #[.bool na, .slice A n c, .int .i64 e1] 24) (.cells #[.bool nb, .slice B m d, .int .i64 e2] 24) (.cells #[.bool false, .slice none 0 0, .int .i64 0] 24)
  have hsW : w.heap.size + 1 + 1 < (((w.alloc (.cells #[.bool na, .slice A n c, .int .i64 e1] 24)).alloc (.cells #[.bool nb, .slice B m d, .int .i64 e2] 24)).alloc (.cells #[.bool false, .slice none 0 0, .int .i64 0] 24)).heap.size := by simp
  rw [show ((w.alloc (.cells #[.bool na, .slice A n c, .int .i64 e1] 24)).alloc (.cells #[.bool nb, .slice B m d, .int .i64 e2] 24)).heap.size = w.heap.size + 1 + 1 by simp] at mc
  generalize (((w.alloc (.cells #[.bool na, .slice A n c, .int .i64 e1] 24)).alloc (.cells #[.bool nb, .slice B m d, .int .i64 e2] 24)).alloc (.cells #[.bool false, .slice none 0 0, .int .i64 0] 24)) = W at ma mb mc hW hsW ⊢
  clear hb0
  have q1 : W.cell? ⟨w.heap.size, 1, none⟩ = some (.slice A n c) := cell_of ma rfl
  have q2 : W.cell? ⟨w.heap.size + 1, 1, none⟩ = some (.slice B m d) := cell_of mb rfl

  go_upto_region 1 with fail
  go_cut [6, 7] from 10 to 15 (fun s6 s7 wc => ∃ s1 s2, s6 = .string s1 ∧ s7 = .string s2 ∧ IsDec (val xs) s1 ∧ IsDec (val ys) s2 ∧ wc.heap[w.heap.size]? = some (.cells #[.bool na, .slice A n c, .int .i64 e1] 24) ∧ wc.heap[w.heap.size + 1]? = some (.cells #[.bool nb, .slice B m d, .int .i64 e2] 24) ∧ wc.heap[w.heap.size + 1 + 1]? = some (.cells #[.bool false, .slice none 0 0, .int .i64 0] 24) ∧ Below w.heap.size w wc)
  case first =>
    refine wp_region_held_drew (S := fun w' => w'.cell? ⟨w.heap.size, 1, none⟩ = some (.slice A n c) ∧ w'.cell? ⟨w.heap.size + 1, 1, none⟩ = some (.slice B m d)) (by kernel_rfl) ⟨q1, q2⟩ (fun hHeld => ?_)
    (try simp only [List.size_toArray, List.length_cons, List.length_nil, Nat.reduceAdd, Array.replicate_succ, Array.replicate_zero, List.push_toArray, List.append_toArray, List.nil_append, List.cons_append])
    refine wpAnyH_take (i := 0) (oi := ⟨_, _, _, _, _, _⟩) (v := ?_) rfl (by kernel_rfl) (by kernel_rfl) (by kernel_rfl) (fun _ _ _ h => h) (Or.inl ⟨by rfl, ?_⟩) (by assumption) ?_
    rotate_left
    · intro w hSw
      (try dsimp only at hSw)
      go_split_ands
      go_simp
      try with_reducible rfl
    try simp only [Act.put, List.setIfInBounds_toArray, List.set_cons_zero, List.set_cons_succ]
    refine wpAnyH_take (i := 1) (oi := ⟨_, _, _, _, _, _⟩) (v := ?_) rfl (by kernel_rfl) (by kernel_rfl) (by kernel_rfl) (fun _ _ _ h => h) (Or.inl ⟨by rfl, ?_⟩) (by assumption) ?_
    rotate_left
    · intro w hSw
      (try dsimp only at hSw)
      go_split_ands
      go_simp
      try with_reducible rfl
    try simp only [Act.put, List.setIfInBounds_toArray, List.set_cons_zero, List.set_cons_succ]
    refine wpAnyH_take (i := 3) (oi := ⟨_, _, _, _, _, _⟩) (v := ?_) rfl (by kernel_rfl) (by kernel_rfl) (by kernel_rfl) (fun _ _ _ h => h) (Or.inl ⟨by rfl, ?_⟩) (by assumption) ?_
    rotate_left
    · intro w hSw
      (try dsimp only at hSw)
      go_split_ands
      go_simp
      try with_reducible rfl
    try simp only [Act.put, List.setIfInBounds_toArray, List.set_cons_zero, List.set_cons_succ]
    refine wpAnyH_take (i := 4) (oi := ⟨_, _, _, _, _, _⟩) (v := ?_) rfl (by kernel_rfl) (by kernel_rfl) (by kernel_rfl) (fun _ _ _ h => h) (Or.inl ⟨by rfl, ?_⟩) (by assumption) ?_
    rotate_left
    · intro w hSw
      (try dsimp only at hSw)
      go_split_ands
      go_simp
      try with_reducible rfl
    try simp only [Act.put, List.setIfInBounds_toArray, List.set_cons_zero, List.set_cons_succ]
    have ma : W.drew.heap[w.heap.size]? = _ := ma
    have mb : W.drew.heap[w.heap.size + 1]? = _ := mb
    have mc : W.drew.heap[w.heap.size + 1 + 1]? = _ := mc
    have hB : Below w.heap.size w W.drew := only_drewB hW
    have hsW : w.heap.size + 1 + 1 < W.drew.heap.size := hsW
    generalize hV0 : W.drew = V0 at *
    clear hV0 q1 q2
    refine wpAnyH_ready (rs := [2]) (by kernel_rfl) (by simp) ?_
    refine (AllReadyH.cons (o := ⟨_, _, _, _, _, _⟩) rfl (fun K hK => ?_) AllReadyH.nil)
    go_simp
    refine (HD1.out V0 (ha.below hB hS) (fun b h => up hB b (hS b h))).mono ?_
    rintro e V1 ⟨s1, rfl, hs1, hb0⟩
    have ma := heldz hb0 ma
    have mb := heldz hb0 mb
    have mc := heldz hb0 mc
    have hB := hB.trans (hb0.mono hB.size)
    obtain ⟨x0, x1, x2⟩ := box3_of ma
    obtain ⟨x3, x4, x5⟩ := box3_of mb
    (try dsimp only)
    refine hK.out _ _ ⟨x1, x4⟩ (fun hHeld => ?_)
    clear hK K
    try simp only [Act.put, List.setIfInBounds_toArray, List.set_cons_zero, List.set_cons_succ]
    clear hb0 x0 x1 x2 x3 x4 x5
    refine wpAnyH_ready (rs := [5]) (by kernel_rfl) (by simp) ?_
    refine (AllReadyH.cons (o := ⟨_, _, _, _, _, _⟩) rfl (fun K hK => ?_) AllReadyH.nil)
    go_simp
    refine (HD2.out V1 (hb.below hB hS) (fun b h => up hB b (hS b h))).mono ?_
    rintro e V2 ⟨s2, rfl, hs2, hb0⟩
    have ma := heldz hb0 ma
    have mb := heldz hb0 mb
    have mc := heldz hb0 mc
    have hB := hB.trans (hb0.mono hB.size)
    obtain ⟨x0, x1, x2⟩ := box3_of ma
    obtain ⟨x3, x4, x5⟩ := box3_of mb
    (try dsimp only)
    refine hK.out _ _ ⟨x1, x4⟩ (fun hHeld => ?_)
    clear hK K
    try simp only [Act.put, List.setIfInBounds_toArray, List.set_cons_zero, List.set_cons_succ]
    clear hb0 x0 x1 x2 x3 x4 x5
    refine wpAnyH_take (i := 6) (oi := ⟨_, _, _, _, _, _⟩) (v := ?_) rfl (by kernel_rfl) (by kernel_rfl) (by kernel_rfl) (fun _ _ _ h => h) (Or.inl ⟨by rfl, ?_⟩) (by assumption) ?_
    rotate_left
    · intro w hSw
      (try dsimp only at hSw)
      go_split_ands
      go_simp
      try with_reducible rfl
    try simp only [Act.put, List.setIfInBounds_toArray, List.set_cons_zero, List.set_cons_succ]
    refine wpAnyH_take (i := 7) (oi := ⟨_, _, _, _, _, _⟩) (v := ?_) rfl (by kernel_rfl) (by kernel_rfl) (by kernel_rfl) (fun _ _ _ h => h) (Or.inl ⟨by rfl, ?_⟩) (by assumption) ?_
    rotate_left
    · intro w hSw
      (try dsimp only at hSw)
      go_split_ands
      go_simp
      try with_reducible rfl
    try simp only [Act.put, List.setIfInBounds_toArray, List.set_cons_zero, List.set_cons_succ]
    refine wpAnyH_done (by kernel_rfl) ?_ _
    go_wp2
    go_meet
    exact ⟨s1, s2, rfl, rfl, hs1, hs2, ma, mb, mc, hB⟩
  case rest =>
    obtain ⟨s1, s2, rfl, rfl, hs1, hs2, ma, mb, mc, hB⟩ := hcut
    have hl := dec_less hs1 hs2 HY.out
    have z1 := isDec_nd hs1
    have z2 := isDec_nd hs2
    have hq : Hid (Q = 40 + (s2.size : Int) - (s1.size : Int) - (if Go.Op.bytesLess s1.toList s2.toList = true then 0 else 1)) := by
      show _ = _
      rw [hQ.out, z1, z2, hl]
      unfold qS shf
      simp only [decide_eq_true_eq]
    have z1b : s1.size ≤ 300 := by rw [z1]; exact hn1.out
    have z2b : s2.size ≤ 300 := by rw [z2]; exact hn2.out
    clear hl z1 z2 hs1 hs2
    go_upto_if 24 with fail
    generalize hbl : Go.Op.bytesLess s1.toList s2.toList = BL at *
    clear hbl
    go_cut [8] from 25 to 26 (fun s8 wx => s8 = .int .i64 Q ∧ wc = wx)
    case first =>
      cases BL with
      | true =>
        have hq2 : Hid (Q = 40 + (s2.size : Int) - (s1.size : Int)) := by show _ = _; rw [hq.out]; simp
        go_wp2
        go_meet
        exact ⟨by rw [hq2.out], rfl⟩
      | false =>
        have hq2 : Hid (Q = 40 + (s2.size : Int) - (s1.size : Int) - 1) := by show _ = _; rw [hq.out]; simp
        go_wp2
        go_meet
        exact ⟨by rw [hq2.out], rfl⟩
    case rest =>
      obtain ⟨rfl, rfl⟩ := hcut
      obtain ⟨hqa, hqb⟩ := HQB.out
      have q1 : wc.cell? ⟨w.heap.size, 1, none⟩ = some (.slice A n c) := cell_of ma rfl
      have q2 : wc.cell? ⟨w.heap.size + 1, 1, none⟩ = some (.slice B m d) := cell_of mb rfl
      go_upto_region 5 with fail
      go_cut [9] from 27 to 36 (fun s9 wc => ∃ A3 n3 c3 zs, s9 = .slice A3 n3 c3 ∧ Res wc w.heap.size A3 n3 c3 zs ∧ Fit zs ∧ val zs = ZZ ∧ wc.heap[w.heap.size]? = some (.cells #[.bool na, .slice A n c, .int .i64 e1] 24) ∧ wc.heap[w.heap.size + 1]? = some (.cells #[.bool nb, .slice B m d, .int .i64 e2] 24) ∧ wc.heap[w.heap.size + 1 + 1]? = some (.cells #[.bool false, .slice none 0 0, .int .i64 0] 24) ∧ Below w.heap.size w wc)
      case first =>
        refine wp_region_held_drew (S := fun w' => w'.cell? ⟨w.heap.size, 1, none⟩ = some (.slice A n c) ∧ w'.cell? ⟨w.heap.size + 1, 1, none⟩ = some (.slice B m d)) (by kernel_rfl) ⟨q1, q2⟩ (fun hHeld => ?_)
        (try simp only [List.size_toArray, List.length_cons, List.length_nil, Nat.reduceAdd, Array.replicate_succ, Array.replicate_zero, List.push_toArray, List.append_toArray, List.nil_append, List.cons_append])
        refine wpAnyH_take (i := 0) (oi := ⟨_, _, _, _, _, _⟩) (v := ?_) rfl (by kernel_rfl) (by kernel_rfl) (by kernel_rfl) (fun _ _ _ h => h) (Or.inl ⟨by rfl, ?_⟩) (by assumption) ?_
        rotate_left
        · intro w hSw
          (try dsimp only at hSw)
          go_split_ands
          go_simp
          try with_reducible rfl
        try simp only [Act.put, List.setIfInBounds_toArray, List.set_cons_zero, List.set_cons_succ]
        refine wpAnyH_take (i := 1) (oi := ⟨_, _, _, _, _, _⟩) (v := ?_) rfl (by kernel_rfl) (by kernel_rfl) (by kernel_rfl) (fun _ _ _ h => h) (Or.inl ⟨by rfl, ?_⟩) (by assumption) ?_
        rotate_left
        · intro w hSw
          (try dsimp only at hSw)
          go_split_ands
          go_simp
          try with_reducible rfl
        try simp only [Act.put, List.setIfInBounds_toArray, List.set_cons_zero, List.set_cons_succ]
        refine wpAnyH_take (i := 2) (oi := ⟨_, _, _, _, _, _⟩) (v := ?_) rfl (by kernel_rfl) (by kernel_rfl) (by kernel_rfl) (fun _ _ _ h => h) (Or.inl ⟨by rfl, ?_⟩) (by assumption) ?_
        rotate_left
        · intro w hSw
          (try dsimp only at hSw)
          go_split_ands
          go_simp
          try with_reducible rfl
        try simp only [Act.put, List.setIfInBounds_toArray, List.set_cons_zero, List.set_cons_succ]
        refine wpAnyH_take (i := 4) (oi := ⟨_, _, _, _, _, _⟩) (v := ?_) rfl (by kernel_rfl) (by kernel_rfl) (by kernel_rfl) (fun _ _ _ h => h) (Or.inl ⟨by rfl, ?_⟩) (by assumption) ?_
        rotate_left
        · intro w hSw
          (try dsimp only at hSw)
          go_split_ands
          go_simp
          try with_reducible rfl
        try simp only [Act.put, List.setIfInBounds_toArray, List.set_cons_zero, List.set_cons_succ]
        refine wpAnyH_take (i := 5) (oi := ⟨_, _, _, _, _, _⟩) (v := ?_) rfl (by kernel_rfl) (by kernel_rfl) (by kernel_rfl) (fun _ _ _ h => h) (Or.inl ⟨by rfl, ?_⟩) (by assumption) ?_
        rotate_left
        · intro w hSw
          (try dsimp only at hSw)
          go_split_ands
          go_simp
          try with_reducible rfl
        try simp only [Act.put, List.setIfInBounds_toArray, List.set_cons_zero, List.set_cons_succ]
        refine wpAnyH_take (i := 6) (oi := ⟨_, _, _, _, _, _⟩) (v := ?_) rfl (by kernel_rfl) (by kernel_rfl) (by kernel_rfl) (fun _ _ _ h => h) (Or.inl ⟨by rfl, ?_⟩) (by assumption) ?_
        rotate_left
        · intro w hSw
          (try dsimp only at hSw)
          go_split_ands
          go_simp
          try with_reducible rfl
        try simp only [Act.put, List.setIfInBounds_toArray, List.set_cons_zero, List.set_cons_succ]
        refine wpAnyH_take (i := 7) (oi := ⟨_, _, _, _, _, _⟩) (v := ?_) rfl (by kernel_rfl) (by kernel_rfl) (by kernel_rfl) (fun _ _ _ h => h) (Or.inl ⟨by rfl, ?_⟩) (by assumption) ?_
        rotate_left
        · intro w hSw
          (try dsimp only at hSw)
          go_split_ands
          go_simp
          try with_reducible rfl
        try simp only [Act.put, List.setIfInBounds_toArray, List.set_cons_zero, List.set_cons_succ]
        have ma : wc.drew.heap[w.heap.size]? = _ := ma
        have mb : wc.drew.heap[w.heap.size + 1]? = _ := mb
        have mc : wc.drew.heap[w.heap.size + 1 + 1]? = _ := mc
        have hB : Below w.heap.size w wc.drew := only_drewB hB
        generalize hV0 : wc.drew = V0 at *
        clear hV0 q1 q2
        refine wpAnyH_ready (rs := [3]) (by kernel_rfl) (by simp) ?_
        refine (AllReadyH.cons (o := ⟨_, _, _, _, _, _⟩) rfl (fun K hK => ?_) AllReadyH.nil)
        go_simp

        refine (HW1.out V0 (ha.below hB hS) (fun b h => up hB b (hS b h))).mono ?_
        rintro e V1 ⟨A1, n1, c1, z1, rfl, r1, f1, v1, hb0⟩
        have hBs := hB.size
        have r1 := r1.more (base' := w.heap.size) hBs
        skip
        have ma := heldz hb0 ma
        have mb := heldz hb0 mb
        have mc := heldz hb0 mc
        have hB := hB.trans (hb0.mono hB.size)
        obtain ⟨x0, x1, x2⟩ := box3_of ma
        obtain ⟨x3, x4, x5⟩ := box3_of mb
        (try dsimp only)
        refine hK.out _ _ ⟨x1, x4⟩ (fun hHeld => ?_)
        clear hK K
        try simp only [Act.put, List.setIfInBounds_toArray, List.set_cons_zero, List.set_cons_succ]
        clear hb0 x0 x1 x2 x3 x4 x5 hBs
        refine wpAnyH_ready (rs := [8]) (by kernel_rfl) (by simp) ?_
        refine (AllReadyH.cons (o := ⟨_, _, _, _, _, _⟩) rfl (fun K hK => ?_) AllReadyH.nil)
        go_simp
        rw [show IntKind.i64.wrap (-Q) = -Q from IntWalk.i64_in _ (by omega)]
        refine (HW2.out V1 (hb.below hB hS) (fun b h => up hB b (hS b h))).mono ?_
        rintro e V2 ⟨A2, n2, c2, z2, rfl, r2, f2, v2, hb0⟩
        have hBs := hB.size
        have r2 := r2.more (base' := w.heap.size) hBs
        have r1 := r1.below hb0 (Nat.le_refl _)
        have ma := heldz hb0 ma
        have mb := heldz hb0 mb
        have mc := heldz hb0 mc
        have hB := hB.trans (hb0.mono hB.size)
        obtain ⟨x0, x1, x2⟩ := box3_of ma
        obtain ⟨x3, x4, x5⟩ := box3_of mb
        (try dsimp only)
        refine hK.out _ _ ⟨x1, x4⟩ (fun hHeld => ?_)
        clear hK K
        try simp only [Act.put, List.setIfInBounds_toArray, List.set_cons_zero, List.set_cons_succ]
        clear hb0 x0 x1 x2 x3 x4 x5 hBs
        refine wpAnyH_ready (rs := [9]) (by kernel_rfl) (by simp) ?_
        refine (AllReadyH.cons (o := ⟨_, _, _, _, _, _⟩) rfl (fun K hK => ?_) AllReadyH.nil)
        · go_simp
          refine (divideE_c (c := c1) (d := c2) V2 r1.rd r2.rd (fun b h => h.2) (fun b h => h.2) f1 f2 (by rw [v2]; exact HP.out) (by rw [v2]; exact HL2.out) (by rw [v1]; exact HL1.out)).mono ?_
          rintro e V3 ⟨A3, n3, c3, z3, rfl, r3, f3, v3, hb0⟩
          rw [v1, v2] at v3
          have r3 := r3.more (base' := w.heap.size) hB.size
          have ma := heldz hb0 ma
          have mb := heldz hb0 mb
          have mc := heldz hb0 mc
          have hB := hB.trans (hb0.mono hB.size)
          obtain ⟨x0, x1, x2⟩ := box3_of ma
          obtain ⟨x3, x4, x5⟩ := box3_of mb
          (try dsimp only)
          refine hK.out _ _ ⟨x1, x4⟩ (fun hHeld => ?_)
          clear hK K
          try simp only [Act.put, List.setIfInBounds_toArray, List.set_cons_zero, List.set_cons_succ]
          clear hb0 x0 x1 x2 x3 x4 x5
          refine wpAnyH_take (i := 10) (oi := ⟨_, _, _, _, _, _⟩) (v := ?_) rfl (by kernel_rfl) (by kernel_rfl) (by kernel_rfl) (fun _ _ _ h => h) (Or.inl ⟨by rfl, ?_⟩) (by assumption) ?_
          rotate_left
          · intro w hSw
            (try dsimp only at hSw)
            go_split_ands
            go_simp
            try with_reducible rfl
          try simp only [Act.put, List.setIfInBounds_toArray, List.set_cons_zero, List.set_cons_succ]
          refine wpAnyH_done (by kernel_rfl) ?_ _
          go_wp2
          go_meet
          exact ⟨A3, n3, c3, z3, rfl, r3, f3, v3.trans HZZ.out.symm, ma, mb, mc, hB⟩
      case rest =>
        obtain ⟨A3, n3, c3, zs, rfl, r3, f3, hz, ma, mb, mc, hB⟩ := hcut
        obtain ⟨x0, _, x2⟩ := box3_of ma
        obtain ⟨y0, _, y2⟩ := box3_of mb
        have hn3 : n3 ≤ 9223372036854775807 := by have := f3.len; have := r3.len; omega
        obtain ⟨⟨he1, he2⟩, he3, he4⟩ := HE.out
        go_wp2_with fail
        refine (DSettle_v (c := c3) (na != nb) (e1 - e2 - Q) wc r3.rd (fun b h => h.2) hn3).mono ?_
        rintro e w5 ⟨ht, hb0⟩
        have ht := ht.told f3 (by omega) (by omega)
        rw [hz] at ht
        obtain ⟨A5, n5, c5, rfl, hr⟩ := ht
        have hsz := hB.size
        have hl5 := (Array.getElem?_eq_some_iff.1 mc).1
        have m5 := heldz hb0 mc
        obtain ⟨g0, g1, g2⟩ := box3_of m5
        have f0 := frozen_of 0 m5
        have f1 := frozen_of 1 m5
        have f2 := frozen_of 2 m5
        have hB5 := hB.trans (hb0.mono hB.size)
        clear x0 x2 y0 y2 m5 hb0
        dsimp only [dv]
        go_wp2
        refine bodyPost_ret (v := .tuple #[.agg #[.bool (opN 0 (na != nb) ZZ (e1 - e2 - Q)), .slice A5 n5 c5, .int .i64 (opX 0 ZZ (e1 - e2 - Q))], .int .i64 (opE 0 ZZ (e1 - e2 - Q) : Int)]) (by simp [results, Tryz.results61, go_sem, g0, g1, g2]) rfl ?_
        refine ⟨⟨A5, n5, c5, rfl, ?_⟩, ?_⟩
        · exact (((hr.setOther (by simp; omega) _).setOther (by simp; omega) _).setOther (by simp; omega) _).more (by omega)
        · exact ((hB5.setCell (p := ⟨w.heap.size + 1 + 1, 0, none⟩) (by simp; omega) _).setCell (p := ⟨w.heap.size + 1 + 1, 1, none⟩) (by simp; omega) _).setCell (p := ⟨w.heap.size + 1 + 1, 2, none⟩) (by simp; omega) _

end Go.Proofs.YtbbafggejnjjiaaGreatDoor

namespace Go.Proofs.YtbbafggejnjjiaaGreatDoor
open Go.RowKit

set_option maxRecDepth 100000 in
theorem floor1_c {A1 A2 A3 A0 : Option Addr} {n1 c1 n2 c2 n3 c3 n0 c0 pa : Nat} {na : Bool} {e0 : Int} (w : World) (mp : w.heap[pa]? = some (.cells #[.bool na, .slice A0 n0 c0, .int .i64 e0] 24)) :
    Calls Tryz.prog 73 #[cutV A1 n1 c1 A2 n2 c2 A3 n3 c3, .pointer (some ⟨pa, 0, none⟩)] w fun e w' => e = .returned (.bool (na && !decide (n2 = 0))) ∧ Below w.heap.size w w' := by
  have mq := heldA (.cells #[.slice A1 n1 c1, .slice A2 n2 c2, .slice A3 n3 c3] 82) mp
  have m0 := World.alloc_heap_new w (.cells #[.slice A1 n1 c1, .slice A2 n2 c2, .slice A3 n3 c3] 82)
  have hB : Below w.heap.size w (w.alloc (.cells #[.slice A1 n1 c1, .slice A2 n2 c2, .slice A3 n3 c3] 82)) := (Below.refl _ _).alloc (Nat.le_refl _) _
  have p0 : (w.alloc (.cells #[.slice A1 n1 c1, .slice A2 n2 c2, .slice A3 n3 c3] 82)).cell? ⟨pa, 0, none⟩ = some (.bool na) := cell_of mq rfl
  obtain ⟨r0, r1, r2⟩ := box3_of m0
  have HE := Lib.hid (fun V => exact_c (A1 := A1) (n1 := n1) (c1 := c1) (A2 := A2) (n2 := n2) (c2 := c2) (A3 := A3) (n3 := n3) (c3 := c3) V)
  have HB := Lib.hid hB
  clear mq m0 mp hB
  generalize decide (n2 = 0) = Z at *
  cases na
  all_goals
    go_enter Tryz.func73, Tryz.ntmps73
    go_wp2_with fail
    first
    | (go_ret; exact ⟨rfl, HB.out⟩)
    | (refine (HE.out _).mono ?_
       rintro e w1 ⟨rfl, hb1⟩
       go_wp2
       go_ret
       exact ⟨by cases Z <;> rfl, HB.out.trans (hb1.mono HB.out.size)⟩)

set_option maxRecDepth 100000 in
theorem ceil1_c {A1 A2 A3 A0 : Option Addr} {n1 c1 n2 c2 n3 c3 n0 c0 pa : Nat} {na : Bool} {e0 : Int} (w : World) (mp : w.heap[pa]? = some (.cells #[.bool na, .slice A0 n0 c0, .int .i64 e0] 24)) :
    Calls Tryz.prog 76 #[cutV A1 n1 c1 A2 n2 c2 A3 n3 c3, .pointer (some ⟨pa, 0, none⟩)] w fun e w' => e = .returned (.bool (!na && !decide (n2 = 0))) ∧ Below w.heap.size w w' := by
  have mq := heldA (.cells #[.slice A1 n1 c1, .slice A2 n2 c2, .slice A3 n3 c3] 82) mp
  have m0 := World.alloc_heap_new w (.cells #[.slice A1 n1 c1, .slice A2 n2 c2, .slice A3 n3 c3] 82)
  have hB : Below w.heap.size w (w.alloc (.cells #[.slice A1 n1 c1, .slice A2 n2 c2, .slice A3 n3 c3] 82)) := (Below.refl _ _).alloc (Nat.le_refl _) _
  have p0 : (w.alloc (.cells #[.slice A1 n1 c1, .slice A2 n2 c2, .slice A3 n3 c3] 82)).cell? ⟨pa, 0, none⟩ = some (.bool na) := cell_of mq rfl
  obtain ⟨r0, r1, r2⟩ := box3_of m0
  have HE := Lib.hid (fun V => exact_c (A1 := A1) (n1 := n1) (c1 := c1) (A2 := A2) (n2 := n2) (c2 := c2) (A3 := A3) (n3 := n3) (c3 := c3) V)
  have HB := Lib.hid hB
  clear mq m0 mp hB
  generalize decide (n2 = 0) = Z at *
  cases na
  all_goals
    go_enter Tryz.func76, Tryz.ntmps76
    go_wp2_with fail
    first
    | (go_ret; exact ⟨rfl, HB.out⟩)
    | (refine (HE.out _).mono ?_
       rintro e w1 ⟨rfl, hb1⟩
       go_wp2
       go_ret
       exact ⟨by cases Z <;> rfl, HB.out.trans (hb1.mono HB.out.size)⟩)

set_option maxRecDepth 100000 in
theorem round1_c {S S' : Nat → Prop} {A1 A2 A3 : Option Addr} {n1 c1 n2 c2 n3 c3 : Nat} {rs ds : List Nat} (w : World) (hr : Rd w S A2 n2 rs) (hd : Rd w S' A3 n3 ds) (hS : ∀ b, S b → b < w.heap.size) (hS' : ∀ b, S' b → b < w.heap.size) (fr : Fit rs) (fd : Fit ds) (hv : 2 * val rs < bp 256) :
    Calls Tryz.prog 77 #[cutV A1 n1 c1 A2 n2 c2 A3 n3 c3] w fun e w' => e = .returned (.bool (decide (0 ≤ half (val rs) (val ds)))) ∧ Below w.heap.size w w' := by
  have hB : Below w.heap.size w (w.alloc (.cells #[.slice A1 n1 c1, .slice A2 n2 c2, .slice A3 n3 c3] 82)) := (Below.refl _ _).alloc (Nat.le_refl _) _
  have m0 := World.alloc_heap_new w (.cells #[.slice A1 n1 c1, .slice A2 n2 c2, .slice A3 n3 c3] 82)
  obtain ⟨r0, r1, r2⟩ := box3_of m0
  have hT := toHalf_c (A1 := A1) (n1 := n1) (c1 := c1) (c2 := c2) (c3 := c3) (w.alloc (.cells #[.slice A1 n1 c1, .slice A2 n2 c2, .slice A3 n3 c3] 82)) (hr.below hB hS) (hd.below hB hS') (fun b h => by have := hS b h; simp; omega) (fun b h => by have := hS' b h; simp; omega) fr fd hv
  have hH : half (val rs) (val ds) = -1 ∨ half (val rs) (val ds) = 0 ∨ half (val rs) (val ds) = 1 := by
    unfold half
    by_cases h1 : 2 * val rs < val ds
    · exact .inl (if_pos h1)
    · rw [if_neg h1]
      by_cases h2 : val ds < 2 * val rs
      · exact .inr (.inr (if_pos h2))
      · exact .inr (.inl (if_neg h2))
  generalize half (val rs) (val ds) = H at *
  have HT := Lib.hid hT
  have HB := Lib.hid hB
  clear hT hr hd hS hS' hB m0
  rcases hH with rfl | rfl | rfl
  all_goals
    go_enter Tryz.func77, Tryz.ntmps77
    go_wp2_with fail
    refine HT.out.mono ?_
    rintro e w1 ⟨rfl, hb1⟩
    go_wp2
    go_ret
    exact ⟨rfl, HB.out.trans (hb1.mono HB.out.size)⟩

set_option maxRecDepth 100000 in
set_option maxHeartbeats 1000000 in
theorem divideF_c {pa n0 c0 : Nat} {A0 : Option Addr} {na : Bool} {e0 : Int} {S S' : Nat → Prop} {A B : Option Addr} {n m c d : Nat} {xs ys : List Nat} (w : World) (mp : w.heap[pa]? = some (.cells #[.bool na, .slice A0 n0 c0, .int .i64 e0] 24)) (ha : Rd w S A n xs) (hb : Rd w S' B m ys) (hS : ∀ b, S b → b < w.heap.size) (hS' : ∀ b, S' b → b < w.heap.size) (fx : Fit xs) (fy : Fit ys) (hy : 0 < val ys) (hb2 : 2 * val ys < bp 256) (hx2 : val xs + 1 < bp 256) :
    Calls Tryz.prog 116 #[.slice A n c, .slice B m d, .func (.func 73) #[] #[.pointer (some ⟨pa, 0, none⟩)]] w fun e w' => ∃ A' n' c' zs, e = .returned (.slice A' n' c') ∧ Res w' w.heap.size A' n' c' zs ∧ Fit zs ∧ val zs = val xs / val ys + (if (na && !decide (val xs % val ys = 0)) = true then 1 else 0) ∧ Below w.heap.size w w' := by
  obtain ⟨QV, hQV⟩ : ∃ q, q = val xs / val ys + (if (na && !decide (val xs % val ys = 0)) = true then 1 else 0) := ⟨_, rfl⟩
  rw [← hQV]
  have HQV := Lib.hid hQV
  clear hQV
  have hn : n ≤ 256 := by rw [← ha.len]; exact fx.len
  have hm : m ≤ 256 := by rw [← hb.len]; exact fy.len
  have hD := Div_c (c := c) (d := d) w ha hb hS hS' (by omega) (by omega)
  have hE : divE xs ys = 0 := by
    unfold divE
    rw [if_pos (chk2_ok fx.can fy.can fx.len fy.len), if_neg (by intro h; have h2 : ys = [] := List.eq_nil_of_length_eq_zero h; rw [h2] at hy; exact absurd hy (by decide))]
  rw [hE] at hD
  have HD := Lib.hid hD
  have HA := Lib.hid ha
  have HB := Lib.hid hb
  have HS := Lib.hid hS
  have HS2 := Lib.hid hS'
  have HE := Lib.hid hE
  clear hD ha hb hS hS' hE
  go_enter Tryz.func116, Tryz.ntmps116
  go_wp2_with fail
  refine HD.out.mono ?_
  rintro e w1 ⟨A1, n1, c1, qs, A2, n2, c2, rs, rfl, hq, hr, _, hok, hb1⟩
  obtain ⟨cq, cr, hval, hlt⟩ := hok (by first | trivial | rfl | exact HE.out)
  have hdiv : val qs = val xs / val ys ∧ val rs = val xs % val ys := by
    have h1 : val xs = val ys * val qs + val rs := by rw [hval, Nat.mul_comm]
    have := (Nat.div_mod_unique hy).2 ⟨(show val rs + val ys * val qs = val xs by omega), hlt⟩
    exact ⟨this.1.symm, this.2.symm⟩
  have hql : val qs ≤ val xs := by rw [hdiv.1]; exact Nat.div_le_self _ _
  have fq : Fit qs := Fit.of_lt cq (by omega)
  have fr : Fit rs := Fit.of_lt cr (by omega)
  have hn1 : n1 ≤ 256 := by rw [← hq.len]; exact fq.len
  have hS1 : ∀ b, (fun b => w.heap.size ≤ b ∧ b < w1.heap.size) b → b < w1.heap.size := fun b h => h.2
  have hR := floor1_c (A1 := A1) (n1 := n1) (c1 := c1) (A2 := A2) (n2 := n2) (c2 := c2) (A3 := B) (n3 := m) (c3 := d) w1 (heldz hb1 mp)
  have hn20 : decide (n2 = 0) = decide (val xs % val ys = 0) := by
    rw [decide_eq_decide, ← hdiv.2, ← hr.len]
    constructor
    · intro h; rw [List.eq_nil_of_length_eq_zero h]; rfl
    · intro h; rw [cr.val_zero h]; rfl
  rw [hn20] at hR
  have hv1 := hdiv.1
  have HB1 := Lib.hid hb1
  have HQ := Lib.hid hq
  have HV := Lib.hid hv1
  have HR := Lib.hid hR
  cases hU : (na && !decide (val xs % val ys = 0)) with
  | false =>
    have HU := Lib.hid hU
    rw [hU] at HR
    clear hok hb1 hq hr hval hdiv hv1 hR hU hn20
    go_wp2_with fail
    refine HR.out.mono ?_
    rintro e w2 ⟨rfl, hb2'⟩
    have HB2 := Lib.hid (HB1.out.trans (hb2'.mono HB1.out.size))
    have HQ2 := Lib.hid (HQ.out.below hb2' (Nat.le_refl _))
    clear hb2'
    go_wp2
    go_ret
    exact ⟨A1, n1, c1, qs, rfl, HQ2.out, fq, by rw [HV.out, HQV.out, HU.out]; simp, HB2.out⟩
  | true =>
    have HU := Lib.hid hU
    rw [hU] at HR
    have hql2 : val qs + 1 < bp 256 := by omega
    have HQL := Lib.hid hql2
    clear hok hb1 hq hr hval hdiv hv1 hR hU hn20
    go_wp2_with fail
    refine HR.out.mono ?_
    rintro e w2 ⟨rfl, hb2'⟩
    have HB2 := Lib.hid (HB1.out.trans (hb2'.mono HB1.out.size))
    have HQ2 := Lib.hid (HQ.out.below hb2' (Nat.le_refl _))
    clear hb2'
    go_wp2_with fail
    refine (From_c 1 w2 (by decide)).mono ?_
    rintro e w3 ⟨A3, n3, c3, zs, rfl, hr3, hc3, hv3, hb3⟩
    have f1 : Fit zs := Fit.of_lt hc3 (by omega)
    have hn3 : n3 ≤ 256 := by rw [← hr3.len]; exact f1.len
    have hE2 := binE_ok fq.can f1.can fq.len f1.len (v := val qs + val zs) (by rw [hv3]; exact HQL.out)
    have hZ2 := (binE_zero fq.can.1 f1.can.1 hE2).2.2.2
    have hAd := Add_c (c := c1) (d := c3) w3 (HQ2.out.below hb3 (Nat.le_refl _)).rd hr3.rd (fun b h => h.2) (fun b h => h.2) (by omega) (by omega)
    rw [hE2, hZ2, hv3] at hAd
    have HAD := Lib.hid hAd
    have HB3 := Lib.hid (HB2.out.trans (hb3.mono HB2.out.size))
    have HF := Lib.hid (Fit.lim HQL.out)
    clear hr3 hc3 hv3 hb3 hE2 hZ2 hAd
    go_wp2_with fail
    refine HAD.out.mono ?_
    rintro e w4 ⟨A4, n4, c4, rfl, hr4, hb4⟩
    have HR4 := Lib.hid (hr4.more HB3.out.size)
    have HB4 := Lib.hid (HB3.out.trans (hb4.mono HB3.out.size))
    clear hr4 hb4
    go_wp2_with (go_at_call 126; refine (sureS_c _ _).mono ?_; rintro e w' ⟨rfl, rfl⟩)
    go_ret
    exact ⟨A4, n4, c4, _, rfl, HR4.out, HF.out, by rw [lim_val, HV.out, HQV.out, HU.out]; simp, HB4.out⟩

set_option maxRecDepth 100000 in
set_option maxHeartbeats 1000000 in
theorem divideC_c {pa n0 c0 : Nat} {A0 : Option Addr} {na : Bool} {e0 : Int} {S S' : Nat → Prop} {A B : Option Addr} {n m c d : Nat} {xs ys : List Nat} (w : World) (mp : w.heap[pa]? = some (.cells #[.bool na, .slice A0 n0 c0, .int .i64 e0] 24)) (ha : Rd w S A n xs) (hb : Rd w S' B m ys) (hS : ∀ b, S b → b < w.heap.size) (hS' : ∀ b, S' b → b < w.heap.size) (fx : Fit xs) (fy : Fit ys) (hy : 0 < val ys) (hb2 : 2 * val ys < bp 256) (hx2 : val xs + 1 < bp 256) :
    Calls Tryz.prog 116 #[.slice A n c, .slice B m d, .func (.func 76) #[] #[.pointer (some ⟨pa, 0, none⟩)]] w fun e w' => ∃ A' n' c' zs, e = .returned (.slice A' n' c') ∧ Res w' w.heap.size A' n' c' zs ∧ Fit zs ∧ val zs = val xs / val ys + (if (!na && !decide (val xs % val ys = 0)) = true then 1 else 0) ∧ Below w.heap.size w w' := by
  obtain ⟨QV, hQV⟩ : ∃ q, q = val xs / val ys + (if (!na && !decide (val xs % val ys = 0)) = true then 1 else 0) := ⟨_, rfl⟩
  rw [← hQV]
  have HQV := Lib.hid hQV
  clear hQV
  have hn : n ≤ 256 := by rw [← ha.len]; exact fx.len
  have hm : m ≤ 256 := by rw [← hb.len]; exact fy.len
  have hD := Div_c (c := c) (d := d) w ha hb hS hS' (by omega) (by omega)
  have hE : divE xs ys = 0 := by
    unfold divE
    rw [if_pos (chk2_ok fx.can fy.can fx.len fy.len), if_neg (by intro h; have h2 : ys = [] := List.eq_nil_of_length_eq_zero h; rw [h2] at hy; exact absurd hy (by decide))]
  rw [hE] at hD
  have HD := Lib.hid hD
  have HA := Lib.hid ha
  have HB := Lib.hid hb
  have HS := Lib.hid hS
  have HS2 := Lib.hid hS'
  have HE := Lib.hid hE
  clear hD ha hb hS hS' hE
  go_enter Tryz.func116, Tryz.ntmps116
  go_wp2_with fail
  refine HD.out.mono ?_
  rintro e w1 ⟨A1, n1, c1, qs, A2, n2, c2, rs, rfl, hq, hr, _, hok, hb1⟩
  obtain ⟨cq, cr, hval, hlt⟩ := hok (by first | trivial | rfl | exact HE.out)
  have hdiv : val qs = val xs / val ys ∧ val rs = val xs % val ys := by
    have h1 : val xs = val ys * val qs + val rs := by rw [hval, Nat.mul_comm]
    have := (Nat.div_mod_unique hy).2 ⟨(show val rs + val ys * val qs = val xs by omega), hlt⟩
    exact ⟨this.1.symm, this.2.symm⟩
  have hql : val qs ≤ val xs := by rw [hdiv.1]; exact Nat.div_le_self _ _
  have fq : Fit qs := Fit.of_lt cq (by omega)
  have fr : Fit rs := Fit.of_lt cr (by omega)
  have hn1 : n1 ≤ 256 := by rw [← hq.len]; exact fq.len
  have hS1 : ∀ b, (fun b => w.heap.size ≤ b ∧ b < w1.heap.size) b → b < w1.heap.size := fun b h => h.2
  have hR := ceil1_c (A1 := A1) (n1 := n1) (c1 := c1) (A2 := A2) (n2 := n2) (c2 := c2) (A3 := B) (n3 := m) (c3 := d) w1 (heldz hb1 mp)
  have hn20 : decide (n2 = 0) = decide (val xs % val ys = 0) := by
    rw [decide_eq_decide, ← hdiv.2, ← hr.len]
    constructor
    · intro h; rw [List.eq_nil_of_length_eq_zero h]; rfl
    · intro h; rw [cr.val_zero h]; rfl
  rw [hn20] at hR
  have hv1 := hdiv.1
  have HB1 := Lib.hid hb1
  have HQ := Lib.hid hq
  have HV := Lib.hid hv1
  have HR := Lib.hid hR
  cases hU : (!na && !decide (val xs % val ys = 0)) with
  | false =>
    have HU := Lib.hid hU
    rw [hU] at HR
    clear hok hb1 hq hr hval hdiv hv1 hR hU hn20
    go_wp2_with fail
    refine HR.out.mono ?_
    rintro e w2 ⟨rfl, hb2'⟩
    have HB2 := Lib.hid (HB1.out.trans (hb2'.mono HB1.out.size))
    have HQ2 := Lib.hid (HQ.out.below hb2' (Nat.le_refl _))
    clear hb2'
    go_wp2
    go_ret
    exact ⟨A1, n1, c1, qs, rfl, HQ2.out, fq, by rw [HV.out, HQV.out, HU.out]; simp, HB2.out⟩
  | true =>
    have HU := Lib.hid hU
    rw [hU] at HR
    have hql2 : val qs + 1 < bp 256 := by omega
    have HQL := Lib.hid hql2
    clear hok hb1 hq hr hval hdiv hv1 hR hU hn20
    go_wp2_with fail
    refine HR.out.mono ?_
    rintro e w2 ⟨rfl, hb2'⟩
    have HB2 := Lib.hid (HB1.out.trans (hb2'.mono HB1.out.size))
    have HQ2 := Lib.hid (HQ.out.below hb2' (Nat.le_refl _))
    clear hb2'
    go_wp2_with fail
    refine (From_c 1 w2 (by decide)).mono ?_
    rintro e w3 ⟨A3, n3, c3, zs, rfl, hr3, hc3, hv3, hb3⟩
    have f1 : Fit zs := Fit.of_lt hc3 (by omega)
    have hn3 : n3 ≤ 256 := by rw [← hr3.len]; exact f1.len
    have hE2 := binE_ok fq.can f1.can fq.len f1.len (v := val qs + val zs) (by rw [hv3]; exact HQL.out)
    have hZ2 := (binE_zero fq.can.1 f1.can.1 hE2).2.2.2
    have hAd := Add_c (c := c1) (d := c3) w3 (HQ2.out.below hb3 (Nat.le_refl _)).rd hr3.rd (fun b h => h.2) (fun b h => h.2) (by omega) (by omega)
    rw [hE2, hZ2, hv3] at hAd
    have HAD := Lib.hid hAd
    have HB3 := Lib.hid (HB2.out.trans (hb3.mono HB2.out.size))
    have HF := Lib.hid (Fit.lim HQL.out)
    clear hr3 hc3 hv3 hb3 hE2 hZ2 hAd
    go_wp2_with fail
    refine HAD.out.mono ?_
    rintro e w4 ⟨A4, n4, c4, rfl, hr4, hb4⟩
    have HR4 := Lib.hid (hr4.more HB3.out.size)
    have HB4 := Lib.hid (HB3.out.trans (hb4.mono HB3.out.size))
    clear hr4 hb4
    go_wp2_with (go_at_call 126; refine (sureS_c _ _).mono ?_; rintro e w' ⟨rfl, rfl⟩)
    go_ret
    exact ⟨A4, n4, c4, _, rfl, HR4.out, HF.out, by rw [lim_val, HV.out, HQV.out, HU.out]; simp, HB4.out⟩

set_option maxRecDepth 100000 in
set_option maxHeartbeats 1000000 in
theorem divideR_c {S S' : Nat → Prop} {A B : Option Addr} {n m c d : Nat} {xs ys : List Nat} (w : World) (ha : Rd w S A n xs) (hb : Rd w S' B m ys) (hS : ∀ b, S b → b < w.heap.size) (hS' : ∀ b, S' b → b < w.heap.size) (fx : Fit xs) (fy : Fit ys) (hy : 0 < val ys) (hb2 : 2 * val ys < bp 256) (hx2 : val xs + 1 < bp 256) :
    Calls Tryz.prog 116 #[.slice A n c, .slice B m d, .func (.func 77) #[] #[]] w fun e w' => ∃ A' n' c' zs, e = .returned (.slice A' n' c') ∧ Res w' w.heap.size A' n' c' zs ∧ Fit zs ∧ val zs = val xs / val ys + (if decide (0 ≤ half (val xs % val ys) (val ys)) = true then 1 else 0) ∧ Below w.heap.size w w' := by
  obtain ⟨QV, hQV⟩ : ∃ q, q = val xs / val ys + (if decide (0 ≤ half (val xs % val ys) (val ys)) = true then 1 else 0) := ⟨_, rfl⟩
  rw [← hQV]
  have HQV := Lib.hid hQV
  clear hQV
  have hn : n ≤ 256 := by rw [← ha.len]; exact fx.len
  have hm : m ≤ 256 := by rw [← hb.len]; exact fy.len
  have hD := Div_c (c := c) (d := d) w ha hb hS hS' (by omega) (by omega)
  have hE : divE xs ys = 0 := by
    unfold divE
    rw [if_pos (chk2_ok fx.can fy.can fx.len fy.len), if_neg (by intro h; have h2 : ys = [] := List.eq_nil_of_length_eq_zero h; rw [h2] at hy; exact absurd hy (by decide))]
  rw [hE] at hD
  have HD := Lib.hid hD
  have HA := Lib.hid ha
  have HB := Lib.hid hb
  have HS := Lib.hid hS
  have HS2 := Lib.hid hS'
  have HE := Lib.hid hE
  clear hD ha hb hS hS' hE
  go_enter Tryz.func116, Tryz.ntmps116
  go_wp2_with fail
  refine HD.out.mono ?_
  rintro e w1 ⟨A1, n1, c1, qs, A2, n2, c2, rs, rfl, hq, hr, _, hok, hb1⟩
  obtain ⟨cq, cr, hval, hlt⟩ := hok (by first | trivial | rfl | exact HE.out)
  have hdiv : val qs = val xs / val ys ∧ val rs = val xs % val ys := by
    have h1 : val xs = val ys * val qs + val rs := by rw [hval, Nat.mul_comm]
    have := (Nat.div_mod_unique hy).2 ⟨(show val rs + val ys * val qs = val xs by omega), hlt⟩
    exact ⟨this.1.symm, this.2.symm⟩
  have hql : val qs ≤ val xs := by rw [hdiv.1]; exact Nat.div_le_self _ _
  have fq : Fit qs := Fit.of_lt cq (by omega)
  have fr : Fit rs := Fit.of_lt cr (by omega)
  have hn1 : n1 ≤ 256 := by rw [← hq.len]; exact fq.len
  have hS1 : ∀ b, (fun b => w.heap.size ≤ b ∧ b < w1.heap.size) b → b < w1.heap.size := fun b h => h.2
  have hR := round1_c (A1 := A1) (n1 := n1) (c1 := c1) (c2 := c2) (c3 := d) w1 hr.rd (HB.out.below hb1 HS2.out) hS1 (fun b h => by have := HS2.out b h; have := hb1.size; omega) fr fy (by omega)
  rw [hdiv.2] at hR
  have hv1 := hdiv.1
  have HB1 := Lib.hid hb1
  have HQ := Lib.hid hq
  have HV := Lib.hid hv1
  have HR := Lib.hid hR
  cases hU : decide (0 ≤ half (val xs % val ys) (val ys)) with
  | false =>
    have HU := Lib.hid hU
    rw [hU] at HR
    clear hok hb1 hq hr hval hdiv hv1 hR hU
    go_wp2_with fail
    refine HR.out.mono ?_
    rintro e w2 ⟨rfl, hb2'⟩
    have HB2 := Lib.hid (HB1.out.trans (hb2'.mono HB1.out.size))
    have HQ2 := Lib.hid (HQ.out.below hb2' (Nat.le_refl _))
    clear hb2'
    go_wp2
    go_ret
    exact ⟨A1, n1, c1, qs, rfl, HQ2.out, fq, by rw [HV.out, HQV.out, HU.out]; simp, HB2.out⟩
  | true =>
    have HU := Lib.hid hU
    rw [hU] at HR
    have hql2 : val qs + 1 < bp 256 := by omega
    have HQL := Lib.hid hql2
    clear hok hb1 hq hr hval hdiv hv1 hR hU
    go_wp2_with fail
    refine HR.out.mono ?_
    rintro e w2 ⟨rfl, hb2'⟩
    have HB2 := Lib.hid (HB1.out.trans (hb2'.mono HB1.out.size))
    have HQ2 := Lib.hid (HQ.out.below hb2' (Nat.le_refl _))
    clear hb2'
    go_wp2_with fail
    refine (From_c 1 w2 (by decide)).mono ?_
    rintro e w3 ⟨A3, n3, c3, zs, rfl, hr3, hc3, hv3, hb3⟩
    have f1 : Fit zs := Fit.of_lt hc3 (by omega)
    have hn3 : n3 ≤ 256 := by rw [← hr3.len]; exact f1.len
    have hE2 := binE_ok fq.can f1.can fq.len f1.len (v := val qs + val zs) (by rw [hv3]; exact HQL.out)
    have hZ2 := (binE_zero fq.can.1 f1.can.1 hE2).2.2.2
    have hAd := Add_c (c := c1) (d := c3) w3 (HQ2.out.below hb3 (Nat.le_refl _)).rd hr3.rd (fun b h => h.2) (fun b h => h.2) (by omega) (by omega)
    rw [hE2, hZ2, hv3] at hAd
    have HAD := Lib.hid hAd
    have HB3 := Lib.hid (HB2.out.trans (hb3.mono HB2.out.size))
    have HF := Lib.hid (Fit.lim HQL.out)
    clear hr3 hc3 hv3 hb3 hE2 hZ2 hAd
    go_wp2_with fail
    refine HAD.out.mono ?_
    rintro e w4 ⟨A4, n4, c4, rfl, hr4, hb4⟩
    have HR4 := Lib.hid (hr4.more HB3.out.size)
    have HB4 := Lib.hid (HB3.out.trans (hb4.mono HB3.out.size))
    clear hr4 hb4
    go_wp2_with (go_at_call 126; refine (sureS_c _ _).mono ?_; rintro e w' ⟨rfl, rfl⟩)
    go_ret
    exact ⟨A4, n4, c4, _, rfl, HR4.out, HF.out, by rw [lim_val, HV.out, HQV.out, HU.out]; simp, HB4.out⟩

/-- A decimal's whole part. -/
def wq (v : Nat) (e : Int) : Nat := wd v e / wd 1 (-e)
def wr (v : Nat) (e : Int) : Nat := wd v e % wd 1 (-e)

set_option maxRecDepth 100000 in
set_option maxHeartbeats 2000000 in
theorem wholeN_c {S : Nat → Prop} {n c : Nat} {A : Option Addr} {xs : List Nat} (ng : Bool) (e1 : Int) (w : World) (ha : Rd w S A n xs) (hS : ∀ b, S b → b < w.heap.size) (fx : Fit xs) (he : -1900 ≤ e1 ∧ e1 ≤ 1900) (hx : wd (val xs) e1 + 1 < bp 256) :
    Calls Tryz.prog 69 #[dv ng A n c e1, .func (.func 70) #[] #[]] w fun e w' => ∃ A' n' c' zs, e = .returned (.slice A' n' c') ∧ Res w' w.heap.size A' n' c' zs ∧ Fit zs ∧ val zs = wq (val xs) e1 + (if false = true then 1 else 0) ∧ Below w.heap.size w w' := by
  obtain ⟨QV, hQV⟩ : ∃ q, Hid (q = wq (val xs) e1 + (if false = true then 1 else 0)) := ⟨_, Lib.hid rfl⟩
  rw [← hQV.out]
  obtain ⟨he1, he2⟩ := he
  obtain ⟨K, hK⟩ : ∃ K : Nat, K = 1950 := ⟨_, rfl⟩
  have h10 := ten_bp2 (v := wd 1 (-e1)) (k := K) (by unfold wd; rw [Nat.one_mul]; exact Nat.pow_lt_pow_right (by omega) (by omega)) (by omega)
  have HL3 := Lib.hid h10.2.2
  have HL2 := Lib.hid h10.1
  have HL1 := Lib.hid hx
  have HP := Lib.hid (wd_pos (v := 1) (by omega) (-e1))
  have H1B := Lib.hid (show 1 < bp 256 by have := h10.2.2; have := wd_pos (v := 1) (by omega) (-e1); omega)
  have HW1 := Lib.hid (fun V (h1 : Rd V S A n xs) hs => qwiden_c (c := c) e1 V h1 hs fx ⟨by omega, by omega⟩ (by omega))
  have up : ∀ {V : World}, Below w.heap.size w V → ∀ b, b < w.heap.size → b < V.heap.size := fun h b hb => by have := h.size; omega
  have hW : Below w.heap.size w (w.alloc (.cells #[.bool ng, .slice A n c, .int .i64 e1] 24)) := (Below.refl _ _).alloc (Nat.le_refl _) _
  have ma := World.alloc_heap_new w (.cells #[.bool ng, .slice A n c, .int .i64 e1] 24)
  skip
  clear h10 hx
  unfold dv
  go_enter Tryz.func69, Tryz.ntmps69
  go_wp2_with fail
  generalize w.alloc (.cells #[.bool ng, .slice A n c, .int .i64 e1] 24) = W at ma hW ⊢
  have q1 : W.cell? ⟨w.heap.size, 1, none⟩ = some (.slice A n c) := cell_of ma rfl
  have q2 : W.cell? ⟨w.heap.size, 2, none⟩ = some (.int .i64 e1) := cell_of ma rfl
  refine wp_region_held_drew (S := fun w' => w'.cell? ⟨w.heap.size, 1, none⟩ = some (.slice A n c) ∧ w'.cell? ⟨w.heap.size, 2, none⟩ = some (.int .i64 e1)) (by kernel_rfl) ⟨q1, q2⟩ (fun hHeld => ?_)
  (try simp only [List.size_toArray, List.length_cons, List.length_nil, Nat.reduceAdd, Array.replicate_succ, Array.replicate_zero, List.push_toArray, List.append_toArray, List.nil_append, List.cons_append])
  refine wpAnyH_take (i := 0) (oi := ⟨_, _, _, _, _, _⟩) (v := ?_) rfl (by kernel_rfl) (by kernel_rfl) (by kernel_rfl) (fun _ _ _ h => h) (Or.inl ⟨by rfl, ?_⟩) (by assumption) ?_
  rotate_left
  · intro w hSw
    (try dsimp only at hSw)
    go_split_ands
    go_simp
    try with_reducible rfl
  try simp only [Act.put, List.setIfInBounds_toArray, List.set_cons_zero, List.set_cons_succ]
  refine wpAnyH_take (i := 1) (oi := ⟨_, _, _, _, _, _⟩) (v := ?_) rfl (by kernel_rfl) (by kernel_rfl) (by kernel_rfl) (fun _ _ _ h => h) (Or.inl ⟨by rfl, ?_⟩) (by assumption) ?_
  rotate_left
  · intro w hSw
    (try dsimp only at hSw)
    go_split_ands
    go_simp
    try with_reducible rfl
  try simp only [Act.put, List.setIfInBounds_toArray, List.set_cons_zero, List.set_cons_succ]
  refine wpAnyH_take (i := 2) (oi := ⟨_, _, _, _, _, _⟩) (v := ?_) rfl (by kernel_rfl) (by kernel_rfl) (by kernel_rfl) (fun _ _ _ h => h) (Or.inl ⟨by rfl, ?_⟩) (by assumption) ?_
  rotate_left
  · intro w hSw
    (try dsimp only at hSw)
    go_split_ands
    go_simp
    try with_reducible rfl
  try simp only [Act.put, List.setIfInBounds_toArray, List.set_cons_zero, List.set_cons_succ]
  refine wpAnyH_take (i := 3) (oi := ⟨_, _, _, _, _, _⟩) (v := ?_) rfl (by kernel_rfl) (by kernel_rfl) (by kernel_rfl) (fun _ _ _ h => h) (Or.inl ⟨by rfl, ?_⟩) (by assumption) ?_
  rotate_left
  · intro w hSw
    (try dsimp only at hSw)
    go_split_ands
    go_simp
    try with_reducible rfl
  try simp only [Act.put, List.setIfInBounds_toArray, List.set_cons_zero, List.set_cons_succ]
  refine wpAnyH_take (i := 6) (oi := ⟨_, _, _, _, _, _⟩) (v := ?_) rfl (by kernel_rfl) (by kernel_rfl) (by kernel_rfl) (fun _ _ _ h => h) (Or.inl ⟨by rfl, ?_⟩) (by assumption) ?_
  rotate_left
  · intro w hSw
    (try dsimp only at hSw)
    go_split_ands
    go_simp
    try with_reducible rfl
  try simp only [Act.put, List.setIfInBounds_toArray, List.set_cons_zero, List.set_cons_succ]
  refine wpAnyH_take (i := 7) (oi := ⟨_, _, _, _, _, _⟩) (v := ?_) rfl (by kernel_rfl) (by kernel_rfl) (by kernel_rfl) (fun _ _ _ h => h) (Or.inl ⟨by rfl, ?_⟩) (by assumption) ?_
  rotate_left
  · intro w hSw
    (try dsimp only at hSw)
    go_split_ands
    go_simp
    try with_reducible rfl
  try simp only [Act.put, List.setIfInBounds_toArray, List.set_cons_zero, List.set_cons_succ]
  refine wpAnyH_take (i := 8) (oi := ⟨_, _, _, _, _, _⟩) (v := ?_) rfl (by kernel_rfl) (by kernel_rfl) (by kernel_rfl) (fun _ _ _ h => h) (Or.inl ⟨by rfl, ?_⟩) (by assumption) ?_
  rotate_left
  · intro w hSw
    (try dsimp only at hSw)
    go_split_ands
    go_simp
    try with_reducible rfl
  try simp only [Act.put, List.setIfInBounds_toArray, List.set_cons_zero, List.set_cons_succ]
  refine wpAnyH_take (i := 10) (oi := ⟨_, _, _, _, _, _⟩) (v := ?_) rfl (by kernel_rfl) (by kernel_rfl) (by kernel_rfl) (fun _ _ _ h => h) (Or.inl ⟨by rfl, ?_⟩) (by assumption) ?_
  rotate_left
  · intro w hSw
    (try dsimp only at hSw)
    go_split_ands
    go_simp
    try with_reducible rfl
  try simp only [Act.put, List.setIfInBounds_toArray, List.set_cons_zero, List.set_cons_succ]
  have ma : W.drew.heap[w.heap.size]? = _ := ma
  have hB : Below w.heap.size w W.drew := only_drewB hW
  generalize hV0 : W.drew = V0 at *
  clear hV0 q1 q2
  refine wpAnyH_ready (rs := [4]) (by kernel_rfl) (by simp) ?_
  refine (AllReadyH.cons (o := ⟨_, _, _, _, _, _⟩) rfl (fun K hK => ?_) AllReadyH.nil)
  go_simp
  refine (HW1.out V0 (ha.below hB hS) (fun b h => up hB b (hS b h))).mono ?_
  rintro e V1 ⟨A1, n1, c1, z1, rfl, r1, f1, v1, hb0⟩
  have r1 := r1.more (base' := w.heap.size) hB.size
  have ma := heldz hb0 ma
  have hB := hB.trans (hb0.mono hB.size)
  obtain ⟨x0, x1, x2⟩ := box3_of ma
  (try dsimp only)
  refine hK.out _ _ ⟨x1, x2⟩ (fun hHeld => ?_)
  clear hK K
  try simp only [Act.put, List.setIfInBounds_toArray, List.set_cons_zero, List.set_cons_succ]
  clear hb0 x0 x1 x2
  refine wpAnyH_ready (rs := [5]) (by kernel_rfl) (by simp) ?_
  refine (AllReadyH.cons (o := ⟨_, _, _, _, _, _⟩) rfl (fun K hK => ?_) AllReadyH.nil)
  go_simp
  refine (From_c 1 V1 (by decide)).mono ?_
  rintro e V2 ⟨A2, n2, c2, z2, rfl, r2, g2, v2, hb0⟩
  have f2 : Fit z2 := Fit.of_lt g2 (by rw [v2]; exact H1B.out)
  have r1 := r1.below hb0 (Nat.le_refl _)
  have ma := heldz hb0 ma
  have hBs := hB.size
  have r2 := r2.more (base' := w.heap.size) hBs
  have hB := hB.trans (hb0.mono hB.size)
  obtain ⟨x0, x1, x2⟩ := box3_of ma
  (try dsimp only)
  refine hK.out _ _ ⟨x1, x2⟩ (fun hHeld => ?_)
  clear hK K
  try simp only [Act.put, List.setIfInBounds_toArray, List.set_cons_zero, List.set_cons_succ]
  clear hb0 x0 x1 x2
  clear hBs
  refine wpAnyH_ready (rs := [9]) (by kernel_rfl) (by simp) ?_
  refine (AllReadyH.cons (o := ⟨_, _, _, _, _, _⟩) rfl (fun K hK => ?_) AllReadyH.nil)
  go_simp
  rw [show IntKind.i64.wrap (-e1) = -e1 from IntWalk.i64_in _ (by omega)]
  refine (qwiden_c (c := c2) (-e1) V2 r2.rd (fun b h => h.2) f2 ⟨by omega, by omega⟩ (by rw [v2]; exact HL3.out)).mono ?_
  rintro e V3 ⟨A3, n3, c3, z3, rfl, r3, f3, v3, hb0⟩
  rw [v2] at v3
  have r1 := r1.below hb0 (Nat.le_refl _)
  have ma := heldz hb0 ma
  have hBs := hB.size
  have r3 := r3.more (base' := w.heap.size) hBs
  have hB := hB.trans (hb0.mono hB.size)
  obtain ⟨x0, x1, x2⟩ := box3_of ma
  (try dsimp only)
  refine hK.out _ _ ⟨x1, x2⟩ (fun hHeld => ?_)
  clear hK K
  try simp only [Act.put, List.setIfInBounds_toArray, List.set_cons_zero, List.set_cons_succ]
  clear hb0 x0 x1 x2
  clear hBs
  refine wpAnyH_ready (rs := [11]) (by kernel_rfl) (by simp) ?_
  refine (AllReadyH.cons (o := ⟨_, _, _, _, _, _⟩) rfl (fun K hK => ?_) AllReadyH.nil)
  go_simp
  refine (divideN_c (c := c1) (d := c3) V3 r1.rd r3.rd (fun b h => h.2) (fun b h => h.2) f1 f3 (by rw [v3]; exact HP.out) (by rw [v3]; exact HL2.out) (by rw [v1]; exact HL1.out)).mono ?_
  rintro e V4 ⟨A4, n4, c4, z4, rfl, r4, f4, v4, hb0⟩
  rw [v1, v3] at v4
  have r4 := r4.more (base' := w.heap.size) hB.size
  have ma := heldz hb0 ma
  have hB := hB.trans (hb0.mono hB.size)
  obtain ⟨x0, x1, x2⟩ := box3_of ma
  (try dsimp only)
  refine hK.out _ _ ⟨x1, x2⟩ (fun hHeld => ?_)
  clear hK K
  try simp only [Act.put, List.setIfInBounds_toArray, List.set_cons_zero, List.set_cons_succ]
  clear hb0 x0 x1 x2
  refine wpAnyH_take (i := 12) (oi := ⟨_, _, _, _, _, _⟩) (v := ?_) rfl (by kernel_rfl) (by kernel_rfl) (by kernel_rfl) (fun _ _ _ h => h) (Or.inl ⟨by rfl, ?_⟩) (by assumption) ?_
  rotate_left
  · intro w hSw
    (try dsimp only at hSw)
    go_split_ands
    go_simp
    try with_reducible rfl
  try simp only [Act.put, List.setIfInBounds_toArray, List.set_cons_zero, List.set_cons_succ]
  refine wpAnyH_done (by kernel_rfl) ?_ _
  go_wp2
  go_ret
  exact ⟨A4, n4, c4, z4, rfl, r4, f4, v4.trans hQV.out.symm, hB⟩

set_option maxRecDepth 100000 in
set_option maxHeartbeats 2000000 in
theorem wholeF_c {pa n0 c0 : Nat} {A0 : Option Addr} {na : Bool} {e0 : Int} {S : Nat → Prop} {n c : Nat} {A : Option Addr} {xs : List Nat} (ng : Bool) (e1 : Int) (w : World) (mp : w.heap[pa]? = some (.cells #[.bool na, .slice A0 n0 c0, .int .i64 e0] 24)) (ha : Rd w S A n xs) (hS : ∀ b, S b → b < w.heap.size) (fx : Fit xs) (he : -1900 ≤ e1 ∧ e1 ≤ 1900) (hx : wd (val xs) e1 + 1 < bp 256) :
    Calls Tryz.prog 69 #[dv ng A n c e1, .func (.func 73) #[] #[.pointer (some ⟨pa, 0, none⟩)]] w fun e w' => ∃ A' n' c' zs, e = .returned (.slice A' n' c') ∧ Res w' w.heap.size A' n' c' zs ∧ Fit zs ∧ val zs = wq (val xs) e1 + (if (na && !decide (wr (val xs) e1 = 0)) = true then 1 else 0) ∧ Below w.heap.size w w' := by
  obtain ⟨QV, hQV⟩ : ∃ q, Hid (q = wq (val xs) e1 + (if (na && !decide (wr (val xs) e1 = 0)) = true then 1 else 0)) := ⟨_, Lib.hid rfl⟩
  rw [← hQV.out]
  obtain ⟨he1, he2⟩ := he
  obtain ⟨K, hK⟩ : ∃ K : Nat, K = 1950 := ⟨_, rfl⟩
  have h10 := ten_bp2 (v := wd 1 (-e1)) (k := K) (by unfold wd; rw [Nat.one_mul]; exact Nat.pow_lt_pow_right (by omega) (by omega)) (by omega)
  have HL3 := Lib.hid h10.2.2
  have HL2 := Lib.hid h10.1
  have HL1 := Lib.hid hx
  have HP := Lib.hid (wd_pos (v := 1) (by omega) (-e1))
  have H1B := Lib.hid (show 1 < bp 256 by have := h10.2.2; have := wd_pos (v := 1) (by omega) (-e1); omega)
  have HW1 := Lib.hid (fun V (h1 : Rd V S A n xs) hs => qwiden_c (c := c) e1 V h1 hs fx ⟨by omega, by omega⟩ (by omega))
  have up : ∀ {V : World}, Below w.heap.size w V → ∀ b, b < w.heap.size → b < V.heap.size := fun h b hb => by have := h.size; omega
  have hW : Below w.heap.size w (w.alloc (.cells #[.bool ng, .slice A n c, .int .i64 e1] 24)) := (Below.refl _ _).alloc (Nat.le_refl _) _
  have ma := World.alloc_heap_new w (.cells #[.bool ng, .slice A n c, .int .i64 e1] 24)
  have mp := heldA (.cells #[.bool ng, .slice A n c, .int .i64 e1] 24) mp
  clear h10 hx
  unfold dv
  go_enter Tryz.func69, Tryz.ntmps69
  go_wp2_with fail
  generalize w.alloc (.cells #[.bool ng, .slice A n c, .int .i64 e1] 24) = W at ma hW mp ⊢
  have q1 : W.cell? ⟨w.heap.size, 1, none⟩ = some (.slice A n c) := cell_of ma rfl
  have q2 : W.cell? ⟨w.heap.size, 2, none⟩ = some (.int .i64 e1) := cell_of ma rfl
  refine wp_region_held_drew (S := fun w' => w'.cell? ⟨w.heap.size, 1, none⟩ = some (.slice A n c) ∧ w'.cell? ⟨w.heap.size, 2, none⟩ = some (.int .i64 e1)) (by kernel_rfl) ⟨q1, q2⟩ (fun hHeld => ?_)
  (try simp only [List.size_toArray, List.length_cons, List.length_nil, Nat.reduceAdd, Array.replicate_succ, Array.replicate_zero, List.push_toArray, List.append_toArray, List.nil_append, List.cons_append])
  refine wpAnyH_take (i := 0) (oi := ⟨_, _, _, _, _, _⟩) (v := ?_) rfl (by kernel_rfl) (by kernel_rfl) (by kernel_rfl) (fun _ _ _ h => h) (Or.inl ⟨by rfl, ?_⟩) (by assumption) ?_
  rotate_left
  · intro w hSw
    (try dsimp only at hSw)
    go_split_ands
    go_simp
    try with_reducible rfl
  try simp only [Act.put, List.setIfInBounds_toArray, List.set_cons_zero, List.set_cons_succ]
  refine wpAnyH_take (i := 1) (oi := ⟨_, _, _, _, _, _⟩) (v := ?_) rfl (by kernel_rfl) (by kernel_rfl) (by kernel_rfl) (fun _ _ _ h => h) (Or.inl ⟨by rfl, ?_⟩) (by assumption) ?_
  rotate_left
  · intro w hSw
    (try dsimp only at hSw)
    go_split_ands
    go_simp
    try with_reducible rfl
  try simp only [Act.put, List.setIfInBounds_toArray, List.set_cons_zero, List.set_cons_succ]
  refine wpAnyH_take (i := 2) (oi := ⟨_, _, _, _, _, _⟩) (v := ?_) rfl (by kernel_rfl) (by kernel_rfl) (by kernel_rfl) (fun _ _ _ h => h) (Or.inl ⟨by rfl, ?_⟩) (by assumption) ?_
  rotate_left
  · intro w hSw
    (try dsimp only at hSw)
    go_split_ands
    go_simp
    try with_reducible rfl
  try simp only [Act.put, List.setIfInBounds_toArray, List.set_cons_zero, List.set_cons_succ]
  refine wpAnyH_take (i := 3) (oi := ⟨_, _, _, _, _, _⟩) (v := ?_) rfl (by kernel_rfl) (by kernel_rfl) (by kernel_rfl) (fun _ _ _ h => h) (Or.inl ⟨by rfl, ?_⟩) (by assumption) ?_
  rotate_left
  · intro w hSw
    (try dsimp only at hSw)
    go_split_ands
    go_simp
    try with_reducible rfl
  try simp only [Act.put, List.setIfInBounds_toArray, List.set_cons_zero, List.set_cons_succ]
  refine wpAnyH_take (i := 6) (oi := ⟨_, _, _, _, _, _⟩) (v := ?_) rfl (by kernel_rfl) (by kernel_rfl) (by kernel_rfl) (fun _ _ _ h => h) (Or.inl ⟨by rfl, ?_⟩) (by assumption) ?_
  rotate_left
  · intro w hSw
    (try dsimp only at hSw)
    go_split_ands
    go_simp
    try with_reducible rfl
  try simp only [Act.put, List.setIfInBounds_toArray, List.set_cons_zero, List.set_cons_succ]
  refine wpAnyH_take (i := 7) (oi := ⟨_, _, _, _, _, _⟩) (v := ?_) rfl (by kernel_rfl) (by kernel_rfl) (by kernel_rfl) (fun _ _ _ h => h) (Or.inl ⟨by rfl, ?_⟩) (by assumption) ?_
  rotate_left
  · intro w hSw
    (try dsimp only at hSw)
    go_split_ands
    go_simp
    try with_reducible rfl
  try simp only [Act.put, List.setIfInBounds_toArray, List.set_cons_zero, List.set_cons_succ]
  refine wpAnyH_take (i := 8) (oi := ⟨_, _, _, _, _, _⟩) (v := ?_) rfl (by kernel_rfl) (by kernel_rfl) (by kernel_rfl) (fun _ _ _ h => h) (Or.inl ⟨by rfl, ?_⟩) (by assumption) ?_
  rotate_left
  · intro w hSw
    (try dsimp only at hSw)
    go_split_ands
    go_simp
    try with_reducible rfl
  try simp only [Act.put, List.setIfInBounds_toArray, List.set_cons_zero, List.set_cons_succ]
  refine wpAnyH_take (i := 10) (oi := ⟨_, _, _, _, _, _⟩) (v := ?_) rfl (by kernel_rfl) (by kernel_rfl) (by kernel_rfl) (fun _ _ _ h => h) (Or.inl ⟨by rfl, ?_⟩) (by assumption) ?_
  rotate_left
  · intro w hSw
    (try dsimp only at hSw)
    go_split_ands
    go_simp
    try with_reducible rfl
  try simp only [Act.put, List.setIfInBounds_toArray, List.set_cons_zero, List.set_cons_succ]
  have ma : W.drew.heap[w.heap.size]? = _ := ma
  have mp : W.drew.heap[pa]? = _ := mp
  have hB : Below w.heap.size w W.drew := only_drewB hW
  generalize hV0 : W.drew = V0 at *
  clear hV0 q1 q2
  refine wpAnyH_ready (rs := [4]) (by kernel_rfl) (by simp) ?_
  refine (AllReadyH.cons (o := ⟨_, _, _, _, _, _⟩) rfl (fun K hK => ?_) AllReadyH.nil)
  go_simp
  refine (HW1.out V0 (ha.below hB hS) (fun b h => up hB b (hS b h))).mono ?_
  rintro e V1 ⟨A1, n1, c1, z1, rfl, r1, f1, v1, hb0⟩
  have r1 := r1.more (base' := w.heap.size) hB.size
  have ma := heldz hb0 ma
  have mp := heldz hb0 mp
  have hB := hB.trans (hb0.mono hB.size)
  obtain ⟨x0, x1, x2⟩ := box3_of ma
  (try dsimp only)
  refine hK.out _ _ ⟨x1, x2⟩ (fun hHeld => ?_)
  clear hK K
  try simp only [Act.put, List.setIfInBounds_toArray, List.set_cons_zero, List.set_cons_succ]
  clear hb0 x0 x1 x2
  refine wpAnyH_ready (rs := [5]) (by kernel_rfl) (by simp) ?_
  refine (AllReadyH.cons (o := ⟨_, _, _, _, _, _⟩) rfl (fun K hK => ?_) AllReadyH.nil)
  go_simp
  refine (From_c 1 V1 (by decide)).mono ?_
  rintro e V2 ⟨A2, n2, c2, z2, rfl, r2, g2, v2, hb0⟩
  have f2 : Fit z2 := Fit.of_lt g2 (by rw [v2]; exact H1B.out)
  have r1 := r1.below hb0 (Nat.le_refl _)
  have ma := heldz hb0 ma
  have mp := heldz hb0 mp
  have hBs := hB.size
  have r2 := r2.more (base' := w.heap.size) hBs
  have hB := hB.trans (hb0.mono hB.size)
  obtain ⟨x0, x1, x2⟩ := box3_of ma
  (try dsimp only)
  refine hK.out _ _ ⟨x1, x2⟩ (fun hHeld => ?_)
  clear hK K
  try simp only [Act.put, List.setIfInBounds_toArray, List.set_cons_zero, List.set_cons_succ]
  clear hb0 x0 x1 x2
  clear hBs
  refine wpAnyH_ready (rs := [9]) (by kernel_rfl) (by simp) ?_
  refine (AllReadyH.cons (o := ⟨_, _, _, _, _, _⟩) rfl (fun K hK => ?_) AllReadyH.nil)
  go_simp
  rw [show IntKind.i64.wrap (-e1) = -e1 from IntWalk.i64_in _ (by omega)]
  refine (qwiden_c (c := c2) (-e1) V2 r2.rd (fun b h => h.2) f2 ⟨by omega, by omega⟩ (by rw [v2]; exact HL3.out)).mono ?_
  rintro e V3 ⟨A3, n3, c3, z3, rfl, r3, f3, v3, hb0⟩
  rw [v2] at v3
  have r1 := r1.below hb0 (Nat.le_refl _)
  have ma := heldz hb0 ma
  have mp := heldz hb0 mp
  have hBs := hB.size
  have r3 := r3.more (base' := w.heap.size) hBs
  have hB := hB.trans (hb0.mono hB.size)
  obtain ⟨x0, x1, x2⟩ := box3_of ma
  (try dsimp only)
  refine hK.out _ _ ⟨x1, x2⟩ (fun hHeld => ?_)
  clear hK K
  try simp only [Act.put, List.setIfInBounds_toArray, List.set_cons_zero, List.set_cons_succ]
  clear hb0 x0 x1 x2
  clear hBs
  refine wpAnyH_ready (rs := [11]) (by kernel_rfl) (by simp) ?_
  refine (AllReadyH.cons (o := ⟨_, _, _, _, _, _⟩) rfl (fun K hK => ?_) AllReadyH.nil)
  go_simp
  refine (divideF_c (c := c1) (d := c3) V3 mp r1.rd r3.rd (fun b h => h.2) (fun b h => h.2) f1 f3 (by rw [v3]; exact HP.out) (by rw [v3]; exact HL2.out) (by rw [v1]; exact HL1.out)).mono ?_
  rintro e V4 ⟨A4, n4, c4, z4, rfl, r4, f4, v4, hb0⟩
  rw [v1, v3] at v4
  have r4 := r4.more (base' := w.heap.size) hB.size
  have ma := heldz hb0 ma
  have hB := hB.trans (hb0.mono hB.size)
  obtain ⟨x0, x1, x2⟩ := box3_of ma
  (try dsimp only)
  refine hK.out _ _ ⟨x1, x2⟩ (fun hHeld => ?_)
  clear hK K
  try simp only [Act.put, List.setIfInBounds_toArray, List.set_cons_zero, List.set_cons_succ]
  clear hb0 x0 x1 x2
  refine wpAnyH_take (i := 12) (oi := ⟨_, _, _, _, _, _⟩) (v := ?_) rfl (by kernel_rfl) (by kernel_rfl) (by kernel_rfl) (fun _ _ _ h => h) (Or.inl ⟨by rfl, ?_⟩) (by assumption) ?_
  rotate_left
  · intro w hSw
    (try dsimp only at hSw)
    go_split_ands
    go_simp
    try with_reducible rfl
  try simp only [Act.put, List.setIfInBounds_toArray, List.set_cons_zero, List.set_cons_succ]
  refine wpAnyH_done (by kernel_rfl) ?_ _
  go_wp2
  go_ret
  exact ⟨A4, n4, c4, z4, rfl, r4, f4, v4.trans hQV.out.symm, hB⟩

set_option maxRecDepth 100000 in
set_option maxHeartbeats 2000000 in
theorem wholeC_c {pa n0 c0 : Nat} {A0 : Option Addr} {na : Bool} {e0 : Int} {S : Nat → Prop} {n c : Nat} {A : Option Addr} {xs : List Nat} (ng : Bool) (e1 : Int) (w : World) (mp : w.heap[pa]? = some (.cells #[.bool na, .slice A0 n0 c0, .int .i64 e0] 24)) (ha : Rd w S A n xs) (hS : ∀ b, S b → b < w.heap.size) (fx : Fit xs) (he : -1900 ≤ e1 ∧ e1 ≤ 1900) (hx : wd (val xs) e1 + 1 < bp 256) :
    Calls Tryz.prog 69 #[dv ng A n c e1, .func (.func 76) #[] #[.pointer (some ⟨pa, 0, none⟩)]] w fun e w' => ∃ A' n' c' zs, e = .returned (.slice A' n' c') ∧ Res w' w.heap.size A' n' c' zs ∧ Fit zs ∧ val zs = wq (val xs) e1 + (if (!na && !decide (wr (val xs) e1 = 0)) = true then 1 else 0) ∧ Below w.heap.size w w' := by
  obtain ⟨QV, hQV⟩ : ∃ q, Hid (q = wq (val xs) e1 + (if (!na && !decide (wr (val xs) e1 = 0)) = true then 1 else 0)) := ⟨_, Lib.hid rfl⟩
  rw [← hQV.out]
  obtain ⟨he1, he2⟩ := he
  obtain ⟨K, hK⟩ : ∃ K : Nat, K = 1950 := ⟨_, rfl⟩
  have h10 := ten_bp2 (v := wd 1 (-e1)) (k := K) (by unfold wd; rw [Nat.one_mul]; exact Nat.pow_lt_pow_right (by omega) (by omega)) (by omega)
  have HL3 := Lib.hid h10.2.2
  have HL2 := Lib.hid h10.1
  have HL1 := Lib.hid hx
  have HP := Lib.hid (wd_pos (v := 1) (by omega) (-e1))
  have H1B := Lib.hid (show 1 < bp 256 by have := h10.2.2; have := wd_pos (v := 1) (by omega) (-e1); omega)
  have HW1 := Lib.hid (fun V (h1 : Rd V S A n xs) hs => qwiden_c (c := c) e1 V h1 hs fx ⟨by omega, by omega⟩ (by omega))
  have up : ∀ {V : World}, Below w.heap.size w V → ∀ b, b < w.heap.size → b < V.heap.size := fun h b hb => by have := h.size; omega
  have hW : Below w.heap.size w (w.alloc (.cells #[.bool ng, .slice A n c, .int .i64 e1] 24)) := (Below.refl _ _).alloc (Nat.le_refl _) _
  have ma := World.alloc_heap_new w (.cells #[.bool ng, .slice A n c, .int .i64 e1] 24)
  have mp := heldA (.cells #[.bool ng, .slice A n c, .int .i64 e1] 24) mp
  clear h10 hx
  unfold dv
  go_enter Tryz.func69, Tryz.ntmps69
  go_wp2_with fail
  generalize w.alloc (.cells #[.bool ng, .slice A n c, .int .i64 e1] 24) = W at ma hW mp ⊢
  have q1 : W.cell? ⟨w.heap.size, 1, none⟩ = some (.slice A n c) := cell_of ma rfl
  have q2 : W.cell? ⟨w.heap.size, 2, none⟩ = some (.int .i64 e1) := cell_of ma rfl
  refine wp_region_held_drew (S := fun w' => w'.cell? ⟨w.heap.size, 1, none⟩ = some (.slice A n c) ∧ w'.cell? ⟨w.heap.size, 2, none⟩ = some (.int .i64 e1)) (by kernel_rfl) ⟨q1, q2⟩ (fun hHeld => ?_)
  (try simp only [List.size_toArray, List.length_cons, List.length_nil, Nat.reduceAdd, Array.replicate_succ, Array.replicate_zero, List.push_toArray, List.append_toArray, List.nil_append, List.cons_append])
  refine wpAnyH_take (i := 0) (oi := ⟨_, _, _, _, _, _⟩) (v := ?_) rfl (by kernel_rfl) (by kernel_rfl) (by kernel_rfl) (fun _ _ _ h => h) (Or.inl ⟨by rfl, ?_⟩) (by assumption) ?_
  rotate_left
  · intro w hSw
    (try dsimp only at hSw)
    go_split_ands
    go_simp
    try with_reducible rfl
  try simp only [Act.put, List.setIfInBounds_toArray, List.set_cons_zero, List.set_cons_succ]
  refine wpAnyH_take (i := 1) (oi := ⟨_, _, _, _, _, _⟩) (v := ?_) rfl (by kernel_rfl) (by kernel_rfl) (by kernel_rfl) (fun _ _ _ h => h) (Or.inl ⟨by rfl, ?_⟩) (by assumption) ?_
  rotate_left
  · intro w hSw
    (try dsimp only at hSw)
    go_split_ands
    go_simp
    try with_reducible rfl
  try simp only [Act.put, List.setIfInBounds_toArray, List.set_cons_zero, List.set_cons_succ]
  refine wpAnyH_take (i := 2) (oi := ⟨_, _, _, _, _, _⟩) (v := ?_) rfl (by kernel_rfl) (by kernel_rfl) (by kernel_rfl) (fun _ _ _ h => h) (Or.inl ⟨by rfl, ?_⟩) (by assumption) ?_
  rotate_left
  · intro w hSw
    (try dsimp only at hSw)
    go_split_ands
    go_simp
    try with_reducible rfl
  try simp only [Act.put, List.setIfInBounds_toArray, List.set_cons_zero, List.set_cons_succ]
  refine wpAnyH_take (i := 3) (oi := ⟨_, _, _, _, _, _⟩) (v := ?_) rfl (by kernel_rfl) (by kernel_rfl) (by kernel_rfl) (fun _ _ _ h => h) (Or.inl ⟨by rfl, ?_⟩) (by assumption) ?_
  rotate_left
  · intro w hSw
    (try dsimp only at hSw)
    go_split_ands
    go_simp
    try with_reducible rfl
  try simp only [Act.put, List.setIfInBounds_toArray, List.set_cons_zero, List.set_cons_succ]
  refine wpAnyH_take (i := 6) (oi := ⟨_, _, _, _, _, _⟩) (v := ?_) rfl (by kernel_rfl) (by kernel_rfl) (by kernel_rfl) (fun _ _ _ h => h) (Or.inl ⟨by rfl, ?_⟩) (by assumption) ?_
  rotate_left
  · intro w hSw
    (try dsimp only at hSw)
    go_split_ands
    go_simp
    try with_reducible rfl
  try simp only [Act.put, List.setIfInBounds_toArray, List.set_cons_zero, List.set_cons_succ]
  refine wpAnyH_take (i := 7) (oi := ⟨_, _, _, _, _, _⟩) (v := ?_) rfl (by kernel_rfl) (by kernel_rfl) (by kernel_rfl) (fun _ _ _ h => h) (Or.inl ⟨by rfl, ?_⟩) (by assumption) ?_
  rotate_left
  · intro w hSw
    (try dsimp only at hSw)
    go_split_ands
    go_simp
    try with_reducible rfl
  try simp only [Act.put, List.setIfInBounds_toArray, List.set_cons_zero, List.set_cons_succ]
  refine wpAnyH_take (i := 8) (oi := ⟨_, _, _, _, _, _⟩) (v := ?_) rfl (by kernel_rfl) (by kernel_rfl) (by kernel_rfl) (fun _ _ _ h => h) (Or.inl ⟨by rfl, ?_⟩) (by assumption) ?_
  rotate_left
  · intro w hSw
    (try dsimp only at hSw)
    go_split_ands
    go_simp
    try with_reducible rfl
  try simp only [Act.put, List.setIfInBounds_toArray, List.set_cons_zero, List.set_cons_succ]
  refine wpAnyH_take (i := 10) (oi := ⟨_, _, _, _, _, _⟩) (v := ?_) rfl (by kernel_rfl) (by kernel_rfl) (by kernel_rfl) (fun _ _ _ h => h) (Or.inl ⟨by rfl, ?_⟩) (by assumption) ?_
  rotate_left
  · intro w hSw
    (try dsimp only at hSw)
    go_split_ands
    go_simp
    try with_reducible rfl
  try simp only [Act.put, List.setIfInBounds_toArray, List.set_cons_zero, List.set_cons_succ]
  have ma : W.drew.heap[w.heap.size]? = _ := ma
  have mp : W.drew.heap[pa]? = _ := mp
  have hB : Below w.heap.size w W.drew := only_drewB hW
  generalize hV0 : W.drew = V0 at *
  clear hV0 q1 q2
  refine wpAnyH_ready (rs := [4]) (by kernel_rfl) (by simp) ?_
  refine (AllReadyH.cons (o := ⟨_, _, _, _, _, _⟩) rfl (fun K hK => ?_) AllReadyH.nil)
  go_simp
  refine (HW1.out V0 (ha.below hB hS) (fun b h => up hB b (hS b h))).mono ?_
  rintro e V1 ⟨A1, n1, c1, z1, rfl, r1, f1, v1, hb0⟩
  have r1 := r1.more (base' := w.heap.size) hB.size
  have ma := heldz hb0 ma
  have mp := heldz hb0 mp
  have hB := hB.trans (hb0.mono hB.size)
  obtain ⟨x0, x1, x2⟩ := box3_of ma
  (try dsimp only)
  refine hK.out _ _ ⟨x1, x2⟩ (fun hHeld => ?_)
  clear hK K
  try simp only [Act.put, List.setIfInBounds_toArray, List.set_cons_zero, List.set_cons_succ]
  clear hb0 x0 x1 x2
  refine wpAnyH_ready (rs := [5]) (by kernel_rfl) (by simp) ?_
  refine (AllReadyH.cons (o := ⟨_, _, _, _, _, _⟩) rfl (fun K hK => ?_) AllReadyH.nil)
  go_simp
  refine (From_c 1 V1 (by decide)).mono ?_
  rintro e V2 ⟨A2, n2, c2, z2, rfl, r2, g2, v2, hb0⟩
  have f2 : Fit z2 := Fit.of_lt g2 (by rw [v2]; exact H1B.out)
  have r1 := r1.below hb0 (Nat.le_refl _)
  have ma := heldz hb0 ma
  have mp := heldz hb0 mp
  have hBs := hB.size
  have r2 := r2.more (base' := w.heap.size) hBs
  have hB := hB.trans (hb0.mono hB.size)
  obtain ⟨x0, x1, x2⟩ := box3_of ma
  (try dsimp only)
  refine hK.out _ _ ⟨x1, x2⟩ (fun hHeld => ?_)
  clear hK K
  try simp only [Act.put, List.setIfInBounds_toArray, List.set_cons_zero, List.set_cons_succ]
  clear hb0 x0 x1 x2
  clear hBs
  refine wpAnyH_ready (rs := [9]) (by kernel_rfl) (by simp) ?_
  refine (AllReadyH.cons (o := ⟨_, _, _, _, _, _⟩) rfl (fun K hK => ?_) AllReadyH.nil)
  go_simp
  rw [show IntKind.i64.wrap (-e1) = -e1 from IntWalk.i64_in _ (by omega)]
  refine (qwiden_c (c := c2) (-e1) V2 r2.rd (fun b h => h.2) f2 ⟨by omega, by omega⟩ (by rw [v2]; exact HL3.out)).mono ?_
  rintro e V3 ⟨A3, n3, c3, z3, rfl, r3, f3, v3, hb0⟩
  rw [v2] at v3
  have r1 := r1.below hb0 (Nat.le_refl _)
  have ma := heldz hb0 ma
  have mp := heldz hb0 mp
  have hBs := hB.size
  have r3 := r3.more (base' := w.heap.size) hBs
  have hB := hB.trans (hb0.mono hB.size)
  obtain ⟨x0, x1, x2⟩ := box3_of ma
  (try dsimp only)
  refine hK.out _ _ ⟨x1, x2⟩ (fun hHeld => ?_)
  clear hK K
  try simp only [Act.put, List.setIfInBounds_toArray, List.set_cons_zero, List.set_cons_succ]
  clear hb0 x0 x1 x2
  clear hBs
  refine wpAnyH_ready (rs := [11]) (by kernel_rfl) (by simp) ?_
  refine (AllReadyH.cons (o := ⟨_, _, _, _, _, _⟩) rfl (fun K hK => ?_) AllReadyH.nil)
  go_simp
  refine (divideC_c (c := c1) (d := c3) V3 mp r1.rd r3.rd (fun b h => h.2) (fun b h => h.2) f1 f3 (by rw [v3]; exact HP.out) (by rw [v3]; exact HL2.out) (by rw [v1]; exact HL1.out)).mono ?_
  rintro e V4 ⟨A4, n4, c4, z4, rfl, r4, f4, v4, hb0⟩
  rw [v1, v3] at v4
  have r4 := r4.more (base' := w.heap.size) hB.size
  have ma := heldz hb0 ma
  have hB := hB.trans (hb0.mono hB.size)
  obtain ⟨x0, x1, x2⟩ := box3_of ma
  (try dsimp only)
  refine hK.out _ _ ⟨x1, x2⟩ (fun hHeld => ?_)
  clear hK K
  try simp only [Act.put, List.setIfInBounds_toArray, List.set_cons_zero, List.set_cons_succ]
  clear hb0 x0 x1 x2
  refine wpAnyH_take (i := 12) (oi := ⟨_, _, _, _, _, _⟩) (v := ?_) rfl (by kernel_rfl) (by kernel_rfl) (by kernel_rfl) (fun _ _ _ h => h) (Or.inl ⟨by rfl, ?_⟩) (by assumption) ?_
  rotate_left
  · intro w hSw
    (try dsimp only at hSw)
    go_split_ands
    go_simp
    try with_reducible rfl
  try simp only [Act.put, List.setIfInBounds_toArray, List.set_cons_zero, List.set_cons_succ]
  refine wpAnyH_done (by kernel_rfl) ?_ _
  go_wp2
  go_ret
  exact ⟨A4, n4, c4, z4, rfl, r4, f4, v4.trans hQV.out.symm, hB⟩

set_option maxRecDepth 100000 in
set_option maxHeartbeats 2000000 in
theorem wholeR_c {S : Nat → Prop} {n c : Nat} {A : Option Addr} {xs : List Nat} (ng : Bool) (e1 : Int) (w : World) (ha : Rd w S A n xs) (hS : ∀ b, S b → b < w.heap.size) (fx : Fit xs) (he : -1900 ≤ e1 ∧ e1 ≤ 1900) (hx : wd (val xs) e1 + 1 < bp 256) :
    Calls Tryz.prog 69 #[dv ng A n c e1, .func (.func 77) #[] #[]] w fun e w' => ∃ A' n' c' zs, e = .returned (.slice A' n' c') ∧ Res w' w.heap.size A' n' c' zs ∧ Fit zs ∧ val zs = wq (val xs) e1 + (if decide (0 ≤ half (wr (val xs) e1) (wd 1 (-e1))) = true then 1 else 0) ∧ Below w.heap.size w w' := by
  obtain ⟨QV, hQV⟩ : ∃ q, Hid (q = wq (val xs) e1 + (if decide (0 ≤ half (wr (val xs) e1) (wd 1 (-e1))) = true then 1 else 0)) := ⟨_, Lib.hid rfl⟩
  rw [← hQV.out]
  obtain ⟨he1, he2⟩ := he
  obtain ⟨K, hK⟩ : ∃ K : Nat, K = 1950 := ⟨_, rfl⟩
  have h10 := ten_bp2 (v := wd 1 (-e1)) (k := K) (by unfold wd; rw [Nat.one_mul]; exact Nat.pow_lt_pow_right (by omega) (by omega)) (by omega)
  have HL3 := Lib.hid h10.2.2
  have HL2 := Lib.hid h10.1
  have HL1 := Lib.hid hx
  have HP := Lib.hid (wd_pos (v := 1) (by omega) (-e1))
  have H1B := Lib.hid (show 1 < bp 256 by have := h10.2.2; have := wd_pos (v := 1) (by omega) (-e1); omega)
  have HW1 := Lib.hid (fun V (h1 : Rd V S A n xs) hs => qwiden_c (c := c) e1 V h1 hs fx ⟨by omega, by omega⟩ (by omega))
  have up : ∀ {V : World}, Below w.heap.size w V → ∀ b, b < w.heap.size → b < V.heap.size := fun h b hb => by have := h.size; omega
  have hW : Below w.heap.size w (w.alloc (.cells #[.bool ng, .slice A n c, .int .i64 e1] 24)) := (Below.refl _ _).alloc (Nat.le_refl _) _
  have ma := World.alloc_heap_new w (.cells #[.bool ng, .slice A n c, .int .i64 e1] 24)
  skip
  clear h10 hx
  unfold dv
  go_enter Tryz.func69, Tryz.ntmps69
  go_wp2_with fail
  generalize w.alloc (.cells #[.bool ng, .slice A n c, .int .i64 e1] 24) = W at ma hW ⊢
  have q1 : W.cell? ⟨w.heap.size, 1, none⟩ = some (.slice A n c) := cell_of ma rfl
  have q2 : W.cell? ⟨w.heap.size, 2, none⟩ = some (.int .i64 e1) := cell_of ma rfl
  refine wp_region_held_drew (S := fun w' => w'.cell? ⟨w.heap.size, 1, none⟩ = some (.slice A n c) ∧ w'.cell? ⟨w.heap.size, 2, none⟩ = some (.int .i64 e1)) (by kernel_rfl) ⟨q1, q2⟩ (fun hHeld => ?_)
  (try simp only [List.size_toArray, List.length_cons, List.length_nil, Nat.reduceAdd, Array.replicate_succ, Array.replicate_zero, List.push_toArray, List.append_toArray, List.nil_append, List.cons_append])
  refine wpAnyH_take (i := 0) (oi := ⟨_, _, _, _, _, _⟩) (v := ?_) rfl (by kernel_rfl) (by kernel_rfl) (by kernel_rfl) (fun _ _ _ h => h) (Or.inl ⟨by rfl, ?_⟩) (by assumption) ?_
  rotate_left
  · intro w hSw
    (try dsimp only at hSw)
    go_split_ands
    go_simp
    try with_reducible rfl
  try simp only [Act.put, List.setIfInBounds_toArray, List.set_cons_zero, List.set_cons_succ]
  refine wpAnyH_take (i := 1) (oi := ⟨_, _, _, _, _, _⟩) (v := ?_) rfl (by kernel_rfl) (by kernel_rfl) (by kernel_rfl) (fun _ _ _ h => h) (Or.inl ⟨by rfl, ?_⟩) (by assumption) ?_
  rotate_left
  · intro w hSw
    (try dsimp only at hSw)
    go_split_ands
    go_simp
    try with_reducible rfl
  try simp only [Act.put, List.setIfInBounds_toArray, List.set_cons_zero, List.set_cons_succ]
  refine wpAnyH_take (i := 2) (oi := ⟨_, _, _, _, _, _⟩) (v := ?_) rfl (by kernel_rfl) (by kernel_rfl) (by kernel_rfl) (fun _ _ _ h => h) (Or.inl ⟨by rfl, ?_⟩) (by assumption) ?_
  rotate_left
  · intro w hSw
    (try dsimp only at hSw)
    go_split_ands
    go_simp
    try with_reducible rfl
  try simp only [Act.put, List.setIfInBounds_toArray, List.set_cons_zero, List.set_cons_succ]
  refine wpAnyH_take (i := 3) (oi := ⟨_, _, _, _, _, _⟩) (v := ?_) rfl (by kernel_rfl) (by kernel_rfl) (by kernel_rfl) (fun _ _ _ h => h) (Or.inl ⟨by rfl, ?_⟩) (by assumption) ?_
  rotate_left
  · intro w hSw
    (try dsimp only at hSw)
    go_split_ands
    go_simp
    try with_reducible rfl
  try simp only [Act.put, List.setIfInBounds_toArray, List.set_cons_zero, List.set_cons_succ]
  refine wpAnyH_take (i := 6) (oi := ⟨_, _, _, _, _, _⟩) (v := ?_) rfl (by kernel_rfl) (by kernel_rfl) (by kernel_rfl) (fun _ _ _ h => h) (Or.inl ⟨by rfl, ?_⟩) (by assumption) ?_
  rotate_left
  · intro w hSw
    (try dsimp only at hSw)
    go_split_ands
    go_simp
    try with_reducible rfl
  try simp only [Act.put, List.setIfInBounds_toArray, List.set_cons_zero, List.set_cons_succ]
  refine wpAnyH_take (i := 7) (oi := ⟨_, _, _, _, _, _⟩) (v := ?_) rfl (by kernel_rfl) (by kernel_rfl) (by kernel_rfl) (fun _ _ _ h => h) (Or.inl ⟨by rfl, ?_⟩) (by assumption) ?_
  rotate_left
  · intro w hSw
    (try dsimp only at hSw)
    go_split_ands
    go_simp
    try with_reducible rfl
  try simp only [Act.put, List.setIfInBounds_toArray, List.set_cons_zero, List.set_cons_succ]
  refine wpAnyH_take (i := 8) (oi := ⟨_, _, _, _, _, _⟩) (v := ?_) rfl (by kernel_rfl) (by kernel_rfl) (by kernel_rfl) (fun _ _ _ h => h) (Or.inl ⟨by rfl, ?_⟩) (by assumption) ?_
  rotate_left
  · intro w hSw
    (try dsimp only at hSw)
    go_split_ands
    go_simp
    try with_reducible rfl
  try simp only [Act.put, List.setIfInBounds_toArray, List.set_cons_zero, List.set_cons_succ]
  refine wpAnyH_take (i := 10) (oi := ⟨_, _, _, _, _, _⟩) (v := ?_) rfl (by kernel_rfl) (by kernel_rfl) (by kernel_rfl) (fun _ _ _ h => h) (Or.inl ⟨by rfl, ?_⟩) (by assumption) ?_
  rotate_left
  · intro w hSw
    (try dsimp only at hSw)
    go_split_ands
    go_simp
    try with_reducible rfl
  try simp only [Act.put, List.setIfInBounds_toArray, List.set_cons_zero, List.set_cons_succ]
  have ma : W.drew.heap[w.heap.size]? = _ := ma
  have hB : Below w.heap.size w W.drew := only_drewB hW
  generalize hV0 : W.drew = V0 at *
  clear hV0 q1 q2
  refine wpAnyH_ready (rs := [4]) (by kernel_rfl) (by simp) ?_
  refine (AllReadyH.cons (o := ⟨_, _, _, _, _, _⟩) rfl (fun K hK => ?_) AllReadyH.nil)
  go_simp
  refine (HW1.out V0 (ha.below hB hS) (fun b h => up hB b (hS b h))).mono ?_
  rintro e V1 ⟨A1, n1, c1, z1, rfl, r1, f1, v1, hb0⟩
  have r1 := r1.more (base' := w.heap.size) hB.size
  have ma := heldz hb0 ma
  have hB := hB.trans (hb0.mono hB.size)
  obtain ⟨x0, x1, x2⟩ := box3_of ma
  (try dsimp only)
  refine hK.out _ _ ⟨x1, x2⟩ (fun hHeld => ?_)
  clear hK K
  try simp only [Act.put, List.setIfInBounds_toArray, List.set_cons_zero, List.set_cons_succ]
  clear hb0 x0 x1 x2
  refine wpAnyH_ready (rs := [5]) (by kernel_rfl) (by simp) ?_
  refine (AllReadyH.cons (o := ⟨_, _, _, _, _, _⟩) rfl (fun K hK => ?_) AllReadyH.nil)
  go_simp
  refine (From_c 1 V1 (by decide)).mono ?_
  rintro e V2 ⟨A2, n2, c2, z2, rfl, r2, g2, v2, hb0⟩
  have f2 : Fit z2 := Fit.of_lt g2 (by rw [v2]; exact H1B.out)
  have r1 := r1.below hb0 (Nat.le_refl _)
  have ma := heldz hb0 ma
  have hBs := hB.size
  have r2 := r2.more (base' := w.heap.size) hBs
  have hB := hB.trans (hb0.mono hB.size)
  obtain ⟨x0, x1, x2⟩ := box3_of ma
  (try dsimp only)
  refine hK.out _ _ ⟨x1, x2⟩ (fun hHeld => ?_)
  clear hK K
  try simp only [Act.put, List.setIfInBounds_toArray, List.set_cons_zero, List.set_cons_succ]
  clear hb0 x0 x1 x2
  clear hBs
  refine wpAnyH_ready (rs := [9]) (by kernel_rfl) (by simp) ?_
  refine (AllReadyH.cons (o := ⟨_, _, _, _, _, _⟩) rfl (fun K hK => ?_) AllReadyH.nil)
  go_simp
  rw [show IntKind.i64.wrap (-e1) = -e1 from IntWalk.i64_in _ (by omega)]
  refine (qwiden_c (c := c2) (-e1) V2 r2.rd (fun b h => h.2) f2 ⟨by omega, by omega⟩ (by rw [v2]; exact HL3.out)).mono ?_
  rintro e V3 ⟨A3, n3, c3, z3, rfl, r3, f3, v3, hb0⟩
  rw [v2] at v3
  have r1 := r1.below hb0 (Nat.le_refl _)
  have ma := heldz hb0 ma
  have hBs := hB.size
  have r3 := r3.more (base' := w.heap.size) hBs
  have hB := hB.trans (hb0.mono hB.size)
  obtain ⟨x0, x1, x2⟩ := box3_of ma
  (try dsimp only)
  refine hK.out _ _ ⟨x1, x2⟩ (fun hHeld => ?_)
  clear hK K
  try simp only [Act.put, List.setIfInBounds_toArray, List.set_cons_zero, List.set_cons_succ]
  clear hb0 x0 x1 x2
  clear hBs
  refine wpAnyH_ready (rs := [11]) (by kernel_rfl) (by simp) ?_
  refine (AllReadyH.cons (o := ⟨_, _, _, _, _, _⟩) rfl (fun K hK => ?_) AllReadyH.nil)
  go_simp
  refine (divideR_c (c := c1) (d := c3) V3 r1.rd r3.rd (fun b h => h.2) (fun b h => h.2) f1 f3 (by rw [v3]; exact HP.out) (by rw [v3]; exact HL2.out) (by rw [v1]; exact HL1.out)).mono ?_
  rintro e V4 ⟨A4, n4, c4, z4, rfl, r4, f4, v4, hb0⟩
  rw [v1, v3] at v4
  have r4 := r4.more (base' := w.heap.size) hB.size
  have ma := heldz hb0 ma
  have hB := hB.trans (hb0.mono hB.size)
  obtain ⟨x0, x1, x2⟩ := box3_of ma
  (try dsimp only)
  refine hK.out _ _ ⟨x1, x2⟩ (fun hHeld => ?_)
  clear hK K
  try simp only [Act.put, List.setIfInBounds_toArray, List.set_cons_zero, List.set_cons_succ]
  clear hb0 x0 x1 x2
  refine wpAnyH_take (i := 12) (oi := ⟨_, _, _, _, _, _⟩) (v := ?_) rfl (by kernel_rfl) (by kernel_rfl) (by kernel_rfl) (fun _ _ _ h => h) (Or.inl ⟨by rfl, ?_⟩) (by assumption) ?_
  rotate_left
  · intro w hSw
    (try dsimp only at hSw)
    go_split_ands
    go_simp
    try with_reducible rfl
  try simp only [Act.put, List.setIfInBounds_toArray, List.set_cons_zero, List.set_cons_succ]
  refine wpAnyH_done (by kernel_rfl) ?_ _
  go_wp2
  go_ret
  exact ⟨A4, n4, c4, z4, rfl, r4, f4, v4.trans hQV.out.symm, hB⟩

end Go.Proofs.YtbbafggejnjjiaaGreatDoor

namespace Go.Proofs.YtbbafggejnjjiaaGreatDoor
open Go.RowKit

/-- Where a root's last place stands. -/
def rtX (v : Nat) (e : Int) : Int := (e - rsh (nd v) e) / 2
set_option maxRecDepth 100000 in
set_option maxHeartbeats 4000000 in
theorem qroot_c {S : Nat → Prop} {n c : Nat} {A : Option Addr} {xs : List Nat} (ng : Bool) (e1 : Int) (w : World) (ha : Rd w S A n xs) (hS : ∀ b, S b → b < w.heap.size) (k1 : okB ng xs e1 = true) :
    Calls Tryz.prog 80 #[dv ng A n c e1] w fun e w' => (∃ R, R * R ≤ sqr (val xs) (nd (val xs)) e1 ∧ sqr (val xs) (nd (val xs)) e1 < (R + 1) * (R + 1) ∧ Told e w' w.heap.size 0 false R (rtX (val xs) e1)) ∧ Below w.heap.size w w' := by
  unfold rtX
  obtain ⟨Q, hQ⟩ : ∃ q, Hid (q = rsh (nd (val xs)) e1) := ⟨_, Lib.hid rfl⟩
  have hSQ : Hid (sqr (val xs) (nd (val xs)) e1 = wq (val xs) Q) := by show _ = _; rw [hQ.out]; rfl
  rw [← hQ.out, hSQ.out]
  obtain ⟨a1, a2, a3, a4, _, _⟩ := okB_true ha.l32 k1
  have fx : Fit xs := ⟨a1, a2⟩
  have hnd := nd_le (k := 300) (by omega) a3
  have hnp := nd_pos (val xs)
  have hqb : -300 ≤ Q ∧ Q ≤ 80 := by rw [hQ.out]; unfold rsh; split <;> omega
  obtain ⟨L, hLL⟩ : ∃ l, Hid (nd (val xs) = l) := ⟨_, Lib.hid rfl⟩
  obtain ⟨X, hX⟩ : ∃ x, Hid (x = (e1 - Q) / 2) := ⟨_, Lib.hid rfl⟩
  have hev : (e1 - Q) % 2 = 0 := by rw [hQ.out]; exact rsh_even _ _
  have hX2 : Hid ((e1 - Q).tdiv 2 = X) := by show _ = _; rw [hX.out]; exact Int.tdiv_eq_ediv_of_dvd (by omega)
  rw [← hX.out]
  have w1b := ten_bp2 (wd_lt (t := 340) (p := Q) a3 (by omega)) (by omega)
  have HD1 := Lib.hid (fun V (h1 : Rd V S A n xs) hs => digits_c (c := c) V h1 hs fx)
  have HW1 := Lib.hid (fun V (h1 : Rd V S A n xs) hs => wholeN_c (c := c) false Q V h1 hs fx ⟨by omega, by omega⟩ w1b.2.1)
  have HSL := Lib.hid (show wq (val xs) Q < bp 256 by unfold wq; have h1 := w1b.2.2; have h2 := Nat.div_le_self (wd (val xs) Q) (wd 1 (-Q)); omega)
  have up : ∀ {V : World}, Below w.heap.size w V → ∀ b, b < w.heap.size → b < V.heap.size := fun h b hb => by have := h.size; omega
  have HN := Lib.hid (hLL.out ▸ hnd)
  have HXB := Lib.hid (show -1000 ≤ X ∧ X ≤ 1000 by rw [hX.out]; omega)
  obtain ⟨hqa, hqb⟩ := hqb
  obtain ⟨he1, he2⟩ := a4
  clear w1b hev a1 a2 a3 k1
  have hb0 : ∀ o1 o2, Below w.heap.size w ((w.alloc o1).alloc o2) := fun o1 o2 => ((Below.refl _ w).alloc (Nat.le_refl _) o1).alloc (by simp) o2
  unfold dv
  go_enter Tryz.func80, Tryz.ntmps80
  go_wp2_with fail
  obtain ⟨ma, mc⟩ := two_new w (.cells #[.bool ng, .slice A n c, .int .i64 e1] 24) (.cells #[.bool false, .slice none 0 0, .int .i64 0] 24)
  have hW := hb0 (.cells #[.bool ng, .slice A n c, .int .i64 e1] 24) (.cells #[.bool false, .slice none 0 0, .int .i64 0] 24)
  generalize ((w.alloc (.cells #[.bool ng, .slice A n c, .int .i64 e1] 24)).alloc (.cells #[.bool false, .slice none 0 0, .int .i64 0] 24)) = W at ma mc hW ⊢
  clear hb0
  refine (HD1.out W (ha.below hW hS) (fun b h => up hW b (hS b h))).mono ?_
  rintro e w1 ⟨s, rfl, hs, hb0⟩
  have ma := heldz hb0 ma
  have mc := heldz hb0 mc
  have hB := hW.trans (hb0.mono hW.size)
  have hz := isDec_nd hs
  rw [hLL.out] at hz
  have hsz : L ≤ 300 := HN.out
  obtain ⟨BB, hBB⟩ : ∃ b, ((e1 - (80 - (L : Int))).tmod 2 != 0) = b := ⟨_, rfl⟩
  have hQB : Hid (Q = if BB = true then 80 - (L : Int) - 1 else 80 - (L : Int)) := by
    show _ = _
    rw [hQ.out, hLL.out, ← hBB]
    unfold rsh
    have ht : (e1 - (80 - (L : Int))).tmod 2 = 0 ↔ (e1 - (80 - (L : Int))) % 2 = 0 := by
      rw [← Int.dvd_iff_tmod_eq_zero, Int.dvd_iff_emod_eq_zero]
    by_cases h : (e1 - (80 - (L : Int))) % 2 = 0
    · rw [if_pos h, if_neg]
      rw [bne_iff_ne]
      exact fun h2 => h2 (ht.2 h)
    · rw [if_neg h, if_pos]
      · omega
      · rw [bne_iff_ne]; exact fun h2 => h (ht.1 h2)
  clear hs hb0 hW hnd
  obtain ⟨x0, x1, x2⟩ := box3_of ma
  go_upto_if 16 with fail
  go_cut [4] from 17 to 18 (fun s4 wx => s4 = .int .i64 Q ∧ w1 = wx)
  case first =>
    cases BB with
    | true =>
      have hq2 : Hid (Q = 80 - (L : Int) - 1) := by show _ = _; rw [hQB.out]; simp
      go_wp2
      go_meet
      exact ⟨by rw [hq2.out], rfl⟩
    | false =>
      have hq2 : Hid (Q = 80 - (L : Int)) := by show _ = _; rw [hQB.out]; simp
      go_wp2
      go_meet
      exact ⟨by rw [hq2.out], rfl⟩
  case rest =>
    obtain ⟨rfl, rfl⟩ := hcut
    clear hBB hz
    go_wp2_with fail
    refine (HW1.out w1 (ha.below hB hS) (fun b h => up hB b (hS b h))).mono ?_
    rintro e w2 ⟨A2, n2, c2, z2, rfl, r2, f2, v2, hb0⟩
    have v2 : val z2 = wq (val xs) Q := v2.trans (by simp)
    have hn2 : n2 ≤ 9223372036854775807 := by have := f2.len; have := r2.len; omega
    have ma := heldz hb0 ma
    have mc := heldz hb0 mc
    have hBs := hB.size
    have r2 := r2.more (base' := w.heap.size) hBs
    have hB := hB.trans (hb0.mono hB.size)
    have q1 : w2.cell? ⟨w.heap.size, 2, none⟩ = some (.int .i64 e1) := cell_of ma rfl
    clear hb0 hBs x0 x1 x2
    have hck : chk z2 = 0 := chk_can f2.can f2.len
    have HRT := Lib.hid (fun V S1 (h1 : Rd V S1 A2 n2 z2) hs => Root_c (c := c2) V h1 hs hn2)
    have HCK := Lib.hid hck
    have HV2 := Lib.hid v2
    clear hck v2
    go_wp2_with fail
    refine wp_region_held_drew (S := fun w' => w'.cell? ⟨w.heap.size, 2, none⟩ = some (.int .i64 e1)) (by kernel_rfl) q1 (fun hHeld => ?_)
    (try simp only [List.size_toArray, List.length_cons, List.length_nil, Nat.reduceAdd, Array.replicate_succ, Array.replicate_zero, List.push_toArray, List.append_toArray, List.nil_append, List.cons_append])
    refine wpAnyH_take (i := 0) (oi := ⟨_, _, _, _, _, _⟩) (v := ?_) rfl (by kernel_rfl) (by kernel_rfl) (by kernel_rfl) (fun _ _ _ h => h) (Or.inl ⟨by rfl, ?_⟩) (by assumption) ?_
    rotate_left
    · intro w hSw
      (try dsimp only at hSw)
      go_split_ands
      go_simp
      try with_reducible rfl
    try simp only [Act.put, List.setIfInBounds_toArray, List.set_cons_zero, List.set_cons_succ]
    refine wpAnyH_take (i := 5) (oi := ⟨_, _, _, _, _, _⟩) (v := ?_) rfl (by kernel_rfl) (by kernel_rfl) (by kernel_rfl) (fun _ _ _ h => h) (Or.inl ⟨by rfl, ?_⟩) (by assumption) ?_
    rotate_left
    · intro w hSw
      (try dsimp only at hSw)
      go_split_ands
      go_simp
      try with_reducible rfl
    try simp only [Act.put, List.setIfInBounds_toArray, List.set_cons_zero, List.set_cons_succ]
    refine wpAnyH_take (i := 6) (oi := ⟨_, _, _, _, _, _⟩) (v := ?_) rfl (by kernel_rfl) (by kernel_rfl) (by kernel_rfl) (fun _ _ _ h => h) (Or.inl ⟨by rfl, ?_⟩) (by assumption) ?_
    rotate_left
    · intro w hSw
      (try dsimp only at hSw)
      go_split_ands
      go_simp
      try with_reducible rfl
    try simp only [Act.put, List.setIfInBounds_toArray, List.set_cons_zero, List.set_cons_succ]
    refine wpAnyH_take (i := 7) (oi := ⟨_, _, _, _, _, _⟩) (v := ?_) rfl (by kernel_rfl) (by kernel_rfl) (by kernel_rfl) (fun _ _ _ h => h) (Or.inl ⟨by rfl, ?_⟩) (by assumption) ?_
    rotate_left
    · intro w hSw
      (try dsimp only at hSw)
      go_split_ands
      go_simp
      try with_reducible rfl
    try simp only [Act.put, List.setIfInBounds_toArray, List.set_cons_zero, List.set_cons_succ]
    refine wpAnyH_take (i := 8) (oi := ⟨_, _, _, _, _, _⟩) (v := ?_) rfl (by kernel_rfl) (by kernel_rfl) (by kernel_rfl) (fun _ _ _ h => h) (Or.inl ⟨by rfl, ?_⟩) (by assumption) ?_
    rotate_left
    · intro w hSw
      (try dsimp only at hSw)
      go_split_ands
      go_simp
      try with_reducible rfl
    try simp only [Act.put, List.setIfInBounds_toArray, List.set_cons_zero, List.set_cons_succ]
    refine wpAnyH_take (i := 9) (oi := ⟨_, _, _, _, _, _⟩) (v := ?_) rfl (by kernel_rfl) (by kernel_rfl) (by kernel_rfl) (fun _ _ _ h => h) (Or.inl ⟨by rfl, ?_⟩) (by assumption) ?_
    rotate_left
    · intro w hSw
      (try dsimp only at hSw)
      go_split_ands
      go_simp
      try with_reducible rfl
    try simp only [Act.put, List.setIfInBounds_toArray, List.set_cons_zero, List.set_cons_succ]
    have ma : w2.drew.heap[w.heap.size]? = _ := ma
    have mc : w2.drew.heap[w.heap.size + 1]? = _ := mc
    have hB : Below w.heap.size w w2.drew := only_drewB hB
    have r2 : Res w2.drew w.heap.size A2 n2 c2 z2 := r2.keep (fun _ _ => rfl)
    have hV2 : w2.heap.size = w2.drew.heap.size := rfl
    generalize hV0 : w2.drew = V0 at *
    clear hV0 q1
    refine wpAnyH_ready (rs := [1]) (by kernel_rfl) (by simp) ?_
    refine (AllReadyH.cons (o := ⟨_, _, _, _, _, _⟩) rfl (fun K hK => ?_) AllReadyH.nil)
    go_simp
    refine (HRT.out V0 _ r2.rd (fun b h => h.2)).mono ?_
    rw [HCK.out]
    rintro e V1 ⟨A3, n3, c3, z3, rfl, r3, hb0, _, h3⟩
    obtain ⟨g3, h3a, h3b⟩ := h3 rfl
    rw [HV2.out] at h3a h3b
    have f3 : Fit z3 := Fit.of_lt g3 (by have := HSL.out; have := Nat.le_mul_self (val z3); omega)
    have ma := heldz hb0 ma
    have mc := heldz hb0 mc
    have hBs := hB.size
    have r3 := r3.more (base' := w.heap.size) hBs
    have hB := hB.trans (hb0.mono hB.size)
    obtain ⟨x0, x1, x2⟩ := box3_of ma
    (try dsimp only)
    refine hK.out _ _ x2 (fun hHeld => ?_)
    clear hK K
    try simp only [Act.put, List.setIfInBounds_toArray, List.set_cons_zero, List.set_cons_succ]
    clear hb0 x0 x1 x2 hBs
    refine wpAnyH_take (i := 2) (oi := ⟨_, _, _, _, _, _⟩) (v := ?_) rfl (by kernel_rfl) (by kernel_rfl) (by kernel_rfl) (fun _ _ _ h => h) (Or.inl ⟨by rfl, ?_⟩) (by assumption) ?_
    rotate_left
    · intro w hSw
      (try dsimp only at hSw)
      go_split_ands
      go_simp
      try with_reducible rfl
    try simp only [Act.put, List.setIfInBounds_toArray, List.set_cons_zero, List.set_cons_succ]
    refine wpAnyH_take (i := 3) (oi := ⟨_, _, _, _, _, _⟩) (v := ?_) rfl (by kernel_rfl) (by kernel_rfl) (by kernel_rfl) (fun _ _ _ h => h) (Or.inl ⟨by rfl, ?_⟩) (by assumption) ?_
    rotate_left
    · intro w hSw
      (try dsimp only at hSw)
      go_split_ands
      go_simp
      try with_reducible rfl
    try simp only [Act.put, List.setIfInBounds_toArray, List.set_cons_zero, List.set_cons_succ]
    refine wpAnyH_ready (rs := [4]) (by kernel_rfl) (by simp) ?_
    refine (AllReadyH.cons (o := ⟨_, _, _, _, _, _⟩) rfl (fun K hK => ?_) AllReadyH.nil)
    go_simp
    refine (sureS_c _ _).mono ?_
    rintro e w' ⟨rfl, rfl⟩
    obtain ⟨x0, x1, x2⟩ := box3_of ma
    (try dsimp only)
    refine hK.out _ _ x2 (fun hHeld => ?_)
    clear hK K
    try simp only [Act.put, List.setIfInBounds_toArray, List.set_cons_zero, List.set_cons_succ]
    clear x0 x1 x2
    refine wpAnyH_ready (rs := [10]) (by kernel_rfl) (by simp) ?_
    refine (AllReadyH.cons (o := ⟨_, _, _, _, _, _⟩) rfl (fun K hK => ?_) AllReadyH.nil)
    go_simp
    rw [show IntKind.i64.wrap ((IntKind.i64.wrap (e1 - Q)).tdiv 2) = X from by rw [IntWalk.i64_in (e1 - Q) (by omega), hX2.out]; exact IntWalk.i64_in _ (by have := HXB.out; omega)]
    have hn3 : n3 ≤ 9223372036854775807 := by have := f3.len; have := r3.len; omega
    refine (DSettle_v (c := c3) false X V1 r3.rd (fun b h => h.2) hn3).mono ?_
    rintro e V2 ⟨ht, hb0⟩
    have ht := ht.told f3 (by have := HXB.out; omega) (by have := HXB.out; omega)
    obtain ⟨A5, n5, c5, rfl, hr⟩ := ht
    have hl5 := (Array.getElem?_eq_some_iff.1 mc).1
    have ma := heldz hb0 ma
    have mc := heldz hb0 mc
    have hBs := hB.size
    have hB := hB.trans (hb0.mono hB.size)
    obtain ⟨x0, x1, x2⟩ := box3_of ma
    obtain ⟨g0, g1, g2⟩ := box3_of mc
    have f0 := frozen_of 0 mc
    have f1 := frozen_of 1 mc
    have f2 := frozen_of 2 mc
    (try dsimp only)
    refine hK.out _ _ x2 (fun hHeld => ?_)
    clear hK K
    try simp only [Act.put, List.setIfInBounds_toArray, List.set_cons_zero, List.set_cons_succ]
    refine wpAnyH_take (i := 11) (oi := ⟨_, _, _, _, _, _⟩) (v := ?_) rfl (by kernel_rfl) (by kernel_rfl) (by kernel_rfl) (fun _ _ _ h => h) (Or.inl ⟨by rfl, ?_⟩) (by assumption) ?_
    rotate_left
    · intro w hSw
      (try dsimp only at hSw)
      go_split_ands
      go_simp
      try with_reducible rfl
    try simp only [Act.put, List.setIfInBounds_toArray, List.set_cons_zero, List.set_cons_succ]
    refine wpAnyH_take (i := 12) (oi := ⟨_, _, _, _, _, _⟩) (v := ?_) rfl (by kernel_rfl) (by kernel_rfl) (by kernel_rfl) (fun _ _ _ h => h) (Or.inl ⟨by rfl, ?_⟩) (by assumption) ?_
    rotate_left
    · intro w hSw
      (try dsimp only at hSw)
      go_split_ands
      go_simp
      try with_reducible rfl
    try simp only [Act.put, List.setIfInBounds_toArray, List.set_cons_zero, List.set_cons_succ]
    refine wpAnyH_ready (rs := [13]) (by kernel_rfl) (by simp) ?_
    refine (AllReadyH.cons (o := ⟨_, _, _, _, _, _⟩) rfl (fun K hK => ?_) AllReadyH.nil)
    dsimp only [dv]
    go_simp
    refine hK.out _ _ (by first | go_keep | (rw [World.cell?_setCell_far _ _ _ _ (by dsimp only; omega), World.cell?_setCell_far _ _ _ _ (by dsimp only; omega), World.cell?_setCell_far _ _ _ _ (by dsimp only; omega)]; assumption)) (fun hHeld => ?_)
    clear hK K
    try simp only [Act.put, List.setIfInBounds_toArray, List.set_cons_zero, List.set_cons_succ]
    refine wpAnyH_take (i := 14) (oi := ⟨_, _, _, _, _, _⟩) (v := ?_) rfl (by kernel_rfl) (by kernel_rfl) (by kernel_rfl) (fun _ _ _ h => h) (Or.inl ⟨by rfl, ?_⟩) (by assumption) ?_
    rotate_left
    · intro w hSw
      (try dsimp only at hSw)
      go_split_ands
      go_simp
      try with_reducible rfl
    try simp only [Act.put, List.setIfInBounds_toArray, List.set_cons_zero, List.set_cons_succ]
    refine wpAnyH_done (by kernel_rfl) ?_ _
    go_wp2
    refine bodyPost_ret (v := .tuple #[.agg #[.bool (opN 0 false (val z3) X), .slice A5 n5 c5, .int .i64 (opX 0 (val z3) X)], .int .i64 (opE 0 (val z3) X : Int)]) (by simp [results, Tryz.results80, go_sem, g0, g1, g2]) rfl ?_
    refine ⟨⟨val z3, h3a, h3b, A5, n5, c5, rfl, ?_⟩, ?_⟩
    · exact (((hr.setOther (by simp; omega) _).setOther (by simp; omega) _).setOther (by simp; omega) _).more (by omega)
    · exact ((hB.setCell (p := ⟨w.heap.size + 1, 0, none⟩) (by simp) _).setCell (p := ⟨w.heap.size + 1, 1, none⟩) (by simp) _).setCell (p := ⟨w.heap.size + 1, 2, none⟩) (by simp) _
end Go.Proofs.YtbbafggejnjjiaaGreatDoor
