/-
  Signed numbers: a decimal as a whole number; a decimal is told by its number. Plain mathematics.
-/
import Derived.Test.YtklpfgjnlheikaaGreatDoorDop
import Derived.Test.YtklpfgjnlheikaaGreatDoorDref
set_option linter.unusedVariables false
set_option linter.unusedSimpArgs false
namespace Go.Proofs.YtklpfgjnlheikaaGreatDoor

def dcN (na nb : Bool) (X Y : Nat) : Int := if na = true then (if nb = true then cmpN Y X else -1) else if nb = true then 1 else cmpN X Y

/-- A signed size as a number. -/
def sg (neg : Bool) (v : Nat) : Int := if neg = true then -(v : Int) else (v : Int)
/-- The power of ten by which a decimal of this exponent is made whole. -/
def sp (e : Int) : Nat := 10 ^ (e + 5000).toNat
/-- A decimal as a whole number. -/
def sv (neg : Bool) (v : Nat) (e : Int) : Int := sg neg (v * sp e)
def cmpI (x y : Int) : Int := if x < y then -1 else if y < x then 1 else 0

theorem sp_pos (e : Int) : 0 < sp e := Nat.pow_pos (by omega)
theorem sp_add {e : Int} {p : Nat} (h : -5000 ≤ e) : sp (e + (p : Int)) = 10 ^ p * sp e := by
  unfold sp
  rw [show (e + (p : Int) + 5000).toNat = p + (e + 5000).toNat by omega, Nat.pow_add]
theorem sg_zero (neg : Bool) : sg neg 0 = 0 := by cases neg <;> rfl
theorem sg_mul (neg : Bool) (v k : Nat) : sg neg (v * k) = sg neg v * (k : Int) := by
  cases neg
  · show ((v * k : Nat) : Int) = (v : Int) * (k : Int); simp
  · show -((v * k : Nat) : Int) = -(v : Int) * (k : Int); simp [Int.neg_mul]
theorem sv_eq (neg : Bool) (v : Nat) (e : Int) : sv neg v e = sg neg v * (sp e : Int) := sg_mul neg v (sp e)
theorem sg_sum (na nb : Bool) (X Y : Nat) : sg (sgB na nb X Y) (sgV na nb X Y) = sg na X + sg nb Y := by
  by_cases h : Y ≤ X <;> cases na <;> cases nb <;> simp [sg, sgB, sgV, h] <;> omega
theorem sg_natAbs (neg : Bool) (v : Nat) : (sg neg v).natAbs = v := by cases neg <;> simp [sg]
theorem sg_inj {na nb : Bool} {X Y : Nat} (h : sg na X = sg nb Y) : X = Y ∧ (0 < X → na = nb) := by
  have h1 : X = Y := by rw [← sg_natAbs na X, h, sg_natAbs]
  refine ⟨h1, fun h0 => ?_⟩
  subst h1
  cases na <;> cases nb <;> simp [sg] at h <;> first | rfl | omega
theorem cmpI_mul {x y : Int} {k : Nat} (hk : 0 < k) : cmpI (x * (k : Int)) (y * (k : Int)) = cmpI x y := by
  have hk2 : (0 : Int) < (k : Int) := by omega
  have e1 : x * (k : Int) < y * (k : Int) ↔ x < y := Int.mul_lt_mul_right hk2
  have e2 : y * (k : Int) < x * (k : Int) ↔ y < x := Int.mul_lt_mul_right hk2
  unfold cmpI
  simp only [e1, e2]
theorem cmpI_sg {na nb : Bool} {X Y : Nat} (h1 : na = true → 0 < X) (h2 : nb = true → 0 < Y) : dcN na nb X Y = cmpI (sg na X) (sg nb Y) := by
  cases na <;> cases nb
  · simp [dcN, cmpI, cmpN, sg]
  · have := h2 rfl
    show (1 : Int) = if (X : Int) < -(Y : Int) then -1 else if -(Y : Int) < (X : Int) then 1 else 0
    rw [if_neg (by omega), if_pos (by omega)]
  · have := h1 rfl
    show (-1 : Int) = if -(X : Int) < (Y : Int) then -1 else if (Y : Int) < -(X : Int) then 1 else 0
    rw [if_pos (by omega)]
  · show (if Y < X then (-1 : Int) else if X < Y then 1 else 0) = if -(X : Int) < -(Y : Int) then -1 else if -(Y : Int) < -(X : Int) then 1 else 0
    have q1 : -(X : Int) < -(Y : Int) ↔ Y < X := by omega
    have q2 : -(Y : Int) < -(X : Int) ↔ X < Y := by omega
    simp only [q1, q2]
/-- The order of two decimals is that of their numbers. -/
theorem dcN_sv {na nb : Bool} {v1 v2 P1 P2 : Nat} {e1 e2 lo : Int} (h1 : na = true → 0 < v1) (h2 : nb = true → 0 < v2) (hlo : -5000 ≤ lo) (hp1 : e1 - lo = (P1 : Int)) (hp2 : e2 - lo = (P2 : Int)) :
    dcN na nb (v1 * 10 ^ P1) (v2 * 10 ^ P2) = cmpI (sv na v1 e1) (sv nb v2 e2) := by
  have q1 : sv na v1 e1 = sg na (v1 * 10 ^ P1) * (sp lo : Int) := by
    unfold sv
    rw [show e1 = lo + (P1 : Int) by omega, sp_add hlo, ← Nat.mul_assoc, sg_mul]
  have q2 : sv nb v2 e2 = sg nb (v2 * 10 ^ P2) * (sp lo : Int) := by
    unfold sv
    rw [show e2 = lo + (P2 : Int) by omega, sp_add hlo, ← Nat.mul_assoc, sg_mul]
  rw [q1, q2, cmpI_mul (sp_pos lo)]
  exact cmpI_sg (fun h => Nat.mul_pos (h1 h) (Nat.pow_pos (by omega))) (fun h => Nat.mul_pos (h2 h) (Nat.pow_pos (by omega)))
/-- The sum of two decimals is that of their numbers. -/
theorem sum_sv {na nb : Bool} {v1 v2 P1 P2 : Nat} {e1 e2 lo : Int} (hlo : -5000 ≤ lo) (hp1 : e1 - lo = (P1 : Int)) (hp2 : e2 - lo = (P2 : Int)) :
    sg (sgB na nb (v1 * 10 ^ P1) (v2 * 10 ^ P2)) (sgV na nb (v1 * 10 ^ P1) (v2 * 10 ^ P2)) * (sp lo : Int) = sv na v1 e1 + sv nb v2 e2 := by
  have q1 : sv na v1 e1 = sg na (v1 * 10 ^ P1) * (sp lo : Int) := by
    unfold sv
    rw [show e1 = lo + (P1 : Int) by omega, sp_add hlo, ← Nat.mul_assoc, sg_mul]
  have q2 : sv nb v2 e2 = sg nb (v2 * 10 ^ P2) * (sp lo : Int) := by
    unfold sv
    rw [show e2 = lo + (P2 : Int) by omega, sp_add hlo, ← Nat.mul_assoc, sg_mul]
  rw [sg_sum, Int.add_mul, q1, q2]

theorem dOf_low (v : Nat) : nth (dOf v) 0 = v % 10 := by
  rcases Nat.eq_zero_or_pos v with h | h
  · subst h; rfl
  · obtain ⟨f, rfl⟩ : ∃ f, v = f + 1 := ⟨v - 1, by omega⟩
    unfold dOf dgOf
    rw [if_neg (by omega), nth_cons_zero]
theorem pow_cancel {v1 v2 a b : Nat} (h1 : v1 % 10 ≠ 0) (h : v1 * 10 ^ a = v2 * 10 ^ b) : b ≤ a ∧ v2 = v1 * 10 ^ (a - b) := by
  have hle : b ≤ a := by
    rcases Nat.lt_or_ge a b with h2 | h2
    · exfalso
      obtain ⟨d, rfl⟩ : ∃ d, b = a + 1 + d := ⟨b - a - 1, by omega⟩
      rw [Nat.pow_add, Nat.pow_add, Nat.pow_one] at h
      have h3 : v1 * 10 ^ a = (v2 * 10 * 10 ^ d) * 10 ^ a := by rw [h]; ac_rfl
      have h4 := Nat.eq_of_mul_eq_mul_right (Nat.pow_pos (by omega)) h3
      apply h1
      rw [h4, show v2 * 10 * 10 ^ d = 10 * (v2 * 10 ^ d) by ac_rfl]
      exact Nat.mul_mod_right _ _
    · exact h2
  refine ⟨hle, ?_⟩
  have h3 : v2 * 10 ^ b = (v1 * 10 ^ (a - b)) * 10 ^ b := by
    rw [← h, Nat.mul_assoc, ← Nat.pow_add, Nat.sub_add_cancel hle]
  exact Nat.eq_of_mul_eq_mul_right (Nat.pow_pos (by omega)) h3

/-- What a decimal that may be is: 0, or with a last digit that is not 0. -/
theorem okB_cases {neg : Bool} {xs : List Nat} {exp : Int} (hl : L32 xs) (h : okB neg xs exp = true) :
    (xs = [] ∧ neg = false ∧ exp = 0) ∨ (0 < val xs ∧ val xs % 10 ≠ 0) := by
  obtain ⟨a1, _, _, _, a5, a6⟩ := okB_true hl h
  by_cases h0 : xs.length = 0
  · exact .inl ⟨List.eq_nil_of_length_eq_zero h0, a5 h0⟩
  · have h2 := a6 h0
    rw [dOf_low] at h2
    exact .inr ⟨by omega, h2⟩
theorem okB_pos {neg : Bool} {xs : List Nat} {exp : Int} (hl : L32 xs) (h : okB neg xs exp = true) : neg = true → 0 < val xs := by
  intro hn
  rcases okB_cases hl h with ⟨_, h2, _⟩ | ⟨h2, _⟩
  · rw [h2] at hn; cases hn
  · exact h2
/-- A number has one decimal. -/
theorem sv_inj {na nb : Bool} {xs ys : List Nat} {e1 e2 : Int} (hx : L32 xs) (hy : L32 ys) (h1 : okB na xs e1 = true) (h2 : okB nb ys e2 = true) (h : sv na (val xs) e1 = sv nb (val ys) e2) : na = nb ∧ e1 = e2 ∧ xs = ys := by
  obtain ⟨c1, _, _, r1, _, _⟩ := okB_true hx h1
  obtain ⟨c2, _, _, r2, _, _⟩ := okB_true hy h2
  obtain ⟨hm, hs⟩ := sg_inj h
  rcases okB_cases hx h1 with ⟨z1, z2, z3⟩ | ⟨z1, z2⟩
  · rcases okB_cases hy h2 with ⟨y1, y2, y3⟩ | ⟨y1, y2⟩
    · exact ⟨z2.trans y2.symm, z3.trans y3.symm, z1.trans y1.symm⟩
    · exfalso
      have := Nat.mul_pos y1 (sp_pos e2)
      have h0 : val xs * sp e1 = 0 := by rw [z1]; exact Nat.zero_mul _
      omega
  · rcases okB_cases hy h2 with ⟨y1, y2, y3⟩ | ⟨y1, y2⟩
    · exfalso
      have := Nat.mul_pos z1 (sp_pos e1)
      have h0 : val ys * sp e2 = 0 := by rw [y1]; exact Nat.zero_mul _
      omega
    · have hn := hs (Nat.mul_pos z1 (sp_pos e1))
      unfold sp at hm
      obtain ⟨l1, v1⟩ := pow_cancel z2 hm
      obtain ⟨l2, _⟩ := pow_cancel y2 hm.symm
      have he : e1 = e2 := by omega
      subst he
      rw [Nat.sub_self, Nat.pow_zero, Nat.mul_one] at v1
      exact ⟨hn, rfl, c1.inj c2 v1.symm⟩
/-- What is settled of a number that a decimal tells is that decimal. -/
theorem settle_back {na s : Bool} {xs : List Nat} {e1 lo : Int} {Z : Nat} (hx : L32 xs) (h1 : okB na xs e1 = true) (hlo : -5000 ≤ lo) (h : sg s Z * (sp lo : Int) = sv na (val xs) e1) :
    stE Z lo = 0 ∧ stN s Z lo = na ∧ stX Z lo = e1 ∧ stZ Z lo = xs := by
  rw [← sg_mul] at h
  obtain ⟨hm, hs⟩ := sg_inj h
  obtain ⟨c1, c2, c3, r1, _, _⟩ := okB_true hx h1
  rcases okB_cases hx h1 with ⟨z1, z2, z3⟩ | ⟨z1, z2⟩
  · have hZ : Z = 0 := by
      have h0 : Z * sp lo = 0 := by rw [hm, z1]; exact Nat.zero_mul _
      rcases Nat.mul_eq_zero.1 h0 with h3 | h3
      · exact h3
      · have := sp_pos lo; omega
    rw [hZ, z1, z2, z3]
    exact st_zero s lo
  · have hZp : 0 < Z * sp lo := by rw [hm]; exact Nat.mul_pos z1 (sp_pos e1)
    have hsn := hs hZp
    subst hsn
    unfold sp at hm
    obtain ⟨l1, v1⟩ := pow_cancel z2 hm.symm
    obtain ⟨k, hk⟩ : ∃ k, k = (e1 + 5000).toNat - (lo + 5000).toNat := ⟨_, rfl⟩
    rw [← hk] at v1
    have hke : lo + (k : Int) = e1 := by omega
    have hl : (dOf (val xs)).length ≤ 300 := by
      have h3 := h1
      unfold okB at h3
      rw [Bool.and_eq_true, Bool.and_eq_true, decide_eq_true_eq, decide_eq_true_eq] at h3
      exact h3.2.1
    have h4 := st_ok (v := Z) (k := k) (exp := lo) (es := dOf (val xs)) s (dOf_can _) (by rw [dOf_low]; exact z2) (by rw [dOf_val, v1, Nat.mul_comm]; rfl) hl (by omega)
    rw [hke, dOf_val, ← eq_lim c1] at h4
    exact h4
/-- What is settled may be, and tells the number. -/
theorem settle_may {s : Bool} {lo : Int} {Z : Nat} (hlo : -5000 ≤ lo) (h : stE Z lo = 0) :
    okB (stN s Z lo) (stZ Z lo) (stX Z lo) = true ∧ L32 (stZ Z lo) ∧ sv (stN s Z lo) (val (stZ Z lo)) (stX Z lo) = sg s Z * (sp lo : Int) ∧ (0 < Z → lo ≤ stX Z lo) := by
  by_cases hZ : Z = 0
  · obtain ⟨z1, z2, z3, z4⟩ := st_zero s lo
    rw [hZ, z2, z3, z4, sg_zero]
    refine ⟨by decide, L32.nil, by simp [sv, val, sg], fun h => absurd h (by omega)⟩
  · have hg : stG Z lo = true := by unfold stG; rw [decide_eq_true hZ, decide_eq_true h]; rfl
    unfold stE at h
    rw [if_neg hZ] at h
    by_cases hb : 300 < (cf Z).length
    · rw [if_pos hb] at h; omega
    · rw [if_neg hb] at h
      by_cases hx : -1000 ≤ lo + (lz (dOf Z) : Int) ∧ lo + (lz (dOf Z) : Int) ≤ 1000
      · have hc : DCan (cf Z) := (dOf_can Z).drop _
        have hv : Z = dp (lz (dOf Z)) * dval (cf Z) := by
          have := lz_drop (dOf Z)
          rw [dOf_val] at this
          exact this
        have hh : nth (cf Z) 0 ≠ 0 := lz_head (dOf Z) (by rw [dOf_val]; omega)
        have hp : 0 < dval (cf Z) := by
          rcases Nat.eq_zero_or_pos (dval (cf Z)) with h0 | h0
          · rw [h0] at hv; omega
          · exact h0
        have hlt : dval (cf Z) < 10 ^ 300 := by
          have h4 := dval_lt hc.1
          obtain ⟨T, hT⟩ : ∃ T, T = 300 := ⟨_, rfl⟩
          rw [← hT] at hb ⊢
          exact Nat.lt_of_lt_of_le h4 (pow_le10 (by omega))
        have hbp : dval (cf Z) < bp 256 := lt_bp (m := 100) hlt (by omega) (by omega)
        have e1 : stN s Z lo = s := if_pos hg
        have e2 : stX Z lo = lo + (lz (dOf Z) : Int) := if_pos hg
        have e3 : stZ Z lo = lim (dval (cf Z)) := if_pos hg
        rw [e1, e2, e3, lim_val]
        refine ⟨?_, (lim_can _).1, ?_, fun _ => by omega⟩
        · unfold okB
          rw [chk_can (lim_can _) (lim_len hbp), lim_val, ← eq_dOf hc, decide_eq_true hh, decide_eq_true (show (cf Z).length ≤ 300 by omega), decide_eq_true hx.1, decide_eq_true hx.2, if_neg]
          · rfl
          · intro h0
            have : lim (dval (cf Z)) = [] := List.eq_nil_of_length_eq_zero h0
            have h5 := lim_val (dval (cf Z))
            rw [this] at h5
            simp [val] at h5
            omega
        · unfold sv
          rw [sp_add hlo, ← sg_mul, ← Nat.mul_assoc]
          congr 2
          rw [Nat.mul_comm]
          exact hv.symm
      · rw [if_neg hx] at h; omega
end Go.Proofs.YtklpfgjnlheikaaGreatDoor
