/-
  Below, above and nearest, as numbers. Plain lemmas.
-/
import Derived.Test.YtbbafggejnjjiaaGreatDoorQlaw
set_option linter.unusedVariables false
set_option linter.unusedSimpArgs false
namespace Go.Proofs.YtbbafggejnjjiaaGreatDoor
open Go.RowKit

theorem whole_parts (v : Nat) {e : Int} (he : -1000 ≤ e) : ∃ T R, 0 < T ∧ sp 0 = T ∧ v * sp e = wq v e * T + R ∧ R < T ∧ (R = 0 ↔ wr v e = 0) ∧ (2 * R < T ↔ half (wr v e) (wd 1 (-e)) = -1) := by
  have hD : 0 < wd 1 (-e) := wd_pos (by omega) _
  have hr := Nat.mod_lt (wd v e) hD
  have hdm := Nat.div_add_mod (wd v e) (wd 1 (-e))
  obtain ⟨μ, hμ, h1, h2⟩ : ∃ μ, 0 < μ ∧ v * sp e = wd v e * μ ∧ sp 0 = wd 1 (-e) * μ := by
    by_cases h : 0 ≤ e
    · refine ⟨sp 0, sp_pos 0, ?_, ?_⟩
      · unfold wd
        rw [show sp e = 10 ^ e.toNat * sp 0 by rw [← sp_add (by omega)]; congr 1; omega, Nat.mul_assoc]
      · unfold wd
        rw [show (-e).toNat = 0 by omega]; simp
    · refine ⟨sp e, sp_pos e, ?_, ?_⟩
      · unfold wd
        rw [show e.toNat = 0 by omega]; simp
      · unfold wd
        rw [Nat.one_mul, ← sp_add (by omega)]; congr 1; omega
  refine ⟨sp 0, wr v e * μ, sp_pos 0, rfl, ?_, ?_, ?_, ?_⟩
  · rw [h1, h2]
    unfold wq wr
    rw [← Nat.mul_assoc, ← Nat.add_mul, Nat.mul_comm (wd v e / wd 1 (-e)), hdm]
  · rw [h2]
    exact Nat.mul_lt_mul_of_pos_right hr hμ
  · constructor
    · intro h
      rcases Nat.mul_eq_zero.1 h with h3 | h3
      · exact h3
      · omega
    · intro h; rw [h, Nat.zero_mul]
  · rw [h2, ← Nat.mul_assoc]
    unfold half
    rw [Nat.mul_lt_mul_right hμ]
    split
    · exact ⟨fun _ => rfl, fun _ => by assumption⟩
    · constructor
      · intro h; omega
      · split <;> intro h <;> omega
theorem half_zero {d : Nat} (h : 0 < d) : half 0 d = -1 := by unfold half; rw [if_pos (by omega)]
theorem near_law {na : Bool} {v Zx Zy Zz : Nat} {e : Int} (he : -1000 ≤ e)
    (hx : Zx = wq v e + (if (na && !decide (wr v e = 0)) = true then 1 else 0)) (hy : Zy = wq v e + (if (!na && !decide (wr v e = 0)) = true then 1 else 0))
    (hz : Zz = wq v e + (if (decide (0 ≤ half (wr v e) (wd 1 (-e)))) = true then 1 else 0)) :
    sg na Zx * (sp 0 : Int) ≤ sv na v e ∧ sv na v e ≤ sg na Zy * (sp 0 : Int) ∧
      (wr v e = 0 → sg na Zx * (sp 0 : Int) = sv na v e ∧ sg na Zy * (sp 0 : Int) = sv na v e ∧ Zz = Zx) ∧
      (wr v e ≠ 0 → sg na Zx * (sp 0 : Int) ≠ sv na v e ∧ sg na Zy * (sp 0 : Int) - sg na Zx * (sp 0 : Int) = sp 0 ∧ (Zz = Zx ∨ Zz = Zy)) := by
  obtain ⟨T, R, hT, hsp, hv, hR, hR0, hh⟩ := whole_parts v he
  have hhalf : (0 ≤ half (wr v e) (wd 1 (-e))) ↔ ¬ (2 * R < T) := by
    rw [hh]
    unfold half
    split
    · omega
    · split <;> omega
  rw [← sg_mul, ← sg_mul, hsp]
  unfold sv
  rw [hv]
  have hP1 : (wq v e + 1) * T = wq v e * T + T := by rw [Nat.add_mul, Nat.one_mul]
  have hzz : Zz = wq v e ∨ (Zz = wq v e + 1 ∧ wr v e ≠ 0) := by
    by_cases h : 0 ≤ half (wr v e) (wd 1 (-e))
    · right
      rw [hz, decide_eq_true h]
      refine ⟨rfl, fun h0 => ?_⟩
      have := hhalf.1 h
      have := hR0.2 h0
      omega
    · left
      rw [hz, decide_eq_false h]; rfl
  by_cases h0 : wr v e = 0
  · have r0 := hR0.2 h0
    have e1 : Zx = wq v e := by rw [hx, decide_eq_true h0]; cases na <;> rfl
    have e2 : Zy = wq v e := by rw [hy, decide_eq_true h0]; cases na <;> rfl
    have e3 : Zz = wq v e := by
      rcases hzz with h | ⟨_, h⟩
      · exact h
      · exact absurd h0 h
    rw [e1, e2, e3, r0]
    refine ⟨Int.le_refl _, Int.le_refl _, fun _ => ⟨rfl, rfl, rfl⟩, fun h => absurd h0 h⟩
  · have rp : R ≠ 0 := fun h => h0 (hR0.1 h)
    cases na
    · have e1 : Zx = wq v e := by rw [hx]; rfl
      have e2 : Zy = wq v e + 1 := by rw [hy, decide_eq_false h0]; rfl
      rw [e1, e2, hP1]
      unfold sg
      generalize wq v e * T = P at *
      simp only [Bool.false_eq_true, if_false]
      refine ⟨by omega, by omega, fun h => absurd h h0, fun _ => ⟨by omega, by omega, ?_⟩⟩
      rcases hzz with h | ⟨h, _⟩
      · exact .inl h
      · exact .inr h
    · have e1 : Zx = wq v e + 1 := by rw [hx, decide_eq_false h0]; rfl
      have e2 : Zy = wq v e := by rw [hy]; rfl
      rw [e1, e2, hP1]
      unfold sg
      generalize wq v e * T = P at *
      simp only [if_true]
      refine ⟨by omega, by omega, fun h => absurd h h0, fun _ => ⟨by omega, by omega, ?_⟩⟩
      rcases hzz with h | ⟨h, _⟩
      · exact .inr h
      · exact .inl h
end Go.Proofs.YtbbafggejnjjiaaGreatDoor
