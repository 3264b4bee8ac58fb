/-
  Plain mathematics: groups of nine decimal digits; the decimal text of a number, told once. No Go, no condition.
-/
import Derived.Test.YtecpapkffinlbaaDig
set_option linter.unusedVariables false
set_option linter.unusedSimpArgs false
namespace Go.Proofs.Ytecpapkffinlbaa

/-- The first k digits of g, the lowest first. -/
def digs (k g : Nat) : List Nat := (List.range k).map fun i => g / 10 ^ i % 10
theorem digs_zero (g : Nat) : digs 0 g = [] := rfl
theorem digs_succ (k g : Nat) : digs (k + 1) g = digs k g ++ [g / 10 ^ k % 10] := by simp [digs, List.range_succ]
theorem digs_length (k g : Nat) : (digs k g).length = k := by simp [digs]
theorem digs_d10 (k g : Nat) : D10 (digs k g) := fun x hx => by
  obtain ⟨i, _, rfl⟩ := List.mem_map.1 hx
  omega
theorem digs_val (k g : Nat) : dval (digs k g) = g % 10 ^ k := by
  induction k with
  | zero => simp [digs, dval, Nat.mod_one]
  | succ k ih =>
    rw [digs_succ, dval_snoc, ih, digs_length]
    unfold dp
    rw [Nat.mod_pow_succ]
theorem digs_nine {g : Nat} (h : g < 1000000000) : dval (digs 9 g) = g := by
  rw [digs_val]; exact Nat.mod_eq_of_lt h
/-- What groups tell. -/
def gval : List Nat → Nat
  | [] => 0
  | x :: r => x + 1000000000 * gval r
theorem gval_snoc (xs : List Nat) (y : Nat) : gval (xs ++ [y]) = gval xs + 1000000000 ^ xs.length * y := by
  induction xs with
  | nil => simp [gval]
  | cons x r ih => simp only [List.cons_append, gval, ih, List.length_cons, Nat.pow_succ, Nat.mul_add]; rw [← Nat.mul_assoc, Nat.mul_comm 1000000000 (1000000000 ^ r.length), Nat.add_assoc]
theorem dp_nine (k : Nat) : dp (9 * k) = 1000000000 ^ k := by unfold dp; rw [Nat.pow_mul]
/-- One group more. -/
theorem group_step {ds pre : List Nat} {g : Nat} (hl : ds.length = 9 * pre.length) (hv : dval ds = gval pre) (hg : g < 1000000000) : dval (ds ++ digs 9 g) = gval (pre ++ [g]) := by
  rw [dval_append, gval_snoc, digs_nine hg, hl, dp_nine, hv]

/-- A text of octets. -/
def txt (xs : List Nat) : ByteArray := ⟨(xs.map UInt8.ofNat).toArray⟩
/-- The decimal text of a number. -/
def IsDec (v : Nat) (s : ByteArray) : Prop := (v = 0 ∧ s = txt [48]) ∨ (0 < v ∧ ∃ ds, DCan ds ∧ dval ds = v ∧ s = txt ((ds.map (· + 48)).reverse))
theorem IsDec.unique {v : Nat} {s s' : ByteArray} (h : IsDec v s) (h' : IsDec v s') : s = s' := by
  rcases h with ⟨h0, rfl⟩ | ⟨hp, ds, hc, hv, rfl⟩
  · rcases h' with ⟨_, rfl⟩ | ⟨hp, _⟩
    · rfl
    · omega
  · rcases h' with ⟨h0, _⟩ | ⟨_, es, hc', hv', rfl⟩
    · omega
    · rw [DCan.inj hc hc' (hv.trans hv'.symm)]
end Go.Proofs.Ytecpapkffinlbaa
