/-
  Contracts of nat.bitLen and nat.powerOfTwo; reading a row's number off the world.
-/
import Derived.Test.YtecpapkffinlbaaDiv
set_option linter.unusedVariables false
set_option linter.unusedSimpArgs false
namespace Go.Proofs.Ytecpapkffinlbaa
open Go.RowKit

/-- The number that a slice value reads as in a world (for a loop's measure). -/
def readVal (w : World) : Value → Nat
  | .slice (some a) n _ => val ((List.range n).map fun j => match w.cell? ⟨a.block, a.off + j, none⟩ with
      | some (.int _ z) => z.toNat
      | _ => 0)
  | _ => 0
theorem readVal_rd {w : World} {S : Nat → Prop} {A : Option Addr} {n c : Nat} {xs : List Nat} (h : Rd w S A n xs) : readVal w (.slice A n c) = val xs := by
  have hl := h.len
  rcases Nat.eq_zero_or_pos n with h0 | h0
  · subst h0
    rw [List.eq_nil_of_length_eq_zero hl]
    cases A <;> simp [readVal, val]
  · obtain ⟨b, off, rfl, _, hc⟩ := h.cells h0
    unfold readVal
    have e : ((List.range n).map fun j => match w.cell? ⟨b, off + j, none⟩ with
      | some (.int _ z) => z.toNat
      | _ => 0) = xs := by
      apply List.ext_getElem
      · simp [hl]
      · intro i h1 h2
        simp only [List.getElem_map, List.getElem_range]
        rw [hc i (by omega), nth_get (by omega)]
        simp
    exact congrArg val e

set_option maxRecDepth 100000 in
theorem bitLen_c {S : Nat → Prop} {n c : Nat} {A : Option Addr} {xs : List Nat} (w : World) (ha : Rd w S A n xs) (hn : n ≤ 1000000) (h1 : 1 ≤ n) (hc : Can xs) :
    Calls Try.prog 37 #[.slice A n c] w fun e w' => ∃ bl : Nat, e = .returned (.int .i64 (bl : Int)) ∧ bl ≤ 32 * n ∧ val xs < 2 ^ bl ∧ w' = w := by
  obtain ⟨m, rfl⟩ : ∃ m, n = m + 1 := ⟨n - 1, by omega⟩
  obtain ⟨b2, o2, rfl, hSb2, hct⟩ := ha.at_ (k := m) (by omega)
  have ht1 := ha.lt m
  have hl := ha.len
  have ht0 : nth xs m ≠ 0 := by
    rcases hc.2 with h | h
    · rw [h] at hl; simp at hl
    · rw [hl] at h; exact h
  obtain ⟨a, b, c'⟩ := Lib.bitLenAux_bounds 64 (nth xs m) (by omega) ht0
  have h32 : Lib.bitLen (nth xs m) ≤ 32 := Lib.bitLen_le (nth xs m) 32 (by omega) (by omega)
  change nth xs m < 2 ^ Lib.bitLen (nth xs m) at c'
  obtain ⟨L, hL⟩ : ∃ L, L = Lib.bitLen (nth xs m) := ⟨_, rfl⟩
  have hv : val xs < 2 ^ (32 * m + L) := by
    have h3 := val_take_succ (xs := xs) m
    rw [List.take_of_length_le (by omega)] at h3
    have h4 := val_take_lt ha.l32 (n := m) (by omega)
    have h5 := Nat.mul_le_mul_left (bp m) (show nth xs m + 1 ≤ 2 ^ L by rw [hL]; exact c')
    have h6 : 2 ^ (32 * m + L) = bp m * 2 ^ L := by rw [Nat.pow_add]; unfold bp; rw [Nat.pow_mul]
    rw [Nat.mul_add] at h5
    omega
  rw [← hL] at h32
  have HL := Lib.hid hL
  have HV := Lib.hid hv
  clear hL hv a b c' ht0 hl
  go_enter Try.func37, Try.ntmps37
  go_wp2_with fail
  refine (Len32_c _ w ht1).mono ?_
  rintro e w0 ⟨rfl, rfl⟩
  rw [← HL.out]
  go_wp2
  go_ret
  exact ⟨32 * m + L, congrArg Ending.returned (congrArg (Value.int .i64) (by omega)), by omega, HV.out, rfl⟩

set_option maxRecDepth 100000 in
theorem powerOfTwo_c (e : Nat) (w : World) (he : e ≤ 32000000) :
    Calls Try.prog 36 #[.int .i64 (e : Int)] w fun en w' => ∃ A n c zs, en = .returned (.slice A n c) ∧ Res w' w.heap.size A n c zs ∧ Can zs ∧ val zs = 2 ^ e ∧ n ≤ e / 32 + 1 ∧ Below w.heap.size w w' := by
  obtain ⟨q, hq⟩ : ∃ q, q = e / 32 := ⟨_, rfl⟩
  obtain ⟨r, hr⟩ : ∃ r, r = e % 32 := ⟨_, rfl⟩
  have hr32 : r < 32 := by omega
  have hp := pow_le31 hr32
  have hpp := Nat.two_pow_pos r
  have hq1 : q ≤ 1000000 := by omega
  have hei : e = 32 * q + r := by omega
  have hqi : (e : Int) / 32 = (q : Int) := by omega
  have hri : (e : Int) % 32 = (r : Int) := by omega
  obtain ⟨p, hpe⟩ : ∃ p, p = 2 ^ r := ⟨_, rfl⟩
  rw [← hpe] at hp hpp
  have hpi : (2 : Int) ^ r = (p : Int) := by rw [hpe, Int.natCast_pow]; rfl
  have HE := Lib.hid hei
  have HP := Lib.hid hpe
  have hmk := fun W => make_at (z := (q : Int) + 1) (q + 1) (by omega) (by omega) W
  have hres := Res.made w (q + 1) (by omega)
  have hoc : (w.alloc (zeros32 (q + 1))).cell? ⟨w.heap.size, q, none⟩ = some (.int .u32 ((0 : Nat) : Int)) := by
    rw [hres.cell (by omega), nth_replicate_zero]
  have hof : (w.alloc (zeros32 (q + 1))).frozen? ⟨w.heap.size, q, none⟩ = false := hres.frozen _
  clear hei hpe hq hr
  go_enter Try.func36, Try.ntmps36
  go_wp2
  go_ret
  have h1 := hres.set (j := q) (x := p) (by omega)
  rw [List.replicate_succ', set_snoc (List.replicate q 0) [] _ _ (by simp), List.append_nil] at h1
  refine ⟨_, _, _, List.replicate q 0 ++ [p], rfl, h1, ⟨h1.l32, .inr ?_⟩, ?_, by have := HE.out; omega, ((Below.refl _ w).alloc (Nat.le_refl _) _).setCell (Nat.le_refl _) _⟩
  · rw [List.length_append, List.length_replicate, List.length_singleton, Nat.add_sub_cancel, nth_append_right (by simp), List.length_replicate, Nat.sub_self, nth_cons_zero]
    omega
  · rw [val_snoc, val_replicate, List.length_replicate, HP.out, HE.out, Nat.pow_add, Nat.zero_add]
    unfold bp
    rw [Nat.pow_mul]
end Go.Proofs.Ytecpapkffinlbaa
