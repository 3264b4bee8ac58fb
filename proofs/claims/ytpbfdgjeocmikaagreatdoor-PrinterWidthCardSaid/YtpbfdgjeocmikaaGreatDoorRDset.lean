/-
  The digits of a text's end. Plain words.
  A number settled: as often as ten divides it, it is divided; in numbers, and for texts of digits without 0 at either end. Plain lemmas, no Go.
  Contract of the method settle of dec's rough: what it answers, in numbers.
-/
import Derived.Test.YtpbfdgjeocmikaaGreatDoorRNparse
import Derived.Test.YtpbfdgjeocmikaaGreatDoorRDa
import Derived.Lib.TrimByte
import Derived.Test.YtpbfdgjeocmikaaGreatDoorShelf
set_option linter.unusedVariables false
set_option linter.unusedSimpArgs false
namespace Go.Proofs.YtpbfdgjeocmikaaGreatDoor

/-- The digits of a text's end, the lowest first. -/
def lows (xs : List Nat) : List Nat := (xs.map (· - 48)).reverse
end Go.Proofs.YtpbfdgjeocmikaaGreatDoor

namespace Go.Proofs.YtpbfdgjeocmikaaGreatDoor

/-- How many 0 stand at the low end. -/
def lz : List Nat → Nat
  | [] => 0
  | x :: r => if x = 0 then lz r + 1 else 0
theorem lz_le (ds : List Nat) : lz ds ≤ ds.length := by
  induction ds with
  | nil => simp [lz]
  | cons x r ih => unfold lz; split <;> simp; omega
theorem lz_zeros (k : Nat) {es : List Nat} (h : nth es 0 ≠ 0) : lz (List.replicate k 0 ++ es) = k := by
  induction k with
  | zero =>
    rw [List.replicate_zero, List.nil_append]
    cases es with
    | nil => rw [nth_nil] at h; exact absurd rfl h
    | cons x r => rw [nth_cons_zero] at h; unfold lz; rw [if_neg h]
  | succ k ih => rw [List.replicate_succ, List.cons_append]; unfold lz; rw [if_pos rfl, ih]
/-- A number's zeros and the rest of its digits are told by any such cut. -/
theorem cut_key {v k : Nat} {es : List Nat} (hc : DCan es) (h0 : nth es 0 ≠ 0) (hv : v = dp k * dval es) : lz (dOf v) = k ∧ (dOf v).drop k = es := by
  have hne : es ≠ [] := fun e => by rw [e, nth_nil] at h0; exact h0 rfl
  have e : dOf v = List.replicate k 0 ++ es := (DCan.inj (shift_dcan hc hne k) (dOf_can v) (by rw [shift_dval, dOf_val]; exact hv.symm)).symm
  rw [e]
  refine ⟨lz_zeros k h0, ?_⟩
  rw [List.drop_left' (by simp)]

/-- What settling answers: the error, whether there is a decimal, its exponent and its limbs. -/
def cf (v : Nat) : List Nat := (dOf v).drop (lz (dOf v))
def stE (v : Nat) (exp : Int) : Nat := if v = 0 then 0 else if 300 < (cf v).length then 51 else if -1000 ≤ exp + (lz (dOf v) : Int) ∧ exp + (lz (dOf v) : Int) ≤ 1000 then 0 else 52
def stG (v : Nat) (exp : Int) : Bool := decide (v ≠ 0) && decide (stE v exp = 0)
def stN (neg : Bool) (v : Nat) (exp : Int) : Bool := if stG v exp = true then neg else false
def stX (v : Nat) (exp : Int) : Int := if stG v exp = true then exp + (lz (dOf v) : Int) else 0
def stZ (v : Nat) (exp : Int) : List Nat := if stG v exp = true then lim (dval (cf v)) else []
theorem st_zero (neg : Bool) (exp : Int) : stE 0 exp = 0 ∧ stN neg 0 exp = false ∧ stX 0 exp = 0 ∧ stZ 0 exp = [] := by simp [stE, stN, stX, stZ, stG]
theorem st_bad {v : Nat} {exp : Int} (neg : Bool) (h : stE v exp ≠ 0) : stN neg v exp = false ∧ stX v exp = 0 ∧ stZ v exp = [] := by simp [stN, stX, stZ, stG, h]
theorem st_long {v k : Nat} {exp : Int} {es : List Nat} (hc : DCan es) (h0 : nth es 0 ≠ 0) (hv : v = dp k * dval es) (hl : 300 < es.length) : stE v exp = 51 := by
  obtain ⟨h1, h2⟩ := cut_key hc h0 hv
  have hp : v ≠ 0 := by
    intro e
    have h3 := dp_pos k
    have h4 : dval es ≠ 0 := fun e2 => by
      have := hc.dval_zero e2
      rw [this, nth_nil] at h0
      exact h0 rfl
    rw [e] at hv
    have := Nat.mul_pos h3 (Nat.pos_of_ne_zero h4)
    omega
  unfold stE cf
  rw [if_neg hp, h1, h2, if_pos hl]
theorem st_out {v k : Nat} {exp : Int} {es : List Nat} (hc : DCan es) (h0 : nth es 0 ≠ 0) (hv : v = dp k * dval es) (hl : es.length ≤ 300) (hx : ¬ (-1000 ≤ exp + (k : Int) ∧ exp + (k : Int) ≤ 1000)) : stE v exp = 52 := by
  obtain ⟨h1, h2⟩ := cut_key hc h0 hv
  have hp : v ≠ 0 := by
    intro e
    have h3 := dp_pos k
    have h4 : dval es ≠ 0 := fun e2 => by
      have := hc.dval_zero e2
      rw [this, nth_nil] at h0
      exact h0 rfl
    rw [e] at hv
    have := Nat.mul_pos h3 (Nat.pos_of_ne_zero h4)
    omega
  unfold stE cf
  rw [if_neg hp, h1, h2, if_neg (by omega), if_neg hx]
theorem st_ok {v k : Nat} {exp : Int} {es : List Nat} (neg : Bool) (hc : DCan es) (h0 : nth es 0 ≠ 0) (hv : v = dp k * dval es) (hl : es.length ≤ 300) (hx : -1000 ≤ exp + (k : Int) ∧ exp + (k : Int) ≤ 1000) :
    stE v exp = 0 ∧ stN neg v exp = neg ∧ stX v exp = exp + (k : Int) ∧ stZ v exp = lim (dval es) := by
  obtain ⟨h1, h2⟩ := cut_key hc h0 hv
  have hp : v ≠ 0 := by
    intro e
    have h3 := dp_pos k
    have h4 : dval es ≠ 0 := fun e2 => by
      have := hc.dval_zero e2
      rw [this, nth_nil] at h0
      exact h0 rfl
    rw [e] at hv
    have := Nat.mul_pos h3 (Nat.pos_of_ne_zero h4)
    omega
  have e : stE v exp = 0 := by unfold stE cf; rw [if_neg hp, h1, h2, if_neg (by omega), if_pos hx]
  have g : stG v exp = true := by unfold stG; rw [decide_eq_true hp, decide_eq_true e]; rfl
  refine ⟨e, if_pos g, ?_, ?_⟩
  · unfold stX; rw [if_pos g, h1]
  · unfold stZ cf; rw [if_pos g, h1, h2]

/-! Texts. -/
end Go.Proofs.YtpbfdgjeocmikaaGreatDoor

namespace Go.Proofs.YtpbfdgjeocmikaaGreatDoor
open Go.RowKit

theorem held {w w' : World} {B b : Nat} (hb : Below B w w') (hB : b < B) {vs : Array Value} {t : TypeId} (h : w.heap[b]? = some (.cells vs t)) : w'.heap[b]? = some (.cells vs t) := (hb.block b hB).trans h
theorem cell_of {w : World} {b k : Nat} {vs : Array Value} {t : TypeId} {v : Value} (h : w.heap[b]? = some (.cells vs t)) (hk : vs[k]? = some v) : w.cell? ⟨b, k, none⟩ = some v := by simp [World.cell?, h, hk]
theorem frozen_of {w : World} {b : Nat} {vs : Array Value} {t : TypeId} (k : Nat) (h : w.heap[b]? = some (.cells vs t)) : w.frozen? ⟨b, k, none⟩ = false := by simp [World.frozen?, h]
theorem two_new (w : World) (o1 o2 : Obj) : ((w.alloc o1).alloc o2).heap[w.heap.size]? = some o1 ∧ ((w.alloc o1).alloc o2).heap[w.heap.size + 1]? = some o2 := by
  refine ⟨(Below.heap_alloc _ _ _ (by simp)).trans (World.alloc_heap_new w o1), ?_⟩
  have := World.alloc_heap_new (w.alloc o1) o2
  rwa [World.size_alloc] at this
theorem Res.setOther {w : World} {base n c : Nat} {A : Option Addr} {zs : List Nat} (h : Res w base A n c zs) {p : Addr} (hp : p.block < base) (u : Value) : Res (w.setCell p u) base A n c zs :=
  h.keep fun g e => by
    rcases h.form with ⟨h1, _⟩ | ⟨g', h1, h2, _⟩
    · rw [h1] at e; cases e
    · rw [h1] at e; injection e with e; injection e with e
      exact Below.heap_setCell _ _ _ _ (by omega)
theorem octs_list (l : List UInt8) : octs ⟨l.toArray⟩ = l.map (·.toNat) := rfl
/-- A decimal on its way. -/
def rv (neg : Bool) (A : Option Addr) (n c : Nat) (exp : Int) (s : ByteArray) : Value := .agg #[.bool neg, .slice A n c, .int .i64 exp, .string s]

end Go.Proofs.YtpbfdgjeocmikaaGreatDoor
