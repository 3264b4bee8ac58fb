/-
  Contracts of nat.pairs, nat.sum: the sum of two numbers' limbs, without 0 at its end, in memory of its own.
  Contracts of the law's helper 'alive' (the page's example) and of nat.Compare, nat.Add, nat.Mul.
  Small lemmas that the laws' walks share: when two numbers' sum or product is told, lengths, worlds behind draws.
  A region that draws its order, in a round of a range over a function: one walk in the order of the text serves where all but the last operations only read. Over any program.
  Contracts of nat.allDigits, nat.smallNumber and nat.Parse: the number that decimal digits tell.
  Texts of digits there and back, and nat.Print in all its cases. Plain lemmas and one contract; no condition.
-/
import Derived.Test.YtcanfiaooabocaaGreatDoorQPow
import Derived.Test.YtcanfiaooabocaaGreatDoorQNprint
import Derived.Test.YtcanfiaooabocaaGreatDoorQNlimb
import Derived.Deep.QuietTactic
import Derived.BigQuiet
import Derived.Outline
import Derived.Test.YtcanfiaooabocaaGreatDoorQNaddm
import Derived.StillTailTactics
import Derived.OrdersIn
import Derived.Lib.IndexBytes

set_option linter.unusedVariables false
set_option linter.unusedSimpArgs false
namespace Go.Proofs.YtcanfiaooabocaaGreatDoor
open Go.RowKit

/-- The limbs of a number. -/
def lOf : Nat → Nat → List Nat
  | 0, _ => []
  | f + 1, v => if v = 0 then [] else v % 4294967296 :: lOf f (v / 4294967296)
def lim (v : Nat) : List Nat := lOf v v
theorem lOf_ok : ∀ (f v : Nat), v ≤ f → Can (lOf f v) ∧ val (lOf f v) = v
  | 0, v, h => by
    have e : v = 0 := by omega
    rw [e]
    exact ⟨Can.nil, rfl⟩
  | f + 1, v, h => by
    unfold lOf
    by_cases h0 : v = 0
    · rw [if_pos h0, h0]; exact ⟨Can.nil, rfl⟩
    · rw [if_neg h0]
      obtain ⟨hc, hv⟩ := lOf_ok f (v / 4294967296) (by omega)
      refine ⟨⟨L32.cons.2 ⟨by omega, hc.1⟩, .inr ?_⟩, by rw [val_cons, hv]; omega⟩
      rcases hc.2 with e | e
      · rw [e] at hv ⊢
        rw [val_nil] at hv
        simp [nth]
        omega
      · have hl : 0 < (lOf f (v / 4294967296)).length := by
          rcases Nat.eq_zero_or_pos (lOf f (v / 4294967296)).length with h1 | h1
          · rw [nth_none (by omega)] at e; exact absurd rfl e
          · exact h1
        rw [List.length_cons, show (lOf f (v / 4294967296)).length + 1 - 1 = ((lOf f (v / 4294967296)).length - 1) + 1 by omega, nth_cons_succ]
        exact e
theorem lim_can (v : Nat) : Can (lim v) := (lOf_ok v v (Nat.le_refl _)).1
theorem lim_val (v : Nat) : val (lim v) = v := (lOf_ok v v (Nat.le_refl _)).2
theorem eq_lim {zs : List Nat} (h : Can zs) : zs = lim (val zs) := h.inj (lim_can _) (lim_val _).symm

theorem can_of_chk {xs : List Nat} (hl : L32 xs) (h : chk xs = 0) : Can xs ∧ xs.length ≤ 256 := by
  unfold chk at h
  by_cases h1 : 256 < xs.length
  · rw [if_pos h1] at h; omega
  · rw [if_neg h1] at h
    refine ⟨⟨hl, ?_⟩, by omega⟩
    by_cases h2 : 0 < xs.length ∧ nth xs (xs.length - 1) = 0
    · rw [if_pos h2] at h; omega
    · by_cases h3 : xs = []
      · exact .inl h3
      · exact .inr fun e => h2 ⟨List.length_pos_iff.2 h3, e⟩
section
variable {S S' : Nat → Prop} {n m c d : Nat} {A B : Option Addr} {xs ys : List Nat}

end
end Go.Proofs.YtcanfiaooabocaaGreatDoor

namespace Go.Proofs.YtcanfiaooabocaaGreatDoor
open Go.RowKit

theorem Res.lt {w : World} {base n c : Nat} {A : Option Addr} {zs : List Nat} (h : Res w base A n c zs) : n ≤ 9223372036854775807 := by
  have := h.n_le; unfold maxLen at this; omega
theorem below_drewN {B : Nat} {a w : World} (h : Below B a w) (n : Nat) : Below B a (w.drewN n) := ⟨h.os, h.tape, h.output, h.size, h.block⟩

end Go.Proofs.YtcanfiaooabocaaGreatDoor


namespace Go.Proofs.YtcanfiaooabocaaGreatDoor
open Go.RowKit
attribute [local go_sem] Oper.semAt_some

/-- The octets of a text. -/
def octs (s : ByteArray) : List Nat := s.data.toList.map (·.toNat)
theorem octs_length (s : ByteArray) : (octs s).length = s.size := by unfold octs; rw [List.length_map, Array.length_toList]; rfl
theorem octs_get (s : ByteArray) (k : Nat) (h : k < s.size) : nth (octs s) k = (s[k]).toNat := by
  rw [nth_get (by rw [octs_length]; exact h)]
  simp [octs]
  rfl
def isDig (x : Nat) : Bool := decide (48 ≤ x ∧ x ≤ 57)
def allDig (xs : List Nat) : Bool := xs.all isDig
/-- The number of digits' octets, the highest first. -/
def pnum (xs : List Nat) : Nat := xs.foldl (fun a c => a * 10 + (c - 48)) 0
theorem pnum_nil : pnum [] = 0 := rfl
theorem pnum_snoc (xs : List Nat) (c : Nat) : pnum (xs ++ [c]) = pnum xs * 10 + (c - 48) := by simp [pnum]
theorem pnum_from (ys : List Nat) : ∀ a, ys.foldl (fun a c => a * 10 + (c - 48)) a = a * 10 ^ ys.length + pnum ys := by
  induction ys with
  | nil => intro a; simp [pnum_nil]
  | cons c ys ih =>
    intro a
    unfold pnum
    rw [List.foldl_cons, List.foldl_cons, ih, ih, List.length_cons, Nat.pow_succ, Nat.add_mul, Nat.zero_mul, Nat.zero_add, Nat.mul_assoc, Nat.mul_comm 10, Nat.add_assoc]
theorem pnum_append (xs ys : List Nat) : pnum (xs ++ ys) = pnum xs * 10 ^ ys.length + pnum ys := by
  unfold pnum
  rw [List.foldl_append, pnum_from]
  rfl
theorem pnum_cons (c : Nat) (ys : List Nat) : pnum (c :: ys) = (c - 48) * 10 ^ ys.length + pnum ys := by
  have := pnum_append [c] ys
  rw [List.singleton_append] at this
  rw [this]
  simp [pnum]
theorem allDig_snoc (xs : List Nat) (c : Nat) : allDig (xs ++ [c]) = (allDig xs && isDig c) := by simp [allDig]
theorem allDig_take {xs : List Nat} (h : allDig xs = true) (k : Nat) : allDig (xs.take k) = true := by
  unfold allDig at h ⊢
  rw [List.all_eq_true] at h ⊢
  exact fun x hx => h x (List.mem_of_mem_take hx)
theorem allDig_drop {xs : List Nat} (h : allDig xs = true) (k : Nat) : allDig (xs.drop k) = true := by
  unfold allDig at h ⊢
  rw [List.all_eq_true] at h ⊢
  exact fun x hx => h x (List.mem_of_mem_drop hx)
theorem octs_take (t : ByteArray) (x : Nat) : octs (t.extract 0 x) = (octs t).take x := by
  unfold octs
  rw [Lib.extract_data, List.drop_zero, Nat.sub_zero, List.map_take]
theorem octs_drop (t : ByteArray) (x : Nat) : octs (t.extract x t.size) = (octs t).drop x := by
  unfold octs
  rw [Lib.extract_to_end, List.map_drop]
end Go.Proofs.YtcanfiaooabocaaGreatDoor

namespace Go.Proofs.YtcanfiaooabocaaGreatDoor
open Go.RowKit

theorem octs_txt {xs : List Nat} (h : L8 xs) : octs (txt xs) = xs := by
  unfold octs txt
  simp only [List.map_map]
  rw [List.map_congr_left (g := id)]
  · simp
  · intro x hx
    have := h x hx
    simp [Function.comp_def, UInt8.toNat_ofNat']
    omega
theorem dval_pnum (xs : List Nat) : dval ((xs.map (· - 48)).reverse) = pnum xs := by
  induction xs with
  | nil => rfl
  | cons c xs ih =>
    rw [List.map_cons, List.reverse_cons, dval_snoc, ih, pnum_cons, List.length_reverse, List.length_map, Nat.add_comm, Nat.mul_comm]
    rfl
theorem allDig_chars {ds : List Nat} (h : D10 ds) : allDig ((ds.map (· + 48)).reverse) = true := by
  unfold allDig
  rw [List.all_eq_true]
  intro x hx
  rw [List.mem_reverse] at hx
  obtain ⟨d, hd, rfl⟩ := List.mem_map.1 hx
  have := h d hd
  unfold isDig
  exact decide_eq_true (by omega)
theorem isDec_size {v n : Nat} {s : ByteArray} (h : IsDec v s) (hn : 0 < n) (hv : v < 10 ^ n) : s.size ≤ n := by
  rcases h with ⟨h0, rfl⟩ | ⟨hp, ds, hc, hd, rfl⟩
  · have : (txt [48]).size = 1 := by decide
    omega
  · have h8 : L8 ((ds.map (· + 48)).reverse) := fun x hx => by
      rw [List.mem_reverse] at hx
      exact chars_l8 hc.1 x hx
    rw [← octs_length, octs_txt h8, List.length_reverse, List.length_map]
    by_cases hne : ds = []
    · rw [hne]; simp
    · have h1 := hc.ge hne
      rcases Nat.lt_or_ge n ds.length with h2 | h2
      · have h3 := dp_mono (show n ≤ ds.length - 1 by omega)
        unfold dp at h1 h3
        omega
      · exact h2

theorem bp_lt_ten {n v : Nat} (h : n ≤ 256) (hv : v < bp n) : ∃ m, 0 < m ∧ m ≤ 2731 ∧ v < 10 ^ m := by
  obtain ⟨m, hm⟩ : ∃ m, m = 2731 := ⟨_, rfl⟩
  refine ⟨m, by omega, by omega, ?_⟩
  have h1 : bp n = 2 ^ (32 * n) := by unfold bp; rw [Nat.pow_mul]
  rw [h1] at hv
  have h2 : 2 ^ (32 * n) ≤ (2 ^ 3) ^ m := by rw [← Nat.pow_mul]; exact Nat.pow_le_pow_right (by omega) (by omega)
  exact Nat.lt_trans (Nat.lt_of_lt_of_le hv h2) (Nat.pow_lt_pow_left (by decide) (by omega))
theorem Print_c {S : Nat → Prop} {n c : Nat} {A : Option Addr} {xs : List Nat} (w : World) (ha : Rd w S A n xs) (hS : ∀ b, S b → b < w.heap.size) (hn : n ≤ 9223372036854775807) :
    Calls Tryz.prog 71 #[.slice A n c] w fun e w' => ∃ s, e = .returned (.tuple #[.string s, .int .i64 (chk xs : Int)]) ∧ (chk xs = 0 → Can xs ∧ IsDec (val xs) s) ∧ (chk xs ≠ 0 → s = ⟨#[]⟩) ∧ s.size ≤ 2731 ∧ Below w.heap.size w w' := by
  by_cases he : chk xs = 0
  · obtain ⟨hc, hl⟩ := can_of_chk ha.l32 he
    refine (Print_ok w ha hS hc (by rw [← ha.len]; exact hl)).mono ?_
    rintro e w' ⟨s, rfl, hd, hb⟩
    rw [he]
    obtain ⟨m, hm0, hm, hv⟩ := bp_lt_ten hl (val_lt hc.l32)
    have := isDec_size hd hm0 hv
    exact ⟨s, rfl, fun _ => ⟨hc, hd⟩, fun h => absurd rfl h, by omega, hb⟩
  · refine (Print_err w ha hn he).mono ?_
    rintro e w' ⟨rfl, rfl⟩
    exact ⟨_, rfl, fun h => absurd h he, fun _ => rfl, by decide, Below.refl _ _⟩
end Go.Proofs.YtcanfiaooabocaaGreatDoor
