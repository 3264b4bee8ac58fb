/-
  Contracts of the reference's Check, checks, Trim, Digits and Order: what they answer; they change nothing that was there.
  Contracts of the reference's Order and carry: the order of two numbers by their digits; what stands at places made digits.
  Contracts of the reference's Plus and Minus, of digits.
  Contract of the reference's Limbs: digits without 0 at their end made limbs, that tell the same number.
  Contracts of the reference's Product and Shift, of digits.
  Contracts of the reference's Digits (with a bound) and From; what nat's Sub answers, in numbers.
  Decimals as values; when one may be, in numbers. Plain words and lemmas, and the contracts of dec's mayStand, mayBe and Check.
-/
import Derived.Test.YtpjllcengnolkaaGreatDoorPNdig
import Derived.Test.YtpjllcengnolkaaGreatDoorPNparse
import Derived.BigRegion
set_option linter.unusedVariables false
set_option linter.unusedSimpArgs false
namespace Go.Proofs.YtpjllcengnolkaaGreatDoor
open Go.RowKit

set_option maxRecDepth 100000 in
theorem Digits_c {S : Nat → Prop} {n c : Nat} {A : Option Addr} {xs : List Nat} (w : World) (h : Rd w S A n xs) (hS : ∀ b, S b → b < w.heap.size) (hn : n ≤ 256) :
    Calls Tryz.prog 33 #[.slice A n c] w fun e w' => ∃ A' n' c' ds, e = .returned (.slice A' n' c') ∧ ResI w' w.heap.size A' n' c' ds ∧ DCan ds ∧ dval ds = val xs ∧ Below w.heap.size w w' := by
  have HL := Lib.hid h.len
  go_enter Tryz.func33, Tryz.ntmps33
  go_wp2
  go_loopw [3, 4] (fun dv iv wr => ∃ (k : Nat) (Ao : Option Addr) (no co : Nat) (ds : List Nat), k ≤ n ∧ iv = .int .i64 ((k : Int) - 1) ∧ dv = .slice Ao no co ∧ ResI wr w.heap.size Ao no co ds ∧ Hid (DCan ds) ∧ Hid (dval ds = val (xs.drop k)) ∧ Below w.heap.size w wr)
    (fun _ iv _ => (intOf iv + 1).toNat)
  case atStart => exact ⟨n, none, 0, 0, [], Nat.le_refl _, rfl, rfl, ResI.nil _ _, DCan.nil, by show _ = _; rw [List.drop_of_length_le (by rw [HL.out]; exact Nat.le_refl _)]; rfl, Below.refl _ _⟩
  case round =>
    obtain ⟨k, Ao, no, co, ds, hk, rfl, rfl, hres, hcan, hval, hbel⟩ := hrel
    by_cases h0 : k = 0
    · subst h0
      have hv := hval
      clear hval
      go_wp2
      go_ret
      have := hv.out
      rw [List.drop_zero] at this
      exact ⟨_, _, _, ds, rfl, hres, hcan.out, this, hbel⟩
    · obtain ⟨j, rfl⟩ : ∃ j, k = j + 1 := ⟨k - 1, by omega⟩
      obtain ⟨b, off, rfl, hSb, hcell0⟩ := h.at_ (k := j) (by omega)
      have hcell : wr.cell? ⟨b, off + j, none⟩ = some (.int .u32 (nth xs j : Int)) := (hbel.cell (p := ⟨b, off + j, none⟩) (hS _ hSb)).trans hcell0
      have hx := h.lt j
      have hsz := hbel.size
      have hlen : no ≤ 2731 := by
        obtain ⟨m, hm0, hm, hv⟩ := bp_lt_ten (n := n) (v := dval ds) hn (by
          rw [hval.out]
          have h1 := val_split xs (j + 1) (by rw [HL.out]; omega)
          have h2 := val_lt h.l32
          rw [HL.out] at h2
          have h3 : 1 * val (xs.drop (j + 1)) ≤ bp (j + 1) * val (xs.drop (j + 1)) := Nat.mul_le_mul_right _ (bp_pos _)
          omega)
        have := hcan.out.len_le hv
        rw [hres.len] at this
        omega
      go_wp2_with fail
      refine (times_c 4294967296 (nth xs j) wr hres hcan.out (by omega) (by omega) (by omega) (by omega)).mono ?_
      rintro e w1 ⟨A', n', c', os, rfl, hres1, hcan1, hval1, hbel1⟩
      have HC1 := Lib.hid hcan1
      have HV1 := Lib.hid hval1
      clear hval1 hcan1
      go_wp2
      refine ⟨⟨j, A', n', c', os, by omega, by go_num, rfl, hres1.more hsz, HC1.out, ?_, hbel.trans (hbel1.mono hsz)⟩, by simp [intOf]⟩
      show _ = _
      rw [HV1.out, hval.out, val_drop j]
      omega
end Go.Proofs.YtpjllcengnolkaaGreatDoor

namespace Go.Proofs.YtpjllcengnolkaaGreatDoor
open Go.RowKit

/-- A slice's length, of a value. -/
def lenOf : Value → Nat
  | .slice _ n _ => n
  | _ => 0
end Go.Proofs.YtpjllcengnolkaaGreatDoor

namespace Go.Proofs.YtpjllcengnolkaaGreatDoor
open Go.RowKit

theorem only_drewB {B : Nat} {a w : World} (h : Below B a w) : Below B a w.drew := ⟨h.os, h.tape, h.output, h.size, h.block⟩
/-- n digits 0 put below. -/
theorem shift_dval (n : Nat) (xs : List Nat) : dval (List.replicate n 0 ++ xs) = dp n * dval xs := by
  rw [dval_append, dval_replicate, List.length_replicate, Nat.zero_add]
theorem shift_dcan {xs : List Nat} (h : DCan xs) (h0 : xs ≠ []) (n : Nat) : DCan (List.replicate n 0 ++ xs) := by
  refine dcan_of_ge (D10.append.2 ⟨D10.replicate n, h.1⟩) (.inr ?_)
  have hl := List.length_pos_iff.2 h0
  rw [shift_dval, List.length_append, List.length_replicate, show n + xs.length - 1 = n + (xs.length - 1) by omega, dp_add]
  exact Nat.mul_le_mul_left _ (h.ge h0)

end Go.Proofs.YtpjllcengnolkaaGreatDoor

namespace Go.Proofs.YtpjllcengnolkaaGreatDoor
open Go.RowKit

/-- Digits, and how many at most. -/
theorem Digits_k {S : Nat → Prop} {n c : Nat} {A : Option Addr} {xs : List Nat} (w : World) (h : Rd w S A n xs) (hS : ∀ b, S b → b < w.heap.size) (hn : n ≤ 256) :
    Calls Tryz.prog 33 #[.slice A n c] w fun e w' => ∃ A' n' c' ds, e = .returned (.slice A' n' c') ∧ ResI w' w.heap.size A' n' c' ds ∧ DCan ds ∧ dval ds = val xs ∧ n' ≤ 2731 ∧ Below w.heap.size w w' := by
  refine (Digits_c w h hS hn).mono ?_
  rintro e w' ⟨A', n', c', ds, rfl, hr, hc, hv, hb⟩
  refine ⟨A', n', c', ds, rfl, hr, hc, hv, ?_, hb⟩
  obtain ⟨m, hm0, hm, hlt⟩ := bp_lt_ten (n := n) (v := dval ds) hn (by rw [hv]; have := val_lt h.l32; rwa [h.len] at this)
  have := hc.len_le hlt
  rw [hr.len] at this
  omega

end Go.Proofs.YtpjllcengnolkaaGreatDoor

namespace Go.Proofs.YtpjllcengnolkaaGreatDoor
open Go.RowKit

theorem chars_rev (xs : List Nat) {k : Nat} (h : k < xs.length) : chars ((xs.drop k).reverse) = chars ((xs.drop (k + 1)).reverse) ++ [nth xs k + 48] := by
  rw [drop_eq_nth h, List.reverse_cons, chars_snoc]
theorem ResB.below_append {B k c : Nat} {A : Option Addr} {W w w1 : World} {os : List Nat} {o : Obj} (hbel : Below B W w) (hB : B ≤ w.heap.size) (hres : ResB w B A k c os) (hg : (w.alloc o).grownBy w1 (Value.slice A k c).ownBlock) : Below B W w1 :=
  (hbel.alloc hB _).grown hg (by simp; omega) (by
    intro q hq
    rcases hres.form with ⟨h1, _⟩ | ⟨g1, h1, h2, _⟩
    · rw [h1] at hq; simp [Value.ownBlock] at hq
    · rw [h1] at hq; simp [Value.ownBlock] at hq; omega)
theorem ResB.snoc {w : World} {base g k c' x : Nat} {os : List Nat} (hl : os.length = k) (hI : L8 os) (hx : x < 256)
    (ho : w.ownsRow base 5 1 (.slice (some ⟨g, 0, none⟩) (k + 1) c') (k + 1) (u8s os ++ [.int .u8 (x : Int)])) : ResB w base (some ⟨g, 0, none⟩) (k + 1) c' (os ++ [x]) :=
  ⟨by rw [List.length_append, hl]; rfl, hI.append (L8.one hx), by rw [u8s_append]; exact ho⟩

end Go.Proofs.YtpjllcengnolkaaGreatDoor

namespace Go.Proofs.YtpjllcengnolkaaGreatDoor
open Go.RowKit

/-- A decimal's value. -/
def dv (neg : Bool) (A : Option Addr) (n c : Nat) (exp : Int) : Value := .agg #[.bool neg, .slice A n c, .int .i64 exp]

/-- The digits of a number, the lowest first. -/
def dgOf : Nat → Nat → List Nat
  | 0, _ => []
  | f + 1, v => if v = 0 then [] else v % 10 :: dgOf f (v / 10)
def dOf (v : Nat) : List Nat := dgOf v v
theorem dgOf_ok : ∀ (f v : Nat), v ≤ f → DCan (dgOf f v) ∧ dval (dgOf f v) = v
  | 0, v, h => by
    have e : v = 0 := by omega
    rw [e]
    exact ⟨DCan.nil, rfl⟩
  | f + 1, v, h => by
    unfold dgOf
    by_cases h0 : v = 0
    · rw [if_pos h0, h0]; exact ⟨DCan.nil, rfl⟩
    · rw [if_neg h0]
      obtain ⟨hc, hv⟩ := dgOf_ok f (v / 10) (by omega)
      refine ⟨⟨D10.cons.2 ⟨by omega, hc.1⟩, .inr ?_⟩, by rw [dval_cons, hv]; omega⟩
      rcases hc.2 with e | e
      · rw [e] at hv ⊢
        rw [dval_nil] at hv
        simp [nth]
        omega
      · have hl : 0 < (dgOf f (v / 10)).length := by
          rcases Nat.eq_zero_or_pos (dgOf f (v / 10)).length with h1 | h1
          · rw [nth_none (by omega)] at e; exact absurd rfl e
          · exact h1
        rw [List.length_cons, show (dgOf f (v / 10)).length + 1 - 1 = ((dgOf f (v / 10)).length - 1) + 1 by omega, nth_cons_succ]
        exact e
theorem dOf_can (v : Nat) : DCan (dOf v) := (dgOf_ok v v (Nat.le_refl _)).1
theorem dOf_val (v : Nat) : dval (dOf v) = v := (dgOf_ok v v (Nat.le_refl _)).2
theorem eq_dOf {ds : List Nat} (h : DCan ds) : ds = dOf (dval ds) := h.inj (dOf_can _) (dOf_val _).symm
theorem isDec_txt {v : Nat} {s : ByteArray} (h : IsDec v s) (hv : 0 < v) : s = txt (chars (dOf v)).reverse := by
  rcases h with ⟨h0, _⟩ | ⟨_, ds, hc, hd, rfl⟩
  · omega
  · have e := eq_dOf hc
    rw [hd] at e
    rw [← e]; rfl
theorem isDec_octs2 {v : Nat} {s : ByteArray} (h : IsDec v s) (hv : 0 < v) : octs s = (chars (dOf v)).reverse := by
  rw [isDec_txt h hv]
  exact octs_txt (fun x hx => chars_l8 (dOf_can v).1 x (List.mem_reverse.1 hx))
/-- May a decimal be? -/
def okB (neg : Bool) (xs : List Nat) (exp : Int) : Bool :=
  decide (chk xs = 0) && (decide ((dOf (val xs)).length ≤ 300) && (if xs.length = 0 then (!neg && exp == 0) else (decide (nth (dOf (val xs)) 0 ≠ 0) && (decide (-1000 ≤ exp) && decide (exp ≤ 1000)))))

theorem mayStand_c (z : Int) (w : World) : Calls Tryz.prog 99 #[.int .i64 z] w fun e w' => e = .returned (.bool (decide (-1000 ≤ z) && decide (z ≤ 1000))) ∧ w = w' := by
  by_cases h1 : -1000 ≤ z
  · have hd1 : decide (-1000 ≤ z) = true := decide_eq_true h1
    by_cases h2 : z ≤ 1000
    · have hd2 : decide (z ≤ 1000) = true := decide_eq_true h2
      go_enter Tryz.func99, Tryz.ntmps99
      go_wp2
      go_ret
      exact ⟨by first | rfl | (rw [hd1, hd2]; rfl), rfl⟩
    · have hd2 : decide (z ≤ 1000) = false := decide_eq_false h2
      go_enter Tryz.func99, Tryz.ntmps99
      go_wp2
      go_ret
      exact ⟨by first | rfl | (rw [hd1, hd2]; rfl), rfl⟩
  · have hd1 : decide (-1000 ≤ z) = false := decide_eq_false h1
    go_enter Tryz.func99, Tryz.ntmps99
    go_wp2
    go_ret
    exact ⟨by first | rfl | (rw [hd1]; rfl), rfl⟩

end Go.Proofs.YtpjllcengnolkaaGreatDoor
