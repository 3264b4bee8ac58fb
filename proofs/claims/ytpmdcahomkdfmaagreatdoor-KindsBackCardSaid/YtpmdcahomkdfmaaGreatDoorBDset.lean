/-
  The digits of a text's end. Plain words.
  A number settled: as often as ten divides it, it is divided; in numbers, and for texts of digits without 0 at either end. Plain lemmas, no Go.
  Contract of the method settle of dec's rough: what it answers, in numbers.
-/
import Derived.Test.YtpmdcahomkdfmaaGreatDoorBNparse
import Derived.Test.YtpmdcahomkdfmaaGreatDoorBDa
import Derived.Lib.TrimByte
import Derived.Test.YtpmdcahomkdfmaaGreatDoorShelf
set_option linter.unusedVariables false
set_option linter.unusedSimpArgs false
namespace Go.Proofs.YtpmdcahomkdfmaaGreatDoor

/-- The digits of a text's end, the lowest first. -/
def lows (xs : List Nat) : List Nat := (xs.map (· - 48)).reverse
end Go.Proofs.YtpmdcahomkdfmaaGreatDoor

namespace Go.Proofs.YtpmdcahomkdfmaaGreatDoor

/-- How many 0 stand at the low end. -/
def lz : List Nat → Nat
  | [] => 0
  | x :: r => if x = 0 then lz r + 1 else 0
theorem lz_le (ds : List Nat) : lz ds ≤ ds.length := by
  induction ds with
  | nil => simp [lz]
  | cons x r ih => unfold lz; split <;> simp; omega
theorem lz_drop (ds : List Nat) : dval ds = dp (lz ds) * dval (ds.drop (lz ds)) := by
  induction ds with
  | nil => simp [lz, dval]
  | cons x r ih =>
    unfold lz
    by_cases h : x = 0
    · rw [if_pos h, List.drop_succ_cons, dval_cons, dp_succ, Nat.mul_assoc, ← ih, h]; omega
    · rw [if_neg h, List.drop_zero, dp_zero]; omega
theorem lz_head (ds : List Nat) (h : 0 < dval ds) : nth (ds.drop (lz ds)) 0 ≠ 0 := by
  induction ds with
  | nil => simp [dval] at h
  | cons x r ih =>
    unfold lz
    by_cases hx : x = 0
    · rw [if_pos hx, List.drop_succ_cons]
      refine ih ?_
      rw [dval_cons, hx] at h
      omega
    · rw [if_neg hx, List.drop_zero, nth_cons_zero]; exact hx
theorem lz_zeros (k : Nat) {es : List Nat} (h : nth es 0 ≠ 0) : lz (List.replicate k 0 ++ es) = k := by
  induction k with
  | zero =>
    rw [List.replicate_zero, List.nil_append]
    cases es with
    | nil => rw [nth_nil] at h; exact absurd rfl h
    | cons x r => rw [nth_cons_zero] at h; unfold lz; rw [if_neg h]
  | succ k ih => rw [List.replicate_succ, List.cons_append]; unfold lz; rw [if_pos rfl, ih]
/-- A number's zeros and the rest of its digits are told by any such cut. -/
theorem cut_key {v k : Nat} {es : List Nat} (hc : DCan es) (h0 : nth es 0 ≠ 0) (hv : v = dp k * dval es) : lz (dOf v) = k ∧ (dOf v).drop k = es := by
  have hne : es ≠ [] := fun e => by rw [e, nth_nil] at h0; exact h0 rfl
  have e : dOf v = List.replicate k 0 ++ es := (DCan.inj (shift_dcan hc hne k) (dOf_can v) (by rw [shift_dval, dOf_val]; exact hv.symm)).symm
  rw [e]
  refine ⟨lz_zeros k h0, ?_⟩
  rw [List.drop_left' (by simp)]

/-- What settling answers: the error, whether there is a decimal, its exponent and its limbs. -/
def cf (v : Nat) : List Nat := (dOf v).drop (lz (dOf v))
def stE (v : Nat) (exp : Int) : Nat := if v = 0 then 0 else if 300 < (cf v).length then 51 else if -1000 ≤ exp + (lz (dOf v) : Int) ∧ exp + (lz (dOf v) : Int) ≤ 1000 then 0 else 52
def stG (v : Nat) (exp : Int) : Bool := decide (v ≠ 0) && decide (stE v exp = 0)
def stN (neg : Bool) (v : Nat) (exp : Int) : Bool := if stG v exp = true then neg else false
def stX (v : Nat) (exp : Int) : Int := if stG v exp = true then exp + (lz (dOf v) : Int) else 0
def stZ (v : Nat) (exp : Int) : List Nat := if stG v exp = true then lim (dval (cf v)) else []
theorem st_zero (neg : Bool) (exp : Int) : stE 0 exp = 0 ∧ stN neg 0 exp = false ∧ stX 0 exp = 0 ∧ stZ 0 exp = [] := by simp [stE, stN, stX, stZ, stG]
theorem st_bad {v : Nat} {exp : Int} (neg : Bool) (h : stE v exp ≠ 0) : stN neg v exp = false ∧ stX v exp = 0 ∧ stZ v exp = [] := by simp [stN, stX, stZ, stG, h]
theorem st_long {v k : Nat} {exp : Int} {es : List Nat} (hc : DCan es) (h0 : nth es 0 ≠ 0) (hv : v = dp k * dval es) (hl : 300 < es.length) : stE v exp = 51 := by
  obtain ⟨h1, h2⟩ := cut_key hc h0 hv
  have hp : v ≠ 0 := by
    intro e
    have h3 := dp_pos k
    have h4 : dval es ≠ 0 := fun e2 => by
      have := hc.dval_zero e2
      rw [this, nth_nil] at h0
      exact h0 rfl
    rw [e] at hv
    have := Nat.mul_pos h3 (Nat.pos_of_ne_zero h4)
    omega
  unfold stE cf
  rw [if_neg hp, h1, h2, if_pos hl]
theorem st_out {v k : Nat} {exp : Int} {es : List Nat} (hc : DCan es) (h0 : nth es 0 ≠ 0) (hv : v = dp k * dval es) (hl : es.length ≤ 300) (hx : ¬ (-1000 ≤ exp + (k : Int) ∧ exp + (k : Int) ≤ 1000)) : stE v exp = 52 := by
  obtain ⟨h1, h2⟩ := cut_key hc h0 hv
  have hp : v ≠ 0 := by
    intro e
    have h3 := dp_pos k
    have h4 : dval es ≠ 0 := fun e2 => by
      have := hc.dval_zero e2
      rw [this, nth_nil] at h0
      exact h0 rfl
    rw [e] at hv
    have := Nat.mul_pos h3 (Nat.pos_of_ne_zero h4)
    omega
  unfold stE cf
  rw [if_neg hp, h1, h2, if_neg (by omega), if_neg hx]
theorem st_ok {v k : Nat} {exp : Int} {es : List Nat} (neg : Bool) (hc : DCan es) (h0 : nth es 0 ≠ 0) (hv : v = dp k * dval es) (hl : es.length ≤ 300) (hx : -1000 ≤ exp + (k : Int) ∧ exp + (k : Int) ≤ 1000) :
    stE v exp = 0 ∧ stN neg v exp = neg ∧ stX v exp = exp + (k : Int) ∧ stZ v exp = lim (dval es) := by
  obtain ⟨h1, h2⟩ := cut_key hc h0 hv
  have hp : v ≠ 0 := by
    intro e
    have h3 := dp_pos k
    have h4 : dval es ≠ 0 := fun e2 => by
      have := hc.dval_zero e2
      rw [this, nth_nil] at h0
      exact h0 rfl
    rw [e] at hv
    have := Nat.mul_pos h3 (Nat.pos_of_ne_zero h4)
    omega
  have e : stE v exp = 0 := by unfold stE cf; rw [if_neg hp, h1, h2, if_neg (by omega), if_pos hx]
  have g : stG v exp = true := by unfold stG; rw [decide_eq_true hp, decide_eq_true e]; rfl
  refine ⟨e, if_pos g, ?_, ?_⟩
  · unfold stX; rw [if_pos g, h1]
  · unfold stZ cf; rw [if_pos g, h1, h2]

/-! Texts. -/
theorem tl_congr {xs ys : List Nat} : ∀ k, (∀ j, j < k → nth xs j = nth ys j) → tl xs k = tl ys k
  | 0, _ => rfl
  | k + 1, h => by unfold tl; rw [h k (by omega), tl_congr k (fun j hj => h j (by omega))]
theorem trimmed_snoc_zero (xs : List Nat) : trimmed (xs ++ [0]) = trimmed xs := by
  unfold trimmed
  have e : tl (xs ++ [0]) (xs ++ [0]).length = tl xs xs.length := by
    rw [List.length_append, List.length_singleton, tl_step (by rw [nth_append_right (Nat.le_refl _), Nat.sub_self, nth_cons_zero])]
    exact tl_congr _ (fun j hj => nth_append_left hj)
  rw [e, List.take_append_of_le_length (tl_le _ _)]
theorem trimmed_snoc_ne (xs : List Nat) {y : Nat} (h : y ≠ 0) : trimmed (xs ++ [y]) = xs ++ [y] := by
  unfold trimmed
  have e : tl (xs ++ [y]) (xs ++ [y]).length = xs.length + 1 := by
    rw [List.length_append, List.length_singleton, tl_stop (by rw [nth_append_right (Nat.le_refl _), Nat.sub_self, nth_cons_zero]; exact h)]
  rw [e, List.take_of_length_le (by simp)]
theorem lows_cons (c : Nat) (r : List Nat) : lows (c :: r) = lows r ++ [c - 48] := by unfold lows; rw [List.map_cons, List.reverse_cons]
theorem lows_length (xs : List Nat) : (lows xs).length = xs.length := by simp [lows]
theorem lows_left {l : List Nat} (h : allDig l = true) : lows (l.dropWhile (· == 48)) = trimmed (lows l) ∧ allDig (l.dropWhile (· == 48)) = true := by
  induction l with
  | nil => exact ⟨rfl, rfl⟩
  | cons c r ih =>
    have h2 := h
    unfold allDig at h2
    rw [List.all_cons, Bool.and_eq_true] at h2
    have hd : 48 ≤ c ∧ c ≤ 57 := by have := h2.1; unfold isDig at this; exact of_decide_eq_true this
    by_cases hc : c = 48
    · rw [List.dropWhile_cons_of_pos (by simp [hc]), lows_cons, hc, show 48 - 48 = 0 from rfl, trimmed_snoc_zero]
      exact ih h2.2
    · rw [List.dropWhile_cons_of_neg (by simp [hc]), lows_cons, trimmed_snoc_ne _ (by omega)]
      exact ⟨rfl, h⟩
theorem dropWhile_lz (ds : List Nat) : ds.dropWhile (· == 0) = ds.drop (lz ds) := by
  induction ds with
  | nil => rfl
  | cons x r ih =>
    unfold lz
    by_cases h : x = 0
    · rw [if_pos h, List.dropWhile_cons_of_pos (by simp [h]), ih, List.drop_succ_cons]
    · rw [if_neg h, List.dropWhile_cons_of_neg (by simp [h]), List.drop_zero]
theorem allDig_rev {l : List Nat} (h : allDig l = true) : allDig l.reverse = true := by unfold allDig at h ⊢; rw [List.all_reverse]; exact h
theorem allDig_suffix {l : List Nat} (h : allDig l = true) (p : Nat → Bool) : allDig (l.dropWhile p) = true := by
  unfold allDig at h ⊢
  rw [List.all_eq_true] at h ⊢
  intro x hx
  exact h x ((List.dropWhile_suffix p).subset hx)
theorem map_dropWhile {l : List Nat} (h : allDig l = true) : (l.dropWhile (· == 48)).map (· - 48) = (l.map (· - 48)).dropWhile (· == 0) := by
  induction l with
  | nil => rfl
  | cons c r ih =>
    have h2 := h
    unfold allDig at h2
    rw [List.all_cons, Bool.and_eq_true] at h2
    have hd : 48 ≤ c ∧ c ≤ 57 := by have := h2.1; unfold isDig at this; exact of_decide_eq_true this
    by_cases hc : c = 48
    · rw [List.dropWhile_cons_of_pos (by simp [hc]), List.map_cons, List.dropWhile_cons_of_pos (by simp [hc])]
      exact ih h2.2
    · rw [List.dropWhile_cons_of_neg (by simp [hc]), List.map_cons, List.dropWhile_cons_of_neg (by simp; omega)]
theorem lows_right {l : List Nat} (h : allDig l = true) : lows ((l.reverse.dropWhile (· == 48)).reverse) = (lows l).drop (lz (lows l)) ∧ allDig ((l.reverse.dropWhile (· == 48)).reverse) = true := by
  refine ⟨?_, allDig_rev (allDig_suffix (allDig_rev h) _)⟩
  unfold lows
  rw [List.map_reverse, List.reverse_reverse, map_dropWhile (allDig_rev h), List.map_reverse, dropWhile_lz]
end Go.Proofs.YtpmdcahomkdfmaaGreatDoor

namespace Go.Proofs.YtpmdcahomkdfmaaGreatDoor
open Go.RowKit

theorem held {w w' : World} {B b : Nat} (hb : Below B w w') (hB : b < B) {vs : Array Value} {t : TypeId} (h : w.heap[b]? = some (.cells vs t)) : w'.heap[b]? = some (.cells vs t) := (hb.block b hB).trans h
theorem cell_of {w : World} {b k : Nat} {vs : Array Value} {t : TypeId} {v : Value} (h : w.heap[b]? = some (.cells vs t)) (hk : vs[k]? = some v) : w.cell? ⟨b, k, none⟩ = some v := by simp [World.cell?, h, hk]
theorem frozen_of {w : World} {b : Nat} {vs : Array Value} {t : TypeId} (k : Nat) (h : w.heap[b]? = some (.cells vs t)) : w.frozen? ⟨b, k, none⟩ = false := by simp [World.frozen?, h]
theorem two_new (w : World) (o1 o2 : Obj) : ((w.alloc o1).alloc o2).heap[w.heap.size]? = some o1 ∧ ((w.alloc o1).alloc o2).heap[w.heap.size + 1]? = some o2 := by
  refine ⟨(Below.heap_alloc _ _ _ (by simp)).trans (World.alloc_heap_new w o1), ?_⟩
  have := World.alloc_heap_new (w.alloc o1) o2
  rwa [World.size_alloc] at this
theorem toList_len (t : ByteArray) : t.toList.length = t.size := by
  rw [ByteArray.toList_eq]; exact Array.length_toList
theorem Res.setOther {w : World} {base n c : Nat} {A : Option Addr} {zs : List Nat} (h : Res w base A n c zs) {p : Addr} (hp : p.block < base) (u : Value) : Res (w.setCell p u) base A n c zs :=
  h.keep fun g e => by
    rcases h.form with ⟨h1, _⟩ | ⟨g', h1, h2, _⟩
    · rw [h1] at e; cases e
    · rw [h1] at e; injection e with e; injection e with e
      exact Below.heap_setCell _ _ _ _ (by omega)
theorem octs_list (l : List UInt8) : octs ⟨l.toArray⟩ = l.map (·.toNat) := rfl
theorem map_dw (l : List UInt8) (p : UInt8 → Bool) (q : Nat → Bool) (h : ∀ x, p x = q x.toNat) : (l.dropWhile p).map (·.toNat) = (l.map (·.toNat)).dropWhile q := by
  induction l with
  | nil => rfl
  | cons x r ih =>
    by_cases hp : p x = true
    · rw [List.dropWhile_cons_of_pos hp, List.map_cons, List.dropWhile_cons_of_pos (by rw [← h]; exact hp)]; exact ih
    · rw [List.dropWhile_cons_of_neg hp, List.map_cons, List.dropWhile_cons_of_neg (by rw [← h]; exact hp)]
theorem eq48 (x : UInt8) : (x == 48) = (x.toNat == 48) := by
  by_cases h : x = 48
  · rw [h]; rfl
  · have : x.toNat ≠ 48 := fun e => h (UInt8.toNat_inj.1 e)
    rw [beq_eq_false_iff_ne.2 h, beq_eq_false_iff_ne.2 this]
theorem octs_trimRight (s : ByteArray) : octs ⟨(Lib.trimRightB s.data.toList 48).toArray⟩ = ((octs s).reverse.dropWhile (· == 48)).reverse := by
  rw [octs_list]
  unfold Lib.trimRightB octs
  rw [List.map_reverse, map_dw _ _ (· == 48) eq48, List.map_reverse]
theorem octs_trimLeft (s : ByteArray) : octs ⟨(Lib.trimLeftB s.data.toList 48).toArray⟩ = (octs s).dropWhile (· == 48) := by
  rw [octs_list]
  unfold Lib.trimLeftB octs
  rw [map_dw _ _ (· == 48) eq48]

/-- TrimRight of 0: what is left, told by digits. -/
theorem TrimRight0_c (s : ByteArray) (w : World) (hs : s.size ≤ 9223372036854775807) (hd : allDig (octs s) = true) :
    Calls Tryz.prog 104 #[.string s, .string ⟨#[48]⟩] w fun e w' => ∃ t, e = .returned (.string t) ∧ lows (octs t) = (lows (octs s)).drop (lz (lows (octs s))) ∧ allDig (octs t) = true ∧ w' = w := by
  refine (Tryz.strings_TrimRight_one s 48 (by decide) w hs).mono ?_
  rintro e w' ⟨rfl, rfl⟩
  refine ⟨_, rfl, ?_, ?_, rfl⟩
  · rw [octs_trimRight]; exact (lows_right hd).1
  · rw [octs_trimRight]; exact (lows_right hd).2
theorem TrimLeft0_c (s : ByteArray) (w : World) (hd : allDig (octs s) = true) :
    Calls Tryz.prog 105 #[.string s, .string ⟨#[48]⟩] w fun e w' => ∃ t, e = .returned (.string t) ∧ lows (octs t) = trimmed (lows (octs s)) ∧ allDig (octs t) = true ∧ w' = w := by
  refine (Tryz.strings_TrimLeft_one s 48 (by decide) w).mono ?_
  rintro e w' ⟨rfl, rfl⟩
  refine ⟨_, rfl, ?_, ?_, rfl⟩
  · rw [octs_trimLeft]; exact (lows_left hd).1
  · rw [octs_trimLeft]; exact (lows_left hd).2

/-- A decimal on its way. -/
def rv (neg : Bool) (A : Option Addr) (n c : Nat) (exp : Int) (s : ByteArray) : Value := .agg #[.bool neg, .slice A n c, .int .i64 exp, .string s]

set_option maxRecDepth 100000 in
theorem settle_c (neg : Bool) (A0 : Option Addr) (n0 c0 : Nat) (exp : Int) (s : ByteArray) (w : World) (hs : s.size ≤ 100000) (hd : allDig (octs s) = true) (he : -100000000 ≤ exp ∧ exp ≤ 100000000) :
    Calls Tryz.prog 77 #[rv neg A0 n0 c0 exp s] w fun e w' => ∃ A n c, e = .returned (.tuple #[dv (stN neg (pnum (octs s)) exp) A n c (stX (pnum (octs s)) exp), .int .i64 (stE (pnum (octs s)) exp : Int)]) ∧
      Res w' w.heap.size A n c (stZ (pnum (octs s)) exp) ∧ Below w.heap.size w w' := by
  obtain ⟨hx1, hx2⟩ := he
  have HDG := Lib.hid hd
  clear hd
  unfold rv dv
  obtain ⟨b1, hb1⟩ : ∃ b1, b1 = w.heap.size := ⟨_, rfl⟩
  go_enter Tryz.func77, Tryz.ntmps77
  go_wp2_with fail
  refine (TrimRight0_c s _ (by omega) HDG.out).mono ?_
  rintro e w1 ⟨t1, rfl, ht1, hg1, rfl⟩
  have hl1 : t1.size = s.size - lz (lows (octs s)) := by
    have := congrArg List.length ht1
    rw [lows_length, octs_length, List.length_drop, lows_length, octs_length] at this
    exact this
  have hlz : lz (lows (octs s)) ≤ s.size := by have := lz_le (lows (octs s)); rwa [lows_length, octs_length] at this
  obtain ⟨k, hk⟩ : ∃ k, k = lz (lows (octs s)) := ⟨_, rfl⟩
  rw [← hk] at hl1 hlz ht1
  have hki : (s.size : Int) - (t1.size : Int) = (k : Int) := by omega
  have HT1 := Lib.hid ht1
  have HG1 := Lib.hid hg1
  have HK := Lib.hid hk
  have ht1b : t1.size ≤ 100000 := by omega
  have HL1 := Lib.hid hl1
  clear ht1 hg1 hk hb1 b1 hl1
  go_wp2_with fail
  refine (TrimLeft0_c t1 _ HG1.out).mono ?_
  rintro e w2 ⟨t2, rfl, ht2, hg2, rfl⟩
  have HT2 := Lib.hid ht2
  have HG2 := Lib.hid hg2
  clear ht2 hg2
  have hcan : DCan (lows (octs t2)) := by
    rw [HT2.out, HT1.out]
    exact trimmed_dcan ((digs_of HDG.out).drop k)
  have hval : pnum (octs s) = dp k * dval (lows (octs t2)) := by
    rw [← dval_pnum, HT2.out, trimmed_dval, HT1.out]
    have := lz_drop (lows (octs s))
    rw [← HK.out] at this
    exact this
  have hlen2 : (lows (octs t2)).length = t2.size := by rw [lows_length, octs_length]
  have HC := Lib.hid hcan
  have HV := Lib.hid hval
  have HL2 := Lib.hid hlen2
  have hbel : ∀ (u : Value) (o : Obj), Below w.heap.size w ((w.alloc (.cells #[.bool neg, .slice A0 n0 c0, u, .string s] 110)).alloc o) := fun u o => ((Below.refl _ w).alloc (Nat.le_refl _) _).alloc (by simp) _
  by_cases h0 : t2.size = 0
  · have hes : lows (octs t2) = [] := List.eq_nil_of_length_eq_zero (by omega)
    have hv0 : Hid (pnum (octs s) = 0) := by show _ = _; rw [hval, hes]; simp [dval]
    obtain rfl : t2 = ⟨#[]⟩ := by
      have e : t2.data.size = 0 := h0
      obtain ⟨d⟩ := t2
      congr 1
      exact Array.eq_empty_of_size_eq_zero e
    clear hcan hval hlen2 hes h0
    go_wp2
    refine bodyPost_ret (v := .tuple #[dv false none 0 0 0, .int .i64 0]) (by simp [results, Tryz.results77, go_sem, dv]) rfl ?_
    obtain ⟨z1, z2, z3, z4⟩ := st_zero neg exp
    rw [hv0.out, z1, z2, z3, z4]
    exact ⟨none, 0, 0, rfl, Res.nil _ _, hbel _ _⟩
  · have h0p : 0 < t2.size := by omega
    have hne : t2.toList ≠ [] := by
      intro e
      have h9 := toList_len t2
      rw [e] at h9
      simp at h9
      omega
    have hvp : 0 < dval (lows (octs t2)) := by
      rcases Nat.eq_zero_or_pos (dval (lows (octs t2))) with h | h
      · have := hcan.dval_zero h
        rw [this] at hlen2
        simp at hlen2
        omega
      · exact h
    have hhead : Hid (nth (lows (octs t2)) 0 ≠ 0) := by
      have h1 := lz_head (lows (octs s)) (by rw [show dval (lows (octs s)) = pnum (octs s) from dval_pnum _, hval]; exact Nat.mul_pos (dp_pos k) hvp)
      rw [← HK.out] at h1
      intro e
      have h2 : dval (lows (octs t2)) = dval ((lows (octs s)).drop k) := by rw [HT2.out, trimmed_dval, HT1.out]
      have h3 : ∀ zs : List Nat, D10 zs → dval zs % 10 = nth zs 0 := fun zs hz => by
        cases zs with
        | nil => rfl
        | cons z r => rw [dval_cons, nth_cons_zero]; have := (D10.cons.1 hz).1; omega
      have h4 := h3 _ hcan.1
      have h5 := h3 _ ((digs_of HDG.out).drop k)
      rw [h2, e] at h4
      exact h1 (h5.symm.trans h4)
    have HNE := Lib.hid hne
    have hneb : (t2.toList == []) = false := by rw [beq_eq_false_iff_ne]; exact hne
    clear hcan hval hlen2 h0 hne hvp
    by_cases hbig : 300 < t2.size
    · have hE : Hid (stE (pnum (octs s)) exp = 51) := st_long HC.out hhead.out HV.out (by rw [HL2.out]; exact hbig)
      go_wp2
      refine bodyPost_ret (v := .tuple #[dv false none 0 0 0, .int .i64 51]) (by simp [results, Tryz.results77, go_sem, dv]) rfl ?_
      obtain ⟨z2, z3, z4⟩ := st_bad neg (show stE (pnum (octs s)) exp ≠ 0 by rw [hE.out]; omega)
      rw [hE.out, z2, z3, z4]
      exact ⟨none, 0, 0, rfl, Res.nil _ _, hbel _ _⟩
    · by_cases hx : -1000 ≤ exp + (k : Int) ∧ exp + (k : Int) ≤ 1000
      · obtain ⟨q1, q2, q3, q4⟩ := st_ok (exp := exp) neg HC.out hhead.out HV.out (by rw [HL2.out]; omega) hx
        have Q1 := Lib.hid q1
        have Q2 := Lib.hid q2
        have Q3 := Lib.hid q3
        have Q4 := Lib.hid q4
        clear q1 q2 q3 q4
        obtain ⟨hxa, hxb⟩ := hx
        go_wp2_with (first
          | (go_at_call 106; refine (mayStand_c _ _).mono ?_; rintro e w' ⟨rfl, rfl⟩)
          | fail)
        obtain ⟨m1, m2⟩ := two_new w (.cells #[.bool neg, .slice A0 n0 c0, .int .i64 (exp + (k : Int)), .string s] 110) (.cells #[.bool false, .slice none 0 0, .int .i64 0] 24)
        refine (Parse_c t2 _ (by omega)).mono ?_
        rintro e w3 ⟨A3, n3, c3, rfl, hr3, hb3⟩
        have m3 := held hb3 (by simp; omega) m1
        have m4 := held hb3 (by simp) m2
        have hz0 : w3.cell? ⟨w.heap.size, 0, none⟩ = some (.bool neg) := cell_of m3 rfl
        have hz1 : w3.cell? ⟨w.heap.size, 1, none⟩ = some (.slice A0 n0 c0) := cell_of m3 rfl
        have hz2 : w3.cell? ⟨w.heap.size, 2, none⟩ = some (.int .i64 (exp + (k : Int))) := cell_of m3 rfl
        have hz3 := frozen_of 1 m3
        have hy0 : w3.cell? ⟨w.heap.size + 1, 0, none⟩ = some (.bool false) := cell_of m4 rfl
        have hy1 : w3.cell? ⟨w.heap.size + 1, 1, none⟩ = some (.slice none 0 0) := cell_of m4 rfl
        have hy2 : w3.cell? ⟨w.heap.size + 1, 2, none⟩ = some (.int .i64 0) := cell_of m4 rfl
        have hf0 := frozen_of 0 m4
        have hf1 := frozen_of 1 m4
        have hf2 := frozen_of 2 m4
        clear m1 m2 m3 m4
        go_wp2
        refine bodyPost_ret (v := .tuple #[dv neg A3 n3 c3 (exp + (k : Int)), .int .i64 0]) (by simp [results, Tryz.results77, go_sem, dv, hy0, hy1, hy2]) rfl ?_
        have hp := (parseE_ok (xs := octs t2) (by rw [octs_length]; exact h0p) (by rw [octs_length]; omega) HG2.out).2
        rw [hp, show pnum (octs t2) = dval (lows (octs t2)) from (dval_pnum _).symm] at hr3
        rw [Q1.out, Q2.out, Q3.out, Q4.out]
        have hsz : w.heap.size ≤ ((w.alloc (.cells #[.bool neg, .slice A0 n0 c0, .int .i64 (exp + (k : Int)), .string s] 110)).alloc (.cells #[.bool false, .slice none 0 0, .int .i64 0] 24)).heap.size := by simp; omega
        refine ⟨A3, n3, c3, rfl, ((((hr3.setOther (by simp; omega) _).setOther (by simp) _).setOther (by simp) _).setOther (by simp) _).more hsz, ?_⟩
        exact (((((hbel _ _).trans (hb3.mono hsz)).setCell (p := ⟨w.heap.size, 1, none⟩) (Nat.le_refl _) _).setCell (p := ⟨w.heap.size + 1, 0, none⟩) (by simp) _).setCell (p := ⟨w.heap.size + 1, 1, none⟩) (by simp) _).setCell (p := ⟨w.heap.size + 1, 2, none⟩) (by simp) _
      · have hE : Hid (stE (pnum (octs s)) exp = 52) := st_out HC.out hhead.out HV.out (by rw [HL2.out]; omega) hx
        have hxb : (decide (-1000 ≤ exp + (k : Int)) && decide (exp + (k : Int) ≤ 1000)) = false := by
          rw [Bool.and_eq_false_iff, decide_eq_false_iff_not, decide_eq_false_iff_not]
          omega
        go_wp2_with (first
          | (go_at_call 106; refine (mayStand_c _ _).mono ?_; rw [hxb]; rintro e w' ⟨rfl, rfl⟩)
          | fail)
        refine bodyPost_ret (v := .tuple #[dv false none 0 0 0, .int .i64 52]) (by simp [results, Tryz.results77, go_sem, dv]) rfl ?_
        obtain ⟨z2, z3, z4⟩ := st_bad neg (show stE (pnum (octs s)) exp ≠ 0 by rw [hE.out]; omega)
        rw [hE.out, z2, z3, z4]
        exact ⟨none, 0, 0, rfl, Res.nil _ _, hbel _ _⟩
end Go.Proofs.YtpmdcahomkdfmaaGreatDoor
