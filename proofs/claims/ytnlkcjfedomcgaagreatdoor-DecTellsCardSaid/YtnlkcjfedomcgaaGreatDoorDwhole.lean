/-
  Contract of dec.Whole.
-/
import Derived.Test.YtnlkcjfedomcgaaGreatDoorDz
set_option linter.unusedVariables false
set_option linter.unusedSimpArgs false
namespace Go.Proofs.YtnlkcjfedomcgaaGreatDoor
open Go.RowKit

/-- Is a decimal of this size and exponent told as an int? -/
def whB (v : Nat) (e : Int) : Bool := decide (0 ≤ e) && decide (v * 10 ^ e.toNat ≤ 9007199254740992)
def whT (neg : Bool) (xs : List Nat) (e : Int) : Bool := okB neg xs e && whB (val xs) e
def whN (neg : Bool) (xs : List Nat) (e : Int) : Int := if whT neg xs e = true then sg neg (val xs * 10 ^ e.toNat) else 0
theorem i64_or_nat (a b : Nat) (ha : a < 9223372036854775808) (hb : b < 9223372036854775808) : bits .or .i64 (a : Int) (b : Int) = ((a ||| b : Nat) : Int) := by
  have hx : a ||| b < 2 ^ 63 := Nat.or_lt_two_pow (by omega) (by omega)
  show IntKind.i64.wrap ((BitVec.ofInt 64 (a : Int) ||| BitVec.ofInt 64 (b : Int)).toNat : Int) = _
  rw [BitVec.toNat_or, ofInt_u64 a (by omega), ofInt_u64 b (by omega), IntWalk.i64_in _ (by omega)]
theorem val_two {zs : List Nat} (h : zs.length ≤ 2) : val zs = nth zs 0 + 4294967296 * nth zs 1 := by
  match zs, h with
  | [], _ => rfl
  | [a], _ => simp [val, nth]
  | [a, b], _ => simp [val, nth]
theorem lim_two {v : Nat} (h : v ≤ 9007199254740992) : (lim v).length ≤ 2 := by
  rcases Nat.lt_or_ge 2 (lim v).length with h1 | h1
  · exfalso
    have h2 := (lim_can v).ge (by intro e; rw [e] at h1; simp at h1)
    rw [lim_val] at h2
    have h3 : bp 2 ≤ bp ((lim v).length - 1) := by unfold bp; exact Nat.pow_le_pow_right (by omega) (by omega)
    have h4 : bp 2 = 18446744073709551616 := by decide
    omega
  · exact h1

set_option maxRecDepth 100000 in
set_option maxHeartbeats 2000000 in
theorem DWhole_ok {S : Nat → Prop} {c p : Nat} {n : Nat} {A : Option Addr} {xs : List Nat} (neg : Bool) (w : World) (ha : Rd w S A n xs) (hS : ∀ b, S b → b < w.heap.size) (hn : n ≤ 9223372036854775807) (hok : okB neg xs (p : Int) = true) (hV : val xs * 10 ^ p ≤ 9007199254740992) :
    Calls Tryz.prog 25 #[dv neg A n c (p : Int)] w fun e w' => e = .returned (.tuple #[.int .i64 (sg neg (val xs * 10 ^ p)), .bool true, .int .i64 0]) ∧ Below w.heap.size w w' := by
  obtain ⟨a1, a2, a3, ⟨x1, x2⟩, _, _⟩ := okB_true ha.l32 hok
  have hn2 : n ≤ 256 := by rw [← ha.len]; exact a2
  have hp : p ≤ 1000 := by omega
  have hwide : val xs * 10 ^ p < 10 ^ 2300 := wide_lt a3 (by omega)
  obtain ⟨V, hVV⟩ : ∃ V, V = val xs * 10 ^ p := ⟨_, rfl⟩
  have hcheck : okE neg xs (p : Int) = 0 := by unfold okE; rw [if_pos hok]
  have hb0 : Below w.heap.size w (w.alloc (.cells #[.bool neg, .slice A n c, .int .i64 (p : Int)] 24)) := (Below.refl _ _).alloc (Nat.le_refl _) _
  have m0 := World.alloc_heap_new w (.cells #[.bool neg, .slice A n c, .int .i64 (p : Int)] 24)
  have hsz : (w.alloc (.cells #[.bool neg, .slice A n c, .int .i64 (p : Int)] 24)).heap.size = w.heap.size + 1 := by simp
  have hC := DCheck_c (c := c) neg (p : Int) (w.alloc (.cells #[.bool neg, .slice A n c, .int .i64 (p : Int)] 24)) (ha.below hb0 hS) (fun b h => by have := hS b h; simp; omega) hn
  rw [hcheck] at hC
  have hl2 : (lim V).length ≤ 2 := lim_two (by omega)
  have hvt := val_two hl2
  rw [lim_val] at hvt
  have hYb : (9007199254740992 : Nat) < bp 256 := lt_bp (m := 20) (v := 9007199254740992) (p := 40) (by decide) (by omega) (by omega)
  have hcm : cmpN V 9007199254740992 ≤ 0 := by unfold cmpN; split <;> (try split) <;> omega
  rw [← hVV] at hV ⊢
  unfold dv at hC ⊢
  have HC := Lib.hid hC
  have HW := Lib.hid hwide
  have HVV := Lib.hid hVV
  have HM0 := Lib.hid m0
  have HVT := Lib.hid hvt
  have HYB := Lib.hid hYb
  have HL2 := Lib.hid hl2
  clear hC hwide hVV m0 hok hcheck a3 hvt hYb hl2
  go_enter Tryz.func25, Tryz.ntmps25
  go_wp2_with fail
  have m0 := HM0.out
  clear HM0
  refine HC.out.mono ?_
  rintro e w1 ⟨rfl, hb1⟩
  have m1 := held hb1 (by omega) m0
  have hw1 := hb0.trans (hb1.mono (by omega))
  obtain ⟨p0, p1, p2⟩ := box3_of m1
  go_wp2_with fail
  refine (widen_c (c := c) p w1 (ha.below hw1 hS) (fun b h => by have := hS b h; have := hw1.size; omega) a1 hn2 HW.out (by omega)).mono ?_
  rintro e w2 ⟨A2, n2, c2, rfl, hr2, hb2⟩
  rw [← HVV.out] at hr2
  have m2 := held hb2 (by have := hb1.size; omega) m1
  have hw2 := hw1.trans (hb2.mono hw1.size)
  have hn2l := hr2.len
  clear p0 p1 p2
  go_wp2_with fail
  refine (From_c 9007199254740992 w2 (by omega)).mono ?_
  rintro e w3 ⟨A3, n3, c3, zs, rfl, hr3, hc3, hv3, hb3⟩
  have hzs : zs = lim 9007199254740992 := (eq_lim hc3).trans (congrArg lim hv3)
  rw [hzs] at hr3
  have m3 := held hb3 (by have := hb1.size; have := hb2.size; omega) m2
  have hw3 := hw2.trans (hb3.mono hw2.size)
  have hr2b := hr2.below hb3 (Nat.le_refl _)
  clear hzs hv3 hc3
  go_wp2_with fail
  refine (CompareL_c w3 hr2b.rd hr3.rd (by have := HYB.out; omega) HYB.out).mono ?_
  rintro e w4 ⟨rfl, q, rfl⟩
  obtain ⟨p0, p1, p2⟩ := box3_of m3
  have q0 : (w3.drewN q).cell? ⟨w.heap.size, 0, none⟩ = some (.bool neg) := p0
  clear p1 p2
  obtain ⟨x0, hx0⟩ : ∃ x, x = nth (lim V) 0 := ⟨_, rfl⟩
  obtain ⟨x1, hx1⟩ : ∃ x, x = nth (lim V) 1 := ⟨_, rfl⟩
  have hl0 := hr2b.rd.lt 0
  have hl1 := hr2b.rd.lt 1
  have hVT := HVT.out
  rw [← hx0] at hl0 hVT
  rw [← hx1] at hl1 hVT
  have hone : n2 = 1 → V = x0 := fun h => by
    have : x1 = 0 := by rw [hx1]; exact nth_none (by omega)
    omega
  have hzero : n2 = 0 → V = 0 := fun h => by
    have h0 : x0 = 0 := by rw [hx0]; exact nth_none (by omega)
    have h1 : x1 = 0 := by rw [hx1]; exact nth_none (by omega)
    omega
  have hn22 : n2 ≤ 2 := by have := HL2.out; omega
  have HX0 := Lib.hid hx0
  have HX1 := Lib.hid hx1
  have HVT2 := Lib.hid hVT
  have HONE := Lib.hid hone
  have HZERO := Lib.hid hzero
  have HN2L := Lib.hid hn2l
  clear hx0 hx1 hVT hone hzero hn2l
  go_wp2
  go_loop [9, 35] (fun sv iv => ∃ k : Nat, k ≤ n2 ∧ iv = .int .i64 (k : Int) ∧ sv = .int .i64 ((if k = 0 then 0 else if k = 1 then x0 else V : Nat) : Int)) (fun _ iv => n2 - (intOf iv).toNat)
  case atStart => exact ⟨0, Nat.zero_le _, rfl, rfl⟩
  case round =>
    obtain ⟨k, hk, rfl, rfl⟩ := hrel
    by_cases hkn : k < n2
    · obtain ⟨b, off, hA, hb, hcell⟩ := (hr2b.rd.drewN q).at_ hkn
      subst hA
      have hk01 : k = 0 ∨ k = 1 := by omega
      rcases hk01 with rfl | rfl
      · rw [← HX0.out, Nat.add_zero] at hcell
        rw [if_pos rfl]
        have hor : bits .or .i64 0 (x0 : Int) = (x0 : Int) := by
          have := i64_or_nat 0 x0 (by omega) (by omega)
          rw [Nat.zero_or] at this
          exact this
        go_wp2
        exact ⟨⟨1, by omega, rfl, by simp⟩, by simp [intOf]; omega⟩
      · rw [← HX1.out] at hcell
        rw [if_neg (by omega), if_pos rfl]
        have hx1b : x1 ≤ 2097152 := by have := HVT2.out; omega
        have hor : bits .or .i64 (x0 : Int) ((x1 : Int) * 4294967296) = (V : Int) := by
          have h1 := i64_or_nat x0 (x1 * 4294967296) (by omega) (by omega)
          have h2 := Nat.two_pow_add_eq_or_of_lt (i := 32) (b := x0) (by omega) x1
          rw [show (2 : Nat) ^ 32 = 4294967296 from rfl] at h2
          rw [Nat.or_comm, Nat.mul_comm, ← h2] at h1
          have h3 : ((x1 * 4294967296 : Nat) : Int) = (x1 : Int) * 4294967296 := by simp
          rw [Nat.mul_comm, h3] at h1
          have h4 : ((x0 + 4294967296 * x1 : Nat) : Int) = (x0 : Int) + 4294967296 * (x1 : Int) := by simp
          have h5 : (V : Int) = (x0 : Int) + 4294967296 * (x1 : Int) := by rw [← h4]; exact congrArg _ HVT2.out
          have h6 := h1
          simp only [Int.natCast_add, Int.natCast_mul] at h6
          rw [h5, Int.mul_comm 4294967296]
          refine Eq.trans ?_ (Int.add_comm _ _)
          exact h6
        go_wp2
        exact ⟨⟨2, by omega, rfl, by simp⟩, by simp [intOf]; omega⟩
    · obtain rfl : k = n2 := by omega
      have hval : (if k = 0 then 0 else if k = 1 then x0 else V) = V := by
        by_cases h0 : k = 0
        · rw [if_pos h0, HZERO.out h0]
        · rw [if_neg h0]
          by_cases h1 : k = 1
          · rw [if_pos h1, ← HONE.out h1]
          · rw [if_neg h1]
      rw [hval]
      clear hval
      cases neg
      · go_wp2
        go_ret3
        exact ⟨rfl, below_drewN hw3 q⟩
      · go_wp2
        go_ret3
        exact ⟨rfl, below_drewN hw3 q⟩

set_option maxRecDepth 100000 in
set_option maxHeartbeats 1000000 in
theorem DWhole_no {S : Nat → Prop} {c n : Nat} {A : Option Addr} {xs : List Nat} (neg : Bool) (exp : Int) (w : World) (ha : Rd w S A n xs) (hS : ∀ b, S b → b < w.heap.size) (hn : n ≤ 9223372036854775807) (hno : whT neg xs exp = false) :
    Calls Tryz.prog 25 #[dv neg A n c exp] w fun e w' => e = .returned (.tuple #[.int .i64 0, .bool false, .int .i64 (okE neg xs exp : Int)]) ∧ Below w.heap.size w w' := by
  have hb0 : Below w.heap.size w (w.alloc (.cells #[.bool neg, .slice A n c, .int .i64 exp] 24)) := (Below.refl _ _).alloc (Nat.le_refl _) _
  have m0 := World.alloc_heap_new w (.cells #[.bool neg, .slice A n c, .int .i64 exp] 24)
  have hsz : (w.alloc (.cells #[.bool neg, .slice A n c, .int .i64 exp] 24)).heap.size = w.heap.size + 1 := by simp
  have hC := DCheck_c (c := c) neg exp (w.alloc (.cells #[.bool neg, .slice A n c, .int .i64 exp] 24)) (ha.below hb0 hS) (fun b h => by have := hS b h; simp; omega) hn
  by_cases hok : okB neg xs exp = true
  · obtain ⟨a1, a2, a3, ⟨x1, x2⟩, _, _⟩ := okB_true ha.l32 hok
    have hcheck : okE neg xs exp = 0 := by unfold okE; rw [if_pos hok]
    have hwb : whB (val xs) exp = false := by unfold whT at hno; rw [hok] at hno; exact hno
    have hn2 : n ≤ 256 := by rw [← ha.len]; exact a2
    rw [hcheck] at hC ⊢
    unfold dv at hC ⊢
    have HC := Lib.hid hC
    have HM0 := Lib.hid m0
    clear hC m0 hcheck hok hno
    by_cases he : exp < 0
    · clear a3 hwb
      go_enter Tryz.func25, Tryz.ntmps25
      go_wp2_with fail
      refine HC.out.mono ?_
      rintro e w1 ⟨rfl, hb1⟩
      have m1 := held hb1 (by omega) HM0.out
      have hw1 := hb0.trans (hb1.mono (by omega))
      obtain ⟨p0, p1, p2⟩ := box3_of m1
      go_wp2
      go_ret3
      exact ⟨rfl, hw1⟩
    · obtain ⟨p, rfl⟩ : ∃ p : Nat, exp = (p : Int) := ⟨exp.toNat, by omega⟩
      have hbig : 9007199254740992 < val xs * 10 ^ p := by
        unfold whB at hwb
        rw [decide_eq_true (show (0 : Int) ≤ (p : Int) by omega), Bool.true_and, decide_eq_false_iff_not, Int.toNat_natCast] at hwb
        omega
      have hwide : val xs * 10 ^ p < 10 ^ 2300 := wide_lt a3 (by omega)
      have hYb : (9007199254740992 : Nat) < bp 256 := lt_bp (m := 20) (v := 9007199254740992) (p := 40) (by decide) (by omega) (by omega)
      have hXb := wide_bp hwide
      obtain ⟨V, hVV⟩ : ∃ V, V = val xs * 10 ^ p := ⟨_, rfl⟩
      rw [← hVV] at hbig hXb
      have hcm : cmpN V 9007199254740992 = 1 := by unfold cmpN; rw [if_neg (by omega), if_pos hbig]
      have HW := Lib.hid hwide
      have HVV := Lib.hid hVV
      have HYB := Lib.hid hYb
      have HXB := Lib.hid hXb
      have HCM := Lib.hid hcm
      clear hwide hVV hYb hXb hbig hcm a3 hwb
      go_enter Tryz.func25, Tryz.ntmps25
      go_wp2_with fail
      have m0 := HM0.out
      clear HM0
      refine HC.out.mono ?_
      rintro e w1 ⟨rfl, hb1⟩
      have m1 := held hb1 (by omega) m0
      have hw1 := hb0.trans (hb1.mono (by omega))
      obtain ⟨p0, p1, p2⟩ := box3_of m1
      go_wp2_with fail
      refine (widen_c (c := c) p w1 (ha.below hw1 hS) (fun b h => by have := hS b h; have := hw1.size; omega) a1 hn2 HW.out (by omega)).mono ?_
      rintro e w2 ⟨A2, n2, c2, rfl, hr2, hb2⟩
      rw [← HVV.out] at hr2
      have hw2 := hw1.trans (hb2.mono hw1.size)
      clear p0 p1 p2
      go_wp2_with fail
      refine (From_c 9007199254740992 w2 (by omega)).mono ?_
      rintro e w3 ⟨A3, n3, c3, zs, rfl, hr3, hc3, hv3, hb3⟩
      have hzs : zs = lim 9007199254740992 := (eq_lim hc3).trans (congrArg lim hv3)
      rw [hzs] at hr3
      have hw3 := hw2.trans (hb3.mono hw2.size)
      have hr2b := hr2.below hb3 (Nat.le_refl _)
      clear hzs hv3 hc3
      go_wp2_with fail
      refine (CompareL_c w3 hr2b.rd hr3.rd HXB.out HYB.out).mono ?_
      rintro e w4 ⟨rfl, q, rfl⟩
      rw [HCM.out]
      go_wp2
      go_ret3
      exact ⟨rfl, below_drewN hw3 q⟩
  · have hcheck : okE neg xs exp = 9 := by unfold okE; rw [if_neg hok]
    rw [hcheck] at hC ⊢
    unfold dv at hC ⊢
    have HC := Lib.hid hC
    clear hC m0 hcheck hok hno
    go_enter Tryz.func25, Tryz.ntmps25
    go_wp2_with fail
    refine HC.out.mono ?_
    rintro e w1 ⟨rfl, hb1⟩
    go_wp2
    go_ret3
    exact ⟨rfl, hb0.trans (hb1.mono (by simp))⟩
end Go.Proofs.YtnlkcjfedomcgaaGreatDoor
