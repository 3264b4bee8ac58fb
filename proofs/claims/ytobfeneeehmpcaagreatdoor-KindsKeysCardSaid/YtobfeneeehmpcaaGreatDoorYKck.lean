/-
  Contract of dec.Whole.
  Contracts of the reference's number and Whole.
  Contracts of dec's Settle and Int.
  What the walks of several laws share: words and lemmas (Dintb).
  Contract of the reference's Int.
  Contract of kinds.check: the first value's error that has one.
-/
import Derived.Test.YtobfeneeehmpcaaGreatDoorYVcm
import Derived.Test.YtobfeneeehmpcaaGreatDoorYVord
import Derived.Test.YtobfeneeehmpcaaGreatDoorYDintc
import Derived.Test.YtobfeneeehmpcaaGreatDoorYOal
import Derived.PlainAid
import Derived.Test.YtobfeneeehmpcaaGreatDoorYVcpy
import Derived.Test.YtobfeneeehmpcaaGreatDoorYRgap
import Derived.Test.YtobfeneeehmpcaaGreatDoorYVchk
import Derived.Test.YtobfeneeehmpcaaGreatDoorYVsame
import Derived.Test.YtobfeneeehmpcaaGreatDoorYLlo
import Derived.Laws.EntriesVeiled
import Derived.Test.YtobfeneeehmpcaaGreatDoorYQcall
import Derived.Test.YtobfeneeehmpcaaGreatDoorYArgs
set_option linter.unusedVariables false
set_option linter.unusedSimpArgs false
namespace Go.Proofs.YtobfeneeehmpcaaGreatDoor
open Go.RowKit

theorem i64_or_nat (a b : Nat) (ha : a < 9223372036854775808) (hb : b < 9223372036854775808) : bits .or .i64 (a : Int) (b : Int) = ((a ||| b : Nat) : Int) := by
  have hx : a ||| b < 2 ^ 63 := Nat.or_lt_two_pow (by omega) (by omega)
  show IntKind.i64.wrap ((BitVec.ofInt 64 (a : Int) ||| BitVec.ofInt 64 (b : Int)).toNat : Int) = _
  rw [BitVec.toNat_or, ofInt_u64 a (by omega), ofInt_u64 b (by omega), IntWalk.i64_in _ (by omega)]
theorem val_two {zs : List Nat} (h : zs.length ≤ 2) : val zs = nth zs 0 + 4294967296 * nth zs 1 := by
  match zs, h with
  | [], _ => rfl
  | [a], _ => simp [val, nth]
  | [a, b], _ => simp [val, nth]
theorem lim_two {v : Nat} (h : v ≤ 9007199254740992) : (lim v).length ≤ 2 := by
  rcases Nat.lt_or_ge 2 (lim v).length with h1 | h1
  · exfalso
    have h2 := (lim_can v).ge (by intro e; rw [e] at h1; simp at h1)
    rw [lim_val] at h2
    have h3 : bp 2 ≤ bp ((lim v).length - 1) := by unfold bp; exact Nat.pow_le_pow_right (by omega) (by omega)
    have h4 : bp 2 = 18446744073709551616 := by decide
    omega
  · exact h1

set_option maxRecDepth 100000 in
set_option maxHeartbeats 2000000 in
theorem DWhole_ok {S : Nat → Prop} {c p : Nat} {n : Nat} {A : Option Addr} {xs : List Nat} (neg : Bool) (w : World) (ha : Rd w S A n xs) (hS : ∀ b, S b → b < w.heap.size) (hn : n ≤ 9223372036854775807) (hok : okB neg xs (p : Int) = true) (hV : val xs * 10 ^ p ≤ 9007199254740992) :
    Calls Tryz.prog 31 #[dv neg A n c (p : Int)] w fun e w' => e = .returned (.tuple #[.int .i64 (sg neg (val xs * 10 ^ p)), .bool true, .int .i64 0]) ∧ Below w.heap.size w w' := by
  obtain ⟨a1, a2, a3, ⟨x1, x2⟩, _, _⟩ := okB_true ha.l32 hok
  have hn2 : n ≤ 256 := by rw [← ha.len]; exact a2
  have hp : p ≤ 1000 := by omega
  have hwide : val xs * 10 ^ p < 10 ^ 2300 := wide_lt a3 (by omega)
  obtain ⟨V, hVV⟩ : ∃ V, V = val xs * 10 ^ p := ⟨_, rfl⟩
  have hcheck : okE neg xs (p : Int) = 0 := by unfold okE; rw [if_pos hok]
  have hb0 : Below w.heap.size w (w.alloc (.cells #[.bool neg, .slice A n c, .int .i64 (p : Int)] 24)) := (Below.refl _ _).alloc (Nat.le_refl _) _
  have m0 := World.alloc_heap_new w (.cells #[.bool neg, .slice A n c, .int .i64 (p : Int)] 24)
  have hsz : (w.alloc (.cells #[.bool neg, .slice A n c, .int .i64 (p : Int)] 24)).heap.size = w.heap.size + 1 := by simp
  have hC := DCheck_c (c := c) neg (p : Int) (w.alloc (.cells #[.bool neg, .slice A n c, .int .i64 (p : Int)] 24)) (ha.below hb0 hS) (fun b h => by have := hS b h; simp; omega) hn
  rw [hcheck] at hC
  have hl2 : (lim V).length ≤ 2 := lim_two (by omega)
  have hvt := val_two hl2
  rw [lim_val] at hvt
  have hYb : (9007199254740992 : Nat) < bp 256 := lt_bp (m := 20) (v := 9007199254740992) (p := 40) (by decide) (by omega) (by omega)
  have hcm : cmpN V 9007199254740992 ≤ 0 := by unfold cmpN; split <;> (try split) <;> omega
  rw [← hVV] at hV ⊢
  unfold dv at hC ⊢
  have HC := Lib.hid hC
  have HW := Lib.hid hwide
  have HVV := Lib.hid hVV
  have HM0 := Lib.hid m0
  have HVT := Lib.hid hvt
  have HYB := Lib.hid hYb
  have HL2 := Lib.hid hl2
  clear hC hwide hVV m0 hok hcheck a3 hvt hYb hl2
  go_enter Tryz.func31, Tryz.ntmps31
  go_wp2_with fail
  have m0 := HM0.out
  clear HM0
  refine HC.out.mono ?_
  rintro e w1 ⟨rfl, hb1⟩
  have m1 := held hb1 (by omega) m0
  have hw1 := hb0.trans (hb1.mono (by omega))
  obtain ⟨p0, p1, p2⟩ := box3_of m1
  go_wp2_with fail
  refine (widen_c (c := c) p w1 (ha.below hw1 hS) (fun b h => by have := hS b h; have := hw1.size; omega) a1 hn2 HW.out (by omega)).mono ?_
  rintro e w2 ⟨A2, n2, c2, rfl, hr2, hb2⟩
  rw [← HVV.out] at hr2
  have m2 := held hb2 (by have := hb1.size; omega) m1
  have hw2 := hw1.trans (hb2.mono hw1.size)
  have hn2l := hr2.len
  clear p0 p1 p2
  go_wp2_with fail
  refine (From_c 9007199254740992 w2 (by omega)).mono ?_
  rintro e w3 ⟨A3, n3, c3, zs, rfl, hr3, hc3, hv3, hb3⟩
  have hzs : zs = lim 9007199254740992 := (eq_lim hc3).trans (congrArg lim hv3)
  rw [hzs] at hr3
  have m3 := held hb3 (by have := hb1.size; have := hb2.size; omega) m2
  have hw3 := hw2.trans (hb3.mono hw2.size)
  have hr2b := hr2.below hb3 (Nat.le_refl _)
  clear hzs hv3 hc3
  go_wp2_with fail
  refine (CompareL_c w3 hr2b.rd hr3.rd (by have := HYB.out; omega) HYB.out).mono ?_
  rintro e w4 ⟨rfl, q, rfl⟩
  obtain ⟨p0, p1, p2⟩ := box3_of m3
  have q0 : (w3.drewN q).cell? ⟨w.heap.size, 0, none⟩ = some (.bool neg) := p0
  clear p1 p2
  obtain ⟨x0, hx0⟩ : ∃ x, x = nth (lim V) 0 := ⟨_, rfl⟩
  obtain ⟨x1, hx1⟩ : ∃ x, x = nth (lim V) 1 := ⟨_, rfl⟩
  have hl0 := hr2b.rd.lt 0
  have hl1 := hr2b.rd.lt 1
  have hVT := HVT.out
  rw [← hx0] at hl0 hVT
  rw [← hx1] at hl1 hVT
  have hone : n2 = 1 → V = x0 := fun h => by
    have : x1 = 0 := by rw [hx1]; exact nth_none (by omega)
    omega
  have hzero : n2 = 0 → V = 0 := fun h => by
    have h0 : x0 = 0 := by rw [hx0]; exact nth_none (by omega)
    have h1 : x1 = 0 := by rw [hx1]; exact nth_none (by omega)
    omega
  have hn22 : n2 ≤ 2 := by have := HL2.out; omega
  have HX0 := Lib.hid hx0
  have HX1 := Lib.hid hx1
  have HVT2 := Lib.hid hVT
  have HONE := Lib.hid hone
  have HZERO := Lib.hid hzero
  have HN2L := Lib.hid hn2l
  clear hx0 hx1 hVT hone hzero hn2l
  go_wp2
  go_loop [9, 35] (fun sv iv => ∃ k : Nat, k ≤ n2 ∧ iv = .int .i64 (k : Int) ∧ sv = .int .i64 ((if k = 0 then 0 else if k = 1 then x0 else V : Nat) : Int)) (fun _ iv => n2 - (RowKit.intOf iv).toNat)
  case atStart => exact ⟨0, Nat.zero_le _, rfl, rfl⟩
  case round =>
    obtain ⟨k, hk, rfl, rfl⟩ := hrel
    by_cases hkn : k < n2
    · obtain ⟨b, off, hA, hb, hcell⟩ := (hr2b.rd.drewN q).at_ hkn
      subst hA
      have hk01 : k = 0 ∨ k = 1 := by omega
      rcases hk01 with rfl | rfl
      · rw [← HX0.out, Nat.add_zero] at hcell
        rw [if_pos rfl]
        have hor : bits .or .i64 0 (x0 : Int) = (x0 : Int) := by
          have := i64_or_nat 0 x0 (by omega) (by omega)
          rw [Nat.zero_or] at this
          exact this
        go_wp2
        exact ⟨⟨1, by omega, rfl, by simp⟩, by simp [RowKit.intOf]; omega⟩
      · rw [← HX1.out] at hcell
        rw [if_neg (by omega), if_pos rfl]
        have hx1b : x1 ≤ 2097152 := by have := HVT2.out; omega
        have hor : bits .or .i64 (x0 : Int) ((x1 : Int) * 4294967296) = (V : Int) := by
          have h1 := i64_or_nat x0 (x1 * 4294967296) (by omega) (by omega)
          have h2 := Nat.two_pow_add_eq_or_of_lt (i := 32) (b := x0) (by omega) x1
          rw [show (2 : Nat) ^ 32 = 4294967296 from rfl] at h2
          rw [Nat.or_comm, Nat.mul_comm, ← h2] at h1
          have h3 : ((x1 * 4294967296 : Nat) : Int) = (x1 : Int) * 4294967296 := by simp
          rw [Nat.mul_comm, h3] at h1
          have h4 : ((x0 + 4294967296 * x1 : Nat) : Int) = (x0 : Int) + 4294967296 * (x1 : Int) := by simp
          have h5 : (V : Int) = (x0 : Int) + 4294967296 * (x1 : Int) := by rw [← h4]; exact congrArg _ HVT2.out
          have h6 := h1
          simp only [Int.natCast_add, Int.natCast_mul] at h6
          rw [h5, Int.mul_comm 4294967296]
          refine Eq.trans ?_ (Int.add_comm _ _)
          exact h6
        go_wp2
        exact ⟨⟨2, by omega, rfl, by simp⟩, by simp [RowKit.intOf]; omega⟩
    · obtain rfl : k = n2 := by omega
      have hval : (if k = 0 then 0 else if k = 1 then x0 else V) = V := by
        by_cases h0 : k = 0
        · rw [if_pos h0, HZERO.out h0]
        · rw [if_neg h0]
          by_cases h1 : k = 1
          · rw [if_pos h1, ← HONE.out h1]
          · rw [if_neg h1]
      rw [hval]
      clear hval
      cases neg
      · go_wp2
        go_ret3
        exact ⟨rfl, below_drewN hw3 q⟩
      · go_wp2
        go_ret3
        exact ⟨rfl, below_drewN hw3 q⟩

end Go.Proofs.YtobfeneeehmpcaaGreatDoor

namespace Go.Proofs.YtobfeneeehmpcaaGreatDoor
open Go.RowKit Go.Lib

/-- The error of the first value that has one. -/
def errK : List VT → Nat
  | [] => 0
  | x :: r => if errV x = 0 then errK r else errV x
theorem errK_one (x : VT) : errK [x] = errV x := by
  unfold errK errK
  split
  · rename_i h; exact h.symm
  · rfl
set_option maxRecDepth 100000 in
set_option maxHeartbeats 2000000 in
theorem kcheck_c {S : Nat → Prop} {A : Option Addr} {n c : Nat} {l : List VT} (w : World) (hT : Tabs w) (hl : RdL w S A n l) (hS : ∀ b, S b → b < w.heap.size) :
    Calls Tryz.prog 28 #[.slice A n c] w fun e w' => e = .returned (.int .i64 ((errK l : Nat) : Int)) ∧ Below w.heap.size w w' := by
  obtain ⟨R, hR⟩ : ∃ R, errK l = R := ⟨_, rfl⟩
  rw [hR]
  have hd0 : errK (l.drop 0) = R := hR
  have HR := Lib.hid hd0
  have HS := Lib.hid hS
  have HT := Lib.hid hT
  have HRL := Lib.hid hl
  have HNL := Lib.hid hl.1
  have hnb := hl.2.1
  clear hR hl hS hT hd0
  go_enter Tryz.func28, Tryz.ntmps28
  go_upto_region 2 with fail
  go_loopw [8] (fun i wr => ∃ (j : Nat), j ≤ n ∧ i = .int .i64 (j : Int) ∧ Hid (errK (l.drop j) = R) ∧ Below w.heap.size w wr) (fun i _ => n - (RowKit.intOf i).toNat)
  case atStart => exact ⟨0, Nat.zero_le _, rfl, HR, Below.refl _ _⟩
  case round =>
    obtain ⟨j, hjn, rfl, hdj, hbel⟩ := hrel
    by_cases hj : j < n
    · have hjlt : (j : Int) < (n : Int) := by omega
      have hj0 : (0 : Int) ≤ (j : Int) := by omega
      have hjt : ((j : Int)).toNat = j := by omega
      have hjw : IntKind.i64.wrap ((j : Int) + 1) = (j : Int) + 1 := IntWalk.i64_in _ (by omega)
      obtain ⟨b, off, x, cs, rfl, hSb, hx, h7, hcells, hvx⟩ := HRL.out.at_ hj
      obtain ⟨k2, neg2, xs2, e2, t2, li2, ks2, hx2⟩ : ∃ k2 neg2 xs2 e2 t2 li2 ks2, x = VT.mk k2 neg2 xs2 e2 t2 li2 ks2 := by cases x; exact ⟨_, _, _, _, _, _, _, rfl⟩
      have hvx2 := hvx
      rw [hx2] at hvx2
      obtain ⟨A2, n2, c2, LA2, ln2, lc2, KA2, kn2, kc2, rfl, -⟩ := hvx2.parts
      have hcw : ∀ a, a < 7 → wr.cell? ⟨b, off + (j * 7 + a), none⟩ = _ := fun a ha => (hbel.cell (p := ⟨b, off + (j * 7 + a), none⟩) (HS.out _ hSb)).trans (hcells a ha)
      have d0 : wr.cell? ⟨b, off + j * 7, none⟩ = some (.int .i64 k2) := hcw 0 (by omega)
      have d1 : wr.cell? ⟨b, off + j * 7 + 1, none⟩ = some (.bool neg2) := hcw 1 (by omega)
      have d2 : wr.cell? ⟨b, off + j * 7 + 2, none⟩ = some (.slice A2 n2 c2) := hcw 2 (by omega)
      have d3 : wr.cell? ⟨b, off + j * 7 + 3, none⟩ = some (.int .i64 e2) := hcw 3 (by omega)
      have d4 : wr.cell? ⟨b, off + j * 7 + 4, none⟩ = some (.string t2) := hcw 4 (by omega)
      have d5 : wr.cell? ⟨b, off + j * 7 + 5, none⟩ = some (.slice LA2 ln2 lc2) := hcw 5 (by omega)
      have d6 : wr.cell? ⟨b, off + j * 7 + 6, none⟩ = some (.slice KA2 kn2 kc2) := hcw 6 (by omega)
      have hdrj : l.drop j = x :: l.drop (j + 1) := by
        obtain ⟨hjl, e⟩ := List.getElem?_eq_some_iff.1 hx
        rw [← e]
        exact List.drop_eq_getElem_cons hjl
      have hdj2 := hdj.out
      rw [hdrj] at hdj2
      have hdj3 : (if errV x = 0 then errK (l.drop (j + 1)) else errV x) = R := hdj2
      have HDJ := Lib.hid hdj3
      have HX := Lib.hid hx2
      have HVX := Lib.hid hvx
      clear hcw hcells hvx2 hdj2 hdj3 hdrj hdj hx hx2 h7 hvx
      go_upto_region 4 with fail
      have hm1 := World.alloc_heap_new wr (.cells #[.int .i64 k2, .bool neg2, .slice A2 n2 c2, .int .i64 e2, .string t2, .slice LA2 ln2 lc2, .slice KA2 kn2 kc2] 28)
      have hb1 : Below w.heap.size w (wr.alloc (.cells #[.int .i64 k2, .bool neg2, .slice A2 n2 c2, .int .i64 e2, .string t2, .slice LA2 ln2 lc2, .slice KA2 kn2 kc2] 28)) := hbel.alloc hbel.size _
      generalize (wr.alloc (.cells #[.int .i64 k2, .bool neg2, .slice A2 n2 c2, .int .i64 e2, .string t2, .slice LA2 ln2 lc2, .slice KA2 kn2 kc2] 28)) = W1 at *
      obtain ⟨x0, x1, x2, x3, x4, x5, x6⟩ := box7_of hm1
      have HC := VCheck_c W1 (HT.out.below hb1) (HVX.out.keep fun p hp => hb1.cell (HS.out _ hp)) (fun b hb => Nat.lt_of_lt_of_le (HS.out b hb) hb1.size)
      obtain ⟨E, hE⟩ : ∃ E, errV x = E := ⟨_, rfl⟩
      rw [hE] at HC
      have HE := Lib.hid hE
      have HB1 := Lib.hid hb1
      clear hE d0 d1 d2 d3 d4 d5 d6 hm1 hb1 hbel
      by_cases hE0 : E = 0
      · subst hE0
        have HN : Hid (errK (l.drop (j + 1)) = R) := Lib.hid (by have := HDJ.out; rwa [if_pos HE.out] at this)
        go_wp2_with fail
        refine HC.mono ?_
        rintro e' W2 ⟨rfl, hb2⟩
        have hb3 := HB1.out.trans (hb2.mono HB1.out.size)
        clear HC hb2 x0 x1 x2 x3 x4 x5 x6
        go_wp2_with fail
        go_roundw
        case rel => exact ⟨j + 1, by omega, by go_num, HN, hb3⟩
        case measure => simp [RowKit.intOf]; omega
      · have HN : Hid (E = R) := Lib.hid (by have := HDJ.out; rw [HE.out, if_neg hE0] at this; exact this)
        have hE1 : ((E : Int) == 0) = false := by rw [beq_eq_false_iff_ne]; omega
        go_wp2_with fail
        refine HC.mono ?_
        rintro e' W2 ⟨rfl, hb2⟩
        have hb3 := HB1.out.trans (hb2.mono HB1.out.size)
        clear HC hb2 x0 x1 x2 x3 x4 x5 x6
        go_wp2_with fail
        go_ret
        refine ⟨?_, hb3⟩
        rw [← HN.out]; rfl
    · have hnj : ¬ (j : Int) < (n : Int) := by omega
      have HN : Hid (0 = R) := Lib.hid (by
        have := hdj.out
        rw [List.drop_eq_nil_of_le (by rw [HNL.out]; omega)] at this
        exact this)
      clear hdj
      go_wp2_with fail
      go_ret
      refine ⟨?_, hbel⟩
      rw [← HN.out]; rfl
end Go.Proofs.YtobfeneeehmpcaaGreatDoor
