/-
  Contracts of the reference's number and Whole.
-/
import Derived.Test.YtnlkcjfedomcgaaGreatDoorDrmul
import Derived.Test.YtnlkcjfedomcgaaGreatDoorDwhole
set_option linter.unusedVariables false
set_option linter.unusedSimpArgs false
namespace Go.Proofs.YtnlkcjfedomcgaaGreatDoor
open Go.RowKit

set_option maxRecDepth 100000 in
theorem rnumber_c (x : Nat) (w : World) (hx : x < 18446744073709551616) :
    Calls Tryz.prog 77 #[.int .u64 x] w fun e w' => ∃ A n c ds, e = .returned (.slice A n c) ∧ ResI w' w.heap.size A n c ds ∧ DCan ds ∧ dval ds = x ∧ n ≤ 2731 ∧ Below w.heap.size w w' := by
  go_enter Tryz.func77, Tryz.ntmps77
  go_wp2_with fail
  refine (rFrom_c x w hx).mono ?_
  rintro e w1 ⟨A1, n1, c1, rfl, hr1, hn1, hb1⟩
  go_wp2_with fail
  refine (Digits_k (c := c1) w1 hr1.rd (fun b h => h.2) (by omega)).mono ?_
  rintro e w2 ⟨A2, n2, c2, ds, rfl, hr2, hd2, hv2, hl2, hb2⟩
  rw [lim_val] at hv2
  have HV := Lib.hid hv2
  clear hv2
  go_wp2
  go_ret
  exact ⟨A2, n2, c2, ds, rfl, hr2.more hb1.size, hd2, HV.out, hl2, hb1.trans (hb2.mono hb1.size)⟩

theorem drop_le (ds : List Nat) : ∀ k, dval (ds.drop k) ≤ dval ds
  | 0 => by rw [List.drop_zero]; exact Nat.le_refl _
  | k + 1 => by
    have h1 := dval_drop (xs := ds) k
    have h2 := drop_le ds k
    omega

set_option maxRecDepth 100000 in
set_option maxHeartbeats 4000000 in
theorem RWhole_v {S : Nat → Prop} {c n : Nat} {A : Option Addr} {xs : List Nat} (neg : Bool) (exp : Int) (w : World) (ha : Rd w S A n xs) (hS : ∀ b, S b → b < w.heap.size) (hn : n ≤ 9223372036854775807) :
    Calls Tryz.prog 26 #[dv neg A n c exp] w fun e w' => e = .returned (.tuple #[.int .i64 (whN neg xs exp), .bool (whT neg xs exp), .int .i64 (okE neg xs exp : Int)]) ∧ Below w.heap.size w w' := by
  have hb0 : Below w.heap.size w (w.alloc (.cells #[.bool neg, .slice A n c, .int .i64 exp] 24)) := (Below.refl _ _).alloc (Nat.le_refl _) _
  have m0 := World.alloc_heap_new w (.cells #[.bool neg, .slice A n c, .int .i64 exp] 24)
  have hsz : (w.alloc (.cells #[.bool neg, .slice A n c, .int .i64 exp] 24)).heap.size = w.heap.size + 1 := by simp
  have hC := RCheck_c (c := c) neg exp (w.alloc (.cells #[.bool neg, .slice A n c, .int .i64 exp] 24)) (ha.below hb0 hS) (fun b h => by have := hS b h; simp; omega) hn
  obtain ⟨R, hR⟩ : ∃ R, R = whN neg xs exp := ⟨_, rfl⟩
  obtain ⟨T, hT⟩ : ∃ T, T = whT neg xs exp := ⟨_, rfl⟩
  by_cases hok : okB neg xs exp = true
  · obtain ⟨a1, a2, a3, ⟨x1, x2⟩, _, _⟩ := okB_true ha.l32 hok
    have hcheck : okE neg xs exp = 0 := by unfold okE; rw [if_pos hok]
    have hn2 : n ≤ 256 := by rw [← ha.len]; exact a2
    have hTT : T = whB (val xs) exp := by rw [hT]; unfold whT; rw [hok]; rfl
    have hRR : R = if T = true then sg neg (val xs * 10 ^ exp.toNat) else 0 := by rw [hR, hT]; rfl
    have hexp : 0 < val xs ∨ exp = 0 := by
      rcases okB_cases ha.l32 hok with ⟨_, _, h⟩ | ⟨h, _⟩
      · exact .inr h
      · exact .inl h
    rw [hcheck] at hC ⊢
    rw [← hR, ← hT]
    unfold dv at hC ⊢
    have HC := Lib.hid hC
    have HM0 := Lib.hid m0
    have HT := Lib.hid hTT
    have HR := Lib.hid hRR
    have HX := Lib.hid hexp
    clear hC m0 hcheck hok hT hR hTT hRR hexp a1 a2 a3
    go_enter Tryz.func26, Tryz.ntmps26
    go_wp2_with fail
    have m0 := HM0.out
    clear HM0
    generalize (w.alloc (.cells #[.bool neg, .slice A n c, .int .i64 exp] 24)) = W at *
    refine HC.out.mono ?_
    rintro e w1 ⟨rfl, hb1⟩
    have m1 := heldz hb1 m0
    have hw1 := hb0.trans (hb1.mono hb0.size)
    obtain ⟨p0, p1, p2⟩ := box3_of m1
    have hof := Of_c (c := c) neg exp w1 (ha.below hw1 hS) (fun b h => by have := hS b h; have := hw1.size; omega) hn2
    unfold dv nv at hof
    have HOF := Lib.hid hof
    clear hof HC
    go_wp2_with fail
    refine HOF.out.mono ?_
    rintro e w2 ⟨A1, n1, c1, ds, rfl, hr1, hd1, hv1, hl1, hb2⟩
    have hw2 := hw1.trans (hb2.mono hw1.size)
    have m3 := World.alloc_heap_new w2 (.cells #[.bool neg, .slice A1 n1 c1, .int .i64 exp] 62)
    have hr2 : ResI (w2.alloc (.cells #[.bool neg, .slice A1 n1 c1, .int .i64 exp] 62)) _ A1 n1 c1 ds := hr1.below ((Below.refl w2.heap.size w2).alloc (Nat.le_refl _) _) (Nat.le_refl _)
    have hw3 := hw2.alloc hw2.size (.cells #[.bool neg, .slice A1 n1 c1, .int .i64 exp] 62)
    have hsz3 : (w2.alloc (.cells #[.bool neg, .slice A1 n1 c1, .int .i64 exp] 62)).heap.size = w2.heap.size + 1 := by simp
    obtain ⟨q0, q1, q2⟩ := box3_of m3
    have HN1 := Lib.hid hr1.len
    have HD1 := Lib.hid hd1
    have HV1 := Lib.hid hv1
    have HM3 := Lib.hid m3
    clear hd1 hv1 p0 p1 p2 m3 HOF
    by_cases hin : 0 ≤ exp ∧ exp ≤ 20 ∧ n1 ≤ 20
    · obtain ⟨p, rfl⟩ : ∃ p : Nat, exp = (p : Int) := ⟨exp.toNat, by omega⟩
      obtain ⟨_, hp20, hn20⟩ := hin
      have hsh := fun V (h : RdI V (fun b => b < V.heap.size) A1 n1 ds) => Shift_c (c := c1) p V h (fun b h => h) HD1.out (by omega) (by omega)
      have HSH := Lib.hid hsh
      clear hsh
      go_wp2_with fail
      have m3 := HM3.out
      clear HM3
      generalize (w2.alloc (.cells #[.bool neg, .slice A1 n1 c1, .int .i64 (p : Int)] 62)) = W3 at *
      refine (HSH.out W3 (hr2.rd.more (fun b h => h.2))).mono ?_
      rintro e w4 ⟨A4, n4, c4, es, rfl, hr4, hd4, hv4, hl4, hb4⟩
      have m4 := heldz hb4 m3
      have hw4 := hw3.trans (hb4.mono hw3.size)
      have hv4b : dval es = val xs * 10 ^ p := by rw [hv4, HV1.out, Nat.mul_comm]; rfl
      have HV4 := Lib.hid hv4b
      have HD4 := Lib.hid hd4
      clear hv4 hv4b hd4 q0 q1 q2 m3
      go_wp2_with fail
      refine (rnumber_c 9007199254740992 w4 (by omega)).mono ?_
      rintro e w5 ⟨A5, n5, c5, fs, rfl, hr5, hd5, hv5, hl5, hb5⟩
      have m5 := heldz hb5 m4
      have hw5 := hw4.trans (hb5.mono hw4.size)
      have hr45 := hr4.below hb5 (Nat.le_refl _)
      have HV5 := Lib.hid hv5
      have HD5 := Lib.hid hd5
      clear hv5 hd5 m4
      go_wp2_with fail
      refine (Order_c (c := c4) (d := c5) w5 hr45.rd hr5.rd HD4.out HD5.out (by omega) (by omega)).mono ?_
      rintro e w6 ⟨rfl, q, rfl⟩
      have m6 : (w5.drewN q).heap[w2.heap.size]? = _ := m5
      have hr6 := hr45.keep (w' := w5.drewN q) (fun _ _ => rfl)
      have hw6 := below_drewN hw5 q
      generalize w5.drewN q = W6 at *
      obtain ⟨q0, q1, q2⟩ := box3_of m6
      by_cases hbig : 9007199254740992 < val xs * 10 ^ p
      · have hcm : dcmp es fs = 1 := dcmp_gt (by rw [HV4.out, HV5.out]; exact hbig)
        have hT0 : T = false := by
          rw [HT.out]
          unfold whB
          rw [Int.toNat_natCast, decide_eq_false (show ¬ val xs * 10 ^ p ≤ 9007199254740992 by omega), Bool.and_false]
        have hR0 : R = 0 := by rw [HR.out, hT0]; rfl
        rw [hcm]
        subst hT0 hR0
        clear hcm hbig
        go_wp2
        go_ret3
        exact ⟨rfl, hw6⟩
      · have hcm : dcmp es fs ≤ 0 := by
          unfold dcmp
          rw [HV4.out, HV5.out]
          by_cases h1 : val xs * 10 ^ p < 9007199254740992
          · rw [if_pos h1]; omega
          · rw [if_neg h1, if_neg hbig]; omega
        have hT0 : T = true := by
          rw [HT.out]
          unfold whB
          rw [Int.toNat_natCast, decide_eq_true (show val xs * 10 ^ p ≤ 9007199254740992 by omega), decide_eq_true (show (0 : Int) ≤ (p : Int) by omega)]; rfl
        have hR0 : R = sg neg (val xs * 10 ^ p) := by rw [HR.out, hT0, if_pos rfl, Int.toNat_natCast]
        obtain ⟨V, hV⟩ : ∃ V, V = val xs * 10 ^ p := ⟨_, rfl⟩
        rw [← hV] at hR0 hbig
        have hes : dval es = V := HV4.out.trans hV.symm
        have HES := Lib.hid hes
        have HL6 := Lib.hid hr6.len
        have HR0 := Lib.hid hR0
        have hVb : V ≤ 9007199254740992 := by omega
        subst hT0
        clear hbig hV hes hR0
        go_wp2
        go_loop [7, 8] (fun nv iv => ∃ k : Nat, k ≤ n4 ∧ iv = .int .i64 ((k : Int) - 1) ∧ nv = .int .i64 ((dval (es.drop k) : Nat) : Int)) (fun _ iv => (intOf iv + 1).toNat)
        case atStart => exact ⟨n4, Nat.le_refl _, rfl, by rw [List.drop_of_length_le (by rw [HL6.out]; exact Nat.le_refl _)]; rfl⟩
        case round =>
          obtain ⟨k, hk, rfl, rfl⟩ := hrel
          by_cases h0 : k = 0
          · subst h0
            rw [List.drop_zero, HES.out]
            cases neg
            · go_wp2
              go_ret3
              exact ⟨by rw [HR0.out]; rfl, hw6⟩
            · go_wp2
              go_ret3
              exact ⟨by rw [HR0.out]; rfl, hw6⟩
          · obtain ⟨j, rfl⟩ : ∃ j, k = j + 1 := ⟨k - 1, by omega⟩
            obtain ⟨b, off, hA, _, hcell⟩ := hr6.rd.cells (by omega)
            subst hA
            have hc := hcell j (by omega)
            have hdv := dval_drop (xs := es) j
            have hle := drop_le es j
            rw [HES.out] at hle
            obtain ⟨v, hv⟩ : ∃ v, v = dval (es.drop (j + 1)) := ⟨_, rfl⟩
            obtain ⟨x, hx⟩ : ∃ x, x = nth es j := ⟨_, rfl⟩
            rw [← hv, ← hx] at hdv
            rw [← hv]
            rw [← hx] at hc
            have hb1 : 10 * v ≤ 9007199254740992 := by omega
            have hb2 : x + 10 * v ≤ 9007199254740992 := by omega
            have hji : ((j + 1 : Nat) : Int) - 1 = (j : Int) := by omega
            rw [hji]
            have HDV := Lib.hid hdv
            have HV0 := Lib.hid hv
            clear hdv hv hx hcell h0 hle hji
            go_wp2
            exact ⟨⟨j, by omega, rfl, congrArg (Value.int .i64) (by rw [HDV.out]; omega)⟩, by simp [intOf]⟩
    · have hT0 : T = false := by
        rw [HT.out]
        unfold whB
        by_cases h1 : 0 ≤ exp
        · rw [decide_eq_true h1, Bool.true_and, decide_eq_false_iff_not]
          intro hle
          by_cases h2 : exp ≤ 20
          · have h3 : 20 < n1 := by omega
            have h4 := HD1.out.ge (by intro e; have := HN1.out; rw [e] at this; simp at this; omega)
            rw [HV1.out] at h4
            have h5 : 10 ^ 20 ≤ dp (ds.length - 1) := Nat.pow_le_pow_right (by omega) (by have := HN1.out; omega)
            have h6 : val xs * 1 ≤ val xs * 10 ^ exp.toNat := Nat.mul_le_mul_left _ (Nat.pow_pos (by omega))
            have h7 : (10 : Nat) ^ 20 = 100000000000000000000 := by decide
            omega
          · have h3 : 0 < val xs := by have := HX.out; omega
            have h5 : 10 ^ 20 ≤ 10 ^ exp.toNat := Nat.pow_le_pow_right (by omega) (by omega)
            have h6 : 1 * 10 ^ exp.toNat ≤ val xs * 10 ^ exp.toNat := Nat.mul_le_mul_right _ h3
            have h7 : (10 : Nat) ^ 20 = 100000000000000000000 := by decide
            omega
        · rw [decide_eq_false h1]; rfl
      have hR0 : R = 0 := by rw [HR.out, hT0]; rfl
      subst hT0 hR0
      have hcs : exp < 0 ∨ (0 ≤ exp ∧ 20 < exp) ∨ (0 ≤ exp ∧ exp ≤ 20 ∧ 20 < n1) := by omega
      clear hin
      rcases hcs with h | ⟨h, h'⟩ | ⟨h, h', h''⟩
      all_goals
        go_wp2
        go_ret3
        exact ⟨rfl, hw3⟩
  · have hcheck : okE neg xs exp = 9 := by unfold okE; rw [if_neg hok]
    have hT0 : whT neg xs exp = false := by unfold whT; rw [show okB neg xs exp = false by simpa using hok]; rfl
    have hR0 : whN neg xs exp = 0 := by unfold whN; rw [hT0]; rfl
    rw [hcheck] at hC ⊢
    rw [hR0, hT0]
    unfold dv at hC ⊢
    have HC := Lib.hid hC
    clear hC m0 hcheck hok hT0 hR0 hR hT
    go_enter Tryz.func26, Tryz.ntmps26
    go_wp2_with fail
    refine HC.out.mono ?_
    rintro e w1 ⟨rfl, hb1⟩
    go_wp2
    go_ret3
    exact ⟨rfl, hb0.trans (hb1.mono (by simp))⟩
end Go.Proofs.YtnlkcjfedomcgaaGreatDoor
