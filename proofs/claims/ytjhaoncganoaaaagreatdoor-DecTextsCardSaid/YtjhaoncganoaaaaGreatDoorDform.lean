/-
  JSON's form of a number over octets; contracts of the reference's digit and Ends.
  Plain mathematics: a number's text in its parts, what its mantissa and its exponent tell. No Go.
-/
import Derived.Test.YtjhaoncganoaaaaGreatDoorDref
import Derived.Deep.Cut
import Derived.Deep.CutRange
import Derived.Deep.CutBlock
import Derived.Test.YtjhaoncganoaaaaGreatDoorNparse
import Derived.Test.YtjhaoncganoaaaaGreatDoorDset
set_option linter.unusedVariables false
set_option linter.unusedSimpArgs false
namespace Go.Proofs.YtjhaoncganoaaaaGreatDoor
open Go.RowKit

/-- Where the digits that begin at a place end. -/
def dEnd (xs : List Nat) (k : Nat) : Nat := k + ((xs.drop k).takeWhile isDig).length
theorem isDig_zero : isDig 0 = false := by decide
theorem dEnd_no {xs : List Nat} {k : Nat} (h : isDig (nth xs k) = false) : dEnd xs k = k := by
  unfold dEnd
  by_cases hk : k < xs.length
  · rw [drop_eq_nth hk, List.takeWhile_cons_of_neg (by rw [h]; decide)]; rfl
  · rw [List.drop_of_length_le (by omega)]; rfl
theorem dig_lt {xs : List Nat} {k : Nat} (h : isDig (nth xs k) = true) : k < xs.length := by
  by_cases hk : k < xs.length
  · exact hk
  · rw [nth_none (by omega), isDig_zero] at h; cases h
theorem dEnd_step {xs : List Nat} {k : Nat} (h : isDig (nth xs k) = true) : dEnd xs k = dEnd xs (k + 1) := by
  unfold dEnd
  rw [drop_eq_nth (dig_lt h), List.takeWhile_cons_of_pos h, List.length_cons]
  omega
theorem dEnd_le {xs : List Nat} {k : Nat} (h : k ≤ xs.length) : dEnd xs k ≤ xs.length := by
  unfold dEnd
  have h1 := (List.takeWhile_sublist (l := xs.drop k) isDig).length_le
  rw [List.length_drop] at h1
  omega
/-- The parts of the form: where each ends, if it may stand there. -/
def fSgn (xs : List Nat) : Nat := if nth xs 0 = 45 then 1 else 0
def fWhole (xs : List Nat) (k : Nat) : Option Nat := if isDig (nth xs k) = true then some (if nth xs k = 48 then k + 1 else dEnd xs k) else none
def fFrac (xs : List Nat) (k : Nat) : Option Nat := if nth xs k = 46 then (if isDig (nth xs (k + 1)) = true then some (dEnd xs (k + 1)) else none) else some k
def fSg (xs : List Nat) (k : Nat) : Nat := if nth xs k = 43 ∨ nth xs k = 45 then k + 1 else k
def fPow (xs : List Nat) (k : Nat) : Option Nat := if nth xs k = 101 ∨ nth xs k = 69 then (if isDig (nth xs (fSg xs (k + 1))) = true then some (dEnd xs (fSg xs (k + 1))) else none) else some k
def form (xs : List Nat) : Option Nat := (fWhole xs (fSgn xs)).bind fun k => (fFrac xs k).bind (fPow xs)

set_option maxRecDepth 100000 in
theorem digit_c (s : ByteArray) (k : Nat) (w : World) (hs : s.size ≤ 9223372036854775807) :
    Calls Tryz.prog 97 #[.string s, .int .i64 (k : Int)] w fun e w' => e = .returned (.bool (isDig (nth (octs s) k))) ∧ w = w' := by
  by_cases hk : k < s.size
  · have ho := Lib.hid (octs_get s k hk)
    by_cases hd : 48 ≤ (s[k].toNat : Int) ∧ (s[k].toNat : Int) ≤ 57
    · have HD : Hid (isDig (nth (octs s) k) = true) := by show _ = _; rw [ho.out]; exact decide_eq_true (by omega)
      obtain ⟨d1, d2⟩ := hd
      go_enter Tryz.func97, Tryz.ntmps97
      go_wp2
      go_ret
      rw [HD.out]
      simp
    · have HD : Hid (isDig (nth (octs s) k) = false) := by show _ = _; rw [ho.out]; exact decide_eq_false (by omega)
      have hdd : (s[k].toNat : Int) < 48 ∨ 57 < (s[k].toNat : Int) := by omega
      clear hd
      rcases hdd with hd | hd
      all_goals
        go_enter Tryz.func97, Tryz.ntmps97
        go_wp2
        go_ret
        rw [HD.out]
        simp <;> omega
  · have HD : Hid (isDig (nth (octs s) k) = false) := by show _ = _; rw [nth_none (by rw [octs_length]; omega)]; decide
    have hk2 : s.size ≤ k := by omega
    clear hk
    go_enter Tryz.func97, Tryz.ntmps97
    go_wp2
    go_ret
    rw [HD.out]
    simp

theorem nth_pos_lt {xs : List Nat} {k c : Nat} (h : nth xs k = c) (hc : 0 < c) : k < xs.length := by
  by_cases hk : k < xs.length
  · exact hk
  · rw [nth_none (by omega)] at h; omega

set_option maxRecDepth 100000 in
set_option maxHeartbeats 2000000 in
theorem Ends_c (s : ByteArray) (w : World) (hs : s.size ≤ 9223372036854775807) :
    Calls Tryz.prog 48 #[.string s, .int .i64 0] w fun e w' => ∃ z : Int, e = .returned (.tuple #[.int .i64 z, .bool (form (octs s)).isSome]) ∧ (∀ k, form (octs s) = some k → z = (k : Int)) ∧ w = w' := by
  have HL := Lib.hid (octs_length s)
  go_enter Tryz.func48, Tryz.ntmps48
  go_upto_region 1 with fail
  go_cut [15] from 6 to 15 (fun sX wc => sX = .bool (decide (nth (octs s) (0) = 45)) ∧ w = wc)
  case first =>
    by_cases h0 : 0 < s.size
    · have ho := octs_get s (0) h0
      by_cases e0 : (s[0].toNat : Int) = 45
      · have HB : Hid (decide (nth (octs s) (0) = 45) = true) := by show _ = _; rw [decide_eq_true_iff, ho]; omega
        have hb0 : ((s[0].toNat : Int) == 45) = true := by rw [e0]; rfl
        clear ho
        go_wp2
        go_meet
        rw [HB.out]
        exact ⟨by simp_all, rfl⟩
      · have hb0 : ((s[0].toNat : Int) == 45) = false := by rw [beq_eq_false_iff_ne]; exact e0
        have HB : Hid (decide (nth (octs s) (0) = 45) = false) := by show _ = _; rw [decide_eq_false_iff_not, ho]; omega
        clear ho e0
        go_wp2
        go_meet
        rw [HB.out]
        exact ⟨by simp_all, rfl⟩
    · have HB : Hid (decide (nth (octs s) (0) = 45) = false) := by show _ = _; rw [decide_eq_false_iff_not, nth_none (by rw [HL.out]; omega)]; omega
      have h1 : s.size ≤ 0 := by omega
      clear h0
      go_wp2
      go_meet
      rw [HB.out]
      exact ⟨rfl, rfl⟩
  case rest =>
    obtain ⟨rfl, rfl⟩ := hcut
    obtain ⟨t, ht⟩ : ∃ t, Hid (t = decide (nth (octs s) (0) = 45)) := ⟨_, rfl⟩
    rw [← ht.out]
    go_upto_if 15 with fail
    go_cut [1] from 16 to 18 (fun s1 wc => s1 = .int .i64 ((fSgn (octs s) : Nat) : Int) ∧ fSgn (octs s) ≤ s.size ∧ w = wc)
    case first =>
      cases t
      · have HF : Hid (fSgn (octs s) = 0) := by show _ = _; unfold fSgn; rw [if_neg (of_decide_eq_false ht.out.symm)]
        go_wp2
        go_meet
        rw [HF.out]
        exact ⟨rfl, Nat.zero_le _, rfl⟩
      · have hp : nth (octs s) 0 = 45 := of_decide_eq_true ht.out.symm
        have HF : Hid (fSgn (octs s) = 1) := by show _ = _; unfold fSgn; rw [if_pos hp]
        have hz := nth_pos_lt hp (by omega : 0 < 45)
        rw [HL.out] at hz
        clear hp
        go_wp2
        go_meet
        rw [HF.out]
        exact ⟨rfl, hz, rfl⟩
    case rest =>
      obtain ⟨rfl, hk0, rfl⟩ := hcut
      have HFO : Hid (form (octs s) = (fWhole (octs s) (fSgn (octs s))).bind fun k => (fFrac (octs s) k).bind (fPow (octs s))) := rfl
      generalize fSgn (octs s) = k at hk0 HFO
      clear ht
      have HD := digit_c s k w hs
      by_cases hd : isDig (nth (octs s) k) = true
      · have HW : Hid (fWhole (octs s) k = some (if nth (octs s) k = 48 then k + 1 else dEnd (octs s) k)) := if_pos hd
        have hks := dig_lt hd
        rw [HL.out] at hks
        have HDg := Lib.hid hd
        rw [hd] at HD
        have HD1 := Lib.hid HD
        clear HD hd
        go_wp2_with fail
        refine HD1.out.mono ?_
        rintro e w' ⟨rfl, rfl⟩
        have ho := Lib.hid (octs_get s k hks)
        obtain ⟨t2, ht2⟩ : ∃ t, Hid (t = ((s[k].toNat : Int) == 48)) := ⟨((s[k].toNat : Int) == 48), Lib.hid rfl⟩
        go_upto_if 26 with fail
        rw [← ht2.out]
        go_cut [1] from 27 to 33 (fun s1 wc => ∃ k2 : Nat, s1 = .int .i64 (k2 : Int) ∧ k2 ≤ s.size ∧ Hid (fWhole (octs s) k = some k2) ∧ w = wc)
        case first =>
          cases t2
          · have HW2 : Hid (fWhole (octs s) k = some (dEnd (octs s) k)) := by
              show _ = _
              have := ht2.out
              rw [HW.out, if_neg (by rw [ho.out]; intro h; rw [h] at this; exact absurd this (by decide))]
            clear ho ht2
            go_wp2
            go_loopw [1] (fun iv wr => ∃ j : Nat, j ≤ s.size ∧ iv = .int .i64 (j : Int) ∧ Hid (dEnd (octs s) j = dEnd (octs s) k) ∧ w = wr) (fun iv _ => s.size - (intOf iv).toNat)
            case atStart => exact ⟨k, hk0, rfl, rfl, rfl⟩
            case round =>
              obtain ⟨j, hj, rfl, hdj, rfl⟩ := hrel
              have HE := digit_c s j w hs
              by_cases hd : isDig (nth (octs s) j) = true
              · have hjs := dig_lt hd
                rw [HL.out] at hjs
                have hdj2 : Hid (dEnd (octs s) (j + 1) = dEnd (octs s) k) := (dEnd_step hd).symm.trans hdj.out
                rw [hd] at HE
                have HE1 := Lib.hid HE
                clear HE hd
                go_wp2_with fail
                refine HE1.out.mono ?_
                rintro e w' ⟨rfl, rfl⟩
                go_wp2
                exact ⟨⟨j + 1, by omega, by go_num, hdj2, trivial⟩, by simp [intOf]; omega⟩
              · have hd' : isDig (nth (octs s) j) = false := by simpa using hd
                have hdj2 : Hid (j = dEnd (octs s) k) := (dEnd_no hd').symm.trans hdj.out
                rw [hd'] at HE
                have HE1 := Lib.hid HE
                clear HE hd hd'
                go_wp2_with fail
                refine HE1.out.mono ?_
                rintro e w' ⟨rfl, rfl⟩
                go_wp2
                go_meet
                exact ⟨j, rfl, hj, by show _ = _; rw [HW2.out, hdj2.out], rfl⟩
          · have HW2 : Hid (fWhole (octs s) k = some (k + 1)) := by
              show _ = _
              have := ht2.out.symm
              rw [HW.out, if_pos (by rw [ho.out]; rw [beq_iff_eq] at this; omega)]
            clear ho ht2
            go_wp2
            go_meet
            exact ⟨k + 1, by go_num, hks, HW2, rfl⟩
        case rest =>
          obtain ⟨k2, rfl, hk2, HW2, rfl⟩ := hcut
          have HFO2 : Hid (form (octs s) = (fFrac (octs s) k2).bind (fPow (octs s))) := by show _ = _; rw [HFO.out, HW2.out]; rfl
          clear HW HD1 ho ht2 HFO HW2 HDg hk0
          go_upto_region 9 with fail
          go_cut [43] from 34 to 43 (fun sX wc => sX = .bool (decide (nth (octs s) (k2) = 46)) ∧ w = wc)
          case first =>
            by_cases h0 : k2 < s.size
            · have ho := octs_get s (k2) h0
              by_cases e0 : (s[k2].toNat : Int) = 46
              · have HB : Hid (decide (nth (octs s) (k2) = 46) = true) := by show _ = _; rw [decide_eq_true_iff, ho]; omega
                have hb0 : ((s[k2].toNat : Int) == 46) = true := by rw [e0]; rfl
                clear ho
                go_wp2
                go_meet
                rw [HB.out]
                exact ⟨by simp_all, rfl⟩
              · have hb0 : ((s[k2].toNat : Int) == 46) = false := by rw [beq_eq_false_iff_ne]; exact e0
                have HB : Hid (decide (nth (octs s) (k2) = 46) = false) := by show _ = _; rw [decide_eq_false_iff_not, ho]; omega
                clear ho e0
                go_wp2
                go_meet
                rw [HB.out]
                exact ⟨by simp_all, rfl⟩
            · have HB : Hid (decide (nth (octs s) (k2) = 46) = false) := by show _ = _; rw [decide_eq_false_iff_not, nth_none (by rw [HL.out]; omega)]; omega
              have h1 : s.size ≤ k2 := by omega
              clear h0
              go_wp2
              go_meet
              rw [HB.out]
              exact ⟨rfl, rfl⟩
          case rest =>
            obtain ⟨rfl, rfl⟩ := hcut
            obtain ⟨t, ht⟩ : ∃ t, Hid (t = decide (nth (octs s) (k2) = 46)) := ⟨_, rfl⟩
            rw [← ht.out]
            go_upto_if 43 with fail
            go_cut [1] from 44 to 55 (fun s1 wc => ∃ k3 : Nat, s1 = .int .i64 (k3 : Int) ∧ k3 ≤ s.size ∧ Hid (fFrac (octs s) k2 = some k3) ∧ w = wc)
            case first =>
              cases t
              · have HF : Hid (fFrac (octs s) k2 = some k2) := if_neg (of_decide_eq_false ht.out.symm)
                clear ht
                go_wp2
                go_meet
                exact ⟨k2, rfl, hk2, HF, rfl⟩
              · have hp : nth (octs s) k2 = 46 := of_decide_eq_true ht.out.symm
                have HF : Hid (fFrac (octs s) k2 = if isDig (nth (octs s) (k2 + 1)) = true then some (dEnd (octs s) (k2 + 1)) else none) := if_pos hp
                have hz := nth_pos_lt hp (by omega : 0 < 46)
                rw [HL.out] at hz
                clear hp ht
                obtain ⟨kd, hkd⟩ : ∃ kd, kd = k2 + 1 := ⟨_, rfl⟩
                have hkd0 : kd ≤ s.size := by omega
                have HKD : Hid ((k2 : Int) + 1 = (kd : Int)) := by show _ = _; omega
                rw [← hkd] at HF
                clear hkd
                have HD := digit_c s kd w hs
                by_cases hd : isDig (nth (octs s) kd) = true
                · rw [hd] at HD
                  have HF2 : Hid (fFrac (octs s) k2 = some (dEnd (octs s) kd)) := HF.out.trans (if_pos hd)
                  have HD1 := Lib.hid HD
                  clear HD hd HF
                  go_wp2_with fail
                  rw [HKD.out]
                  refine HD1.out.mono ?_
                  rintro e w' ⟨rfl, rfl⟩
                  go_wp2
                  go_loopw [1] (fun iv wr => ∃ j : Nat, j ≤ s.size ∧ iv = .int .i64 (j : Int) ∧ Hid (dEnd (octs s) j = dEnd (octs s) kd) ∧ w = wr) (fun iv _ => s.size - (intOf iv).toNat)
                  case atStart => exact ⟨kd, hkd0, rfl, rfl, rfl⟩
                  case round =>
                    obtain ⟨j, hj, rfl, hdj, rfl⟩ := hrel
                    have HE := digit_c s j w hs
                    by_cases hd : isDig (nth (octs s) j) = true
                    · have hjs := dig_lt hd
                      rw [HL.out] at hjs
                      have hdj2 : Hid (dEnd (octs s) (j + 1) = dEnd (octs s) kd) := (dEnd_step hd).symm.trans hdj.out
                      rw [hd] at HE
                      have HE1 := Lib.hid HE
                      clear HE hd
                      go_wp2_with fail
                      refine HE1.out.mono ?_
                      rintro e w' ⟨rfl, rfl⟩
                      go_wp2
                      exact ⟨⟨j + 1, by omega, by go_num, hdj2, trivial⟩, by simp [intOf]; omega⟩
                    · have hd' : isDig (nth (octs s) j) = false := by simpa using hd
                      have hdj2 : Hid (j = dEnd (octs s) kd) := (dEnd_no hd').symm.trans hdj.out
                      rw [hd'] at HE
                      have HE1 := Lib.hid HE
                      clear HE hd hd'
                      go_wp2_with fail
                      refine HE1.out.mono ?_
                      rintro e w' ⟨rfl, rfl⟩
                      go_wp2
                      go_meet
                      exact ⟨j, rfl, hj, by show _ = _; rw [HF2.out, hdj2.out], rfl⟩
                · have hd' : isDig (nth (octs s) kd) = false := by simpa using hd
                  have HN : Hid (form (octs s) = none) := by
                    show _ = _
                    rw [HFO2.out, HF.out.trans (if_neg hd)]; rfl
                  rw [hd'] at HD
                  have HD1 := Lib.hid HD
                  clear HD hd hd' HF
                  go_wp2_with fail
                  rw [HKD.out]
                  refine HD1.out.mono ?_
                  rintro e w' ⟨rfl, rfl⟩
                  go_wp2
                  go_ret2
                  rw [HN.out]
                  exact ⟨_, rfl, (fun k h => by cases h), rfl⟩
            case rest =>
              obtain ⟨k3, rfl, hk3, HW3, rfl⟩ := hcut
              have HFO3 : Hid (form (octs s) = fPow (octs s) k3) := by show _ = _; rw [HFO2.out, HW3.out]; rfl
              clear ht HFO2 HW3 hk2
              go_upto_region 15 with fail
              go_cut [71] from 56 to 71 (fun sX wc => sX = .bool (decide (nth (octs s) (k3) = 101 ∨ nth (octs s) (k3) = 69)) ∧ w = wc)
              case first =>
                by_cases h0 : k3 < s.size
                · have ho := octs_get s (k3) h0
                  by_cases e0 : (s[k3].toNat : Int) = 101
                  · have HB : Hid (decide (nth (octs s) (k3) = 101 ∨ nth (octs s) (k3) = 69) = true) := by show _ = _; rw [decide_eq_true_iff, ho]; omega
                    have hb0 : ((s[k3].toNat : Int) == 101) = true := by rw [e0]; rfl
                    clear ho
                    go_wp2
                    go_meet
                    rw [HB.out]
                    exact ⟨by simp_all, rfl⟩
                  · have hb0 : ((s[k3].toNat : Int) == 101) = false := by rw [beq_eq_false_iff_ne]; exact e0
                    by_cases e1 : (s[k3].toNat : Int) = 69
                    · have HB : Hid (decide (nth (octs s) (k3) = 101 ∨ nth (octs s) (k3) = 69) = true) := by show _ = _; rw [decide_eq_true_iff, ho]; omega
                      have hb1 : ((s[k3].toNat : Int) == 69) = true := by rw [e1]; rfl
                      clear ho
                      go_wp2
                      go_meet
                      rw [HB.out]
                      exact ⟨by simp_all, rfl⟩
                    · have hb1 : ((s[k3].toNat : Int) == 69) = false := by rw [beq_eq_false_iff_ne]; exact e1
                      have HB : Hid (decide (nth (octs s) (k3) = 101 ∨ nth (octs s) (k3) = 69) = false) := by show _ = _; rw [decide_eq_false_iff_not, ho]; omega
                      clear ho e0 e1
                      go_wp2
                      go_meet
                      rw [HB.out]
                      exact ⟨by simp_all, rfl⟩
                · have HB : Hid (decide (nth (octs s) (k3) = 101 ∨ nth (octs s) (k3) = 69) = false) := by show _ = _; rw [decide_eq_false_iff_not, nth_none (by rw [HL.out]; omega)]; omega
                  have h1 : s.size ≤ k3 := by omega
                  clear h0
                  go_wp2
                  go_meet
                  rw [HB.out]
                  exact ⟨rfl, rfl⟩
              case rest =>
                obtain ⟨rfl, rfl⟩ := hcut
                obtain ⟨t, ht⟩ : ∃ t, Hid (t = decide (nth (octs s) (k3) = 101 ∨ nth (octs s) (k3) = 69)) := ⟨_, rfl⟩
                rw [← ht.out]
                go_upto_if 71 with fail
                go_cut [1] from 72 to 101 (fun s1 wc => ∃ k4 : Nat, s1 = .int .i64 (k4 : Int) ∧ k4 ≤ s.size ∧ Hid (fPow (octs s) k3 = some k4) ∧ w = wc)
                case first =>
                  cases t
                  · have HF : Hid (fPow (octs s) k3 = some k3) := if_neg (of_decide_eq_false ht.out.symm)
                    clear ht
                    go_wp2
                    go_meet
                    exact ⟨k3, rfl, hk3, HF, rfl⟩
                  · have hp : nth (octs s) k3 = 101 ∨ nth (octs s) k3 = 69 := of_decide_eq_true ht.out.symm
                    have HF : Hid (fPow (octs s) k3 = if isDig (nth (octs s) (fSg (octs s) (k3 + 1))) = true then some (dEnd (octs s) (fSg (octs s) (k3 + 1))) else none) := if_pos hp
                    have hz : k3 < (octs s).length := by rcases hp with hp | hp <;> exact nth_pos_lt hp (by omega)
                    rw [HL.out] at hz
                    clear hp ht
                    obtain ⟨ke, hke⟩ : ∃ ke, ke = k3 + 1 := ⟨_, rfl⟩
                    have hke0 : ke ≤ s.size := by omega
                    have HKE : Hid ((k3 : Int) + 1 = (ke : Int)) := by show _ = _; omega
                    rw [← hke] at HF
                    clear hke
                    go_upto_region 17 with fail
                    rw [HKE.out]
                    go_cut [89] from 74 to 89 (fun sX wc => sX = .bool (decide (nth (octs s) (ke) = 43 ∨ nth (octs s) (ke) = 45)) ∧ w = wc)
                    case first =>
                      by_cases h0 : ke < s.size
                      · have ho := octs_get s (ke) h0
                        by_cases e0 : (s[ke].toNat : Int) = 43
                        · have HB : Hid (decide (nth (octs s) (ke) = 43 ∨ nth (octs s) (ke) = 45) = true) := by show _ = _; rw [decide_eq_true_iff, ho]; omega
                          have hb0 : ((s[ke].toNat : Int) == 43) = true := by rw [e0]; rfl
                          clear ho
                          go_wp2
                          go_meet
                          rw [HB.out]
                          exact ⟨by simp_all, rfl⟩
                        · have hb0 : ((s[ke].toNat : Int) == 43) = false := by rw [beq_eq_false_iff_ne]; exact e0
                          by_cases e1 : (s[ke].toNat : Int) = 45
                          · have HB : Hid (decide (nth (octs s) (ke) = 43 ∨ nth (octs s) (ke) = 45) = true) := by show _ = _; rw [decide_eq_true_iff, ho]; omega
                            have hb1 : ((s[ke].toNat : Int) == 45) = true := by rw [e1]; rfl
                            clear ho
                            go_wp2
                            go_meet
                            rw [HB.out]
                            exact ⟨by simp_all, rfl⟩
                          · have hb1 : ((s[ke].toNat : Int) == 45) = false := by rw [beq_eq_false_iff_ne]; exact e1
                            have HB : Hid (decide (nth (octs s) (ke) = 43 ∨ nth (octs s) (ke) = 45) = false) := by show _ = _; rw [decide_eq_false_iff_not, ho]; omega
                            clear ho e0 e1
                            go_wp2
                            go_meet
                            rw [HB.out]
                            exact ⟨by simp_all, rfl⟩
                      · have HB : Hid (decide (nth (octs s) (ke) = 43 ∨ nth (octs s) (ke) = 45) = false) := by show _ = _; rw [decide_eq_false_iff_not, nth_none (by rw [HL.out]; omega)]; omega
                        have h1 : s.size ≤ ke := by omega
                        clear h0
                        go_wp2
                        go_meet
                        rw [HB.out]
                        exact ⟨rfl, rfl⟩
                    case rest =>
                      obtain ⟨rfl, rfl⟩ := hcut
                      obtain ⟨t, ht⟩ : ∃ t, Hid (t = decide (nth (octs s) (ke) = 43 ∨ nth (octs s) (ke) = 45)) := ⟨_, rfl⟩
                      rw [← ht.out]
                      go_upto_if 89 with fail
                      go_cut [1] from 90 to 91 (fun s1 wc => ∃ kd : Nat, s1 = .int .i64 (kd : Int) ∧ kd ≤ s.size ∧ Hid (fSg (octs s) ke = kd) ∧ w = wc)
                      case first =>
                        cases t
                        · have HS : Hid (fSg (octs s) ke = ke) := if_neg (of_decide_eq_false ht.out.symm)
                          clear ht
                          go_wp2
                          go_meet
                          exact ⟨ke, rfl, hke0, HS, rfl⟩
                        · have hp : nth (octs s) ke = 43 ∨ nth (octs s) ke = 45 := of_decide_eq_true ht.out.symm
                          have HS : Hid (fSg (octs s) ke = ke + 1) := if_pos hp
                          have hy : ke < (octs s).length := by rcases hp with hp | hp <;> exact nth_pos_lt hp (by omega)
                          rw [HL.out] at hy
                          clear hp ht
                          go_wp2
                          go_meet
                          exact ⟨ke + 1, by go_num, hy, HS, rfl⟩
                      case rest =>
                        obtain ⟨kd, rfl, hkd0, HS, rfl⟩ := hcut
                        clear ht
                        rw [HS.out] at HF
                        have HD := digit_c s kd w hs
                        by_cases hd : isDig (nth (octs s) kd) = true
                        · rw [hd] at HD
                          have HF2 : Hid (fPow (octs s) k3 = some (dEnd (octs s) kd)) := HF.out.trans (if_pos hd)
                          have HD1 := Lib.hid HD
                          clear HD hd HF
                          go_wp2_with fail
                          refine HD1.out.mono ?_
                          rintro e w' ⟨rfl, rfl⟩
                          go_wp2
                          go_loopw [1] (fun iv wr => ∃ j : Nat, j ≤ s.size ∧ iv = .int .i64 (j : Int) ∧ Hid (dEnd (octs s) j = dEnd (octs s) kd) ∧ w = wr) (fun iv _ => s.size - (intOf iv).toNat)
                          case atStart => exact ⟨kd, hkd0, rfl, rfl, rfl⟩
                          case round =>
                            obtain ⟨j, hj, rfl, hdj, rfl⟩ := hrel
                            have HE := digit_c s j w hs
                            by_cases hd : isDig (nth (octs s) j) = true
                            · have hjs := dig_lt hd
                              rw [HL.out] at hjs
                              have hdj2 : Hid (dEnd (octs s) (j + 1) = dEnd (octs s) kd) := (dEnd_step hd).symm.trans hdj.out
                              rw [hd] at HE
                              have HE1 := Lib.hid HE
                              clear HE hd
                              go_wp2_with fail
                              refine HE1.out.mono ?_
                              rintro e w' ⟨rfl, rfl⟩
                              go_wp2
                              exact ⟨⟨j + 1, by omega, by go_num, hdj2, trivial⟩, by simp [intOf]; omega⟩
                            · have hd' : isDig (nth (octs s) j) = false := by simpa using hd
                              have hdj2 : Hid (j = dEnd (octs s) kd) := (dEnd_no hd').symm.trans hdj.out
                              rw [hd'] at HE
                              have HE1 := Lib.hid HE
                              clear HE hd hd'
                              go_wp2_with fail
                              refine HE1.out.mono ?_
                              rintro e w' ⟨rfl, rfl⟩
                              go_wp2
                              go_meet
                              exact ⟨j, rfl, hj, by show _ = _; rw [HF2.out, hdj2.out], rfl⟩
                        · have hd' : isDig (nth (octs s) kd) = false := by simpa using hd
                          have HN : Hid (form (octs s) = none) := by
                            show _ = _
                            rw [HFO3.out, HF.out.trans (if_neg hd)]
                          rw [hd'] at HD
                          have HD1 := Lib.hid HD
                          clear HD hd hd' HF
                          go_wp2_with fail
                          refine HD1.out.mono ?_
                          rintro e w' ⟨rfl, rfl⟩
                          go_wp2
                          go_ret2
                          rw [HN.out]
                          exact ⟨_, rfl, (fun k h => by cases h), rfl⟩
                case rest =>
                  obtain ⟨k4, rfl, hk4, HP, rfl⟩ := hcut
                  have HN : Hid (form (octs s) = some k4) := HFO3.out.trans HP.out
                  clear ht HP HFO3
                  go_wp2
                  go_ret2
                  rw [HN.out]
                  exact ⟨_, rfl, (fun k h => by injection h with h; rw [h]), rfl⟩
      · have hd' : isDig (nth (octs s) k) = false := by simpa using hd
        have HN : Hid (form (octs s) = none) := by
          show _ = _
          rw [HFO.out, show fWhole (octs s) k = none from if_neg hd]; rfl
        rw [hd'] at HD
        have HD1 := Lib.hid HD
        clear HD hd hd'
        go_wp2_with fail
        refine HD1.out.mono ?_
        rintro e w' ⟨rfl, rfl⟩
        go_wp2
        go_ret2
        rw [HN.out]
        exact ⟨_, rfl, (fun k h => by cases h), rfl⟩
end Go.Proofs.YtjhaoncganoaaaaGreatDoor

namespace Go.Proofs.YtjhaoncganoaaaaGreatDoor

/-- Text in parts: sign, whole, fraction, exponent's head and digits. -/
structure Parts (xs sg wh fr pw : List Nat) : Prop where
  eq : xs = sg ++ (wh ++ (fr ++ pw))
  sg : sg = [] ∨ sg = [45]
  wh : allDig wh = true ∧ wh ≠ []
  fr : fr = [] ∨ ∃ f, fr = 46 :: f ∧ allDig f = true ∧ f ≠ []
  pw : pw = [] ∨ ∃ e s p, pw = e :: (s ++ p) ∧ (e = 101 ∨ e = 69) ∧ (s = [] ∨ s = [43] ∨ s = [45]) ∧ allDig p = true ∧ p ≠ []

theorem allDig_run (xs : List Nat) (k : Nat) : allDig ((xs.drop k).take (dEnd xs k - k)) = true := by
  unfold dEnd
  rw [Nat.add_sub_cancel_left]
  have : (xs.drop k).take ((xs.drop k).takeWhile isDig).length = (xs.drop k).takeWhile isDig := by
    obtain ⟨r, hr⟩ := List.takeWhile_prefix (l := xs.drop k) isDig
    conv => lhs; arg 2; rw [← hr]
    simp
  rw [this]
  unfold allDig
  exact List.all_takeWhile
theorem take_drop_cut (xs : List Nat) {a b : Nat} (h : a ≤ b) : xs.drop a = (xs.drop a).take (b - a) ++ xs.drop b := by
  have h1 := (List.take_append_drop (b - a) (xs.drop a)).symm
  rw [List.drop_drop, show a + (b - a) = b by omega] at h1
  exact h1
theorem dEnd_ge (xs : List Nat) (k : Nat) : k ≤ dEnd xs k := Nat.le_add_right _ _
theorem dEnd_gt {xs : List Nat} {k : Nat} (h : isDig (nth xs k) = true) : k < dEnd xs k := by
  rw [dEnd_step h]
  exact dEnd_ge xs (k + 1)
theorem run_ne {xs : List Nat} {a b : Nat} (h : a < b) (hb : b ≤ xs.length) : (xs.drop a).take (b - a) ≠ [] := by
  intro e
  have := congrArg List.length e
  rw [List.length_take, List.length_drop, List.length_nil] at this
  omega
theorem take_one {xs : List Nat} {k c : Nat} (h : nth xs k = c) (hc : 0 < c) : (xs.drop k).take 1 = [c] := by
  rw [drop_eq_nth (nth_pos_lt h hc), h]; rfl

/-- What has the form has these parts. -/
theorem form_parts {xs : List Nat} (h : form xs = some xs.length) : ∃ sg wh fr pw, Parts xs sg wh fr pw := by
  unfold form at h
  obtain ⟨k1, h1, h⟩ := Option.bind_eq_some_iff.1 h
  obtain ⟨k2, h2, h3⟩ := Option.bind_eq_some_iff.1 h
  have hsg : ∃ sg, (sg = [] ∨ sg = [45]) ∧ xs = sg ++ xs.drop (fSgn xs) := by
    unfold fSgn
    by_cases hm : nth xs 0 = 45
    · rw [if_pos hm]
      refine ⟨[45], .inr rfl, ?_⟩
      have := take_drop_cut xs (Nat.zero_le 1)
      rw [take_one hm (by omega), List.drop_zero] at this
      exact this
    · rw [if_neg hm]
      exact ⟨[], .inl rfl, rfl⟩
  obtain ⟨sg, s1, s2⟩ := hsg
  have hwh : ∃ wh, (allDig wh = true ∧ wh ≠ []) ∧ xs.drop (fSgn xs) = wh ++ xs.drop k1 := by
    unfold fWhole at h1
    by_cases hd : isDig (nth xs (fSgn xs)) = true
    · rw [if_pos hd] at h1
      have hlt := dig_lt hd
      by_cases h48 : nth xs (fSgn xs) = 48
      · rw [if_pos h48] at h1
        injection h1 with h1
        subst h1
        refine ⟨[48], ⟨by decide, by simp⟩, ?_⟩
        have := take_drop_cut xs (Nat.le_succ (fSgn xs))
        rw [show (fSgn xs).succ - fSgn xs = 1 by omega, take_one h48 (by omega)] at this
        exact this
      · rw [if_neg h48] at h1
        injection h1 with h1
        subst h1
        exact ⟨_, ⟨allDig_run xs _, run_ne (dEnd_gt hd) (dEnd_le (by omega))⟩, take_drop_cut xs (dEnd_ge xs _)⟩
    · rw [if_neg hd] at h1; cases h1
  obtain ⟨wh, w1, w2⟩ := hwh
  have hfr : ∃ fr, (fr = [] ∨ ∃ f, fr = 46 :: f ∧ allDig f = true ∧ f ≠ []) ∧ xs.drop k1 = fr ++ xs.drop k2 := by
    unfold fFrac at h2
    by_cases hp : nth xs k1 = 46
    · rw [if_pos hp] at h2
      by_cases hd : isDig (nth xs (k1 + 1)) = true
      · rw [if_pos hd] at h2
        injection h2 with h2
        subst h2
        refine ⟨46 :: ((xs.drop (k1 + 1)).take (dEnd xs (k1 + 1) - (k1 + 1))), .inr ⟨_, rfl, allDig_run xs _, run_ne (dEnd_gt hd) (dEnd_le (by have := dig_lt hd; omega))⟩, ?_⟩
        rw [List.cons_append, ← take_drop_cut xs (dEnd_ge xs _), drop_eq_nth (nth_pos_lt hp (by omega)), hp]
      · rw [if_neg hd] at h2; cases h2
    · rw [if_neg hp] at h2
      injection h2 with h2
      subst h2
      exact ⟨[], .inl rfl, rfl⟩
  obtain ⟨fr, f1, f2⟩ := hfr
  have hpw : xs.drop k2 = [] ∨ ∃ e s p, xs.drop k2 = e :: (s ++ p) ∧ (e = 101 ∨ e = 69) ∧ (s = [] ∨ s = [43] ∨ s = [45]) ∧ allDig p = true ∧ p ≠ [] := by
    unfold fPow at h3
    by_cases he : nth xs k2 = 101 ∨ nth xs k2 = 69
    · rw [if_pos he] at h3
      by_cases hd : isDig (nth xs (fSg xs (k2 + 1))) = true
      · rw [if_pos hd] at h3
        injection h3 with h3
        right
        have hk2 : k2 < xs.length := by rcases he with he | he <;> exact nth_pos_lt he (by omega)
        have hs : ∃ s, (s = [] ∨ s = [43] ∨ s = [45]) ∧ xs.drop (k2 + 1) = s ++ xs.drop (fSg xs (k2 + 1)) := by
          unfold fSg
          by_cases hq : nth xs (k2 + 1) = 43 ∨ nth xs (k2 + 1) = 45
          · rw [if_pos hq]
            have := take_drop_cut xs (Nat.le_succ (k2 + 1))
            rw [show (k2 + 1).succ - (k2 + 1) = 1 by omega] at this
            rcases hq with hq | hq
            · rw [take_one hq (by omega)] at this
              exact ⟨[43], .inr (.inl rfl), this⟩
            · rw [take_one hq (by omega)] at this
              exact ⟨[45], .inr (.inr rfl), this⟩
          · rw [if_neg hq]
            exact ⟨[], .inl rfl, rfl⟩
        obtain ⟨s, hs1, hs2⟩ := hs
        have hr := take_drop_cut xs (dEnd_ge xs (fSg xs (k2 + 1)))
        rw [h3, List.drop_length, List.append_nil] at hr
        have hA := allDig_run xs (fSg xs (k2 + 1))
        rw [h3, ← hr] at hA
        refine ⟨nth xs k2, s, xs.drop (fSg xs (k2 + 1)), ?_, he, hs1, hA, ?_⟩
        · rw [← hs2, drop_eq_nth hk2]
        · intro e
          have := congrArg List.length e
          rw [List.length_drop, List.length_nil] at this
          have := dig_lt hd
          omega
      · rw [if_neg hd] at h3; cases h3
    · rw [if_neg he] at h3
      injection h3 with h3
      subst h3
      left
      exact List.drop_length
  exact ⟨sg, wh, fr, xs.drop k2, ⟨by rw [← f2, ← w2]; exact s2, s1, w1, f1, hpw⟩⟩

/-- The mantissa, octet by octet: digits (the lowest first), the point seen, digits behind it. -/
def mstep (st : List Nat × Bool × Nat) (c : Nat) : List Nat × Bool × Nat :=
  if c = 46 then (st.1, true, st.2.2) else if c = 45 then st else ((c - 48) :: st.1, st.2.1, if st.2.1 = true then st.2.2 + 1 else st.2.2)
def mfold (xs : List Nat) : List Nat × Bool × Nat := xs.foldl mstep ([], false, 0)
theorem mfold_nil : mfold [] = ([], false, 0) := rfl
theorem mfold_snoc (xs : List Nat) (c : Nat) : mfold (xs ++ [c]) = mstep (mfold xs) c := by unfold mfold; rw [List.foldl_append]; rfl
theorem mdigs (ys : List Nat) : ∀ (ds : List Nat) (b : Bool) (e : Nat), allDig ys = true → ys.foldl mstep (ds, b, e) = (lows ys ++ ds, b, if b = true then e + ys.length else e) := by
  induction ys with
  | nil => intro ds b e _; simp [lows]
  | cons c ys ih =>
    intro ds b e h
    simp [allDig] at h
    obtain ⟨h1, h2⟩ := h
    have hc : 48 ≤ c ∧ c ≤ 57 := of_decide_eq_true h1
    rw [List.foldl_cons]
    have hm : mstep (ds, b, e) c = ((c - 48) :: ds, b, if b = true then e + 1 else e) := by
      unfold mstep; rw [if_neg (by omega), if_neg (by omega)]
    rw [hm, ih _ _ _ (by simp [allDig]; exact h2)]
    have : lows (c :: ys) = lows ys ++ [c - 48] := by simp [lows]
    rw [this, List.append_assoc, List.singleton_append]
    cases b
    · rfl
    · simp; omega
/-- What a number's mantissa tells. -/
theorem mfold_parts {xs sg wh fr pw : List Nat} (h : Parts xs sg wh fr pw) : ∃ f, allDig f = true ∧ (fr = [] ∧ f = [] ∨ fr = 46 :: f) ∧ (mfold (sg ++ (wh ++ fr))).1 = lows (wh ++ f) ∧ (mfold (sg ++ (wh ++ fr))).2.2 = f.length := by
  have h0 : sg.foldl mstep ([], false, 0) = ([], false, 0) := by
    rcases h.sg with rfl | rfl <;> rfl
  unfold mfold
  rw [List.foldl_append, h0, List.foldl_append, mdigs _ _ _ _ h.wh.1]
  rcases h.fr with rfl | ⟨f, rfl, hf, _⟩
  · exact ⟨[], rfl, .inl ⟨rfl, rfl⟩, by simp, by simp⟩
  · refine ⟨f, hf, .inr rfl, ?_⟩
    rw [List.foldl_cons, show mstep (lows wh ++ [], false, if false = true then 0 + wh.length else 0) 46 = (lows wh, true, 0) by simp [mstep], mdigs _ _ _ _ hf]
    simp [lows]
/-- The octets of a mantissa. -/
theorem mant_octs {xs sg wh fr pw : List Nat} (h : Parts xs sg wh fr pw) : ∀ c ∈ sg ++ (wh ++ fr), c = 45 ∨ c = 46 ∨ (48 ≤ c ∧ c ≤ 57) := by
  intro c hc
  have dig : ∀ ys : List Nat, allDig ys = true → c ∈ ys → 48 ≤ c ∧ c ≤ 57 := fun ys hy hm => by
    unfold allDig at hy
    rw [List.all_eq_true] at hy
    exact of_decide_eq_true (hy c hm)
  rcases List.mem_append.1 hc with hc | hc
  · rcases h.sg with rfl | rfl
    · cases hc
    · left; simpa using hc
  · rcases List.mem_append.1 hc with hc | hc
    · exact .inr (.inr (dig _ h.wh.1 hc))
    · rcases h.fr with rfl | ⟨f, rfl, hf, _⟩
      · cases hc
      · rcases List.mem_cons.1 hc with hc | hc
        · exact .inr (.inl hc)
        · exact .inr (.inr (dig _ hf hc))
/-- The exponent, octet by octet. -/
def pstep (st : Bool × Nat) (c : Nat) : Bool × Nat := if c = 45 then (true, st.2) else if c = 43 then st else (st.1, st.2 * 10 + (c - 48))
def pfold (xs : List Nat) : Bool × Nat := xs.foldl pstep (false, 0)
theorem pfold_snoc (xs : List Nat) (c : Nat) : pfold (xs ++ [c]) = pstep (pfold xs) c := by unfold pfold; rw [List.foldl_append]; rfl
theorem pdigs (ys : List Nat) : ∀ (b : Bool) (v : Nat), allDig ys = true → ys.foldl pstep (b, v) = (b, v * 10 ^ ys.length + pnum ys) := by
  induction ys with
  | nil => intro b v _; simp [pnum_nil]
  | cons c ys ih =>
    intro b v h
    simp [allDig] at h
    obtain ⟨h1, h2⟩ := h
    have hc : 48 ≤ c ∧ c ≤ 57 := of_decide_eq_true h1
    rw [List.foldl_cons, show pstep (b, v) c = (b, v * 10 + (c - 48)) by unfold pstep; rw [if_neg (by omega), if_neg (by omega)], ih _ _ (by simp [allDig]; exact h2), pnum_cons, List.length_cons, Nat.pow_succ, Nat.add_mul, Nat.mul_assoc, Nat.mul_comm 10, Nat.add_assoc]
theorem pfold_parts {s p : List Nat} (hs : s = [] ∨ s = [43] ∨ s = [45]) (hp : allDig p = true) : pfold (s ++ p) = (s == [45], pnum p) := by
  unfold pfold
  rw [List.foldl_append]
  rcases hs with rfl | rfl | rfl
  · rw [List.foldl_nil, pdigs _ _ _ hp]; simp
  · rw [show [43].foldl pstep (false, 0) = (false, 0) from rfl, pdigs _ _ _ hp]; simp
  · rw [show [45].foldl pstep (false, 0) = (true, 0) from rfl, pdigs _ _ _ hp]; simp
theorem pow_octs {s p : List Nat} (hs : s = [] ∨ s = [43] ∨ s = [45]) (hp : allDig p = true) : ∀ c ∈ s ++ p, c = 43 ∨ c = 45 ∨ (48 ≤ c ∧ c ≤ 57) := by
  intro c hc
  rcases List.mem_append.1 hc with hc | hc
  · rcases hs with rfl | rfl | rfl
    · cases hc
    · left; simpa using hc
    · right; left; simpa using hc
  · unfold allDig at hp
    rw [List.all_eq_true] at hp
    exact .inr (.inr (of_decide_eq_true (hp c hc)))
end Go.Proofs.YtjhaoncganoaaaaGreatDoor
