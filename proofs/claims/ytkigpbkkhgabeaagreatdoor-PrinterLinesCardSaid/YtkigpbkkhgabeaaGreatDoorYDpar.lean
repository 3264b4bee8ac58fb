import Derived.Test.YtkigpbkkhgabeaaGreatDoorYDref
import Derived.Deep.Cut
import Derived.Deep.CutRange
import Derived.Deep.CutBlock
import Derived.Test.YtkigpbkkhgabeaaGreatDoorYNrefb
import Derived.Test.YtkigpbkkhgabeaaGreatDoorYNdig
import Derived.Laws.AppendOwnNone
set_option linter.unusedVariables false
set_option linter.unusedSimpArgs false
namespace Go.Proofs.YtkigpbkkhgabeaaGreatDoor
open Go.RowKit
def dEnd (xs : List Nat) (k : Nat) : Nat:=k + ((xs.drop k).takeWhile isDig).length
theorem isDig_zero : isDig 0 = false:=by decide
theorem dEnd_no {xs : List Nat} {k : Nat} (h : isDig (nth xs k) = false) : dEnd xs k = k:=by
 unfold dEnd
 by_cases hk : k < xs.length
 ·rw [drop_eq_nth hk,List.takeWhile_cons_of_neg (by rw [h]; decide)]; rfl
 ·rw [List.drop_of_length_le (by omega)]; rfl
theorem dig_lt {xs : List Nat} {k : Nat} (h : isDig (nth xs k) = true) : k < xs.length:=by
 by_cases hk : k < xs.length
 ·exact hk
 ·rw [nth_none (by omega),isDig_zero] at h; cases h
theorem dEnd_step {xs : List Nat} {k : Nat} (h : isDig (nth xs k) = true) : dEnd xs k = dEnd xs (k + 1):=by
 unfold dEnd
 rw [drop_eq_nth (dig_lt h),List.takeWhile_cons_of_pos h,List.length_cons]
 omega
theorem dEnd_le {xs : List Nat} {k : Nat} (h : k ≤ xs.length) : dEnd xs k ≤ xs.length:=by
 unfold dEnd
 have h1:=(List.takeWhile_sublist (l:=xs.drop k) isDig).length_le
 rw [List.length_drop] at h1
 omega
def fSgn (xs : List Nat) : Nat:=if nth xs 0 = 45 then 1 else 0
def fWhole (xs : List Nat) (k : Nat) : Option Nat:=if isDig (nth xs k) = true then some (if nth xs k = 48 then k + 1 else dEnd xs k) else none
def fFrac (xs : List Nat) (k : Nat) : Option Nat:=if nth xs k = 46 then (if isDig (nth xs (k + 1)) = true then some (dEnd xs (k + 1)) else none) else some k
def fSg (xs : List Nat) (k : Nat) : Nat:=if nth xs k = 43 ∨ nth xs k = 45 then k + 1 else k
def fPow (xs : List Nat) (k : Nat) : Option Nat:=if nth xs k = 101 ∨ nth xs k = 69 then (if isDig (nth xs (fSg xs (k + 1))) = true then some (dEnd xs (fSg xs (k + 1))) else none) else some k
def form (xs : List Nat) : Option Nat:=(fWhole xs (fSgn xs)).bind fun k => (fFrac xs k).bind (fPow xs)
set_option maxRecDepth 100000 in
theorem digit_c (s : ByteArray) (k : Nat) (w : World) (hs : s.size ≤ 9223372036854775807) :
  Calls Tryz.prog 141 #[.string s,.int .i64 (k : Int)] w fun e w' => e = .returned (.bool (isDig (nth (octs s) k))) ∧ w = w':=by
 by_cases hk : k < s.size
 ·have ho:=Lib.hid (octs_get s k hk)
  by_cases hd : 48 ≤ (s[k].toNat : Int) ∧ (s[k].toNat : Int) ≤ 57
  ·have HD : Hid (isDig (nth (octs s) k) = true):=by show _ = _; rw [ho.out]; exact decide_eq_true (by omega)
   obtain ⟨d1,d2⟩:=hd
   go_enter Tryz.func141,Tryz.ntmps141
   go_wp2
   go_ret
   rw [HD.out]
   simp
  ·have HD : Hid (isDig (nth (octs s) k) = false):=by show _ = _; rw [ho.out]; exact decide_eq_false (by omega)
   have hdd : (s[k].toNat : Int) < 48 ∨ 57 < (s[k].toNat : Int):=by omega
   clear hd
   rcases hdd with hd | hd
   all_goals
    go_enter Tryz.func141,Tryz.ntmps141
    go_wp2
    go_ret
    rw [HD.out]
    simp <;> omega
 ·have HD : Hid (isDig (nth (octs s) k) = false):=by show _ = _; rw [nth_none (by rw [octs_length]; omega)]; decide
  have hk2 : s.size ≤ k:=by omega
  clear hk
  go_enter Tryz.func141,Tryz.ntmps141
  go_wp2
  go_ret
  rw [HD.out]
  simp
theorem nth_pos_lt {xs : List Nat} {k c : Nat} (h : nth xs k = c) (hc : 0 < c) : k < xs.length:=by
 by_cases hk : k < xs.length
 ·exact hk
 ·rw [nth_none (by omega)] at h; omega
set_option maxRecDepth 100000 in
set_option maxHeartbeats 2000000 in
theorem Ends_c (s : ByteArray) (w : World) (hs : s.size ≤ 9223372036854775807) :
  Calls Tryz.prog 116 #[.string s,.int .i64 0] w fun e w' => ∃ z : Int,e = .returned (.tuple #[.int .i64 z,.bool (form (octs s)).isSome]) ∧ (∀ k,form (octs s) = some k → z = (k : Int)) ∧ w = w':=by
 have HL:=Lib.hid (octs_length s)
 go_enter Tryz.func116,Tryz.ntmps116
 go_upto_region 1 with fail
 go_cut [15] from 6 to 15 (fun sX wc => sX = .bool (decide (nth (octs s) (0) = 45)) ∧ w = wc)
 case first =>
  by_cases h0 : 0 < s.size
  ·have ho:=octs_get s (0) h0
   by_cases e0 : (s[0].toNat : Int) = 45
   ·have HB : Hid (decide (nth (octs s) (0) = 45) = true):=by show _ = _; rw [decide_eq_true_iff,ho]; omega
    have hb0 : ((s[0].toNat : Int) == 45) = true:=by rw [e0]; rfl
    clear ho
    go_wp2
    go_meet
    rw [HB.out]
    exact ⟨by simp_all,rfl⟩
   ·have hb0 : ((s[0].toNat : Int) == 45) = false:=by rw [beq_eq_false_iff_ne]; exact e0
    have HB : Hid (decide (nth (octs s) (0) = 45) = false):=by show _ = _; rw [decide_eq_false_iff_not,ho]; omega
    clear ho e0
    go_wp2
    go_meet
    rw [HB.out]
    exact ⟨by simp_all,rfl⟩
  ·have HB : Hid (decide (nth (octs s) (0) = 45) = false):=by show _ = _; rw [decide_eq_false_iff_not,nth_none (by rw [HL.out]; omega)]; omega
   have h1 : s.size ≤ 0:=by omega
   clear h0
   go_wp2
   go_meet
   rw [HB.out]
   exact ⟨rfl,rfl⟩
 case rest =>
  obtain ⟨rfl,rfl⟩:=hcut
  obtain ⟨t,ht⟩ : ∃ t,Hid (t = decide (nth (octs s) (0) = 45)):=⟨_,rfl⟩
  rw [← ht.out]
  go_upto_if 15 with fail
  go_cut [1] from 16 to 18 (fun s1 wc => s1 = .int .i64 ((fSgn (octs s) : Nat) : Int) ∧ fSgn (octs s) ≤ s.size ∧ w = wc)
  case first =>
   cases t
   ·have HF : Hid (fSgn (octs s) = 0):=by show _ = _; unfold fSgn; rw [if_neg (of_decide_eq_false ht.out.symm)]
    go_wp2
    go_meet
    rw [HF.out]
    exact ⟨rfl,Nat.zero_le _,rfl⟩
   ·have hp : nth (octs s) 0 = 45:=of_decide_eq_true ht.out.symm
    have HF : Hid (fSgn (octs s) = 1):=by show _ = _; unfold fSgn; rw [if_pos hp]
    have hz:=nth_pos_lt hp (by omega : 0 < 45)
    rw [HL.out] at hz
    clear hp
    go_wp2
    go_meet
    rw [HF.out]
    exact ⟨rfl,hz,rfl⟩
  case rest =>
   obtain ⟨rfl,hk0,rfl⟩:=hcut
   have HFO : Hid (form (octs s) = (fWhole (octs s) (fSgn (octs s))).bind fun k => (fFrac (octs s) k).bind (fPow (octs s))):=rfl
   generalize fSgn (octs s) = k at hk0 HFO
   clear ht
   have HD:=digit_c s k w hs
   by_cases hd : isDig (nth (octs s) k) = true
   ·have HW : Hid (fWhole (octs s) k = some (if nth (octs s) k = 48 then k + 1 else dEnd (octs s) k)):=if_pos hd
    have hks:=dig_lt hd
    rw [HL.out] at hks
    have HDg:=Lib.hid hd
    rw [hd] at HD
    have HD1:=Lib.hid HD
    clear HD hd
    go_wp2_with fail
    refine HD1.out.mono ?_
    rintro e w' ⟨rfl,rfl⟩
    have ho:=Lib.hid (octs_get s k hks)
    obtain ⟨t2,ht2⟩ : ∃ t,Hid (t = ((s[k].toNat : Int) == 48)):=⟨((s[k].toNat : Int) == 48),Lib.hid rfl⟩
    go_upto_if 26 with fail
    rw [← ht2.out]
    go_cut [1] from 27 to 33 (fun s1 wc => ∃ k2 : Nat,s1 = .int .i64 (k2 : Int) ∧ k2 ≤ s.size ∧ Hid (fWhole (octs s) k = some k2) ∧ w = wc)
    case first =>
     cases t2
     ·have HW2 : Hid (fWhole (octs s) k = some (dEnd (octs s) k)):=by
       show _ = _
       have:=ht2.out
       rw [HW.out,if_neg (by rw [ho.out]; intro h; rw [h] at this; exact absurd this (by decide))]
      clear ho ht2
      go_wp2
      go_loopw [1] (fun iv wr => ∃ j : Nat,j ≤ s.size ∧ iv = .int .i64 (j : Int) ∧ Hid (dEnd (octs s) j = dEnd (octs s) k) ∧ w = wr) (fun iv _ => s.size - (RowKit.intOf iv).toNat)
      case atStart => exact ⟨k,hk0,rfl,rfl,rfl⟩
      case round =>
       obtain ⟨j,hj,rfl,hdj,rfl⟩:=hrel
       have HE:=digit_c s j w hs
       by_cases hd : isDig (nth (octs s) j) = true
       ·have hjs:=dig_lt hd
        rw [HL.out] at hjs
        have hdj2 : Hid (dEnd (octs s) (j + 1) = dEnd (octs s) k):=(dEnd_step hd).symm.trans hdj.out
        rw [hd] at HE
        have HE1:=Lib.hid HE
        clear HE hd
        go_wp2_with fail
        refine HE1.out.mono ?_
        rintro e w' ⟨rfl,rfl⟩
        go_wp2
        exact ⟨⟨j + 1,by omega,by go_num,hdj2,trivial⟩,by simp [RowKit.intOf]; omega⟩
       ·have hd' : isDig (nth (octs s) j) = false:=by simpa using hd
        have hdj2 : Hid (j = dEnd (octs s) k):=(dEnd_no hd').symm.trans hdj.out
        rw [hd'] at HE
        have HE1:=Lib.hid HE
        clear HE hd hd'
        go_wp2_with fail
        refine HE1.out.mono ?_
        rintro e w' ⟨rfl,rfl⟩
        go_wp2
        go_meet
        exact ⟨j,rfl,hj,by show _ = _; rw [HW2.out,hdj2.out],rfl⟩
     ·have HW2 : Hid (fWhole (octs s) k = some (k + 1)):=by
       show _ = _
       have:=ht2.out.symm
       rw [HW.out,if_pos (by rw [ho.out]; rw [beq_iff_eq] at this; omega)]
      clear ho ht2
      go_wp2
      go_meet
      exact ⟨k + 1,by go_num,hks,HW2,rfl⟩
    case rest =>
     obtain ⟨k2,rfl,hk2,HW2,rfl⟩:=hcut
     have HFO2 : Hid (form (octs s) = (fFrac (octs s) k2).bind (fPow (octs s))):=by show _ = _; rw [HFO.out,HW2.out]; rfl
     clear HW HD1 ho ht2 HFO HW2 HDg hk0
     go_upto_region 9 with fail
     go_cut [43] from 34 to 43 (fun sX wc => sX = .bool (decide (nth (octs s) (k2) = 46)) ∧ w = wc)
     case first =>
      by_cases h0 : k2 < s.size
      ·have ho:=octs_get s (k2) h0
       by_cases e0 : (s[k2].toNat : Int) = 46
       ·have HB : Hid (decide (nth (octs s) (k2) = 46) = true):=by show _ = _; rw [decide_eq_true_iff,ho]; omega
        have hb0 : ((s[k2].toNat : Int) == 46) = true:=by rw [e0]; rfl
        clear ho
        go_wp2
        go_meet
        rw [HB.out]
        exact ⟨by simp_all,rfl⟩
       ·have hb0 : ((s[k2].toNat : Int) == 46) = false:=by rw [beq_eq_false_iff_ne]; exact e0
        have HB : Hid (decide (nth (octs s) (k2) = 46) = false):=by show _ = _; rw [decide_eq_false_iff_not,ho]; omega
        clear ho e0
        go_wp2
        go_meet
        rw [HB.out]
        exact ⟨by simp_all,rfl⟩
      ·have HB : Hid (decide (nth (octs s) (k2) = 46) = false):=by show _ = _; rw [decide_eq_false_iff_not,nth_none (by rw [HL.out]; omega)]; omega
       have h1 : s.size ≤ k2:=by omega
       clear h0
       go_wp2
       go_meet
       rw [HB.out]
       exact ⟨rfl,rfl⟩
     case rest =>
      obtain ⟨rfl,rfl⟩:=hcut
      obtain ⟨t,ht⟩ : ∃ t,Hid (t = decide (nth (octs s) (k2) = 46)):=⟨_,rfl⟩
      rw [← ht.out]
      go_upto_if 43 with fail
      go_cut [1] from 44 to 55 (fun s1 wc => ∃ k3 : Nat,s1 = .int .i64 (k3 : Int) ∧ k3 ≤ s.size ∧ Hid (fFrac (octs s) k2 = some k3) ∧ w = wc)
      case first =>
       cases t
       ·have HF : Hid (fFrac (octs s) k2 = some k2):=if_neg (of_decide_eq_false ht.out.symm)
        clear ht
        go_wp2
        go_meet
        exact ⟨k2,rfl,hk2,HF,rfl⟩
       ·have hp : nth (octs s) k2 = 46:=of_decide_eq_true ht.out.symm
        have HF : Hid (fFrac (octs s) k2 = if isDig (nth (octs s) (k2 + 1)) = true then some (dEnd (octs s) (k2 + 1)) else none):=if_pos hp
        have hz:=nth_pos_lt hp (by omega : 0 < 46)
        rw [HL.out] at hz
        clear hp ht
        obtain ⟨kd,hkd⟩ : ∃ kd,kd = k2 + 1:=⟨_,rfl⟩
        have hkd0 : kd ≤ s.size:=by omega
        have HKD : Hid ((k2 : Int) + 1 = (kd : Int)):=by show _ = _; omega
        rw [← hkd] at HF
        clear hkd
        have HD:=digit_c s kd w hs
        by_cases hd : isDig (nth (octs s) kd) = true
        ·rw [hd] at HD
         have HF2 : Hid (fFrac (octs s) k2 = some (dEnd (octs s) kd)):=HF.out.trans (if_pos hd)
         have HD1:=Lib.hid HD
         clear HD hd HF
         go_wp2_with fail
         rw [HKD.out]
         refine HD1.out.mono ?_
         rintro e w' ⟨rfl,rfl⟩
         go_wp2
         go_loopw [1] (fun iv wr => ∃ j : Nat,j ≤ s.size ∧ iv = .int .i64 (j : Int) ∧ Hid (dEnd (octs s) j = dEnd (octs s) kd) ∧ w = wr) (fun iv _ => s.size - (RowKit.intOf iv).toNat)
         case atStart => exact ⟨kd,hkd0,rfl,rfl,rfl⟩
         case round =>
          obtain ⟨j,hj,rfl,hdj,rfl⟩:=hrel
          have HE:=digit_c s j w hs
          by_cases hd : isDig (nth (octs s) j) = true
          ·have hjs:=dig_lt hd
           rw [HL.out] at hjs
           have hdj2 : Hid (dEnd (octs s) (j + 1) = dEnd (octs s) kd):=(dEnd_step hd).symm.trans hdj.out
           rw [hd] at HE
           have HE1:=Lib.hid HE
           clear HE hd
           go_wp2_with fail
           refine HE1.out.mono ?_
           rintro e w' ⟨rfl,rfl⟩
           go_wp2
           exact ⟨⟨j + 1,by omega,by go_num,hdj2,trivial⟩,by simp [RowKit.intOf]; omega⟩
          ·have hd' : isDig (nth (octs s) j) = false:=by simpa using hd
           have hdj2 : Hid (j = dEnd (octs s) kd):=(dEnd_no hd').symm.trans hdj.out
           rw [hd'] at HE
           have HE1:=Lib.hid HE
           clear HE hd hd'
           go_wp2_with fail
           refine HE1.out.mono ?_
           rintro e w' ⟨rfl,rfl⟩
           go_wp2
           go_meet
           exact ⟨j,rfl,hj,by show _ = _; rw [HF2.out,hdj2.out],rfl⟩
        ·have hd' : isDig (nth (octs s) kd) = false:=by simpa using hd
         have HN : Hid (form (octs s) = none):=by
          show _ = _
          rw [HFO2.out,HF.out.trans (if_neg hd)]; rfl
         rw [hd'] at HD
         have HD1:=Lib.hid HD
         clear HD hd hd' HF
         go_wp2_with fail
         rw [HKD.out]
         refine HD1.out.mono ?_
         rintro e w' ⟨rfl,rfl⟩
         go_wp2
         go_ret2
         rw [HN.out]
         exact ⟨_,rfl,(fun k h => by cases h),rfl⟩
      case rest =>
       obtain ⟨k3,rfl,hk3,HW3,rfl⟩:=hcut
       have HFO3 : Hid (form (octs s) = fPow (octs s) k3):=by show _ = _; rw [HFO2.out,HW3.out]; rfl
       clear ht HFO2 HW3 hk2
       go_upto_region 15 with fail
       go_cut [71] from 56 to 71 (fun sX wc => sX = .bool (decide (nth (octs s) (k3) = 101 ∨ nth (octs s) (k3) = 69)) ∧ w = wc)
       case first =>
        by_cases h0 : k3 < s.size
        ·have ho:=octs_get s (k3) h0
         by_cases e0 : (s[k3].toNat : Int) = 101
         ·have HB : Hid (decide (nth (octs s) (k3) = 101 ∨ nth (octs s) (k3) = 69) = true):=by show _ = _; rw [decide_eq_true_iff,ho]; omega
          have hb0 : ((s[k3].toNat : Int) == 101) = true:=by rw [e0]; rfl
          clear ho
          go_wp2
          go_meet
          rw [HB.out]
          exact ⟨by simp_all,rfl⟩
         ·have hb0 : ((s[k3].toNat : Int) == 101) = false:=by rw [beq_eq_false_iff_ne]; exact e0
          by_cases e1 : (s[k3].toNat : Int) = 69
          ·have HB : Hid (decide (nth (octs s) (k3) = 101 ∨ nth (octs s) (k3) = 69) = true):=by show _ = _; rw [decide_eq_true_iff,ho]; omega
           have hb1 : ((s[k3].toNat : Int) == 69) = true:=by rw [e1]; rfl
           clear ho
           go_wp2
           go_meet
           rw [HB.out]
           exact ⟨by simp_all,rfl⟩
          ·have hb1 : ((s[k3].toNat : Int) == 69) = false:=by rw [beq_eq_false_iff_ne]; exact e1
           have HB : Hid (decide (nth (octs s) (k3) = 101 ∨ nth (octs s) (k3) = 69) = false):=by show _ = _; rw [decide_eq_false_iff_not,ho]; omega
           clear ho e0 e1
           go_wp2
           go_meet
           rw [HB.out]
           exact ⟨by simp_all,rfl⟩
        ·have HB : Hid (decide (nth (octs s) (k3) = 101 ∨ nth (octs s) (k3) = 69) = false):=by show _ = _; rw [decide_eq_false_iff_not,nth_none (by rw [HL.out]; omega)]; omega
         have h1 : s.size ≤ k3:=by omega
         clear h0
         go_wp2
         go_meet
         rw [HB.out]
         exact ⟨rfl,rfl⟩
       case rest =>
        obtain ⟨rfl,rfl⟩:=hcut
        obtain ⟨t,ht⟩ : ∃ t,Hid (t = decide (nth (octs s) (k3) = 101 ∨ nth (octs s) (k3) = 69)):=⟨_,rfl⟩
        rw [← ht.out]
        go_upto_if 71 with fail
        go_cut [1] from 72 to 101 (fun s1 wc => ∃ k4 : Nat,s1 = .int .i64 (k4 : Int) ∧ k4 ≤ s.size ∧ Hid (fPow (octs s) k3 = some k4) ∧ w = wc)
        case first =>
         cases t
         ·have HF : Hid (fPow (octs s) k3 = some k3):=if_neg (of_decide_eq_false ht.out.symm)
          clear ht
          go_wp2
          go_meet
          exact ⟨k3,rfl,hk3,HF,rfl⟩
         ·have hp : nth (octs s) k3 = 101 ∨ nth (octs s) k3 = 69:=of_decide_eq_true ht.out.symm
          have HF : Hid (fPow (octs s) k3 = if isDig (nth (octs s) (fSg (octs s) (k3 + 1))) = true then some (dEnd (octs s) (fSg (octs s) (k3 + 1))) else none):=if_pos hp
          have hz : k3 < (octs s).length:=by rcases hp with hp | hp <;> exact nth_pos_lt hp (by omega)
          rw [HL.out] at hz
          clear hp ht
          obtain ⟨ke,hke⟩ : ∃ ke,ke = k3 + 1:=⟨_,rfl⟩
          have hke0 : ke ≤ s.size:=by omega
          have HKE : Hid ((k3 : Int) + 1 = (ke : Int)):=by show _ = _; omega
          rw [← hke] at HF
          clear hke
          go_upto_region 17 with fail
          rw [HKE.out]
          go_cut [89] from 74 to 89 (fun sX wc => sX = .bool (decide (nth (octs s) (ke) = 43 ∨ nth (octs s) (ke) = 45)) ∧ w = wc)
          case first =>
           by_cases h0 : ke < s.size
           ·have ho:=octs_get s (ke) h0
            by_cases e0 : (s[ke].toNat : Int) = 43
            ·have HB : Hid (decide (nth (octs s) (ke) = 43 ∨ nth (octs s) (ke) = 45) = true):=by show _ = _; rw [decide_eq_true_iff,ho]; omega
             have hb0 : ((s[ke].toNat : Int) == 43) = true:=by rw [e0]; rfl
             clear ho
             go_wp2
             go_meet
             rw [HB.out]
             exact ⟨by simp_all,rfl⟩
            ·have hb0 : ((s[ke].toNat : Int) == 43) = false:=by rw [beq_eq_false_iff_ne]; exact e0
             by_cases e1 : (s[ke].toNat : Int) = 45
             ·have HB : Hid (decide (nth (octs s) (ke) = 43 ∨ nth (octs s) (ke) = 45) = true):=by show _ = _; rw [decide_eq_true_iff,ho]; omega
              have hb1 : ((s[ke].toNat : Int) == 45) = true:=by rw [e1]; rfl
              clear ho
              go_wp2
              go_meet
              rw [HB.out]
              exact ⟨by simp_all,rfl⟩
             ·have hb1 : ((s[ke].toNat : Int) == 45) = false:=by rw [beq_eq_false_iff_ne]; exact e1
              have HB : Hid (decide (nth (octs s) (ke) = 43 ∨ nth (octs s) (ke) = 45) = false):=by show _ = _; rw [decide_eq_false_iff_not,ho]; omega
              clear ho e0 e1
              go_wp2
              go_meet
              rw [HB.out]
              exact ⟨by simp_all,rfl⟩
           ·have HB : Hid (decide (nth (octs s) (ke) = 43 ∨ nth (octs s) (ke) = 45) = false):=by show _ = _; rw [decide_eq_false_iff_not,nth_none (by rw [HL.out]; omega)]; omega
            have h1 : s.size ≤ ke:=by omega
            clear h0
            go_wp2
            go_meet
            rw [HB.out]
            exact ⟨rfl,rfl⟩
          case rest =>
           obtain ⟨rfl,rfl⟩:=hcut
           obtain ⟨t,ht⟩ : ∃ t,Hid (t = decide (nth (octs s) (ke) = 43 ∨ nth (octs s) (ke) = 45)):=⟨_,rfl⟩
           rw [← ht.out]
           go_upto_if 89 with fail
           go_cut [1] from 90 to 91 (fun s1 wc => ∃ kd : Nat,s1 = .int .i64 (kd : Int) ∧ kd ≤ s.size ∧ Hid (fSg (octs s) ke = kd) ∧ w = wc)
           case first =>
            cases t
            ·have HS : Hid (fSg (octs s) ke = ke):=if_neg (of_decide_eq_false ht.out.symm)
             clear ht
             go_wp2
             go_meet
             exact ⟨ke,rfl,hke0,HS,rfl⟩
            ·have hp : nth (octs s) ke = 43 ∨ nth (octs s) ke = 45:=of_decide_eq_true ht.out.symm
             have HS : Hid (fSg (octs s) ke = ke + 1):=if_pos hp
             have hy : ke < (octs s).length:=by rcases hp with hp | hp <;> exact nth_pos_lt hp (by omega)
             rw [HL.out] at hy
             clear hp ht
             go_wp2
             go_meet
             exact ⟨ke + 1,by go_num,hy,HS,rfl⟩
           case rest =>
            obtain ⟨kd,rfl,hkd0,HS,rfl⟩:=hcut
            clear ht
            rw [HS.out] at HF
            have HD:=digit_c s kd w hs
            by_cases hd : isDig (nth (octs s) kd) = true
            ·rw [hd] at HD
             have HF2 : Hid (fPow (octs s) k3 = some (dEnd (octs s) kd)):=HF.out.trans (if_pos hd)
             have HD1:=Lib.hid HD
             clear HD hd HF
             go_wp2_with fail
             refine HD1.out.mono ?_
             rintro e w' ⟨rfl,rfl⟩
             go_wp2
             go_loopw [1] (fun iv wr => ∃ j : Nat,j ≤ s.size ∧ iv = .int .i64 (j : Int) ∧ Hid (dEnd (octs s) j = dEnd (octs s) kd) ∧ w = wr) (fun iv _ => s.size - (RowKit.intOf iv).toNat)
             case atStart => exact ⟨kd,hkd0,rfl,rfl,rfl⟩
             case round =>
              obtain ⟨j,hj,rfl,hdj,rfl⟩:=hrel
              have HE:=digit_c s j w hs
              by_cases hd : isDig (nth (octs s) j) = true
              ·have hjs:=dig_lt hd
               rw [HL.out] at hjs
               have hdj2 : Hid (dEnd (octs s) (j + 1) = dEnd (octs s) kd):=(dEnd_step hd).symm.trans hdj.out
               rw [hd] at HE
               have HE1:=Lib.hid HE
               clear HE hd
               go_wp2_with fail
               refine HE1.out.mono ?_
               rintro e w' ⟨rfl,rfl⟩
               go_wp2
               exact ⟨⟨j + 1,by omega,by go_num,hdj2,trivial⟩,by simp [RowKit.intOf]; omega⟩
              ·have hd' : isDig (nth (octs s) j) = false:=by simpa using hd
               have hdj2 : Hid (j = dEnd (octs s) kd):=(dEnd_no hd').symm.trans hdj.out
               rw [hd'] at HE
               have HE1:=Lib.hid HE
               clear HE hd hd'
               go_wp2_with fail
               refine HE1.out.mono ?_
               rintro e w' ⟨rfl,rfl⟩
               go_wp2
               go_meet
               exact ⟨j,rfl,hj,by show _ = _; rw [HF2.out,hdj2.out],rfl⟩
            ·have hd' : isDig (nth (octs s) kd) = false:=by simpa using hd
             have HN : Hid (form (octs s) = none):=by
              show _ = _
              rw [HFO3.out,HF.out.trans (if_neg hd)]
             rw [hd'] at HD
             have HD1:=Lib.hid HD
             clear HD hd hd' HF
             go_wp2_with fail
             refine HD1.out.mono ?_
             rintro e w' ⟨rfl,rfl⟩
             go_wp2
             go_ret2
             rw [HN.out]
             exact ⟨_,rfl,(fun k h => by cases h),rfl⟩
        case rest =>
         obtain ⟨k4,rfl,hk4,HP,rfl⟩:=hcut
         have HN : Hid (form (octs s) = some k4):=HFO3.out.trans HP.out
         clear ht HP HFO3
         go_wp2
         go_ret2
         rw [HN.out]
         exact ⟨_,rfl,(fun k h => by injection h with h; rw [h]),rfl⟩
   ·have hd' : isDig (nth (octs s) k) = false:=by simpa using hd
    have HN : Hid (form (octs s) = none):=by
     show _ = _
     rw [HFO.out,show fWhole (octs s) k = none from if_neg hd]; rfl
    rw [hd'] at HD
    have HD1:=Lib.hid HD
    clear HD hd hd'
    go_wp2_with fail
    refine HD1.out.mono ?_
    rintro e w' ⟨rfl,rfl⟩
    go_wp2
    go_ret2
    rw [HN.out]
    exact ⟨_,rfl,(fun k h => by cases h),rfl⟩
end Go.Proofs.YtkigpbkkhgabeaaGreatDoor
namespace Go.Proofs.YtkigpbkkhgabeaaGreatDoor
structure Parts (xs sg wh fr pw : List Nat) : Prop where
 eq : xs = sg ++ (wh ++ (fr ++ pw))
 sg : sg = [] ∨ sg = [45]
 wh : allDig wh = true ∧ wh ≠ []
 fr : fr = [] ∨ ∃ f,fr = 46 :: f ∧ allDig f = true ∧ f ≠ []
 pw : pw = [] ∨ ∃ e s p,pw = e :: (s ++ p) ∧ (e = 101 ∨ e = 69) ∧ (s = [] ∨ s = [43] ∨ s = [45]) ∧ allDig p = true ∧ p ≠ []
theorem allDig_run (xs : List Nat) (k : Nat) : allDig ((xs.drop k).take (dEnd xs k - k)) = true:=by
 unfold dEnd
 rw [Nat.add_sub_cancel_left]
 have : (xs.drop k).take ((xs.drop k).takeWhile isDig).length = (xs.drop k).takeWhile isDig:=by
  obtain ⟨r,hr⟩:=List.takeWhile_prefix (l:=xs.drop k) isDig
  conv => lhs; arg 2; rw [← hr]
  simp
 rw [this]
 unfold allDig
 exact List.all_takeWhile
theorem take_drop_cut (xs : List Nat) {a b : Nat} (h : a ≤ b) : xs.drop a = (xs.drop a).take (b - a) ++ xs.drop b:=by
 have h1:=(List.take_append_drop (b - a) (xs.drop a)).symm
 rw [List.drop_drop,show a + (b - a) = b by omega] at h1
 exact h1
theorem dEnd_ge (xs : List Nat) (k : Nat) : k ≤ dEnd xs k:=Nat.le_add_right _ _
theorem dEnd_gt {xs : List Nat} {k : Nat} (h : isDig (nth xs k) = true) : k < dEnd xs k:=by
 rw [dEnd_step h]
 exact dEnd_ge xs (k + 1)
theorem run_ne {xs : List Nat} {a b : Nat} (h : a < b) (hb : b ≤ xs.length) : (xs.drop a).take (b - a) ≠ []:=by
 intro e
 have:=congrArg List.length e
 rw [List.length_take,List.length_drop,List.length_nil] at this
 omega
theorem take_one {xs : List Nat} {k c : Nat} (h : nth xs k = c) (hc : 0 < c) : (xs.drop k).take 1 = [c]:=by
 rw [drop_eq_nth (nth_pos_lt h hc),h]; rfl
theorem form_parts {xs : List Nat} (h : form xs = some xs.length) : ∃ sg wh fr pw,Parts xs sg wh fr pw:=by
 unfold form at h
 obtain ⟨k1,h1,h⟩:=Option.bind_eq_some_iff.1 h
 obtain ⟨k2,h2,h3⟩:=Option.bind_eq_some_iff.1 h
 have hsg : ∃ sg,(sg = [] ∨ sg = [45]) ∧ xs = sg ++ xs.drop (fSgn xs):=by
  unfold fSgn
  by_cases hm : nth xs 0 = 45
  ·rw [if_pos hm]
   refine ⟨[45],.inr rfl,?_⟩
   have:=take_drop_cut xs (Nat.zero_le 1)
   rw [take_one hm (by omega),List.drop_zero] at this
   exact this
  ·rw [if_neg hm]
   exact ⟨[],.inl rfl,rfl⟩
 obtain ⟨sg,s1,s2⟩:=hsg
 have hwh : ∃ wh,(allDig wh = true ∧ wh ≠ []) ∧ xs.drop (fSgn xs) = wh ++ xs.drop k1:=by
  unfold fWhole at h1
  by_cases hd : isDig (nth xs (fSgn xs)) = true
  ·rw [if_pos hd] at h1
   have hlt:=dig_lt hd
   by_cases h48 : nth xs (fSgn xs) = 48
   ·rw [if_pos h48] at h1
    injection h1 with h1
    subst h1
    refine ⟨[48],⟨by decide,by simp⟩,?_⟩
    have:=take_drop_cut xs (Nat.le_succ (fSgn xs))
    rw [show (fSgn xs).succ - fSgn xs = 1 by omega,take_one h48 (by omega)] at this
    exact this
   ·rw [if_neg h48] at h1
    injection h1 with h1
    subst h1
    exact ⟨_,⟨allDig_run xs _,run_ne (dEnd_gt hd) (dEnd_le (by omega))⟩,take_drop_cut xs (dEnd_ge xs _)⟩
  ·rw [if_neg hd] at h1; cases h1
 obtain ⟨wh,w1,w2⟩:=hwh
 have hfr : ∃ fr,(fr = [] ∨ ∃ f,fr = 46 :: f ∧ allDig f = true ∧ f ≠ []) ∧ xs.drop k1 = fr ++ xs.drop k2:=by
  unfold fFrac at h2
  by_cases hp : nth xs k1 = 46
  ·rw [if_pos hp] at h2
   by_cases hd : isDig (nth xs (k1 + 1)) = true
   ·rw [if_pos hd] at h2
    injection h2 with h2
    subst h2
    refine ⟨46 :: ((xs.drop (k1 + 1)).take (dEnd xs (k1 + 1) - (k1 + 1))),.inr ⟨_,rfl,allDig_run xs _,run_ne (dEnd_gt hd) (dEnd_le (by have:=dig_lt hd; omega))⟩,?_⟩
    rw [List.cons_append,← take_drop_cut xs (dEnd_ge xs _),drop_eq_nth (nth_pos_lt hp (by omega)),hp]
   ·rw [if_neg hd] at h2; cases h2
  ·rw [if_neg hp] at h2
   injection h2 with h2
   subst h2
   exact ⟨[],.inl rfl,rfl⟩
 obtain ⟨fr,f1,f2⟩:=hfr
 have hpw : xs.drop k2 = [] ∨ ∃ e s p,xs.drop k2 = e :: (s ++ p) ∧ (e = 101 ∨ e = 69) ∧ (s = [] ∨ s = [43] ∨ s = [45]) ∧ allDig p = true ∧ p ≠ []:=by
  unfold fPow at h3
  by_cases he : nth xs k2 = 101 ∨ nth xs k2 = 69
  ·rw [if_pos he] at h3
   by_cases hd : isDig (nth xs (fSg xs (k2 + 1))) = true
   ·rw [if_pos hd] at h3
    injection h3 with h3
    right
    have hk2 : k2 < xs.length:=by rcases he with he | he <;> exact nth_pos_lt he (by omega)
    have hs : ∃ s,(s = [] ∨ s = [43] ∨ s = [45]) ∧ xs.drop (k2 + 1) = s ++ xs.drop (fSg xs (k2 + 1)):=by
     unfold fSg
     by_cases hq : nth xs (k2 + 1) = 43 ∨ nth xs (k2 + 1) = 45
     ·rw [if_pos hq]
      have:=take_drop_cut xs (Nat.le_succ (k2 + 1))
      rw [show (k2 + 1).succ - (k2 + 1) = 1 by omega] at this
      rcases hq with hq | hq
      ·rw [take_one hq (by omega)] at this
       exact ⟨[43],.inr (.inl rfl),this⟩
      ·rw [take_one hq (by omega)] at this
       exact ⟨[45],.inr (.inr rfl),this⟩
     ·rw [if_neg hq]
      exact ⟨[],.inl rfl,rfl⟩
    obtain ⟨s,hs1,hs2⟩:=hs
    have hr:=take_drop_cut xs (dEnd_ge xs (fSg xs (k2 + 1)))
    rw [h3,List.drop_length,List.append_nil] at hr
    have hA:=allDig_run xs (fSg xs (k2 + 1))
    rw [h3,← hr] at hA
    refine ⟨nth xs k2,s,xs.drop (fSg xs (k2 + 1)),?_,he,hs1,hA,?_⟩
    ·rw [← hs2,drop_eq_nth hk2]
    ·intro e
     have:=congrArg List.length e
     rw [List.length_drop,List.length_nil] at this
     have:=dig_lt hd
     omega
   ·rw [if_neg hd] at h3; cases h3
  ·rw [if_neg he] at h3
   injection h3 with h3
   subst h3
   left
   exact List.drop_length
 exact ⟨sg,wh,fr,xs.drop k2,⟨by rw [← f2,← w2]; exact s2,s1,w1,f1,hpw⟩⟩
def mstep (st : List Nat × Bool × Nat) (c : Nat) : List Nat × Bool × Nat :=
 if c = 46 then (st.1,true,st.2.2) else if c = 45 then st else ((c - 48) :: st.1,st.2.1,if st.2.1 = true then st.2.2 + 1 else st.2.2)
def mfold (xs : List Nat) : List Nat × Bool × Nat:=xs.foldl mstep ([],false,0)
theorem mfold_nil : mfold [] = ([],false,0):=rfl
theorem mfold_snoc (xs : List Nat) (c : Nat) : mfold (xs ++ [c]) = mstep (mfold xs) c:=by unfold mfold; rw [List.foldl_append]; rfl
theorem mdigs (ys : List Nat) : ∀ (ds : List Nat) (b : Bool) (e : Nat),allDig ys = true → ys.foldl mstep (ds,b,e) = (lows ys ++ ds,b,if b = true then e + ys.length else e):=by
 induction ys with
 | nil => intro ds b e _; simp [lows]
 | cons c ys ih =>
  intro ds b e h
  simp [allDig] at h
  obtain ⟨h1,h2⟩:=h
  have hc : 48 ≤ c ∧ c ≤ 57:=of_decide_eq_true h1
  rw [List.foldl_cons]
  have hm : mstep (ds,b,e) c = ((c - 48) :: ds,b,if b = true then e + 1 else e):=by
   unfold mstep; rw [if_neg (by omega),if_neg (by omega)]
  rw [hm,ih _ _ _ (by simp [allDig]; exact h2)]
  have : lows (c :: ys) = lows ys ++ [c - 48]:=by simp [lows]
  rw [this,List.append_assoc,List.singleton_append]
  cases b
  ·rfl
  ·simp; omega
theorem mfold_parts {xs sg wh fr pw : List Nat} (h : Parts xs sg wh fr pw) : ∃ f,allDig f = true ∧ (fr = [] ∧ f = [] ∨ fr = 46 :: f) ∧ (mfold (sg ++ (wh ++ fr))).1 = lows (wh ++ f) ∧ (mfold (sg ++ (wh ++ fr))).2.2 = f.length:=by
 have h0 : sg.foldl mstep ([],false,0) = ([],false,0):=by
  rcases h.sg with rfl | rfl <;> rfl
 unfold mfold
 rw [List.foldl_append,h0,List.foldl_append,mdigs _ _ _ _ h.wh.1]
 rcases h.fr with rfl | ⟨f,rfl,hf,_⟩
 ·exact ⟨[],rfl,.inl ⟨rfl,rfl⟩,by simp,by simp⟩
 ·refine ⟨f,hf,.inr rfl,?_⟩
  rw [List.foldl_cons,show mstep (lows wh ++ [],false,if false = true then 0 + wh.length else 0) 46 = (lows wh,true,0) by simp [mstep],mdigs _ _ _ _ hf]
  simp [lows]
theorem mant_octs {xs sg wh fr pw : List Nat} (h : Parts xs sg wh fr pw) : ∀ c ∈ sg ++ (wh ++ fr),c = 45 ∨ c = 46 ∨ (48 ≤ c ∧ c ≤ 57):=by
 intro c hc
 have dig : ∀ ys : List Nat,allDig ys = true → c ∈ ys → 48 ≤ c ∧ c ≤ 57:=fun ys hy hm => by
  unfold allDig at hy
  rw [List.all_eq_true] at hy
  exact of_decide_eq_true (hy c hm)
 rcases List.mem_append.1 hc with hc | hc
 ·rcases h.sg with rfl | rfl
  ·cases hc
  ·left; simpa using hc
 ·rcases List.mem_append.1 hc with hc | hc
  ·exact .inr (.inr (dig _ h.wh.1 hc))
  ·rcases h.fr with rfl | ⟨f,rfl,hf,_⟩
   ·cases hc
   ·rcases List.mem_cons.1 hc with hc | hc
    ·exact .inr (.inl hc)
    ·exact .inr (.inr (dig _ hf hc))
def pstep (st : Bool × Nat) (c : Nat) : Bool × Nat:=if c = 45 then (true,st.2) else if c = 43 then st else (st.1,st.2 * 10 + (c - 48))
def pfold (xs : List Nat) : Bool × Nat:=xs.foldl pstep (false,0)
theorem pfold_snoc (xs : List Nat) (c : Nat) : pfold (xs ++ [c]) = pstep (pfold xs) c:=by unfold pfold; rw [List.foldl_append]; rfl
theorem pdigs (ys : List Nat) : ∀ (b : Bool) (v : Nat),allDig ys = true → ys.foldl pstep (b,v) = (b,v * 10 ^ ys.length + pnum ys):=by
 induction ys with
 | nil => intro b v _; simp [pnum_nil]
 | cons c ys ih =>
  intro b v h
  simp [allDig] at h
  obtain ⟨h1,h2⟩:=h
  have hc : 48 ≤ c ∧ c ≤ 57:=of_decide_eq_true h1
  rw [List.foldl_cons,show pstep (b,v) c = (b,v * 10 + (c - 48)) by unfold pstep; rw [if_neg (by omega),if_neg (by omega)],ih _ _ (by simp [allDig]; exact h2),pnum_cons,List.length_cons,Nat.pow_succ,Nat.add_mul,Nat.mul_assoc,Nat.mul_comm 10,Nat.add_assoc]
theorem pfold_parts {s p : List Nat} (hs : s = [] ∨ s = [43] ∨ s = [45]) (hp : allDig p = true) : pfold (s ++ p) = (s == [45],pnum p):=by
 unfold pfold
 rw [List.foldl_append]
 rcases hs with rfl | rfl | rfl
 ·rw [List.foldl_nil,pdigs _ _ _ hp]; simp
 ·rw [show [43].foldl pstep (false,0) = (false,0) from rfl,pdigs _ _ _ hp]; simp
 ·rw [show [45].foldl pstep (false,0) = (true,0) from rfl,pdigs _ _ _ hp]; simp
theorem pow_octs {s p : List Nat} (hs : s = [] ∨ s = [43] ∨ s = [45]) (hp : allDig p = true) : ∀ c ∈ s ++ p,c = 43 ∨ c = 45 ∨ (48 ≤ c ∧ c ≤ 57):=by
 intro c hc
 rcases List.mem_append.1 hc with hc | hc
 ·rcases hs with rfl | rfl | rfl
  ·cases hc
  ·left; simpa using hc
  ·right; left; simpa using hc
 ·unfold allDig at hp
  rw [List.all_eq_true] at hp
  exact .inr (.inr (of_decide_eq_true (hp c hc)))
end Go.Proofs.YtkigpbkkhgabeaaGreatDoor
namespace Go.Proofs.YtkigpbkkhgabeaaGreatDoor
open Go.RowKit
theorem wpList_append_ints {ops : Array Oper} {rest : List Oper} {o : Oper} {a : Act} {Q : Exit → Act → World → Prop} {w : World} (hgd : o.guard = none) (s x : Operand)
  (ho : o.op = .call { callee:=.builtin .append,args:=#[s,x],argTypes:=#[101,101] })
  (base : Nat) (A : Option Addr) (n c : Nat) (xs : List Nat) (hs : a.eval s = .slice A n c) (hown : ResI w base A n c xs)
  (S : Nat → Prop) (B : Option Addr) (m d : Nat) (ys : List Nat) (hx : a.eval x = .slice B m d) (hy : RdI w S B m ys) (hd : B = none → d = 0)
  (hb : n + m ≤ 1000000) (hbase : base ≤ w.heap.size)
  (h : ∀ A' c' w',ResI w' base A' (n + m) c' (xs ++ ys) → w.grownBy w' (Value.slice A n c).ownBlock → wpList Tryz.prog ops Q rest (a.put o.dst (.slice A' (n + m) c')) w') : wpList Tryz.prog ops Q (o :: rest) a w:=by
 obtain ⟨i0,hi,hz0,hz1,hz2⟩:=info_parts infoI
 cases B with
 | none =>
  obtain ⟨rfl,rfl⟩:=hy.none_nil
  obtain rfl:=hd rfl
  refine wpList_append_own_none hgd s x 101 ho base 3 i0 1 Tryz.underlying101 hi (.slice A n c) n (i64s xs) hs hown.own hx ?_
  have:=h A c w (by rw [List.append_nil]; exact hown) (World.grownBy.refl w _)
  simpa using this
 | some ad =>
  refine wpList_append_own w hgd s x 101 ho base 3 i0 (.int .i64 0) 1 8 Tryz.underlying101 hi hz0 hz1 hz2 rfl (by decide) (.slice A n c) n (i64s xs) hs hown.own ad m d (i64s ys) hx (by rw [i64s_length,hy.len,Nat.mul_one]) hy.cellsAt (i64s_one ys) (by unfold maxLen; omega) (by omega) hbase ?_
  intro v' w1 h1 h2 _
  rw [← i64s_append] at h1
  obtain ⟨A',c',e,hr⟩:=ResI.of_row (by rw [List.length_append,hown.len,hy.len]) (hown.l32.append hy.li) h1
  subst e
  exact h A' c' w1 hr h2
end Go.Proofs.YtkigpbkkhgabeaaGreatDoor
namespace Go.Proofs.YtkigpbkkhgabeaaGreatDoor
open Go.RowKit
def cutE (xs : List Nat) : List Nat:=xs.takeWhile (fun c => decide (c ≠ 101 ∧ c ≠ 69))
def tMan (xs : List Nat) : List Nat × Bool × Nat:=mfold (cutE xs)
def tPow (xs : List Nat) : Bool × Nat:=pfold (xs.drop ((cutE xs).length + 1))
def tNeg (xs : List Nat) : Bool:=nth xs 0 == 45
def tVal (xs : List Nat) : Nat:=dval (tMan xs).1
def tExp (xs : List Nat) : Int:=(if (tPow xs).1 = true then -((tPow xs).2 : Int) else ((tPow xs).2 : Int)) - ((tMan xs).2.2 : Int)
theorem cutE_plain {ys : List Nat} (h : ∀ c ∈ ys,c = 45 ∨ c = 46 ∨ (48 ≤ c ∧ c ≤ 57)) : cutE ys = ys:=by
 induction ys with
 | nil => rfl
 | cons c ys ih =>
  unfold cutE at ih ⊢
  have:=h c (List.mem_cons_self ..)
  rw [List.takeWhile_cons_of_pos (by simp; omega),ih fun d hd => h d (List.mem_cons_of_mem _ hd)]
theorem cutE_at {ys : List Nat} (h : ∀ c ∈ ys,c = 45 ∨ c = 46 ∨ (48 ≤ c ∧ c ≤ 57)) {e : Nat} (he : e = 101 ∨ e = 69) (zs : List Nat) : cutE (ys ++ e :: zs) = ys:=by
 induction ys with
 | nil =>
  unfold cutE
  rw [List.nil_append,List.takeWhile_cons_of_neg (by simp; omega)]
 | cons c ys ih =>
  unfold cutE at ih ⊢
  have:=h c (List.mem_cons_self ..)
  rw [List.cons_append,List.takeWhile_cons_of_pos (by simp; omega),ih fun d hd => h d (List.mem_cons_of_mem _ hd)]
theorem pstep_le (st : Bool × Nat) (c : Nat) : st.2 ≤ (pstep st c).2:=by
 unfold pstep
 split
 ·exact Nat.le_refl _
 ·split
  ·exact Nat.le_refl _
  ·show st.2 ≤ st.2 * 10 + _; omega
theorem pfold_le (ys zs : List Nat) : (pfold ys).2 ≤ (pfold (ys ++ zs)).2:=by
 unfold pfold
 rw [List.foldl_append]
 generalize ys.foldl pstep (false,0) = st
 induction zs generalizing st with
 | nil => exact Nat.le_refl _
 | cons c zs ih => exact Nat.le_trans (pstep_le st c) (ih _)
def Cnt (v n : Nat) : Prop:=v < 10 ^ n ∧ (n = 0 ∨ 10 ^ (n - 1) ≤ v)
theorem Cnt.zero : Cnt 0 0:=⟨by decide,.inl rfl⟩
theorem Cnt.none {n : Nat} (h : Cnt 0 n) : n = 0:=by
 rcases h.2 with h | h
 ·exact h
 ·have:=Nat.pow_pos (n:=n - 1) (by omega : 0 < 10); omega
theorem Cnt.step {v n d : Nat} (h : Cnt v n) (hd : d ≤ 9) (hp : 0 < v ∨ 0 < d) : Cnt (v * 10 + d) (n + 1):=by
 refine ⟨by rw [Nat.pow_succ]; have:=h.1; omega,.inr ?_⟩
 rw [Nat.add_sub_cancel]
 rcases h.2 with h0 | h0
 ·subst h0
  have:=h.1
  simp at this
  simp
  omega
 ·obtain ⟨m,rfl⟩ : ∃ m,n = m + 1:=⟨n - 1,by
   have:=h.1
   rcases Nat.eq_zero_or_pos n with e | e
   ·subst e; simp at this h0; omega
   ·omega⟩
  rw [Nat.add_sub_cancel] at h0
  rw [Nat.pow_succ]
  omega
theorem Cnt.six {v n : Nat} (h : Cnt v n) (hn : n ≤ 6) : v < 1000000:=Nat.lt_of_lt_of_le h.1 (Nat.pow_le_pow_right (by omega) hn)
theorem Cnt.seven {v n : Nat} (h : Cnt v n) (hn : 6 < n) : 1000000 ≤ v:=by
 rcases h.2 with h0 | h0
 ·omega
 ·exact Nat.le_trans (Nat.pow_le_pow_right (by omega : 0 < 10) (by omega : 6 ≤ n - 1)) h0
theorem one_new (w : World) (o : Obj) : (w.alloc o).heap[w.heap.size]? = some o:=World.alloc_heap_new w o
set_option maxRecDepth 100000 in
set_option maxHeartbeats 4000000 in
theorem rDParse_bad (s : ByteArray) (w : World) (hs : s.size ≤ 9223372036854775807) (h : form (octs s) ≠ some s.size ∨ 2000 < s.size) :
  Calls Tryz.prog 117 #[.string s] w fun e w' => e = .returned (.tuple #[dv false none 0 0 0,.int .i64 (if form (octs s) = some s.size then 5 else 32)]) ∧ Below w.heap.size w w':=by
 have HH:=Lib.hid h
 obtain ⟨E,hE⟩ : ∃ E : Int,Hid ((if form (octs s) = some s.size then 5 else 32) = E):=⟨_,Lib.hid rfl⟩
 rw [hE.out]
 clear h
 have hb0 : ∀ o,Below w.heap.size w (w.alloc o):=fun o => (Below.refl _ w).alloc (Nat.le_refl _) o
 unfold dv
 go_enter Tryz.func117,Tryz.ntmps117
 go_wp2_with fail
 have m0 : (w.alloc (.cells #[.bool false,.slice none 0 0,.int .i64 0] 24)).heap[w.heap.size]? = some (.cells #[.bool false,.slice none 0 0,.int .i64 0] 24):=one_new _ _
 have hW:=hb0 (.cells #[.bool false,.slice none 0 0,.int .i64 0] 24)
 generalize (w.alloc (.cells #[.bool false,.slice none 0 0,.int .i64 0] 24)) = W at m0 hW ⊢
 have y0 : W.cell? ⟨w.heap.size,0,none⟩ = some (.bool false):=cell_of m0 rfl
 have y1 : W.cell? ⟨w.heap.size,1,none⟩ = some (.slice none 0 0):=cell_of m0 rfl
 have y2 : W.cell? ⟨w.heap.size,2,none⟩ = some (.int .i64 0):=cell_of m0 rfl
 have f0:=frozen_of 0 m0
 have f1:=frozen_of 1 m0
 have f2:=frozen_of 2 m0
 refine (Ends_c s W hs).mono ?_
 rintro e w' ⟨z,rfl,hz,rfl⟩
 clear hb0 m0
 by_cases hf : form (octs s) = some s.size
 ·obtain rfl:=hz _ hf
  have h2 : 2000 < s.size:=HH.out.resolve_left (fun h => h hf)
  have HF:=Lib.hid hf
  rw [hf]
  have hE5 : Hid (E = 5):=by show _ = _; rw [← hE.out,if_pos hf]
  clear hz hf
  go_wp2
  refine bodyPost_ret (v:=.tuple #[.agg #[.bool false,.slice none 0 0,.int .i64 0],.int .i64 5]) (by simp [results,Tryz.results117,go_sem,y0,y1,y2]) rfl ?_
  exact ⟨by rw [hE5.out],((hW.setCell (p:=⟨w.heap.size,0,none⟩) (by simp) _).setCell (p:=⟨w.heap.size,1,none⟩) (by simp) _).setCell (p:=⟨w.heap.size,2,none⟩) (by simp) _⟩
 ·have hE32 : Hid (E = 32):=by show _ = _; rw [← hE.out,if_neg hf]
  cases hff : form (octs s) with
  | none =>
   clear hz hf hff
   simp only [Option.isSome_none]
   go_wp2
   refine bodyPost_ret (v:=.tuple #[.agg #[.bool false,.slice none 0 0,.int .i64 0],.int .i64 32]) (by simp [results,Tryz.results117,go_sem,y0,y1,y2]) rfl ?_
   exact ⟨by rw [hE32.out],((hW.setCell (p:=⟨w.heap.size,0,none⟩) (by simp) _).setCell (p:=⟨w.heap.size,1,none⟩) (by simp) _).setCell (p:=⟨w.heap.size,2,none⟩) (by simp) _⟩
  | some k =>
   obtain rfl:=hz _ hff
   have hb : ((k : Int) != (s.size : Int)) = true:=by
    rw [bne_iff_ne]
    intro e
    exact hf (by rw [hff]; exact congrArg some (by omega))
   clear hz hf hff
   simp only [Option.isSome_some]
   go_wp2
   refine bodyPost_ret (v:=.tuple #[.agg #[.bool false,.slice none 0 0,.int .i64 0],.int .i64 32]) (by simp [results,Tryz.results117,go_sem,y0,y1,y2]) rfl ?_
   exact ⟨by rw [hE32.out],((hW.setCell (p:=⟨w.heap.size,0,none⟩) (by simp) _).setCell (p:=⟨w.heap.size,1,none⟩) (by simp) _).setCell (p:=⟨w.heap.size,2,none⟩) (by simp) _⟩
end Go.Proofs.YtkigpbkkhgabeaaGreatDoor
namespace Go.Proofs.YtkigpbkkhgabeaaGreatDoor
open Go.RowKit
theorem ResI.noCap {w : World} {base n c : Nat} {A : Option Addr} {zs : List Nat} (h : ResI w base A n c zs) (e : A = none) : c = 0:=by
 rcases h.form with ⟨_,_,h1⟩ | ⟨g,h1,_⟩
 ·exact h1
 ·rw [h1] at e; cases e
def gE (xs : List Nat) : Nat:=if 1000000 ≤ (tPow xs).2 then 52 else stE (tVal xs) (tExp xs)
def gN (xs : List Nat) : Bool:=if 1000000 ≤ (tPow xs).2 then false else stN (tNeg xs) (tVal xs) (tExp xs)
def gX (xs : List Nat) : Int:=if 1000000 ≤ (tPow xs).2 then 0 else stX (tVal xs) (tExp xs)
def gZ (xs : List Nat) : List Nat:=if 1000000 ≤ (tPow xs).2 then [] else stZ (tVal xs) (tExp xs)
theorem g_small {xs : List Nat} (h : (tPow xs).2 < 1000000) : gE xs = stE (tVal xs) (tExp xs) ∧ gN xs = stN (tNeg xs) (tVal xs) (tExp xs) ∧ gX xs = stX (tVal xs) (tExp xs) ∧ gZ xs = stZ (tVal xs) (tExp xs):=by
 have : ¬ 1000000 ≤ (tPow xs).2:=by omega
 unfold gE gN gX gZ
 rw [if_neg this,if_neg this,if_neg this,if_neg this]
 exact ⟨rfl,rfl,rfl,rfl⟩
theorem g_big {xs : List Nat} (h : 1000000 ≤ (tPow xs).2) : gE xs = 52 ∧ gN xs = false ∧ gX xs = 0 ∧ gZ xs = []:=by
 unfold gE gN gX gZ
 rw [if_pos h,if_pos h,if_pos h,if_pos h]
 exact ⟨rfl,rfl,rfl,rfl⟩
set_option maxRecDepth 100000 in
set_option maxHeartbeats 8000000 in
theorem rDParse_good {M pw : List Nat} (s : ByteArray) (w : World) (hs : s.size ≤ 2000) (hf : form (octs s) = some s.size) (hM : octs s = M ++ pw) (hM0 : 0 < M.length) (hMc : ∀ c ∈ M,c = 45 ∨ c = 46 ∨ (48 ≤ c ∧ c ≤ 57))
  (hP : pw = [] ∨ ∃ e R,pw = e :: R ∧ (e = 101 ∨ e = 69) ∧ ∀ c ∈ R,c = 43 ∨ c = 45 ∨ (48 ≤ c ∧ c ≤ 57)) :
  Calls Tryz.prog 117 #[.string s] w fun e w' => ∃ A n c,e = .returned (.tuple #[dv (gN (octs s)) A n c (gX (octs s)),.int .i64 (gE (octs s) : Int)]) ∧ Res w' w.heap.size A n c (gZ (octs s)) ∧ Below w.heap.size w w':=by
 have HL:=Lib.hid (octs_length s)
 have HM:=Lib.hid hM
 have HMC:=Lib.hid hMc
 have HP:=Lib.hid hP
 have hML : M.length ≤ s.size:=by rw [← HL.out,hM,List.length_append]; omega
 have HF:=Lib.hid hf
 have hs0 : 0 < s.size:=by omega
 obtain ⟨ML,hml⟩ : ∃ ML,Hid (M.length = ML):=⟨_,Lib.hid rfl⟩
 rw [hml.out] at hML hM0
 obtain ⟨neg,hneg⟩ : ∃ b,((s[0].toNat : Int) == 45) = b:=⟨_,rfl⟩
 have HN : Hid (tNeg (octs s) = neg):=by
  show _ = _
  unfold tNeg
  rw [← hneg,octs_get s 0 hs0,Bool.eq_iff_iff,beq_iff_eq,beq_iff_eq]
  omega
 clear hM hMc hP hf
 have hb0 : ∀ o1 o2,Below w.heap.size w ((w.alloc o1).alloc o2):=fun o1 o2 => ((Below.refl _ w).alloc (Nat.le_refl _) o1).alloc (by simp) o2
 unfold dv
 go_enter Tryz.func117,Tryz.ntmps117
 go_wp2_with fail
 refine (Ends_c s _ (by omega)).mono ?_
 rintro e w' ⟨z,rfl,hz,rfl⟩
 obtain rfl:=hz _ HF.out
 rw [HF.out]
 clear hz
 go_wp2
 obtain ⟨m0,m1⟩:=two_new w (.cells #[.bool false,.slice none 0 0,.int .i64 0] 24) (.cells #[.bool neg,.slice none 0 0,.int .i64 0] 105)
 have hW:=hb0 (.cells #[.bool false,.slice none 0 0,.int .i64 0] 24) (.cells #[.bool neg,.slice none 0 0,.int .i64 0] 105)
 have hsz : ((w.alloc (.cells #[.bool false,.slice none 0 0,.int .i64 0] 24)).alloc (.cells #[.bool neg,.slice none 0 0,.int .i64 0] 105)).heap.size = w.heap.size + 2:=by simp
 generalize ((w.alloc (.cells #[.bool false,.slice none 0 0,.int .i64 0] 24)).alloc (.cells #[.bool neg,.slice none 0 0,.int .i64 0] 105)) = W at m0 m1 hW hsz ⊢
 clear hb0
 go_loopw [7,8,9] (fun sv pv iv wr => ∃ (k nd cd e : Nat) (Ad : Option Addr) (ds : List Nat) (b : Bool) (x : Int),k ≤ ML ∧ iv = .int .i64 (k : Int) ∧ pv = .bool b ∧ sv = .slice Ad nd cd ∧ Hid (mfold (M.take k) = (ds,b,e)) ∧ Hid (x = -(e : Int)) ∧ -(k : Int) ≤ x ∧ x ≤ 0 ∧ nd ≤ k ∧ Hid (D10 ds) ∧
   ResI wr (w.heap.size + 2) Ad nd cd ds ∧ wr.heap[w.heap.size]? = some (.cells #[.bool false,.slice none 0 0,.int .i64 0] 24) ∧ wr.heap[w.heap.size + 1]? = some (.cells #[.bool neg,.slice none 0 0,.int .i64 x] 105) ∧ w.heap.size + 2 ≤ wr.heap.size ∧ Below w.heap.size w wr) (fun _ _ iv _ => s.size - (RowKit.intOf iv).toNat)
 case atStart => exact ⟨0,0,0,0,none,[],false,0,Nat.zero_le _,rfl,rfl,rfl,Lib.hid (by simp [mfold_nil]),Lib.hid (by simp),by simp,by simp,Nat.le_refl _,Lib.hid D10.nil,ResI.nil _ _,m0,m1,by omega,hW⟩
 case round =>
  clear m0 m1 hsz hW
  obtain ⟨k,nd,cd,e,Ad,ds,b,x,hk,rfl,rfl,rfl,hmf,hx,hx1,hx2,hnd,hd10,hres,m0,m1,hsz,hbel⟩:=hrel
  by_cases hkM : k < ML
  ·have hks : k < s.size:=by omega
   have ho : nth M k = s[k].toNat:=by rw [← octs_get s k hks,HM.out,nth_append_left (by rw [hml.out]; exact hkM)]
   have hin : nth M k ∈ M:=by rw [nth_get (by rw [hml.out]; exact hkM)]; exact List.getElem_mem _
   have hcs:=HMC.out _ hin
   have hst : Hid (mfold (M.take (k + 1)) = mstep (ds,b,e) (nth M k)):=by
    show _ = _
    rw [take_succ_nth (by rw [hml.out]; exact hkM),mfold_snoc,hmf.out]
   rw [ho] at hcs hst
   clear ho hin hmf
   by_cases h46 : s[k].toNat = 46
   ·have hv : (s[k].toNat : Int) = 46:=by omega
    have hst2 : Hid (mfold (M.take (k + 1)) = (ds,true,e)):=by show _ = _; rw [hst.out,h46]; rfl
    clear hcs hst h46
    go_wp2
    exact ⟨⟨k + 1,nd,cd,e,Ad,ds,true,x,by omega,by go_num,rfl,rfl,hst2,hx,by omega,hx2,by omega,hd10,hres,m0,m1,hsz,hbel⟩,by simp [RowKit.intOf]; omega⟩
   ·by_cases h45 : s[k].toNat = 45
    ·have hv : (s[k].toNat : Int) = 45:=by omega
     have hst2 : Hid (mfold (M.take (k + 1)) = (ds,b,e)):=by show _ = _; rw [hst.out,h45]; rfl
     clear hcs hst h46 h45
     go_wp2
     exact ⟨⟨k + 1,nd,cd,e,Ad,ds,b,x,by omega,by go_num,rfl,rfl,hst2,hx,by omega,hx2,by omega,hd10,hres,m0,m1,hsz,hbel⟩,by simp [RowKit.intOf]; omega⟩
    ·have hdg : 48 ≤ s[k].toNat ∧ s[k].toNat ≤ 57:=by omega
     obtain ⟨d1,d2⟩:=hdg
     have hst2 : Hid (mfold (M.take (k + 1)) = ((s[k].toNat - 48) :: ds,b,if b = true then e + 1 else e)):=by
      show _ = _
      rw [hst.out]; unfold mstep; rw [if_neg h46,if_neg h45]
     have b1 : ((s[k].toNat : Int) != 101) = true:=by rw [bne_iff_ne]; omega
     have b2 : ((s[k].toNat : Int) != 69) = true:=by rw [bne_iff_ne]; omega
     have b3 : ((s[k].toNat : Int) == 46) = false:=by rw [beq_eq_false_iff_ne]; omega
     have b4 : ((s[k].toNat : Int) != 45) = true:=by rw [bne_iff_ne]; omega
     obtain ⟨t,ht⟩ : ∃ t,t = s[k].toNat - 48:=⟨_,rfl⟩
     rw [← ht] at hst2
     have hti : (s[k].toNat : Int) - 48 = (t : Int):=by omega
     have htb : t ≤ 9:=by omega
     have hi1 : 48 ≤ (s[k].toNat : Int):=by omega
     have hi2 : (s[k].toNat : Int) ≤ 57:=by omega
     have hd2 : Hid (D10 ([t] ++ ds)):=by show D10 _; exact D10.append.2 ⟨D10.cons.2 ⟨by omega,D10.nil⟩,hd10.out⟩
     clear hcs hst h46 h45 d1 d2 ht
     have hlit:=ResI.lit wr [t] 1 rfl (LI.one (by omega)) (by omega)
     have hq1 : (i64s [t]).toArray = #[Value.int IntKind.i64 (t : Int)]:=by simp [i64s]
     rw [hq1] at hlit
     have hrd1 : RdI (wr.alloc (.cells #[Value.int IntKind.i64 (t : Int)] 3)) (fun b => w.heap.size + 2 ≤ b ∧ b < wr.heap.size) Ad nd ds:=hres.rd.below (B:=wr.heap.size) ((Below.refl _ _).alloc (Nat.le_refl _) _) (fun b h => h.2)
     have hcn:=hres.noCap
     clear hq1
     have hb1 : ∀ {w1 : World},(wr.alloc (.cells #[Value.int IntKind.i64 (t : Int)] 3)).grownBy w1 (Value.slice (some ⟨wr.heap.size,0,none⟩) 1 1).ownBlock → Below wr.heap.size wr w1:=fun hg1 => ((Below.refl _ wr).alloc (Nat.le_refl _) _).grown hg1 (by simp) (by intro q hq; simp [Value.ownBlock] at hq; omega)
     cases b
     all_goals
      go_wp2_with (at_builtin; refine wpList_append_ints rfl (.tmp 70) (.tmp 71) rfl wr.heap.size (some ⟨wr.heap.size,0,none⟩) 1 1 [t] rfl hlit _ Ad nd cd ds rfl hrd1 hcn (by omega) (by simp) ?_; intro A1 c1 w1 hr1 hg1; have hbb:=hb1 hg1; have q0:=held hbb (by omega) m0; have q1:=held hbb (by omega) m1; have p2 : w1.cell? ⟨w.heap.size + 1,2,none⟩ = some (.int .i64 x):=cell_of q1 rfl; have fz:=frozen_of 2 q1)
     ·exact ⟨⟨k + 1,1 + nd,c1,e,A1,[t] ++ ds,false,x,by omega,by go_num,rfl,rfl,hst2,hx,by omega,hx2,by omega,hd2,hr1.more hsz,q0,q1,by have:=hbb.size; omega,hbel.trans (hbb.mono hbel.size)⟩,by simp [RowKit.intOf]; omega⟩
     ·refine ⟨⟨k + 1,1 + nd,c1,e + 1,A1,[t] ++ ds,true,x - 1,by omega,by go_num,rfl,rfl,hst2,Lib.hid (by have:=hx.out; omega),by omega,by omega,by omega,hd2,(hr1.more hsz).setOther (by simp) _,set_other q0 (by omega) _,(set_cells q1 _).trans (by simp),by have:=hbb.size; simpa [World.setCell] using (by omega : w.heap.size + 2 ≤ w1.heap.size),(hbel.trans (hbb.mono hbel.size)).setCell (p:=⟨w.heap.size + 1,2,none⟩) (by simp) _⟩,by simp [RowKit.intOf]; omega⟩
  ·obtain rfl : k = ML:=by omega
   have hfold : Hid (mfold M = (ds,b,e)):=by
    show _ = _
    have:=hmf.out
    rwa [List.take_of_length_le (by rw [hml.out]; exact Nat.le_refl _)] at this
   clear hmf hkM
   rcases HP.out with hp | ⟨e0,R,hp,he0,hR⟩
   ·have hkk : Hid (s.size = k):=by show _ = _; rw [← HL.out,HM.out,hp,List.append_nil,hml.out]
    have hge : s.size ≤ k:=by have:=hkk.out; omega
    have hcut : Hid (cutE (octs s) = M):=by show _ = _; rw [HM.out,hp,List.append_nil]; exact cutE_plain HMC.out
    have hpow : Hid (tPow (octs s) = (false,0)):=by
     show _ = _
     unfold tPow
     rw [hcut.out,List.drop_of_length_le (by rw [HL.out,hkk.out,hml.out]; omega)]
     rfl
    have hval : Hid (tVal (octs s) = dval ds):=by show _ = _; unfold tVal tMan; rw [hcut.out,hfold.out]
    have hexp : Hid (tExp (octs s) = x):=by show _ = _; unfold tExp tMan; rw [hcut.out,hfold.out,hpow.out,hx.out]; simp
    clear hp hfold hx hcut
    have z0 : wr.cell? ⟨w.heap.size + 1,0,none⟩ = some (.bool neg):=cell_of m1 rfl
    have z1 : wr.cell? ⟨w.heap.size + 1,1,none⟩ = some (.slice none 0 0):=cell_of m1 rfl
    have z2 : wr.cell? ⟨w.heap.size + 1,2,none⟩ = some (.int .i64 x):=cell_of m1 rfl
    have fz:=frozen_of 1 m1
    have hpl : (tPow (octs s)).2 < 1000000:=by rw [hpow.out]; omega
    go_wp2_with fail
    have hres2:=hres.setOther (p:=⟨w.heap.size + 1,1,none⟩) (by simp) (.slice Ad nd cd)
    have hW2:=hbel.setCell (p:=⟨w.heap.size + 1,1,none⟩) (by simp) (.slice Ad nd cd)
    have m2:=set_other (i:=1) m0 (by omega : w.heap.size ≠ w.heap.size + 1) (.slice Ad nd cd)
    have hs2 : w.heap.size + 2 ≤ (wr.setCell ⟨w.heap.size + 1,1,none⟩ (.slice Ad nd cd)).heap.size:=by simpa [World.setCell] using hsz
    generalize (wr.setCell ⟨w.heap.size + 1,1,none⟩ (.slice Ad nd cd)) = W2 at hres2 hW2 m2 hs2 ⊢
    have hn2:=hres2.n_le
    unfold maxLen at hn2
    have HMd:=Made_c neg (x) W2 hres2.rd (fun b h => h.2) hd10.out (by omega) hn2.1 (by omega) (by omega)
    unfold dv nv at HMd
    refine HMd.mono ?_
    rintro e w3 ⟨A3,n3,c3,rfl,hr3,hb3⟩
    have q0:=held hb3 (by omega) m2
    have y0 : w3.cell? ⟨w.heap.size,0,none⟩ = some (.bool false):=cell_of q0 rfl
    have y1 : w3.cell? ⟨w.heap.size,1,none⟩ = some (.slice none 0 0):=cell_of q0 rfl
    have y2 : w3.cell? ⟨w.heap.size,2,none⟩ = some (.int .i64 0):=cell_of q0 rfl
    have f0:=frozen_of 0 q0
    have f1:=frozen_of 1 q0
    have f2:=frozen_of 2 q0
    obtain ⟨g1,g2,g3,g4⟩:=g_small (xs:=octs s) hpl
    rw [hval.out,hexp.out] at g1 g3 g4
    rw [HN.out,hval.out,hexp.out] at g2
    have G1:=Lib.hid g1
    have G2:=Lib.hid g2
    have G3:=Lib.hid g3
    have G4:=Lib.hid g4
    have hlt : w.heap.size < W2.heap.size:=by omega
    clear g1 g2 g3 g4 HMd
    go_wp2
    refine bodyPost_ret (v:=.tuple #[.agg #[.bool (stN neg (dval ds) (x)),.slice A3 n3 c3,.int .i64 (stX (dval ds) (x))],.int .i64 (stE (dval ds) (x) : Int)]) (by simp [results,Tryz.results117,go_sem,y0,y1,y2]) rfl ?_
    rw [G1.out,G2.out,G3.out,G4.out]
    exact ⟨A3,n3,c3,rfl,(((hr3.setOther (p:=⟨w.heap.size,0,none⟩) hlt _).setOther (p:=⟨w.heap.size,1,none⟩) hlt _).setOther (p:=⟨w.heap.size,2,none⟩) hlt _).more (by omega),
     (((hW2.trans (hb3.mono (by omega))).setCell (p:=⟨w.heap.size,0,none⟩) (by simp) _).setCell (p:=⟨w.heap.size,1,none⟩) (by simp) _).setCell (p:=⟨w.heap.size,2,none⟩) (by simp) _⟩
   ·have hks : k < s.size:=by
     rw [← HL.out,HM.out,hp,List.length_append,hml.out,List.length_cons]; omega
    have hee : s[k].toNat = e0:=by
     rw [← octs_get s k hks,HM.out,hp,nth_append_right (by rw [hml.out]; exact Nat.le_refl _),hml.out,Nat.sub_self]; rfl
    have hRL : Hid (s.size = k + 1 + R.length):=by show _ = _; rw [← HL.out,HM.out,hp,List.length_append,hml.out,List.length_cons]; omega
    have hcut : Hid (cutE (octs s) = M):=by show _ = _; rw [HM.out,hp]; exact cutE_at HMC.out he0 R
    have hR1 : Hid (octs s = (M ++ [e0]) ++ R):=by show _ = _; rw [HM.out,hp,List.append_assoc]; rfl
    have hR2 : Hid ((M ++ [e0]).length = k + 1):=by show _ = _; rw [List.length_append,hml.out]; rfl
    have hpow : Hid (tPow (octs s) = pfold R):=by
     show _ = _
     unfold tPow
     rw [hcut.out,hR1.out,hml.out,← hR2.out,List.drop_left]
    have hval : Hid (tVal (octs s) = dval ds):=by show _ = _; unfold tVal tMan; rw [hcut.out,hfold.out]
    have hman : Hid ((tMan (octs s)).2.2 = e):=by show _ = _; unfold tMan; rw [hcut.out,hfold.out]
    have HR:=Lib.hid hR
    have hse : (s[k].toNat : Int) = 101 ∨ (s[k].toNat : Int) = 69:=by omega
    clear hp hfold hcut hee he0 hR
    rcases hse with hse | hse
    all_goals
     go_wp2
     clear hse
     go_loopw [9,10,11,12] (fun iv dn ev cv wy => ∃ (q j v cnt : Nat) (d : Bool),Hid (q = k + 1 + j) ∧ q ≤ s.size ∧ iv = .int .i64 (q : Int) ∧ dn = .bool d ∧ ev = .int .i64 (v : Int) ∧ cv = .int .i64 (cnt : Int) ∧ Hid (pfold (R.take j) = (d,v)) ∧ Hid (Cnt v cnt) ∧ cnt ≤ 6 ∧ v < 1000000 ∧ wr = wy) (fun iv _ _ _ _ => s.size - (RowKit.intOf iv).toNat)
     case atStart => exact ⟨k + 1,0,0,0,false,Lib.hid rfl,hks,by go_num,rfl,rfl,rfl,Lib.hid rfl,Lib.hid Cnt.zero,by omega,by omega,rfl⟩
     case round =>
      obtain ⟨q,j,v,cnt,d,hq,hqs,rfl,rfl,rfl,rfl,hpf,hcn,hc6,hv6,hwq⟩:=hrel
      have hwq2:=hwq.symm
      clear hwq
      subst hwq2
      by_cases hqs2 : q < s.size
      ·have hjR : j < R.length:=by have:=hq.out; have:=hRL.out; omega
       have ho : nth R j = s[q].toNat:=by
        rw [← octs_get s q hqs2,hR1.out,nth_append_right (by rw [hR2.out,hq.out]; omega),hR2.out,hq.out,show k + 1 + j - (k + 1) = j by omega]
       have hin : nth R j ∈ R:=by rw [nth_get hjR]; exact List.getElem_mem _
       have hcs:=HR.out _ hin
       have hst : Hid (pfold (R.take (j + 1)) = pstep (d,v) (nth R j)):=by
        show _ = _
        rw [take_succ_nth hjR,pfold_snoc,hpf.out]
       have hbig : Hid ((pfold (R.take (j + 1))).2 ≤ (pfold R).2):=by
        show _ ≤ _
        have:=pfold_le (R.take (j + 1)) (R.drop (j + 1))
        rwa [List.take_append_drop] at this
       rw [ho] at hcs hst
       have hq2 : Hid (q + 1 = k + 1 + (j + 1)):=by show _ = _; have:=hq.out; omega
       clear ho hin hpf hjR
       by_cases h45 : s[q].toNat = 45
       ·have hv : (s[q].toNat : Int) = 45:=by omega
        have hst2 : Hid (pfold (R.take (j + 1)) = (true,v)):=by show _ = _; rw [hst.out,h45]; rfl
        clear hcs hst h45
        go_wp2
        exact ⟨⟨q + 1,j + 1,v,cnt,true,hq2,hqs2,by go_num,rfl,rfl,rfl,hst2,hcn,hc6,hv6,trivial⟩,by simp [RowKit.intOf]; omega⟩
       ·by_cases h43 : s[q].toNat = 43
        ·have hv : (s[q].toNat : Int) = 43:=by omega
         have hst2 : Hid (pfold (R.take (j + 1)) = (d,v)):=by show _ = _; rw [hst.out,h43]; rfl
         clear hcs hst h45 h43
         go_wp2
         exact ⟨⟨q + 1,j + 1,v,cnt,d,hq2,hqs2,by go_num,rfl,rfl,rfl,hst2,hcn,hc6,hv6,trivial⟩,by simp [RowKit.intOf]; omega⟩
        ·obtain ⟨d1,d2⟩ : 48 ≤ s[q].toNat ∧ s[q].toNat ≤ 57:=by omega
         have hst2 : Hid (pfold (R.take (j + 1)) = (d,v * 10 + (s[q].toNat - 48))):=by
          show _ = _
          rw [hst.out]; unfold pstep; rw [if_neg h45,if_neg h43]
         obtain ⟨t,ht⟩ : ∃ t,t = s[q].toNat - 48:=⟨_,rfl⟩
         rw [← ht] at hst2
         obtain ⟨v2,hv2⟩ : ∃ v2,Hid (v * 10 + t = v2):=⟨_,Lib.hid rfl⟩
         rw [hv2.out] at hst2
         have htb : t ≤ 9:=by omega
         have hv2b : v2 ≤ 10000000:=by have:=hv2.out; omega
         have hst3 : Hid (v2 ≤ (pfold R).2):=by show _ ≤ _; have:=hbig.out; rwa [hst2.out] at this
         have b3 : ((s[q].toNat : Int) == 45) = false:=by rw [beq_eq_false_iff_ne]; omega
         have b4 : ((s[q].toNat : Int) != 43) = true:=by rw [bne_iff_ne]; omega
         have hti : (s[q].toNat : Int) - 48 = (t : Int):=by omega
         have hvi : 10 * (v : Int) + (t : Int) = (v2 : Int):=by have:=hv2.out; omega
         have hi1 : 48 ≤ (s[q].toNat : Int):=by omega
         have hi2 : (s[q].toNat : Int) ≤ 57:=by omega
         by_cases hz : v = 0 ∧ t = 0
         ·obtain ⟨hz1,hz2⟩:=hz
          have b5 : ((s[q].toNat : Int) != 48) = false:=by rw [bne_eq_false_iff_eq]; omega
          have hv20 : v2 = 0:=by have:=hv2.out; omega
          have hcn2 : Hid (Cnt v2 cnt):=by show Cnt v2 cnt; rw [hv20,← hz1]; exact hcn.out
          have hvle : v ≤ 0:=by omega
          have hv26 : v2 < 1000000:=by omega
          clear hcs hst h45 h43 d1 d2 ht hz1 hz2 hv20 hbig
          go_wp2
          exact ⟨⟨q + 1,j + 1,v2,cnt,d,hq2,hqs2,by go_num,rfl,rfl,rfl,hst2,hcn2,hc6,hv26,trivial⟩,by simp [RowKit.intOf]; omega⟩
         ·have hcn2 : Hid (Cnt v2 (cnt + 1)):=by
           show Cnt v2 (cnt + 1)
           rw [← hv2.out]; exact hcn.out.step htb (by omega)
          have hvv : 0 < v ∨ (v ≤ 0 ∧ ((s[q].toNat : Int) != 48) = true):=by
           rcases Nat.eq_zero_or_pos v with h | h
           ·exact .inr ⟨by omega,by rw [bne_iff_ne]; omega⟩
           ·exact .inl h
          clear hcs hst h45 h43 d1 d2 ht hz hbig
          by_cases h7 : cnt = 6
          ·have hbg : 1000000 ≤ (tPow (octs s)).2:=by rw [hpow.out]; exact Nat.le_trans (hcn2.out.seven (by omega)) hst3.out
           obtain ⟨g1,g2,g3,g4⟩:=g_big hbg
           have G1:=Lib.hid g1
           have G2:=Lib.hid g2
           have G3:=Lib.hid g3
           have G4:=Lib.hid g4
           have y0 : wr.cell? ⟨w.heap.size,0,none⟩ = some (.bool false):=cell_of m0 rfl
           have y1 : wr.cell? ⟨w.heap.size,1,none⟩ = some (.slice none 0 0):=cell_of m0 rfl
           have y2 : wr.cell? ⟨w.heap.size,2,none⟩ = some (.int .i64 0):=cell_of m0 rfl
           have f0:=frozen_of 0 m0
           have f1:=frozen_of 1 m0
           have f2:=frozen_of 2 m0
           subst h7
           clear g1 g2 g3 g4 hbg
           rcases hvv with hvv | ⟨hvv,b5⟩
           all_goals
            go_wp2
            refine bodyPost_ret (v:=.tuple #[.agg #[.bool false,.slice none 0 0,.int .i64 0],.int .i64 52]) (by simp [results,Tryz.results117,go_sem,y0,y1,y2]) rfl ?_
            rw [G1.out,G2.out,G3.out,G4.out]
            exact ⟨none,0,0,rfl,Res.nil _ _,((hbel.setCell (p:=⟨w.heap.size,0,none⟩) (by simp) _).setCell (p:=⟨w.heap.size,1,none⟩) (by simp) _).setCell (p:=⟨w.heap.size,2,none⟩) (by simp) _⟩
          ·have hc5 : cnt + 1 ≤ 6:=by omega
           have hv26 : v2 < 1000000:=hcn2.out.six hc5
           clear h7
           rcases hvv with hvv | ⟨hvv,b5⟩
           all_goals
            go_wp2
            exact ⟨⟨q + 1,j + 1,v2,cnt + 1,d,hq2,hqs2,by go_num,rfl,rfl,by go_num,hst2,hcn2,hc5,hv26,trivial⟩,by simp [RowKit.intOf]; omega⟩
      ·have hge : s.size ≤ q:=by omega
       have hjR : j = R.length:=by have:=hq.out; have:=hRL.out; omega
       have hpw : Hid (tPow (octs s) = (d,v)):=by
        show _ = _
        have:=hpf.out
        rw [hjR,List.take_length] at this
        rw [hpow.out,this]
       have hpl : (tPow (octs s)).2 < 1000000:=by rw [hpw.out]; exact hv6
       have z0 : wr.cell? ⟨w.heap.size + 1,0,none⟩ = some (.bool neg):=cell_of m1 rfl
       have z1 : wr.cell? ⟨w.heap.size + 1,1,none⟩ = some (.slice none 0 0):=cell_of m1 rfl
       have z2 : wr.cell? ⟨w.heap.size + 1,2,none⟩ = some (.int .i64 x):=cell_of m1 rfl
       have fz1:=frozen_of 1 m1
       have fz2:=frozen_of 2 m1
       clear hqs2 hjR hpf
       cases d
       ·obtain ⟨y,hy⟩ : ∃ y,x + (v : Int) = y:=⟨_,rfl⟩
        have hexp : Hid (tExp (octs s) = y):=by show _ = _; unfold tExp; rw [hman.out,hpw.out,← hy]; have:=hx.out; simp; omega
        have hy1 : -100000000 ≤ y ∧ y ≤ 100000000:=by omega
        have HPL:=Lib.hid hpl
        clear hpl hpw
        go_wp2_with fail
        have hres2:=(hres.setOther (p:=⟨w.heap.size + 1,2,none⟩) (by simp) (.int .i64 y)).setOther (p:=⟨w.heap.size + 1,1,none⟩) (by simp) (.slice Ad nd cd)
        have hW2:=(hbel.setCell (p:=⟨w.heap.size + 1,2,none⟩) (by simp) (.int .i64 y)).setCell (p:=⟨w.heap.size + 1,1,none⟩) (by simp) (.slice Ad nd cd)
        have m2:=set_other (i:=1) (set_other (i:=2) m0 (by omega : w.heap.size ≠ w.heap.size + 1) (.int .i64 y)) (by omega : w.heap.size ≠ w.heap.size + 1) (.slice Ad nd cd)
        have hs2 : w.heap.size + 2 ≤ ((wr.setCell ⟨w.heap.size + 1,2,none⟩ (.int .i64 y)).setCell ⟨w.heap.size + 1,1,none⟩ (.slice Ad nd cd)).heap.size:=by simpa [World.setCell] using hsz
        generalize ((wr.setCell ⟨w.heap.size + 1,2,none⟩ (.int .i64 y)).setCell ⟨w.heap.size + 1,1,none⟩ (.slice Ad nd cd)) = W2 at hres2 hW2 m2 hs2 ⊢
        have hn2:=hres2.n_le
        unfold maxLen at hn2
        have HMd:=Made_c neg (y) W2 hres2.rd (fun b h => h.2) hd10.out (by omega) hn2.1 (by omega) (by omega)
        unfold dv nv at HMd
        refine HMd.mono ?_
        rintro e w3 ⟨A3,n3,c3,rfl,hr3,hb3⟩
        have q0:=held hb3 (by omega) m2
        have y0 : w3.cell? ⟨w.heap.size,0,none⟩ = some (.bool false):=cell_of q0 rfl
        have y1 : w3.cell? ⟨w.heap.size,1,none⟩ = some (.slice none 0 0):=cell_of q0 rfl
        have y2 : w3.cell? ⟨w.heap.size,2,none⟩ = some (.int .i64 0):=cell_of q0 rfl
        have f0:=frozen_of 0 q0
        have f1:=frozen_of 1 q0
        have f2:=frozen_of 2 q0
        obtain ⟨g1,g2,g3,g4⟩:=g_small (xs:=octs s) HPL.out
        rw [hval.out,hexp.out] at g1 g3 g4
        rw [HN.out,hval.out,hexp.out] at g2
        have G1:=Lib.hid g1
        have G2:=Lib.hid g2
        have G3:=Lib.hid g3
        have G4:=Lib.hid g4
        have hlt : w.heap.size < W2.heap.size:=by omega
        clear g1 g2 g3 g4 HMd
        go_wp2
        refine bodyPost_ret (v:=.tuple #[.agg #[.bool (stN neg (dval ds) (y)),.slice A3 n3 c3,.int .i64 (stX (dval ds) (y))],.int .i64 (stE (dval ds) (y) : Int)]) (by simp [results,Tryz.results117,go_sem,y0,y1,y2]) rfl ?_
        rw [G1.out,G2.out,G3.out,G4.out]
        exact ⟨A3,n3,c3,rfl,(((hr3.setOther (p:=⟨w.heap.size,0,none⟩) hlt _).setOther (p:=⟨w.heap.size,1,none⟩) hlt _).setOther (p:=⟨w.heap.size,2,none⟩) hlt _).more (by omega),
         (((hW2.trans (hb3.mono (by omega))).setCell (p:=⟨w.heap.size,0,none⟩) (by simp) _).setCell (p:=⟨w.heap.size,1,none⟩) (by simp) _).setCell (p:=⟨w.heap.size,2,none⟩) (by simp) _⟩
       ·obtain ⟨y,hy⟩ : ∃ y,x + -(v : Int) = y:=⟨_,rfl⟩
        have hexp : Hid (tExp (octs s) = y):=by show _ = _; unfold tExp; rw [hman.out,hpw.out,← hy]; have:=hx.out; simp; omega
        have hy1 : -100000000 ≤ y ∧ y ≤ 100000000:=by omega
        have HPL:=Lib.hid hpl
        clear hpl hpw
        go_wp2_with fail
        have hres2:=(hres.setOther (p:=⟨w.heap.size + 1,2,none⟩) (by simp) (.int .i64 y)).setOther (p:=⟨w.heap.size + 1,1,none⟩) (by simp) (.slice Ad nd cd)
        have hW2:=(hbel.setCell (p:=⟨w.heap.size + 1,2,none⟩) (by simp) (.int .i64 y)).setCell (p:=⟨w.heap.size + 1,1,none⟩) (by simp) (.slice Ad nd cd)
        have m2:=set_other (i:=1) (set_other (i:=2) m0 (by omega : w.heap.size ≠ w.heap.size + 1) (.int .i64 y)) (by omega : w.heap.size ≠ w.heap.size + 1) (.slice Ad nd cd)
        have hs2 : w.heap.size + 2 ≤ ((wr.setCell ⟨w.heap.size + 1,2,none⟩ (.int .i64 y)).setCell ⟨w.heap.size + 1,1,none⟩ (.slice Ad nd cd)).heap.size:=by simpa [World.setCell] using hsz
        generalize ((wr.setCell ⟨w.heap.size + 1,2,none⟩ (.int .i64 y)).setCell ⟨w.heap.size + 1,1,none⟩ (.slice Ad nd cd)) = W2 at hres2 hW2 m2 hs2 ⊢
        have hn2:=hres2.n_le
        unfold maxLen at hn2
        have HMd:=Made_c neg (y) W2 hres2.rd (fun b h => h.2) hd10.out (by omega) hn2.1 (by omega) (by omega)
        unfold dv nv at HMd
        refine HMd.mono ?_
        rintro e w3 ⟨A3,n3,c3,rfl,hr3,hb3⟩
        have q0:=held hb3 (by omega) m2
        have y0 : w3.cell? ⟨w.heap.size,0,none⟩ = some (.bool false):=cell_of q0 rfl
        have y1 : w3.cell? ⟨w.heap.size,1,none⟩ = some (.slice none 0 0):=cell_of q0 rfl
        have y2 : w3.cell? ⟨w.heap.size,2,none⟩ = some (.int .i64 0):=cell_of q0 rfl
        have f0:=frozen_of 0 q0
        have f1:=frozen_of 1 q0
        have f2:=frozen_of 2 q0
        obtain ⟨g1,g2,g3,g4⟩:=g_small (xs:=octs s) HPL.out
        rw [hval.out,hexp.out] at g1 g3 g4
        rw [HN.out,hval.out,hexp.out] at g2
        have G1:=Lib.hid g1
        have G2:=Lib.hid g2
        have G3:=Lib.hid g3
        have G4:=Lib.hid g4
        have hlt : w.heap.size < W2.heap.size:=by omega
        clear g1 g2 g3 g4 HMd
        go_wp2
        refine bodyPost_ret (v:=.tuple #[.agg #[.bool (stN neg (dval ds) (y)),.slice A3 n3 c3,.int .i64 (stX (dval ds) (y))],.int .i64 (stE (dval ds) (y) : Int)]) (by simp [results,Tryz.results117,go_sem,y0,y1,y2]) rfl ?_
        rw [G1.out,G2.out,G3.out,G4.out]
        exact ⟨A3,n3,c3,rfl,(((hr3.setOther (p:=⟨w.heap.size,0,none⟩) hlt _).setOther (p:=⟨w.heap.size,1,none⟩) hlt _).setOther (p:=⟨w.heap.size,2,none⟩) hlt _).more (by omega),
         (((hW2.trans (hb3.mono (by omega))).setCell (p:=⟨w.heap.size,0,none⟩) (by simp) _).setCell (p:=⟨w.heap.size,1,none⟩) (by simp) _).setCell (p:=⟨w.heap.size,2,none⟩) (by simp) _⟩
end Go.Proofs.YtkigpbkkhgabeaaGreatDoor
namespace Go.Proofs.YtkigpbkkhgabeaaGreatDoor
open Go.RowKit
def fGood (xs : List Nat) : Prop:=form xs = some xs.length ∧ xs.length ≤ 2000
instance (xs : List Nat) : Decidable (fGood xs):=inferInstanceAs (Decidable (_ ∧ _))
def fE (xs : List Nat) : Nat:=if fGood xs then gE xs else if form xs = some xs.length then 5 else 32
def fN (xs : List Nat) : Bool:=if fGood xs then gN xs else false
def fX (xs : List Nat) : Int:=if fGood xs then gX xs else 0
def fZ (xs : List Nat) : List Nat:=if fGood xs then gZ xs else []
theorem rDParse_c (s : ByteArray) (w : World) (hs : s.size ≤ 9223372036854775807) :
  Calls Tryz.prog 117 #[.string s] w fun e w' => ∃ A n c,e = .returned (.tuple #[dv (fN (octs s)) A n c (fX (octs s)),.int .i64 (fE (octs s) : Int)]) ∧ Res w' w.heap.size A n c (fZ (octs s)) ∧ Below w.heap.size w w':=by
 have hl:=octs_length s
 by_cases hg : fGood (octs s)
 ·obtain ⟨hf,h2⟩:=id hg
  unfold fN fX fE fZ
  rw [if_pos hg,if_pos hg,if_pos hg,if_pos hg]
  obtain ⟨sg,wh,fr,pw,hp⟩:=form_parts hf
  refine rDParse_good (M:=sg ++ (wh ++ fr)) (pw:=pw) s w (by omega) (by rw [hf,hl]) ?_ ?_ (mant_octs hp) ?_
  ·have:=hp.eq
   rw [this]; simp
  ·have:=hp.wh.2
   rw [List.length_append,List.length_append]
   have : 0 < wh.length:=List.length_pos_iff.2 this
   omega
  ·rcases hp.pw with h | ⟨e,t,p,h1,h2,h3,h4,_⟩
   ·exact .inl h
   ·exact .inr ⟨e,t ++ p,h1,h2,pow_octs h3 h4⟩
 ·have hb : form (octs s) ≠ some s.size ∨ 2000 < s.size:=by
   by_cases hf : form (octs s) = some s.size
   ·right
    refine Nat.lt_of_not_le fun h => hg ⟨by rw [hl]; exact hf,by omega⟩
   ·exact .inl hf
  unfold fN fX fE fZ
  rw [if_neg hg,if_neg hg,if_neg hg,if_neg hg]
  refine (rDParse_bad s w hs hb).mono ?_
  rintro e w' ⟨rfl,h⟩
  refine ⟨none,0,0,?_,Res.nil _ _,h⟩
  rw [hl]
  by_cases hf : form (octs s) = some s.size
  ·rw [if_pos hf,if_pos hf]; rfl
  ·rw [if_neg hf,if_neg hf]; rfl
end Go.Proofs.YtkigpbkkhgabeaaGreatDoor
