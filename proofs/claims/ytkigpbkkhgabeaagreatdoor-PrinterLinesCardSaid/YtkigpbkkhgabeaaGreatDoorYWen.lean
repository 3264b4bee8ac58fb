import Derived.Test.YtkigpbkkhgabeaaGreatDoorYWrs
set_option linter.unusedVariables false
set_option linter.unusedSimpArgs false
namespace Go.Proofs.YtkigpbkkhgabeaaGreatDoor
open Go.RowKit Go.Lib
def fSgA (xs : List Nat) (p : Nat) : Nat:=if nth xs p = 45 then p + 1 else p
def fAtP (xs : List Nat) (p : Nat) : Option Nat:=(fWhole xs (fSgA xs p)).bind fun k => (fFrac xs k).bind (fPow xs)
def octN (b : List UInt8) : List Nat:=b.map (·.toNat)
theorem octN_at {b : List UInt8} {r : Nat} {c : UInt8} (h : b[r]? = some c) : nth (octN b) r = c.toNat:=by
 unfold nth octN
 rw [List.getD_eq_getElem?_getD,List.getElem?_map,h]
 rfl
theorem octN_no {b : List UInt8} {r : Nat} {f : UInt8 → Bool} (h : ∀ c,b[r]? = some c → f c = false) : nth (octN b) r = 0 ∨ ∃ c : UInt8,f c = false ∧ nth (octN b) r = c.toNat:=by
 cases hb : b[r]? with
 | some c => exact .inr ⟨c,h c hb,octN_at hb⟩
 | none =>
  refine .inl (nth_none ?_)
  unfold octN
  rw [List.length_map]
  exact List.getElem?_eq_none_iff.1 hb
theorem dEnd_octN {b : List UInt8} {r s : Nat} (hs : s = r + ((b.drop r).takeWhile isDg).length) : dEnd (octN b) r = s:=by
 unfold dEnd octN
 rw [← List.map_drop,List.takeWhile_map,List.length_map]
 rw [show ((isDig ∘ fun x : UInt8 => x.toNat) : UInt8 → Bool) = isDg by funext c; exact dg_N c]
 exact hs.symm
theorem numeral_at {b : List UInt8} {p q : Nat} (hp : p ≤ b.length) (h : rNumeral b p = .ok () q) : fAtP (octN b) p = some q:=by
 have hup : True:=trivial
 obtain ⟨z0,p1,h1,h⟩:=bind_ok h
 obtain ⟨z1,p2,h2,h⟩:=bind_ok h
 obtain ⟨u3,p3,h3,h⟩:=bind_ok h
 obtain ⟨z4,p4,h4,h⟩:=bind_ok h
 obtain ⟨u5,p5,h5,h⟩:=bind_ok h
 obtain ⟨z6,p6,h6,h7⟩:=bind_ok h
 clear h
 have s1:=skip_got h1
 have s2:=skip_got h2
 have s4:=skip_got h4
 have s6:=skip_got h6
 clear h1 h2 h4 h6
 have w3 : (z1 = true ∧ p3 = p2) ∨ (z1 = false ∧ ∃ c,b[p2]? = some c ∧ isDg c = true ∧ p3 = p2 + ((b.drop p2).takeWhile isDg).length ∧ p2 < p3):=by
  cases z1 with
  | true => unfold rPure at h3; rw [if_pos rfl] at h3; injection h3 with _ h3; exact .inl ⟨rfl,h3.symm⟩
  | false => rw [if_neg (by decide)] at h3; exact .inr ⟨rfl,digits_got h3⟩
 have w5 : (z4 = false ∧ p5 = p4) ∨ (z4 = true ∧ ∃ c,b[p4]? = some c ∧ isDg c = true ∧ p5 = p4 + ((b.drop p4).takeWhile isDg).length ∧ p4 < p5):=by
  cases z4 with
  | false => unfold rPure at h5; rw [if_neg (by decide)] at h5; injection h5 with _ h5; exact .inl ⟨rfl,h5.symm⟩
  | true => rw [if_pos rfl] at h5; exact .inr ⟨rfl,digits_got h5⟩
 have w7 : (z6 = false ∧ q = p6) ∨ (z6 = true ∧ ∃ s p7,rSkip (fun c => c == 43 || c == 45) b p6 = .ok s p7 ∧ ∃ c,b[p7]? = some c ∧ isDg c = true ∧ q = p7 + ((b.drop p7).takeWhile isDg).length ∧ p7 < q):=by
  cases z6 with
  | false => unfold rPure at h7; rw [if_neg (by decide)] at h7; injection h7 with _ h7; exact .inl ⟨rfl,h7.symm⟩
  | true =>
   rw [if_pos rfl] at h7
   obtain ⟨s,p7,h8,h9⟩:=bind_ok h7
   exact .inr ⟨rfl,s,p7,h8,digits_got h9⟩
 clear h3 h5 h7
 have m1 : p ≤ p1 ∧ p1 ≤ p2 ∧ p2 ≤ p3 ∧ p3 ≤ p4 ∧ p4 ≤ p5 ∧ p5 ≤ p6 ∧ p6 ≤ q:=by
  have a7 : p6 ≤ q:=by
   rcases w7 with ⟨-,e⟩ | ⟨-,s,p7,h8,c,-,-,-,h9⟩
   ·omega
   ·rcases skip_got h8 with ⟨-,e,-⟩ | ⟨-,e,-⟩ <;> omega
  refine ⟨?_,?_,?_,?_,?_,?_,a7⟩
  ·rcases s1 with ⟨-,e,-⟩ | ⟨-,e,-⟩ <;> omega
  ·rcases s2 with ⟨-,e,-⟩ | ⟨-,e,-⟩ <;> omega
  ·rcases w3 with ⟨-,e⟩ | ⟨-,c,-,-,-,e⟩ <;> omega
  ·rcases s4 with ⟨-,e,-⟩ | ⟨-,e,-⟩ <;> omega
  ·rcases w5 with ⟨-,e⟩ | ⟨-,c,-,-,-,e⟩ <;> omega
  ·rcases s6 with ⟨-,e,-⟩ | ⟨-,e,-⟩ <;> omega
 obtain ⟨m1,m2,m3,m4,m5,m6,m7⟩:=m1
 have at_ : ∀ {r : Nat} {c : UInt8},p ≤ r → b[r]? = some c → r < q → nth (octN b) r = c.toNat:=fun {r c} hr hb hl => octN_at hb
 have no_ : ∀ {r : Nat} {f : UInt8 → Bool},p ≤ r → (∀ c,b[r]? = some c → f c = false) → nth (octN b) r = 0 ∨ ∃ c : UInt8,f c = false ∧ nth (octN b) r = c.toNat:=fun {r f} hr hb => octN_no hb
 have eq8 : ∀ {c : UInt8} {k : Nat},k < 256 → (c == UInt8.ofNat k) = true → c.toNat = k:=fun {c k} hk h => (u8_eq c k hk).1 (by simpa using h)
 have ne8 : ∀ {c : UInt8} {k : Nat},k < 256 → (c == UInt8.ofNat k) = false → c.toNat ≠ k:=fun {c k} hk h e => by
  have:=(u8_eq c k hk).2 e
  rw [this] at h
  simp at h
 have dgE : ∀ {c : UInt8},isDg c = true → isDig c.toNat = true ∧ 48 ≤ c.toNat ∧ c.toNat ≤ 57:=fun {c} h => by
  have h2 : isDig c.toNat = true:=by rw [dg_N]; exact h
  have h3:=h2
  unfold isDig at h3
  rw [decide_eq_true_eq] at h3
  exact ⟨h2,h3⟩
 have g1 : fSgA (octN b) p = p1:=by
  unfold fSgA
  rcases s1 with ⟨-,e,c,hb,hc⟩ | ⟨-,e,hb⟩
  ·have hl : p < q:=by
    omega
   have:=at_ (Nat.le_refl p) hb hl
   rw [this,if_pos (eq8 (k:=45) (by omega) hc)]; omega
  ·have h0 : nth (octN b) p ≠ 45:=by
    have:=no_ (Nat.le_refl p) hb
    rcases this with e0 | ⟨c,hc,e0⟩
    ·rw [e0]; omega
    ·rw [e0]; exact ne8 (k:=45) (by omega) hc
   rw [if_neg h0]; omega
 have g2 : fWhole (octN b) p1 = some p3:=by
  unfold fWhole
  rcases s2 with ⟨e1,e2,c,hb,hc⟩ | ⟨e1,e2,hb⟩
  ·rcases w3 with ⟨-,e3⟩ | ⟨e3,_⟩
   ·have h0:=at_ m1 hb (by omega)
    have h48:=eq8 (k:=48) (by omega) hc
    rw [h0,h48,if_pos (by decide),if_pos rfl]
    congr 1; omega
   ·rw [e1] at e3; cases e3
  ·rcases w3 with ⟨e3,_⟩ | ⟨-,c,hb2,hc,e3,e4⟩
   ·rw [e1] at e3; cases e3
   ·rw [e2] at hb2 e3 e4
    have h0:=at_ m1 hb2 (by omega)
    have hn : c.toNat ≠ 48:=ne8 (k:=48) (by omega) (hb c hb2)
    rw [h0,if_pos (dgE hc).1,if_neg hn,dEnd_octN e3]
 have g3 : fFrac (octN b) p3 = some p5:=by
  unfold fFrac
  have m13 : p ≤ p3:=by omega
  rcases s4 with ⟨e1,e2,c,hb,hc⟩ | ⟨e1,e2,hb⟩
  ·rcases w5 with ⟨e3,_⟩ | ⟨-,d,hd,hdd,e3,e4⟩
   ·rw [e1] at e3; cases e3
   ·have h0:=at_ m13 hb (by omega)
    have h1:=at_ (r:=p4) (by omega) hd (by omega)
    have hk : p3 + 1 = p4:=by omega
    rw [h0,if_pos (eq8 (k:=46) (by omega) hc),hk,h1,if_pos (dgE hdd).1,dEnd_octN e3]
  ·rcases w5 with ⟨-,e3⟩ | ⟨e3,_⟩
   ·have h0 : nth (octN b) p3 ≠ 46:=by
     rcases no_ m13 hb with e0 | ⟨c,hc,e0⟩
     ·rw [e0]; omega
     ·rw [e0]; exact ne8 (k:=46) (by omega) hc
    rw [if_neg h0]
    congr 1; omega
   ·rw [e1] at e3; cases e3
 have g4 : fPow (octN b) p5 = some q:=by
  unfold fPow
  have m15 : p ≤ p5:=by omega
  rcases s6 with ⟨e1,e2,c,hb,hc⟩ | ⟨e1,e2,hb⟩
  ·rcases w7 with ⟨e3,_⟩ | ⟨-,s,p7,h8,d,hd,hdd,e3,e4⟩
   ·rw [e1] at e3; cases e3
   ·have s8:=skip_got h8
    have m7' : p6 ≤ p7:=by rcases s8 with ⟨-,e,-⟩ | ⟨-,e,-⟩ <;> omega
    have h0:=at_ m15 hb (by omega)
    have hcc : c.toNat = 101 ∨ c.toNat = 69:=by
     rw [Bool.or_eq_true] at hc
     rcases hc with hc | hc
     ·exact .inl (eq8 (k:=101) (by omega) hc)
     ·exact .inr (eq8 (k:=69) (by omega) hc)
    have hsg : fSg (octN b) (p5 + 1) = p7:=by
     unfold fSg
     rw [show p5 + 1 = p6 by omega]
     rcases s8 with ⟨-,e,c2,hb2,hc2⟩ | ⟨-,e,hb2⟩
     ·have h2:=at_ (r:=p6) (by omega) hb2 (by omega)
      have hx : c2.toNat = 43 ∨ c2.toNat = 45:=by
       rw [Bool.or_eq_true] at hc2
       rcases hc2 with hc2 | hc2
       ·exact .inl (eq8 (k:=43) (by omega) hc2)
       ·exact .inr (eq8 (k:=45) (by omega) hc2)
      rw [h2,if_pos hx]; omega
     ·have hx : ¬ (nth (octN b) p6 = 43 ∨ nth (octN b) p6 = 45):=by
       rcases no_ (r:=p6) (by omega) hb2 with e0 | ⟨c2,hc2,e0⟩
       ·rw [e0]; omega
       ·rw [e0]
        rw [Bool.or_eq_false_iff] at hc2
        have x1:=ne8 (k:=43) (by omega) hc2.1
        have x2:=ne8 (k:=45) (by omega) hc2.2
        omega
      rw [if_neg hx]; omega
    have h1:=at_ (r:=p7) (by omega) hd (by omega)
    rw [h0,if_pos hcc,hsg,h1,if_pos (dgE hdd).1,dEnd_octN e3]
  ·rcases w7 with ⟨-,e3⟩ | ⟨e3,_⟩
   ·have h0 : ¬ (nth (octN b) p5 = 101 ∨ nth (octN b) p5 = 69):=by
     rcases no_ m15 hb with e0 | ⟨c,hc,e0⟩
     ·rw [e0]; omega
     ·rw [e0]
      rw [Bool.or_eq_false_iff] at hc
      have x1:=ne8 (k:=101) (by omega) hc.1
      have x2:=ne8 (k:=69) (by omega) hc.2
      omega
    rw [if_neg h0]
    congr 1; omega
   ·rw [e1] at e3; cases e3
 unfold fAtP
 rw [g1,g2]
 show (fFrac _ _).bind _ = _
 rw [g3]
 exact g4
set_option maxRecDepth 100000 in
set_option maxHeartbeats 2000000 in
theorem endsAt_c (s : ByteArray) (p : Nat) (w : World) (hpz : p ≤ s.size) (hs : s.size ≤ 9223372036854775807) :
  Calls Tryz.prog 116 #[.string s,.int .i64 (p : Int)] w fun e w' => ∃ z : Int,e = .returned (.tuple #[.int .i64 z,.bool (fAtP (octs s) p).isSome]) ∧ (∀ k,fAtP (octs s) p = some k → z = (k : Int)) ∧ w = w':=by
 have HL:=Lib.hid (octs_length s)
 go_enter Tryz.func116,Tryz.ntmps116
 go_upto_region 1 with fail
 go_cut [15] from 6 to 15 (fun sX wc => sX = .bool (decide (nth (octs s) p = 45)) ∧ w = wc)
 case first =>
  by_cases h0 : p < s.size
  ·have ho:=octs_get s p h0
   by_cases e0 : (s[p].toNat : Int) = 45
   ·have HB : Hid (decide (nth (octs s) p = 45) = true):=by show _ = _; rw [decide_eq_true_iff,ho]; omega
    have hb0 : ((s[p].toNat : Int) == 45) = true:=by rw [e0]; rfl
    clear ho
    go_wp2
    go_meet
    rw [HB.out]
    exact ⟨by simp_all,rfl⟩
   ·have hb0 : ((s[p].toNat : Int) == 45) = false:=by rw [beq_eq_false_iff_ne]; exact e0
    have HB : Hid (decide (nth (octs s) p = 45) = false):=by show _ = _; rw [decide_eq_false_iff_not,ho]; omega
    clear ho e0
    go_wp2
    go_meet
    rw [HB.out]
    exact ⟨by simp_all,rfl⟩
  ·have HB : Hid (decide (nth (octs s) p = 45) = false):=by show _ = _; rw [decide_eq_false_iff_not,nth_none (by rw [HL.out]; omega)]; omega
   have h1 : s.size ≤ p:=by omega
   clear h0
   go_wp2
   go_meet
   rw [HB.out]
   exact ⟨rfl,rfl⟩
 case rest =>
  obtain ⟨rfl,rfl⟩:=hcut
  obtain ⟨t,ht⟩ : ∃ t,Hid (t = decide (nth (octs s) p = 45)):=⟨_,rfl⟩
  rw [← ht.out]
  go_upto_if 15 with fail
  go_cut [1] from 16 to 18 (fun s1 wc => s1 = .int .i64 ((fSgA (octs s) p : Nat) : Int) ∧ fSgA (octs s) p ≤ s.size ∧ w = wc)
  case first =>
   cases t
   ·have HF : Hid (fSgA (octs s) p = p):=by show _ = _; unfold fSgA; rw [if_neg (of_decide_eq_false ht.out.symm)]
    go_wp2
    go_meet
    rw [HF.out]
    exact ⟨rfl,hpz,rfl⟩
   ·have hp : nth (octs s) p = 45:=of_decide_eq_true ht.out.symm
    have HF : Hid (fSgA (octs s) p = p + 1):=by show _ = _; unfold fSgA; rw [if_pos hp]
    have hz:=nth_pos_lt hp (by omega : 0 < 45)
    rw [HL.out] at hz
    clear hp
    go_wp2
    go_meet
    rw [HF.out]
    exact ⟨rfl,hz,rfl⟩
  case rest =>
   obtain ⟨rfl,hk0,rfl⟩:=hcut
   have HFO : Hid (fAtP (octs s) p = (fWhole (octs s) (fSgA (octs s) p)).bind fun k => (fFrac (octs s) k).bind (fPow (octs s))):=rfl
   generalize fSgA (octs s) p = k at hk0 HFO
   clear ht
   have HD:=digit_c s k w hs
   by_cases hd : isDig (nth (octs s) k) = true
   ·have HW : Hid (fWhole (octs s) k = some (if nth (octs s) k = 48 then k + 1 else dEnd (octs s) k)):=if_pos hd
    have hks:=dig_lt hd
    rw [HL.out] at hks
    have HDg:=Lib.hid hd
    rw [hd] at HD
    have HD1:=Lib.hid HD
    clear HD hd
    go_wp2_with fail
    refine HD1.out.mono ?_
    rintro e w' ⟨rfl,rfl⟩
    have ho:=Lib.hid (octs_get s k hks)
    obtain ⟨t2,ht2⟩ : ∃ t,Hid (t = ((s[k].toNat : Int) == 48)):=⟨((s[k].toNat : Int) == 48),Lib.hid rfl⟩
    go_upto_if 26 with fail
    rw [← ht2.out]
    go_cut [1] from 27 to 33 (fun s1 wc => ∃ k2 : Nat,s1 = .int .i64 (k2 : Int) ∧ k2 ≤ s.size ∧ Hid (fWhole (octs s) k = some k2) ∧ w = wc)
    case first =>
     cases t2
     ·have HW2 : Hid (fWhole (octs s) k = some (dEnd (octs s) k)):=by
       show _ = _
       have:=ht2.out
       rw [HW.out,if_neg (by rw [ho.out]; intro h; rw [h] at this; exact absurd this (by decide))]
      clear ho ht2
      go_wp2
      go_loopw [1] (fun iv wr => ∃ j : Nat,j ≤ s.size ∧ iv = .int .i64 (j : Int) ∧ Hid (dEnd (octs s) j = dEnd (octs s) k) ∧ w = wr) (fun iv _ => s.size - (RowKit.intOf iv).toNat)
      case atStart => exact ⟨k,hk0,rfl,rfl,rfl⟩
      case round =>
       obtain ⟨j,hj,rfl,hdj,rfl⟩:=hrel
       have HE:=digit_c s j w hs
       by_cases hd : isDig (nth (octs s) j) = true
       ·have hjs:=dig_lt hd
        rw [HL.out] at hjs
        have hdj2 : Hid (dEnd (octs s) (j + 1) = dEnd (octs s) k):=(dEnd_step hd).symm.trans hdj.out
        rw [hd] at HE
        have HE1:=Lib.hid HE
        clear HE hd
        go_wp2_with fail
        refine HE1.out.mono ?_
        rintro e w' ⟨rfl,rfl⟩
        go_wp2
        exact ⟨⟨j + 1,by omega,by go_num,hdj2,trivial⟩,by simp [RowKit.intOf]; omega⟩
       ·have hd' : isDig (nth (octs s) j) = false:=by simpa using hd
        have hdj2 : Hid (j = dEnd (octs s) k):=(dEnd_no hd').symm.trans hdj.out
        rw [hd'] at HE
        have HE1:=Lib.hid HE
        clear HE hd hd'
        go_wp2_with fail
        refine HE1.out.mono ?_
        rintro e w' ⟨rfl,rfl⟩
        go_wp2
        go_meet
        exact ⟨j,rfl,hj,by show _ = _; rw [HW2.out,hdj2.out],rfl⟩
     ·have HW2 : Hid (fWhole (octs s) k = some (k + 1)):=by
       show _ = _
       have:=ht2.out.symm
       rw [HW.out,if_pos (by rw [ho.out]; rw [beq_iff_eq] at this; omega)]
      clear ho ht2
      go_wp2
      go_meet
      exact ⟨k + 1,by go_num,hks,HW2,rfl⟩
    case rest =>
     obtain ⟨k2,rfl,hk2,HW2,rfl⟩:=hcut
     have HFO2 : Hid (fAtP (octs s) p = (fFrac (octs s) k2).bind (fPow (octs s))):=by show _ = _; rw [HFO.out,HW2.out]; rfl
     clear HW HD1 ho ht2 HFO HW2 HDg hk0
     go_upto_region 9 with fail
     go_cut [43] from 34 to 43 (fun sX wc => sX = .bool (decide (nth (octs s) (k2) = 46)) ∧ w = wc)
     case first =>
      by_cases h0 : k2 < s.size
      ·have ho:=octs_get s (k2) h0
       by_cases e0 : (s[k2].toNat : Int) = 46
       ·have HB : Hid (decide (nth (octs s) (k2) = 46) = true):=by show _ = _; rw [decide_eq_true_iff,ho]; omega
        have hb0 : ((s[k2].toNat : Int) == 46) = true:=by rw [e0]; rfl
        clear ho
        go_wp2
        go_meet
        rw [HB.out]
        exact ⟨by simp_all,rfl⟩
       ·have hb0 : ((s[k2].toNat : Int) == 46) = false:=by rw [beq_eq_false_iff_ne]; exact e0
        have HB : Hid (decide (nth (octs s) (k2) = 46) = false):=by show _ = _; rw [decide_eq_false_iff_not,ho]; omega
        clear ho e0
        go_wp2
        go_meet
        rw [HB.out]
        exact ⟨by simp_all,rfl⟩
      ·have HB : Hid (decide (nth (octs s) (k2) = 46) = false):=by show _ = _; rw [decide_eq_false_iff_not,nth_none (by rw [HL.out]; omega)]; omega
       have h1 : s.size ≤ k2:=by omega
       clear h0
       go_wp2
       go_meet
       rw [HB.out]
       exact ⟨rfl,rfl⟩
     case rest =>
      obtain ⟨rfl,rfl⟩:=hcut
      obtain ⟨t,ht⟩ : ∃ t,Hid (t = decide (nth (octs s) (k2) = 46)):=⟨_,rfl⟩
      rw [← ht.out]
      go_upto_if 43 with fail
      go_cut [1] from 44 to 55 (fun s1 wc => ∃ k3 : Nat,s1 = .int .i64 (k3 : Int) ∧ k3 ≤ s.size ∧ Hid (fFrac (octs s) k2 = some k3) ∧ w = wc)
      case first =>
       cases t
       ·have HF : Hid (fFrac (octs s) k2 = some k2):=if_neg (of_decide_eq_false ht.out.symm)
        clear ht
        go_wp2
        go_meet
        exact ⟨k2,rfl,hk2,HF,rfl⟩
       ·have hp : nth (octs s) k2 = 46:=of_decide_eq_true ht.out.symm
        have HF : Hid (fFrac (octs s) k2 = if isDig (nth (octs s) (k2 + 1)) = true then some (dEnd (octs s) (k2 + 1)) else none):=if_pos hp
        have hz:=nth_pos_lt hp (by omega : 0 < 46)
        rw [HL.out] at hz
        clear hp ht
        obtain ⟨kd,hkd⟩ : ∃ kd,kd = k2 + 1:=⟨_,rfl⟩
        have hkd0 : kd ≤ s.size:=by omega
        have HKD : Hid ((k2 : Int) + 1 = (kd : Int)):=by show _ = _; omega
        rw [← hkd] at HF
        clear hkd
        have HD:=digit_c s kd w hs
        by_cases hd : isDig (nth (octs s) kd) = true
        ·rw [hd] at HD
         have HF2 : Hid (fFrac (octs s) k2 = some (dEnd (octs s) kd)):=HF.out.trans (if_pos hd)
         have HD1:=Lib.hid HD
         clear HD hd HF
         go_wp2_with fail
         rw [HKD.out]
         refine HD1.out.mono ?_
         rintro e w' ⟨rfl,rfl⟩
         go_wp2
         go_loopw [1] (fun iv wr => ∃ j : Nat,j ≤ s.size ∧ iv = .int .i64 (j : Int) ∧ Hid (dEnd (octs s) j = dEnd (octs s) kd) ∧ w = wr) (fun iv _ => s.size - (RowKit.intOf iv).toNat)
         case atStart => exact ⟨kd,hkd0,rfl,rfl,rfl⟩
         case round =>
          obtain ⟨j,hj,rfl,hdj,rfl⟩:=hrel
          have HE:=digit_c s j w hs
          by_cases hd : isDig (nth (octs s) j) = true
          ·have hjs:=dig_lt hd
           rw [HL.out] at hjs
           have hdj2 : Hid (dEnd (octs s) (j + 1) = dEnd (octs s) kd):=(dEnd_step hd).symm.trans hdj.out
           rw [hd] at HE
           have HE1:=Lib.hid HE
           clear HE hd
           go_wp2_with fail
           refine HE1.out.mono ?_
           rintro e w' ⟨rfl,rfl⟩
           go_wp2
           exact ⟨⟨j + 1,by omega,by go_num,hdj2,trivial⟩,by simp [RowKit.intOf]; omega⟩
          ·have hd' : isDig (nth (octs s) j) = false:=by simpa using hd
           have hdj2 : Hid (j = dEnd (octs s) kd):=(dEnd_no hd').symm.trans hdj.out
           rw [hd'] at HE
           have HE1:=Lib.hid HE
           clear HE hd hd'
           go_wp2_with fail
           refine HE1.out.mono ?_
           rintro e w' ⟨rfl,rfl⟩
           go_wp2
           go_meet
           exact ⟨j,rfl,hj,by show _ = _; rw [HF2.out,hdj2.out],rfl⟩
        ·have hd' : isDig (nth (octs s) kd) = false:=by simpa using hd
         have HN : Hid (fAtP (octs s) p = none):=by
          show _ = _
          rw [HFO2.out,HF.out.trans (if_neg hd)]; rfl
         rw [hd'] at HD
         have HD1:=Lib.hid HD
         clear HD hd hd' HF
         go_wp2_with fail
         rw [HKD.out]
         refine HD1.out.mono ?_
         rintro e w' ⟨rfl,rfl⟩
         go_wp2
         go_ret2
         rw [HN.out]
         exact ⟨_,rfl,(fun k h => by cases h),rfl⟩
      case rest =>
       obtain ⟨k3,rfl,hk3,HW3,rfl⟩:=hcut
       have HFO3 : Hid (fAtP (octs s) p = fPow (octs s) k3):=by show _ = _; rw [HFO2.out,HW3.out]; rfl
       clear ht HFO2 HW3 hk2
       go_upto_region 15 with fail
       go_cut [71] from 56 to 71 (fun sX wc => sX = .bool (decide (nth (octs s) (k3) = 101 ∨ nth (octs s) (k3) = 69)) ∧ w = wc)
       case first =>
        by_cases h0 : k3 < s.size
        ·have ho:=octs_get s (k3) h0
         by_cases e0 : (s[k3].toNat : Int) = 101
         ·have HB : Hid (decide (nth (octs s) (k3) = 101 ∨ nth (octs s) (k3) = 69) = true):=by show _ = _; rw [decide_eq_true_iff,ho]; omega
          have hb0 : ((s[k3].toNat : Int) == 101) = true:=by rw [e0]; rfl
          clear ho
          go_wp2
          go_meet
          rw [HB.out]
          exact ⟨by simp_all,rfl⟩
         ·have hb0 : ((s[k3].toNat : Int) == 101) = false:=by rw [beq_eq_false_iff_ne]; exact e0
          by_cases e1 : (s[k3].toNat : Int) = 69
          ·have HB : Hid (decide (nth (octs s) (k3) = 101 ∨ nth (octs s) (k3) = 69) = true):=by show _ = _; rw [decide_eq_true_iff,ho]; omega
           have hb1 : ((s[k3].toNat : Int) == 69) = true:=by rw [e1]; rfl
           clear ho
           go_wp2
           go_meet
           rw [HB.out]
           exact ⟨by simp_all,rfl⟩
          ·have hb1 : ((s[k3].toNat : Int) == 69) = false:=by rw [beq_eq_false_iff_ne]; exact e1
           have HB : Hid (decide (nth (octs s) (k3) = 101 ∨ nth (octs s) (k3) = 69) = false):=by show _ = _; rw [decide_eq_false_iff_not,ho]; omega
           clear ho e0 e1
           go_wp2
           go_meet
           rw [HB.out]
           exact ⟨by simp_all,rfl⟩
        ·have HB : Hid (decide (nth (octs s) (k3) = 101 ∨ nth (octs s) (k3) = 69) = false):=by show _ = _; rw [decide_eq_false_iff_not,nth_none (by rw [HL.out]; omega)]; omega
         have h1 : s.size ≤ k3:=by omega
         clear h0
         go_wp2
         go_meet
         rw [HB.out]
         exact ⟨rfl,rfl⟩
       case rest =>
        obtain ⟨rfl,rfl⟩:=hcut
        obtain ⟨t,ht⟩ : ∃ t,Hid (t = decide (nth (octs s) (k3) = 101 ∨ nth (octs s) (k3) = 69)):=⟨_,rfl⟩
        rw [← ht.out]
        go_upto_if 71 with fail
        go_cut [1] from 72 to 101 (fun s1 wc => ∃ k4 : Nat,s1 = .int .i64 (k4 : Int) ∧ k4 ≤ s.size ∧ Hid (fPow (octs s) k3 = some k4) ∧ w = wc)
        case first =>
         cases t
         ·have HF : Hid (fPow (octs s) k3 = some k3):=if_neg (of_decide_eq_false ht.out.symm)
          clear ht
          go_wp2
          go_meet
          exact ⟨k3,rfl,hk3,HF,rfl⟩
         ·have hp : nth (octs s) k3 = 101 ∨ nth (octs s) k3 = 69:=of_decide_eq_true ht.out.symm
          have HF : Hid (fPow (octs s) k3 = if isDig (nth (octs s) (fSg (octs s) (k3 + 1))) = true then some (dEnd (octs s) (fSg (octs s) (k3 + 1))) else none):=if_pos hp
          have hz : k3 < (octs s).length:=by rcases hp with hp | hp <;> exact nth_pos_lt hp (by omega)
          rw [HL.out] at hz
          clear hp ht
          obtain ⟨ke,hke⟩ : ∃ ke,ke = k3 + 1:=⟨_,rfl⟩
          have hke0 : ke ≤ s.size:=by omega
          have HKE : Hid ((k3 : Int) + 1 = (ke : Int)):=by show _ = _; omega
          rw [← hke] at HF
          clear hke
          go_upto_region 17 with fail
          rw [HKE.out]
          go_cut [89] from 74 to 89 (fun sX wc => sX = .bool (decide (nth (octs s) (ke) = 43 ∨ nth (octs s) (ke) = 45)) ∧ w = wc)
          case first =>
           by_cases h0 : ke < s.size
           ·have ho:=octs_get s (ke) h0
            by_cases e0 : (s[ke].toNat : Int) = 43
            ·have HB : Hid (decide (nth (octs s) (ke) = 43 ∨ nth (octs s) (ke) = 45) = true):=by show _ = _; rw [decide_eq_true_iff,ho]; omega
             have hb0 : ((s[ke].toNat : Int) == 43) = true:=by rw [e0]; rfl
             clear ho
             go_wp2
             go_meet
             rw [HB.out]
             exact ⟨by simp_all,rfl⟩
            ·have hb0 : ((s[ke].toNat : Int) == 43) = false:=by rw [beq_eq_false_iff_ne]; exact e0
             by_cases e1 : (s[ke].toNat : Int) = 45
             ·have HB : Hid (decide (nth (octs s) (ke) = 43 ∨ nth (octs s) (ke) = 45) = true):=by show _ = _; rw [decide_eq_true_iff,ho]; omega
              have hb1 : ((s[ke].toNat : Int) == 45) = true:=by rw [e1]; rfl
              clear ho
              go_wp2
              go_meet
              rw [HB.out]
              exact ⟨by simp_all,rfl⟩
             ·have hb1 : ((s[ke].toNat : Int) == 45) = false:=by rw [beq_eq_false_iff_ne]; exact e1
              have HB : Hid (decide (nth (octs s) (ke) = 43 ∨ nth (octs s) (ke) = 45) = false):=by show _ = _; rw [decide_eq_false_iff_not,ho]; omega
              clear ho e0 e1
              go_wp2
              go_meet
              rw [HB.out]
              exact ⟨by simp_all,rfl⟩
           ·have HB : Hid (decide (nth (octs s) (ke) = 43 ∨ nth (octs s) (ke) = 45) = false):=by show _ = _; rw [decide_eq_false_iff_not,nth_none (by rw [HL.out]; omega)]; omega
            have h1 : s.size ≤ ke:=by omega
            clear h0
            go_wp2
            go_meet
            rw [HB.out]
            exact ⟨rfl,rfl⟩
          case rest =>
           obtain ⟨rfl,rfl⟩:=hcut
           obtain ⟨t,ht⟩ : ∃ t,Hid (t = decide (nth (octs s) (ke) = 43 ∨ nth (octs s) (ke) = 45)):=⟨_,rfl⟩
           rw [← ht.out]
           go_upto_if 89 with fail
           go_cut [1] from 90 to 91 (fun s1 wc => ∃ kd : Nat,s1 = .int .i64 (kd : Int) ∧ kd ≤ s.size ∧ Hid (fSg (octs s) ke = kd) ∧ w = wc)
           case first =>
            cases t
            ·have HS : Hid (fSg (octs s) ke = ke):=if_neg (of_decide_eq_false ht.out.symm)
             clear ht
             go_wp2
             go_meet
             exact ⟨ke,rfl,hke0,HS,rfl⟩
            ·have hp : nth (octs s) ke = 43 ∨ nth (octs s) ke = 45:=of_decide_eq_true ht.out.symm
             have HS : Hid (fSg (octs s) ke = ke + 1):=if_pos hp
             have hy : ke < (octs s).length:=by rcases hp with hp | hp <;> exact nth_pos_lt hp (by omega)
             rw [HL.out] at hy
             clear hp ht
             go_wp2
             go_meet
             exact ⟨ke + 1,by go_num,hy,HS,rfl⟩
           case rest =>
            obtain ⟨kd,rfl,hkd0,HS,rfl⟩:=hcut
            clear ht
            rw [HS.out] at HF
            have HD:=digit_c s kd w hs
            by_cases hd : isDig (nth (octs s) kd) = true
            ·rw [hd] at HD
             have HF2 : Hid (fPow (octs s) k3 = some (dEnd (octs s) kd)):=HF.out.trans (if_pos hd)
             have HD1:=Lib.hid HD
             clear HD hd HF
             go_wp2_with fail
             refine HD1.out.mono ?_
             rintro e w' ⟨rfl,rfl⟩
             go_wp2
             go_loopw [1] (fun iv wr => ∃ j : Nat,j ≤ s.size ∧ iv = .int .i64 (j : Int) ∧ Hid (dEnd (octs s) j = dEnd (octs s) kd) ∧ w = wr) (fun iv _ => s.size - (RowKit.intOf iv).toNat)
             case atStart => exact ⟨kd,hkd0,rfl,rfl,rfl⟩
             case round =>
              obtain ⟨j,hj,rfl,hdj,rfl⟩:=hrel
              have HE:=digit_c s j w hs
              by_cases hd : isDig (nth (octs s) j) = true
              ·have hjs:=dig_lt hd
               rw [HL.out] at hjs
               have hdj2 : Hid (dEnd (octs s) (j + 1) = dEnd (octs s) kd):=(dEnd_step hd).symm.trans hdj.out
               rw [hd] at HE
               have HE1:=Lib.hid HE
               clear HE hd
               go_wp2_with fail
               refine HE1.out.mono ?_
               rintro e w' ⟨rfl,rfl⟩
               go_wp2
               exact ⟨⟨j + 1,by omega,by go_num,hdj2,trivial⟩,by simp [RowKit.intOf]; omega⟩
              ·have hd' : isDig (nth (octs s) j) = false:=by simpa using hd
               have hdj2 : Hid (j = dEnd (octs s) kd):=(dEnd_no hd').symm.trans hdj.out
               rw [hd'] at HE
               have HE1:=Lib.hid HE
               clear HE hd hd'
               go_wp2_with fail
               refine HE1.out.mono ?_
               rintro e w' ⟨rfl,rfl⟩
               go_wp2
               go_meet
               exact ⟨j,rfl,hj,by show _ = _; rw [HF2.out,hdj2.out],rfl⟩
            ·have hd' : isDig (nth (octs s) kd) = false:=by simpa using hd
             have HN : Hid (fAtP (octs s) p = none):=by
              show _ = _
              rw [HFO3.out,HF.out.trans (if_neg hd)]
             rw [hd'] at HD
             have HD1:=Lib.hid HD
             clear HD hd hd' HF
             go_wp2_with fail
             refine HD1.out.mono ?_
             rintro e w' ⟨rfl,rfl⟩
             go_wp2
             go_ret2
             rw [HN.out]
             exact ⟨_,rfl,(fun k h => by cases h),rfl⟩
        case rest =>
         obtain ⟨k4,rfl,hk4,HP,rfl⟩:=hcut
         have HN : Hid (fAtP (octs s) p = some k4):=HFO3.out.trans HP.out
         clear ht HP HFO3
         go_wp2
         go_ret2
         rw [HN.out]
         exact ⟨_,rfl,(fun k h => by injection h with h; rw [h]),rfl⟩
   ·have hd' : isDig (nth (octs s) k) = false:=by simpa using hd
    have HN : Hid (fAtP (octs s) p = none):=by
     show _ = _
     rw [HFO.out,show fWhole (octs s) k = none from if_neg hd]; rfl
    rw [hd'] at HD
    have HD1:=Lib.hid HD
    clear HD hd hd'
    go_wp2_with fail
    refine HD1.out.mono ?_
    rintro e w' ⟨rfl,rfl⟩
    go_wp2
    go_ret2
    rw [HN.out]
    exact ⟨_,rfl,(fun k h => by cases h),rfl⟩
end Go.Proofs.YtkigpbkkhgabeaaGreatDoor
