import Derived.Test.YtcanfiaooabocaaGreatDoorPDrck
import Derived.Test.YtcanfiaooabocaaGreatDoorPPq
import Derived.Test.YtcanfiaooabocaaGreatDoorPDintc
set_option linter.unusedVariables false
set_option linter.unusedSimpArgs false
namespace Go.Proofs.YtcanfiaooabocaaGreatDoor
open Go.Lib
section
variable {l r : List UInt8} (hr : ∀ c,r.head? = some c → isWd c = false)
include hr
theorem look {i : Nat} (hi : i ≤ l.length) : (∃ c,(l ++ r)[i]? = some c ∧ i < l.length ∧ nth (l.map (·.toNat)) i = c.toNat) ∨ (i = l.length ∧ nth (l.map (·.toNat)) i = 0 ∧ ∀ c,(l ++ r)[i]? = some c → isWd c = false):=by
 rcases Nat.lt_or_ge i l.length with h | h
 ·refine .inl ⟨l[i],by rw [List.getElem?_append_left h,List.getElem?_eq_getElem h],h,?_⟩
  unfold nth
  rw [List.getD_eq_getElem?_getD,List.getElem?_map,List.getElem?_eq_getElem h]
  rfl
 ·obtain rfl : i = l.length:=by omega
  refine .inr ⟨rfl,nth_none (by rw [List.length_map]; exact Nat.le_refl _),fun c hc => hr c ?_⟩
  rw [List.getElem?_append_right (Nat.le_refl _),Nat.sub_self] at hc
  rw [List.head?_eq_getElem?]; exact hc
theorem skipF {f : UInt8 → Bool} {P : Nat → Prop} [DecidablePred P] (hf : ∀ c : UInt8,f c = true ↔ P c.toNat) (h0 : ¬ P 0) (hw : ∀ c,f c = true → isWd c = true) {i : Nat} (hi : i ≤ l.length) :
  rSkip f (l ++ r) i = if P (nth (l.map (·.toNat)) i) then .ok true (i + 1) else .ok false i:=by
 unfold rSkip
 rcases look hr hi with ⟨c,hc,hl,hn⟩ | ⟨he,hn,hc⟩
 ·rw [hc,hn]
  simp only
  by_cases h : f c = true
  ·rw [if_pos h,if_pos ((hf c).1 h)]
  ·rw [if_neg h,if_neg (fun hp => h ((hf c).2 hp))]
 ·rw [hn,if_neg h0]
  cases hb : (l ++ r)[i]? with
  | none => rfl
  | some c =>
   have h : ¬ f c = true:=fun hx => by have:=hw c hx; rw [hc c hb] at this; cases this
   simp only
   rw [if_neg h]
theorem dEnd_b {i : Nat} (hi : i ≤ l.length) : i + (((l ++ r).drop i).takeWhile isDg).length = dEnd (l.map (·.toNat)) i:=by
 have hrr : r.takeWhile isDg = []:=by
  cases r with
  | nil => rfl
  | cons c t =>
   have:=hr c rfl
   have h2 : isDg c = false:=by
    unfold isWd at this
    simp only [Bool.or_eq_false_iff] at this
    exact this.1.1.1.1.1.1
   rw [List.takeWhile_cons_of_neg (by rw [h2]; decide)]
 unfold dEnd
 rw [← List.map_drop,List.takeWhile_map,List.length_map,show ((isDig ∘ fun x : UInt8 => x.toNat) : UInt8 → Bool) = isDg by funext c; exact dg_N c]
 rw [List.drop_append_of_le_length hi,List.takeWhile_append]
 split
 ·rw [hrr,List.append_nil]
  rename_i h
  omega
 ·rfl
theorem digits_b {i : Nat} (hi : i ≤ l.length) (hd : isDig (nth (l.map (·.toNat)) i) = true) : rDigits (l ++ r) i = .ok () (dEnd (l.map (·.toNat)) i):=by
 rcases look hr hi with ⟨c,hc,hl,hn⟩ | ⟨he,hn,hc⟩
 ·rw [hn,dg_N] at hd
  unfold rDigits rAt rNeed
  rw [hc]
  simp only
  rw [if_pos hd]
  simp only [RR.bind]
  unfold rSkips
  have hd2 : isDig (nth (l.map (·.toNat)) i) = true:=by rw [hn,dg_N]; exact hd
  rw [dEnd_step hd2,dEnd_b hr (i:=i + 1) (by omega)]
 ·rw [hn,isDig_zero] at hd; cases hd
theorem numeral_back (h : form (l.map (·.toNat)) = some l.length) : rNumeral (l ++ r) 0 = .ok () l.length:=by
 have e8 : ∀ (k : Nat),k < 256 → ∀ c : UInt8,((c == UInt8.ofNat k) = true ↔ c.toNat = k):=fun k hk c => by
  rw [beq_iff_eq]; exact u8_eq c k hk
 have L : ∀ {k : Nat},k ≤ (l.map (·.toNat)).length → k ≤ l.length:=fun {k} hk => by rw [List.length_map] at hk; exact hk
 have hs45:=fun {i} hi => skipF (l:=l) (i:=i) hr (f:=(· == 45)) (P:=fun n => n = 45) (e8 45 (by omega)) (by decide) (fun c hc => by rw [beq_iff_eq] at hc; subst hc; decide) hi
 have hs48:=fun {i} hi => skipF (l:=l) (i:=i) hr (f:=(· == 48)) (P:=fun n => n = 48) (e8 48 (by omega)) (by decide) (fun c hc => by rw [beq_iff_eq] at hc; subst hc; decide) hi
 have hs46:=fun {i} hi => skipF (l:=l) (i:=i) hr (f:=(· == 46)) (P:=fun n => n = 46) (e8 46 (by omega)) (by decide) (fun c hc => by rw [beq_iff_eq] at hc; subst hc; decide) hi
 have hsE:=fun {i} hi => skipF (l:=l) (i:=i) hr (f:=fun c => c == 101 || c == 69) (P:=fun n => n = 101 ∨ n = 69) (fun c => by rw [Bool.or_eq_true]; exact or_congr (e8 101 (by omega) c) (e8 69 (by omega) c)) (by decide) (fun c hc => by rw [Bool.or_eq_true,beq_iff_eq,beq_iff_eq] at hc; rcases hc with rfl | rfl <;> decide) hi
 have hsS:=fun {i} hi => skipF (l:=l) (i:=i) hr (f:=fun c => c == 43 || c == 45) (P:=fun n => n = 43 ∨ n = 45) (fun c => by rw [Bool.or_eq_true]; exact or_congr (e8 43 (by omega) c) (e8 45 (by omega) c)) (by decide) (fun c hc => by rw [Bool.or_eq_true,beq_iff_eq,beq_iff_eq] at hc; rcases hc with rfl | rfl <;> decide) hi
 obtain ⟨xs,hxs⟩ : ∃ xs,xs = l.map (·.toNat):=⟨_,rfl⟩
 have hlen : xs.length = l.length:=by rw [hxs,List.length_map]
 unfold form at h
 cases hw : fWhole (l.map (·.toNat)) (fSgn (l.map (·.toNat))) with
 | none => rw [hw] at h; cases h
 | some k3 =>
  rw [hw] at h
  have h' : (fFrac (l.map (·.toNat)) k3).bind (fPow (l.map (·.toNat))) = some l.length:=h
  cases hf : fFrac (l.map (·.toNat)) k3 with
  | none => rw [hf] at h'; cases h'
  | some k5 =>
   rw [hf] at h'
   have hp : fPow (l.map (·.toNat)) k5 = some l.length:=h'
   clear h h'
   have s1 : ∃ z,rSkip (· == 45) (l ++ r) 0 = .ok z (fSgn (l.map (·.toNat))) ∧ fSgn (l.map (·.toNat)) ≤ l.length:=by
    rw [hs45 (Nat.zero_le _)]
    unfold fSgn
    by_cases c : nth (l.map (·.toNat)) 0 = 45
    ·rw [if_pos c,if_pos c]
     exact ⟨_,rfl,L (nth_pos_lt c (by omega))⟩
    ·rw [if_neg c,if_neg c]; exact ⟨_,rfl,Nat.zero_le _⟩
   obtain ⟨z1,s1,b1⟩:=s1
   obtain ⟨k1,hk1⟩ : ∃ k1,k1 = fSgn (l.map (·.toNat)):=⟨_,rfl⟩
   rw [← hk1] at s1 b1 hw
   unfold fWhole at hw
   split at hw
   ·rename_i hd
    injection hw with hw
    have hlt : k1 < l.length:=by have:=dig_lt hd; rw [List.length_map] at this; exact this
    have s2 : ∃ z k2,rSkip (· == 48) (l ++ r) k1 = .ok z k2 ∧ (if z then rPure () else rDigits) (l ++ r) k2 = .ok () k3:=by
     rw [hs48 b1]
     by_cases c : nth (l.map (·.toNat)) k1 = 48
     ·rw [if_pos c]; rw [if_pos c] at hw
      refine ⟨true,k1 + 1,rfl,?_⟩
      rw [← hw]; rfl
     ·rw [if_neg c]; rw [if_neg c] at hw
      refine ⟨false,k1,rfl,?_⟩
      rw [if_neg (by decide),digits_b hr b1 hd,hw]
    obtain ⟨z2,k2,s2,s3⟩:=s2
    have b3 : k3 ≤ l.length:=by
     rw [← hw]
     split
     ·omega
     ·exact L (dEnd_le (by rw [List.length_map]; omega))
    have s4 : ∃ z k4,rSkip (· == 46) (l ++ r) k3 = .ok z k4 ∧ (if z then rDigits else rPure ()) (l ++ r) k4 = .ok () k5 ∧ k5 ≤ l.length:=by
     rw [hs46 b3]
     unfold fFrac at hf
     by_cases c : nth (l.map (·.toNat)) k3 = 46
     ·rw [if_pos c]; rw [if_pos c] at hf
      split at hf
      ·rename_i hd2
       injection hf with hf
       have hlt2:=dig_lt hd2
       rw [List.length_map] at hlt2
       refine ⟨true,k3 + 1,rfl,?_,?_⟩
       ·rw [if_pos rfl,digits_b hr (by omega) hd2,hf]
       ·rw [← hf]; exact L (dEnd_le (by rw [List.length_map]; omega))
      ·cases hf
     ·rw [if_neg c]; rw [if_neg c] at hf
      injection hf with hf
      exact ⟨false,k3,rfl,by rw [← hf]; rfl,by omega⟩
    obtain ⟨z4,k4,s4,s5,b5⟩:=s4
    have s6 : ∃ z k6,rSkip (fun c => c == 101 || c == 69) (l ++ r) k5 = .ok z k6 ∧ (if z then rAt (rSkip fun c => c == 43 || c == 45) fun _ => rDigits else rPure ()) (l ++ r) k6 = .ok () l.length:=by
     rw [hsE b5]
     unfold fPow at hp
     by_cases c : nth (l.map (·.toNat)) k5 = 101 ∨ nth (l.map (·.toNat)) k5 = 69
     ·rw [if_pos c]; rw [if_pos c] at hp
      split at hp
      ·rename_i hd2
       injection hp with hp
       have hlt2:=dig_lt hd2
       rw [List.length_map] at hlt2
       have b6 : k5 + 1 ≤ l.length:=by unfold fSg at hlt2; split at hlt2 <;> omega
       refine ⟨true,k5 + 1,rfl,?_⟩
       rw [if_pos rfl]
       unfold rAt
       rw [hsS b6]
       unfold fSg at hd2 hp hlt2
       by_cases c2 : nth (l.map (·.toNat)) (k5 + 1) = 43 ∨ nth (l.map (·.toNat)) (k5 + 1) = 45
       ·rw [if_pos c2]; rw [if_pos c2] at hd2 hp hlt2
        simp only [RR.bind]
        rw [digits_b hr (by omega) hd2,hp]
       ·rw [if_neg c2]; rw [if_neg c2] at hd2 hp hlt2
        simp only [RR.bind]
        rw [digits_b hr (by omega) hd2,hp]
      ·cases hp
     ·rw [if_neg c]; rw [if_neg c] at hp
      injection hp with hp
      exact ⟨false,k5,rfl,by rw [hp]; rfl⟩
    obtain ⟨z6,k6,s6,s7⟩:=s6
    unfold rNumeral
    unfold rAt
    rw [s1]; simp only [RR.bind]
    rw [s2]; simp only [RR.bind]
    rw [s3]; simp only [RR.bind]
    rw [s4]; simp only [RR.bind]
    rw [s5]; simp only [RR.bind]
    rw [s6]; simp only [RR.bind]
    exact s7
   ·cases hw
theorem number_back (h : fE (l.map (·.toNat)) = 0) : rNumber (l ++ r) 0 = .ok (numV (l.map (·.toNat))) l.length:=by
 have hform : form (l.map (·.toNat)) = some l.length:=by
  unfold fE at h
  split at h
  ·rename_i hg
   have:=hg.1
   rw [List.length_map] at this
   exact this
  ·split at h <;> omega
 have hc : cutN (l ++ r) 0 l.length = l.map (·.toNat):=by
  unfold cutN
  rw [List.drop_zero,Nat.sub_zero,List.take_append_of_le_length (Nat.le_refl _),List.take_length]
 have ha : rApart (l ++ r) l.length = .ok () l.length:=by
  unfold rApart
  rw [List.getElem?_append_right (Nat.le_refl _),Nat.sub_self]
  cases r with
  | nil => rfl
  | cons c t =>
   have:=hr c rfl
   simp only [List.getElem?_cons_zero]
   rw [this,if_neg (by decide)]
 unfold rNumber
 rw [numeral_back hr hform]
 simp only [RR.bind]
 rw [hc,if_pos h,ha]
end
end Go.Proofs.YtcanfiaooabocaaGreatDoor
namespace Go.Proofs.YtcanfiaooabocaaGreatDoor
open Go.Lib
theorem rAt_chain {α β : Type} {F : Rd1 α} {G : α → Rd1 β} {w w2 r : List UInt8} {a : α} {b : β} (hG : Shift (fun _ => G a)) (h1 : F (w ++ (w2 ++ r)) 0 = .ok a w.length) (h2 : G a (w2 ++ r) 0 = .ok b w2.length) :
  rAt F G ((w ++ w2) ++ r) 0 = .ok b (w ++ w2).length:=by
 unfold rAt
 rw [List.append_assoc,h1]
 simp only [RR.bind]
 have h3 : G a (w ++ (w2 ++ r)) (w.length + 0) = (G a (w2 ++ r) 0).shift w.length:=hG 0 w (w2 ++ r) 0
 rw [Nat.add_zero] at h3
 rw [h3,h2,List.length_append]; rfl
def Apart (r : List UInt8) : Prop:=∀ c,r[0]? = some c → isWd c = false
theorem skips_ws {w r : List UInt8} (hw : ∀ c ∈ w,isWs c = true) (hr : ∀ c,r[0]? = some c → isWs c = false) : rSkips isWs (w ++ r) 0 = .ok () w.length:=by
 unfold rSkips
 rw [List.drop_zero]
 have h : (w ++ r).takeWhile isWs = w:=by
  rw [List.takeWhile_append_of_pos hw]
  cases r with
  | nil => simp
  | cons c t =>
   rw [List.takeWhile_cons,hr c rfl]
   simp
 rw [h,Nat.zero_add]
theorem need_one {f : UInt8 → Bool} {c : UInt8} {r : List UInt8} (h : f c = true) : rNeed f ([c] ++ r) 0 = .ok () [c].length:=by
 unfold rNeed
 simp [h]
theorem forall_ws (x : UInt8) : isWs x = true → isWd x = false:=by
 intro h
 unfold isWs at h
 simp only [Bool.or_eq_true,beq_iff_eq] at h
 rcases h with ((h | h) | h) | h <;> subst h <;> decide
structure QcOk (qc : Int → List UInt8) : Prop where
 back : ∀ {c},isCh c → ∀ r,rChar (qc c ++ r) 0 = .ok c (qc c).length
 head : ∀ {c},isCh c → ∃ x t,qc c = x :: t ∧ x ≠ 34
def qL (qc : Int → List UInt8) (cs : List Int) : List UInt8:=cs.flatMap qc
theorem qL_cons (qc : Int → List UInt8) (c : Int) (cs : List Int) : qL qc (c :: cs) = qc c ++ qL qc cs:=rfl
theorem charsQ {qc : Int → List UInt8} (H : QcOk qc) : ∀ (cs : List Int) (n : Nat) (acc r : List UInt8),(∀ c ∈ cs,isCh c) → cs.length < n → rChars n acc (qL qc cs ++ 34 :: r) 0 = .ok (acc ++ enc cs) ((qL qc cs).length + 1)
 | [],n + 1,acc,r,_,_ => by
  unfold rChars rAt rPeek
  simp [qL,enc,RR.bind]
 | [],0,acc,r,_,hn => absurd hn (by simp)
 | c :: cs,0,acc,r,_,hn => absurd hn (by simp)
 | c :: cs,n + 1,acc,r,hc,hn => by
  have h1:=hc c (by simp)
  have ih:=charsQ H cs n (acc ++ encodeRune c) r (fun d hd => hc d (by simp [hd])) (by rw [List.length_cons] at hn; omega)
  obtain ⟨x,t,hx,hx34⟩:=H.head h1
  have hb:=H.back h1 (qL qc cs ++ 34 :: r)
  have hs : rChars n (acc ++ encodeRune c) (qc c ++ (qL qc cs ++ 34 :: r)) ((qc c).length + 0) = (rChars n (acc ++ encodeRune c) (qL qc cs ++ 34 :: r) 0).shift (qc c).length:=Shift.chars n (acc ++ encodeRune c) 0 (qc c) (qL qc cs ++ 34 :: r) 0
  rw [Nat.add_zero,ih] at hs
  rw [qL_cons,List.append_assoc]
  unfold rChars
  have hp : rPeek (qc c ++ (qL qc cs ++ 34 :: r)) 0 = .ok x 0:=by rw [hx]; rfl
  unfold rAt
  rw [hp]
  simp only [RR.bind]
  rw [if_neg (by simpa using hx34),hb]
  simp only [RR.bind]
  rw [hs]
  simp only [RR.shift]
  rw [enc_cons,← List.append_assoc,List.length_append,Nat.add_assoc]
theorem pcs_gd (l : List UInt8) : ∀ p ∈ pcs l,p.2 ≠ -1 → isCh p.2 ∧ p.1 = encodeRune p.2:=by
 refine text_ind (p:=fun l => ∀ p ∈ pcs l,p.2 ≠ -1 → isCh p.2 ∧ p.1 = encodeRune p.2) (fun p h => by cases h) (fun l hl ih => ?_) l
 intro p hp hn
 rw [pcs_cons hl,List.mem_cons] at hp
 rcases hp with rfl | hp
 ·rcases part_cases hl with ⟨h,_⟩ | ⟨_,h1,h2,_⟩
  ·exact absurd h hn
  ·exact ⟨h1,h2⟩
 ·exact ih p hp hn
theorem flat_same {α β : Type} (f g : α → List β) : ∀ l : List α,(∀ x ∈ l,f x = g x) → l.flatMap f = l.flatMap g
 | [],_ => rfl
 | x :: l,h => by rw [List.flatMap_cons,List.flatMap_cons,h x (by simp),flat_same f g l (fun y hy => h y (by simp [hy]))]
theorem charsT {l : List UInt8} (h : isT l = true) : enc ((pcs l).map (·.2)) = l ∧ ∀ c ∈ (pcs l).map (·.2),isCh c:=by
 rw [isT_iff] at h
 refine ⟨?_,fun c hc => ?_⟩
 ·conv => rhs; rw [← pcs_flat l]
  unfold enc
  rw [List.flatMap_map]
  refine flat_same _ _ _ fun p hp => ?_
  exact (pcs_gd l p hp (h p hp)).2.symm
 ·rw [List.mem_map] at hc
  obtain ⟨p,hp,rfl⟩:=hc
  exact (pcs_gd l p hp (h p hp)).1
def txtL (qc : Int → List UInt8) (s : ByteArray) : List UInt8:=34 :: (qL qc ((pcs s.data.toList).map (·.2)) ++ [34])
theorem textQ {qc : Int → List UInt8} (H : QcOk qc) {s : ByteArray} (hT : isT s.data.toList = true) (hs : s.size ≤ 16384) (r : List UInt8) : rText (txtL qc s ++ r) 0 = .ok s (txtL qc s).length:=by
 have hlen : ∀ l : List Int,l.length ≤ (enc l).length:=fun l => by
  induction l with
  | nil => simp
  | cons c l ih => rw [enc_cons,List.length_append,List.length_cons]; have:=enc_len c; omega
 have he:=(charsT hT).1
 have hel : (enc ((pcs s.data.toList).map (·.2))).length ≤ 16384:=by rw [he,Array.length_toList]; exact hs
 have h1:=charsQ H ((pcs s.data.toList).map (·.2)) fuelR [] r (charsT hT).2 (by unfold fuelR; have:=hlen ((pcs s.data.toList).map (·.2)); omega)
 have hsh : rChars fuelR [] ([34] ++ (qL qc ((pcs s.data.toList).map (·.2)) ++ 34 :: r)) (1 + 0) = (rChars fuelR [] (qL qc ((pcs s.data.toList).map (·.2)) ++ 34 :: r) 0).shift 1:=Shift.chars fuelR [] 0 [34] (qL qc ((pcs s.data.toList).map (·.2)) ++ 34 :: r) 0
 rw [h1] at hsh
 unfold rText
 rw [show txtL qc s ++ r = [34] ++ (qL qc ((pcs s.data.toList).map (·.2)) ++ 34 :: r) from by simp [txtL],show 0 + 1 = 1 + 0 from rfl,hsh]
 simp only [RR.shift,RR.bind,List.nil_append]
 rw [if_neg (by omega),he]
 congr 1
 simp [txtL]
 omega
theorem Qc_plain : QcOk quoteC:=⟨fun h r => char_back h r,fun h => quote_head h⟩
def lineL (st o : Nat) : List UInt8:=if st = 0 then [] else 10 :: List.replicate (st * o) 32
theorem lineL_ws (st o : Nat) : ∀ c ∈ lineL st o,isWs c = true:=fun c hc => by
 unfold lineL at hc
 split at hc
 ·exact absurd hc (by simp)
 ·rcases List.mem_cons.1 hc with rfl | hc
  ·decide
  ·rw [(List.mem_replicate.1 hc).2]; decide
def itT {α : Type} (st o : Nat) (en : UInt8) : Bool → List (α × List UInt8) → List UInt8
 | _,[] => [en]
 | first,x :: r => (if first then [] else 44 :: lineL st (o + 1)) ++ (x.2 ++ ((if r.isEmpty then lineL st o else []) ++ itT st o en false r))
theorem items_back {α : Type} {en : UInt8} {item : Nat → Rd1 α} (hsh : ∀ nth,Shift (fun _ => item nth)) (st o : Nat) (he1 : isWs en = false) (he2 : en ≠ 44) (he3 : isWd en = false) :
  ∀ (l : List (α × List UInt8)) (n nth : Nat) (r : List UInt8),l.length < n → 1 ≤ nth → (∀ i x,l[i]? = some x → ∀ r',Apart r' → item (nth + i) (x.2 ++ r') 0 = .ok x.1 x.2.length) →
   (∀ x ∈ l,∃ c t,x.2 = c :: t ∧ isWs c = false ∧ c ≠ en) → rItemsF en item n nth (itT st o en (decide (nth = 1)) l ++ r) 0 = .ok (l.map (·.1)) (itT st o en (decide (nth = 1)) l).length
 | [],n + 1,nth,r,_,_,_,_ => by
  unfold rItemsF rAt rPeek
  simp [itT,RR.bind]
 | [],0,nth,r,hn,_,_,_ => absurd hn (by simp)
 | x :: l,0,nth,r,hn,_,_,_ => absurd hn (by simp)
 | x :: l,n + 1,nth,r,hn,h1,hi,hh => by
  obtain ⟨c,t,hx2,hcw,hce⟩:=hh x (by simp)
  have ih:=items_back hsh st o he1 he2 he3 l n (nth + 1) r (by rw [List.length_cons] at hn; omega) (by omega) (fun i y hy r' hr' => by
   have:=hi (i + 1) y (by simpa using hy) r' hr'
   rwa [show nth + (i + 1) = nth + 1 + i by omega] at this) (fun y hy => hh y (by simp [hy]))
  rw [show decide (nth + 1 = 1) = false from decide_eq_false (by omega)] at ih
  obtain ⟨gap,hgap⟩ : ∃ g,(if l.isEmpty then lineL st o else []) = g:=⟨_,rfl⟩
  obtain ⟨more,hmore⟩ : ∃ g,itT st o en false l = g:=⟨_,rfl⟩
  have hgw : ∀ d ∈ gap,isWs d = true:=fun d hd => by
   rw [← hgap] at hd
   split at hd
   ·exact lineL_ws _ _ d hd
   ·exact absurd hd (by simp)
  have hmh : ∃ d t',more = d :: t' ∧ isWs d = false ∧ isWd d = false:=by
   rw [← hmore]
   cases l with
   | nil => exact ⟨en,[],rfl,he1,he3⟩
   | cons y l => exact ⟨44,_,rfl,by decide,by decide⟩
  obtain ⟨d,t',hd,hd1,hd2⟩:=hmh
  have hap : Apart (gap ++ (more ++ r)):=fun e he => by
   cases hg : gap with
   | nil =>
    rw [hg,hd] at he
    have he : d = e:=by simpa using he
    rw [← he]; exact hd2
   | cons g gs =>
    rw [hg] at he
    have he : g = e:=by simpa using he
    rw [← he]
    exact forall_ws g (hgw g (by rw [hg]; simp))
  have hit:=hi 0 x rfl (gap ++ (more ++ r)) hap
  rw [Nat.add_zero] at hit
  rw [hmore] at ih
  have hrest : rAt (item nth) (fun a => rAt (rSkips isWs) fun _ => rAt (rItemsF en item n (nth + 1)) fun l => rPure (a :: l)) ((x.2 ++ (gap ++ (more ++ []))) ++ r) 0 = .ok (x.1 :: l.map (·.1)) (x.2 ++ (gap ++ (more ++ []))).length:=by
   refine rAt_chain (a:=x.1) (Shift.at (G:=fun _ _ => _) (Shift.skips _) fun _ => Shift.at (G:=fun _ l => rPure (x.1 :: l)) (Shift.itemsF hsh n (nth + 1)) fun l => Shift.pure _) ?_ ?_
   ·simpa using hit
   ·refine rAt_chain (a:=()) (Shift.at (G:=fun _ l => rPure (x.1 :: l)) (Shift.itemsF hsh n (nth + 1)) fun l => Shift.pure _) ?_ ?_
    ·exact skips_ws hgw (fun e he => (show d = e by rw [hd] at he; simpa using he) ▸ hd1)
    ·exact rAt_chain (a:=l.map (·.1)) (Shift.pure _) (by simpa using ih) rfl
  rw [List.append_nil] at hrest
  have hsh2 : Shift (fun _ => rAt (item nth) (fun a => rAt (rSkips isWs) fun _ => rAt (rItemsF en item n (nth + 1)) fun l => rPure (a :: l))) :=
   Shift.at (G:=fun _ a => rAt (rSkips isWs) fun _ => rAt (rItemsF en item n (nth + 1)) fun l => rPure (a :: l)) (hsh nth) fun a => Shift.at (G:=fun _ _ => _) (Shift.skips _) fun _ => Shift.at (G:=fun _ l => rPure (a :: l)) (Shift.itemsF hsh n (nth + 1)) fun l => Shift.pure _
  unfold itT
  rw [hgap,hmore]
  unfold rItemsF
  by_cases h1n : nth = 1
  ·subst h1n
   rw [show decide ((1 : Nat) = 1) = true from rfl]
   simp only [if_true,List.nil_append]
   have hp : rPeek (x.2 ++ (gap ++ more) ++ r) 0 = .ok c 0:=by rw [hx2]; rfl
   show (rPeek _ 0).bind _ = _
   rw [hp]
   simp only [RR.bind]
   rw [if_neg (by simpa using hce),if_neg (by omega)]
   exact rAt_chain (w:=[]) (F:=rPure ()) (G:=fun _ => rAt (item 1) (fun a => rAt (rSkips isWs) fun _ => rAt (rItemsF en item n (1 + 1)) fun l => rPure (a :: l))) (a:=()) hsh2 rfl hrest
  ·rw [show decide (nth = 1) = false from decide_eq_false h1n]
   simp only [Bool.false_eq_true,if_false]
   have hp : rPeek (44 :: lineL st (o + 1) ++ (x.2 ++ (gap ++ more)) ++ r) 0 = .ok 44 0:=rfl
   show (rPeek _ 0).bind _ = _
   rw [hp]
   simp only [RR.bind]
   rw [if_neg (by simpa using fun h => he2 h.symm),if_pos (by omega)]
   refine rAt_chain (w:=44 :: lineL st (o + 1)) (w2:=x.2 ++ (gap ++ more)) (G:=fun _ => rAt (item nth) (fun a => rAt (rSkips isWs) fun _ => rAt (rItemsF en item n (nth + 1)) fun l => rPure (a :: l))) (a:=()) hsh2 ?_ hrest
   exact rAt_chain (w:=[44]) (w2:=lineL st (o + 1)) (a:=()) (Shift.skips _) (need_one (by decide)) (skips_ws (lineL_ws _ _) (fun e he => (show c = e by rw [hx2] at he; simpa using he) ▸ hcw))
end Go.Proofs.YtcanfiaooabocaaGreatDoor
namespace Go.Proofs.YtcanfiaooabocaaGreatDoor
open Go.Lib
mutual
def prV (qc : Int → List UInt8) (nt : Bool → List Nat → Int → List UInt8) (st : Nat) (o : Nat) : VT → List UInt8
 | .mk k n xs e t l ks =>
  if k = 1 then [102,97,108,115,101] else if k = 2 then [116,114,117,101] else if k = 3 then nt n xs e else if k = 4 then txtL qc t
  else if k = 5 then 91 :: ((if l.isEmpty then [] else lineL st (o + 1)) ++ itT st o 93 true (prI qc nt st o l))
  else if k = 6 then 123 :: ((if l.isEmpty then [] else lineL st (o + 1)) ++ itT st o 125 true (prK qc nt st o l ks))
  else [110,117,108,108]
def prI (qc : Int → List UInt8) (nt : Bool → List Nat → Int → List UInt8) (st : Nat) (o : Nat) : List VT → List (VT × List UInt8)
 | [] => []
 | v :: r => (v,prV qc nt st (o + 1) v) :: prI qc nt st o r
def prK (qc : Int → List UInt8) (nt : Bool → List Nat → Int → List UInt8) (st : Nat) (o : Nat) : List VT → List ByteArray → List ((ByteArray × VT) × List UInt8)
 | [],_ => []
 | v :: r,ks => ((ks.headD ⟨#[]⟩,v),txtL qc (ks.headD ⟨#[]⟩) ++ ([58] ++ ((if st = 0 then [] else [32]) ++ prV qc nt st (o + 1) v))) :: prK qc nt st o r ks.tail
end
def NtOk (nt : Bool → List Nat → Int → List UInt8) : Prop:=∀ {n xs e},L32 xs → okB n xs e = true → fE ((nt n xs e).map (·.toNat)) = 0 ∧ fN ((nt n xs e).map (·.toNat)) = n ∧ fX ((nt n xs e).map (·.toNat)) = e ∧ fZ ((nt n xs e).map (·.toNat)) = xs ∧
 ∃ c t,nt n xs e = c :: t ∧ (c = 45 ∨ isDg c = true)
def Gp (x : VT) : Prop:=∀ y ∈ partsV x,alone y = 0 ∧ L32 y.num
theorem Gp.sub {x z : VT} (h : Gp x) (hz : z ∈ x.inner) : Gp z:=fun y hy => h y (by rw [parts_eq]; exact List.mem_cons_of_mem _ (List.mem_flatMap.2 ⟨z,hz,hy⟩))
theorem Gp.own {x : VT} (h : Gp x) : alone x = 0 ∧ L32 x.num:=h x (by rw [parts_eq]; exact List.mem_cons_self)
theorem parts_sub {x z : VT} (hz : z ∈ x.inner) : (partsV z).length ≤ (partsV x).length:=by
 rw [parts_eq x,List.length_cons]
 have h : ∀ l : List VT,z ∈ l → (partsV z).length ≤ (l.flatMap partsV).length:=fun l => by
  induction l with
  | nil => intro h; exact absurd h (by simp)
  | cons a r ih =>
   intro h
   rw [List.flatMap_cons,List.length_append]
   rcases List.mem_cons.1 h with rfl | h
   ·omega
   ·have:=ih h; omega
 have:=h _ hz
 omega
theorem seen_le (x : VT) : (seen x).length ≤ (partsV x).length:=by
 unfold seen partsV
 rw [List.length_map,List.length_take]
 exact Nat.min_le_right _ _
theorem text_empty {t : ByteArray} (h : t.size = 0) : t = ⟨#[]⟩:=by
 obtain ⟨a⟩:=t
 have : a.size = 0:=h
 rw [Array.eq_empty_of_size_eq_zero this]
theorem rAt_ok {α β : Type} {F : Rd1 α} {G : α → Rd1 β} {b : List UInt8} {p q : Nat} {a : α} (h : F b p = .ok a q) : rAt F G b p = G a b q:=by
 unfold rAt; rw [h]; rfl
def lowR (c : UInt8) : Rd1 VT :=
 if c == 34 then rAt rText fun t => rPure (.mk 4 false [] 0 t [] [])
 else if c == 110 then rAt (rWord [110,117,108,108]) fun _ => rPure (numT0 0)
 else if c == 102 then rAt (rWord [102,97,108,115,101]) fun _ => rPure (numT0 1)
 else if c == 116 then rAt (rWord [116,114,117,101]) fun _ => rPure (numT0 2)
 else rNumber
theorem rv_low {k nth : Nat} {c : UInt8} {t : List UInt8} (hn : nth ≤ 4096) (h1 : (c == 91) = false) (h2 : (c == 123) = false) (h3 : (isDg c || (c == 34 || c == 45 || c == 110 || c == 102 || c == 116)) = true) :
  rValue mkObj k nth (c :: t) 0 = lowR c (c :: t) 0:=by
 have hb : rBegin k nth (c :: t) 0 = .ok () 0:=by
  unfold rBegin rAt rPeek
  simp only [List.getElem?_cons_zero,RR.bind,h1,h2,Bool.or_self,Bool.not_false,Bool.true_and,Bool.false_and]
  have h4 : (!isDg c && !(c == 34 || c == 45 || c == 110 || c == 102 || c == 116)) = false:=by
   revert h3
   generalize isDg c = a1
   generalize (c == 34) = a2
   generalize (c == 45) = a3
   generalize (c == 110) = a4
   generalize (c == 102) = a5
   generalize (c == 116) = a6
   cases a1 <;> cases a2 <;> cases a3 <;> cases a4 <;> cases a5 <;> cases a6 <;> simp
  rw [h4,if_neg (by decide),if_neg (by decide),if_neg (by omega)]
  rfl
 have hp : rPeek (c :: t) 0 = .ok c 0:=rfl
 cases k with
 | zero =>
  unfold rValue
  rw [rAt_ok hb,rAt_ok hp]
  rfl
 | succ k =>
  unfold rValue
  rw [rAt_ok hb,rAt_ok hp]
  simp only [h1,h2]
  rfl
theorem begin_br {k nth : Nat} {c : UInt8} {t : List UInt8} (hn : nth ≤ 4096) (h1 : (c == 91 || c == 123) = true) : rBegin (k + 1) nth (c :: t) 0 = .ok () 0:=by
 unfold rBegin rAt rPeek
 simp only [List.getElem?_cons_zero,RR.bind,h1,Bool.not_true,Bool.false_and,Bool.true_and]
 rw [if_neg (by decide),if_neg (by simp),if_neg (by omega)]
 rfl
theorem word_back {w : List UInt8} {r : List UInt8} (hr : Apart r) : rWord w (w ++ r) 0 = .ok () w.length:=by
 induction w with
 | nil =>
  unfold rWord rApart
  rw [List.nil_append]
  cases r with
  | nil => rfl
  | cons c t => simp only [List.getElem?_cons_zero]; rw [hr c rfl]; rfl
 | cons c w ih =>
  unfold rWord
  exact rAt_chain (w:=[c]) (w2:=w) (G:=fun _ => rWord w) (a:=()) (Shift.word w) (need_one (by simp)) ih
theorem prI_get {qc : Int → List UInt8} {nt : Bool → List Nat → Int → List UInt8} {st o : Nat} : ∀ (l : List VT) (i : Nat) (x : VT × List UInt8),(prI qc nt st o l)[i]? = some x → l[i]? = some x.1 ∧ x.2 = prV qc nt st (o + 1) x.1
 | [],i,x,h => by simp [prI] at h
 | v :: r,0,x,h => by
  unfold prI at h
  injection h with h
  subst h
  exact ⟨rfl,rfl⟩
 | v :: r,i + 1,x,h => by
  unfold prI at h
  exact prI_get r i x (by simpa using h)
theorem prI_map {qc : Int → List UInt8} {nt : Bool → List Nat → Int → List UInt8} {st o : Nat} : ∀ l : List VT,(prI qc nt st o l).map (·.1) = l ∧ (prI qc nt st o l).length = l.length
 | [] => by unfold prI; exact ⟨rfl,rfl⟩
 | v :: r => by
  have ih:=prI_map (qc:=qc) (nt:=nt) (st:=st) (o:=o) r
  unfold prI
  exact ⟨by rw [List.map_cons,ih.1],by rw [List.length_cons,List.length_cons,ih.2]⟩
theorem prK_get {qc : Int → List UInt8} {nt : Bool → List Nat → Int → List UInt8} {st o : Nat} : ∀ (l : List VT) (ks : List ByteArray) (i : Nat) (x : (ByteArray × VT) × List UInt8),ks.length = l.length → (prK qc nt st o l ks)[i]? = some x →
  l[i]? = some x.1.2 ∧ ks[i]? = some x.1.1 ∧ x.2 = txtL qc x.1.1 ++ ([58] ++ ((if st = 0 then [] else [32]) ++ prV qc nt st (o + 1) x.1.2))
 | [],ks,i,x,_,h => by simp [prK] at h
 | v :: r,[],i,x,hk,h => by simp at hk
 | v :: r,s :: ks,0,x,hk,h => by
  unfold prK at h
  injection h with h
  subst h
  exact ⟨rfl,rfl,rfl⟩
 | v :: r,s :: ks,i + 1,x,hk,h => by
  unfold prK at h
  have:=prK_get r ks i x (by simpa using hk) (by simpa using h)
  simpa using this
theorem prK_map {qc : Int → List UInt8} {nt : Bool → List Nat → Int → List UInt8} {st o : Nat} : ∀ (l : List VT) (ks : List ByteArray),ks.length = l.length → (prK qc nt st o l ks).map (·.1) = ks.zip l ∧ (prK qc nt st o l ks).length = l.length
 | [],[],_ => by unfold prK; exact ⟨rfl,rfl⟩
 | [],s :: ks,hk => by simp at hk
 | v :: r,[],hk => by simp at hk
 | v :: r,s :: ks,hk => by
  have ih:=prK_map (qc:=qc) (nt:=nt) (st:=st) (o:=o) r ks (by simpa using hk)
  unfold prK
  exact ⟨by rw [List.map_cons,show (s :: ks).tail = ks from rfl,ih.1]; rfl,by rw [List.length_cons,List.length_cons,show (s :: ks).tail = ks from rfl,ih.2]⟩
end Go.Proofs.YtcanfiaooabocaaGreatDoor
