import Derived.Test.YtkigpbkkhgabeaaGreatDoorYDbm
import Derived.Lib.LaidTab
import Derived.Lib.LaidU8
import Derived.Lib.ItoaLen
import Derived.Sort.Grow
import Derived.Test.YtkigpbkkhgabeaaGreatDoorRows
import Derived.MakeChecks
set_option linter.unusedVariables false
set_option linter.unusedSimpArgs false
namespace Go.Proofs.YtkigpbkkhgabeaaGreatDoor
open Go.RowKit
theorem decD : ∀ (u : Nat),allDig ((Lib.decDigits u).map (·.toNat)) = true ∧ pnum ((Lib.decDigits u).map (·.toNat)) = u ∧ (Lib.decDigits u).map (·.toNat) ≠ []:=by
 intro u
 induction u using Nat.strongRecOn with
 | _ u ih =>
  rw [Lib.decDigits]
  by_cases h : u < 10
  ·rw [dif_pos h]
   have e : (UInt8.ofNat (48 + u)).toNat = 48 + u:=by rw [UInt8.toNat_ofNat']; omega
   rw [List.map_cons,List.map_nil,e]
   refine ⟨?_,?_,by simp⟩
   ·simp [allDig,isDig]; omega
   ·show 0 * 10 + (48 + u - 48) = u
    omega
  ·rw [dif_neg h]
   obtain ⟨h1,h2,h3⟩:=ih (u / 10) (by omega)
   have e : (UInt8.ofNat (48 + u % 10)).toNat = 48 + u % 10:=by rw [UInt8.toNat_ofNat']; omega
   rw [List.map_append,List.map_cons,List.map_nil,e]
   refine ⟨?_,?_,by simp⟩
   ·rw [allDig_snoc,h1]; simp [isDig]; omega
   ·rw [pnum_snoc,h2]; omega
theorem itoD (k : Nat) : allDig (itoO (k : Int)) = true ∧ pnum (itoO (k : Int)) = k ∧ itoO (k : Int) ≠ []:=by
 have e : itoO (k : Int) = (Lib.decDigits k).map (·.toNat):=by
  unfold itoO Lib.itoa
  rw [if_neg (by omega)]
  simp
 rw [e]
 exact decD k
theorem numO_dig (v : Nat) : allDig (numO v) = true ∧ pnum (numO v) = v ∧ ((v = 0 ∧ numO v = [48]) ∨ ∃ c r,numO v = c :: r ∧ c ≠ 48):=by
 unfold numO
 by_cases h0 : v = 0
 ·rw [if_pos h0,h0]
  exact ⟨by decide,by decide,.inl ⟨rfl,rfl⟩⟩
 ·rw [if_neg h0]
  obtain ⟨h1,h2⟩:=dgOf_ok v v (Nat.le_refl _)
  have hne:=dOf_ne (v:=v) (by omega)
  have hD : DCan (dOf v):=h1
  have hV : dval (dOf v) = v:=h2
  unfold chars
  have hA:=allDig_chars hD.1
  refine ⟨hA,?_,.inr ?_⟩
  ·rw [← dval_pnum]
   rw [List.map_reverse,List.reverse_reverse,List.map_map]
   rw [show ((fun x => x - 48) ∘ fun x => x + 48) = (id : Nat → Nat) by funext x; simp]
   rw [List.map_id,hV]
  ·obtain ⟨d,hd⟩ : ∃ d,(dOf v).getLast? = some d:=⟨_,List.getLast?_eq_some_getLast hne⟩
   have hlast : nth (dOf v) ((dOf v).length - 1) = d:=by
    unfold nth
    rw [List.getD_eq_getElem?_getD,← List.getLast?_eq_getElem?,hd]; rfl
   have hd0 : d ≠ 0:=by
    have:=hD.2.resolve_left hne
    rw [hlast] at this
    exact this
   obtain ⟨r,hr⟩ : ∃ r,dOf v = r ++ [d]:=List.getLast?_eq_some_iff.1 hd
   rw [hr,List.map_append,List.reverse_append]
   exact ⟨d + 48,_,rfl,by omega⟩
theorem pnum_rep : ∀ k : Nat,pnum (List.replicate k 48) = 0
 | 0 => rfl
 | k + 1 => by rw [List.replicate_succ,pnum_cons,pnum_rep k]; omega
theorem allDig_rep (k : Nat) : allDig (List.replicate k 48) = true:=by
 unfold allDig
 rw [List.all_eq_true]
 intro x hx
 rw [List.mem_replicate] at hx
 rw [hx.2]; decide
theorem allDig_app {a b : List Nat} (ha : allDig a = true) (hb : allDig b = true) : allDig (a ++ b) = true:=by
 unfold allDig at ha hb ⊢
 rw [List.all_append,ha,hb]; rfl
theorem Pcs.told {sg wh fp pp f : List Nat} (h : Pcs sg wh fp pp) (hf : fp = [] ∧ f = [] ∨ fp = 46 :: f) {X : List Nat} (hX : X = sg ++ (wh ++ (fp ++ pp))) :
  tNeg X = decide (sg = [45]) ∧ tVal X = pnum (wh ++ f) ∧ (tMan X).2.2 = f.length ∧ (pp = [] → tPow X = (false,0)) ∧ (∀ e s p,pp = e :: (s ++ p) → (e = 101 ∨ e = 69) → (s = [] ∨ s = [43] ∨ s = [45]) → allDig p = true → tPow X = (s == [45],pnum p)):=by
 have hP:=h.parts
 have hM:=mant_octs hP
 obtain ⟨f2,hfa,hf2,hm1,hm2⟩:=mfold_parts hP
 have hff : f2 = f:=by
  rcases hf with ⟨e1,e2⟩ | e1
  ·rcases hf2 with ⟨_,e3⟩ | e3
   ·rw [e2,e3]
   ·rw [e1] at e3; cases e3
  ·rcases hf2 with ⟨e3,_⟩ | e3
   ·rw [e1] at e3; cases e3
   ·rw [e1] at e3; injection e3 with _ e3; exact e3.symm
 subst hff
 have hX2 : X = (sg ++ (wh ++ fp)) ++ pp:=by rw [hX]; simp
 have hcut : cutE X = sg ++ (wh ++ fp):=by
  rw [hX2]
  rcases h.pp with e | ⟨e,s,p,e1,he,_⟩
  ·rw [e,List.append_nil]; exact cutE_plain hM
  ·rw [e1]; exact cutE_at hM he _
 have htM : tMan X = mfold (sg ++ (wh ++ fp)):=by unfold tMan; rw [hcut]
 have htP : tPow X = pfold (X.drop ((sg ++ (wh ++ fp)).length + 1)):=by unfold tPow; rw [hcut]
 refine ⟨?_,?_,by rw [htM,hm2],?_,?_⟩
 ·unfold tNeg
  rcases h.sg with e | e
  ·rw [e,show decide (([] : List Nat) = [45]) = false from by decide,hX,e,beq_eq_false_iff_ne]
   obtain ⟨d,r,hw,hd⟩ : ∃ d r,wh = d :: r ∧ d ≠ 45:=by
    rcases h.wh with e2 | ⟨c,r,e2,h1,_⟩
    ·exact ⟨48,[],e2,by decide⟩
    ·refine ⟨c,r,e2,?_⟩
     rw [e2] at h1
     simp [allDig] at h1
     intro e3
     rw [e3] at h1
     exact absurd h1.1 (by decide)
   rw [hw]
   exact hd
  ·rw [hX,e]; rfl
 ·unfold tVal
  rw [htM,hm1]
  exact dval_pnum _
 ·intro e
  rw [htP,hX2,e,List.append_nil,List.drop_of_length_le (by omega)]; rfl
 ·intro e s p e1 he hs hpa
  rw [htP,hX2,e1,List.drop_append,List.drop_of_length_le (by omega),List.nil_append,show (sg ++ (wh ++ fp)).length + 1 - (sg ++ (wh ++ fp)).length = 1 by omega]
  show pfold (s ++ p) = _
  exact pfold_parts hs hpa
end Go.Proofs.YtkigpbkkhgabeaaGreatDoor
namespace Go.Proofs.YtkigpbkkhgabeaaGreatDoor
open Go.RowKit
def Tells (T : List Nat) (v : Nat) (e : Int) : Prop:=∃ (wh fp pp f : List Nat) (a : Nat) (E : Int),T = wh ++ (fp ++ pp) ∧ (∀ sg,(sg = [] ∨ sg = [45]) → Pcs sg wh fp pp) ∧ (fp = [] ∧ f = [] ∨ fp = 46 :: f) ∧ pnum (wh ++ f) = v * 10 ^ a ∧ a ≤ 1000 ∧
 ((pp = [] ∧ E = 0) ∨ ∃ x s p,pp = x :: (s ++ p) ∧ (x = 101 ∨ x = 69) ∧ (s = [] ∨ s = [43] ∨ s = [45]) ∧ allDig p = true ∧ pnum p < 1000000 ∧ E = if s = [45] then -(pnum p : Int) else (pnum p : Int)) ∧ E - (f.length : Int) = e - (a : Int)
theorem numO_le2 (v : Nat) : 0 < (numO v).length:=by
 rcases (numO_dig v).2.2 with ⟨_,h⟩ | ⟨c,r,h,_⟩ <;> (rw [h]; simp)
theorem head_take {ds : List Nat} {k : Nat} (hk : 0 < k) (h : ∃ c r,ds = c :: r ∧ c ≠ 48) : ∃ c r,ds.take k = c :: r ∧ c ≠ 48:=by
 obtain ⟨c,r,e,hc⟩:=h
 obtain ⟨k',rfl⟩ : ∃ k',k = k' + 1:=⟨k - 1,by omega⟩
 exact ⟨c,r.take k',by rw [e,List.take_succ_cons],hc⟩
theorem plain_tells {v : Nat} {p e : Int} (hp : p = ((numO v).length : Int) + e) (h1 : -5 ≤ p) (h2 : p ≤ 21) (hv : v = 0 → e = 0) (hl : (numO v).length ≤ 300) : Tells (plainT (numO v) p) v e:=by
 obtain ⟨hA,hV,hH⟩:=numO_dig v
 have hpos : 0 < (numO v).length:=(numO_le2 v)
 unfold plainT
 by_cases c1 : p < 1
 ·rw [if_pos c1]
  have hfd : allDig (List.replicate (-p).toNat 48 ++ numO v) = true:=allDig_app (allDig_rep _) hA
  have hfn : List.replicate (-p).toNat 48 ++ numO v ≠ []:=by
   intro h0
   have:=congrArg List.length h0
   rw [List.length_append,List.length_nil] at this
   omega
  refine ⟨[48],46 :: (List.replicate (-p).toNat 48 ++ numO v),[],List.replicate (-p).toNat 48 ++ numO v,0,0,by simp,fun sg hs => ⟨hs,.inl rfl,.inr ⟨_,rfl,hfd,hfn⟩,.inl rfl⟩,.inr rfl,?_,by omega,.inl ⟨rfl,rfl⟩,?_⟩
  ·rw [show ([48] ++ (List.replicate (-p).toNat 48 ++ numO v) : List Nat) = 48 :: (List.replicate (-p).toNat 48 ++ numO v) from rfl,pnum_cons,pnum_append,pnum_rep,hV]; omega
  ·rw [List.length_append,List.length_replicate]; omega
 ·rw [if_neg c1]
  by_cases c2 : p < ((numO v).length : Int)
  ·rw [if_pos c2]
   have hne : ∃ c r,numO v = c :: r ∧ c ≠ 48:=by
    rcases hH with ⟨h0,h3⟩ | h3
    ·exfalso
     have:=hv h0
     rw [h3] at c2 hp
     simp at c2 hp
     omega
    ·exact h3
   obtain ⟨c,r,e1,hc⟩:=head_take (k:=p.toNat) (by omega) hne
   have hwd : allDig ((numO v).take p.toNat) = true:=allDig_take hA _
   have hfd : allDig ((numO v).drop p.toNat) = true:=allDig_drop hA _
   have hfn : (numO v).drop p.toNat ≠ []:=by
    intro h0
    have:=congrArg List.length h0
    rw [List.length_drop,List.length_nil] at this
    omega
   refine ⟨(numO v).take p.toNat,46 :: (numO v).drop p.toNat,[],(numO v).drop p.toNat,0,0,by simp,fun sg hs => ⟨hs,.inr ⟨c,r,e1,hwd,hc⟩,.inr ⟨_,rfl,hfd,hfn⟩,.inl rfl⟩,.inr rfl,?_,by omega,.inl ⟨rfl,rfl⟩,?_⟩
   ·rw [List.take_append_drop,hV]; omega
   ·rw [List.length_drop]; omega
  ·rw [if_neg c2]
   have hwd : allDig (numO v ++ List.replicate (p - ((numO v).length : Int)).toNat 48) = true:=allDig_app hA (allDig_rep _)
   refine ⟨numO v ++ List.replicate (p - ((numO v).length : Int)).toNat 48,[],[],[],(p - ((numO v).length : Int)).toNat,0,by simp,fun sg hs => ⟨hs,?_,.inl rfl,.inl rfl⟩,.inl ⟨rfl,rfl⟩,?_,by omega,.inl ⟨rfl,rfl⟩,?_⟩
   ·rcases hH with ⟨h0,h3⟩ | ⟨c,r,h3,hc⟩
    ·left
     have:=hv h0
     rw [h3] at hp ⊢
     simp at hp
     rw [show (p - (([48] : List Nat).length : Int)).toNat = 0 by simp; omega]; rfl
    ·exact .inr ⟨c,r ++ List.replicate (p - ((numO v).length : Int)).toNat 48,by rw [← List.cons_append,← h3],hwd,hc⟩
   ·rw [List.append_nil,pnum_append,pnum_rep,hV,List.length_replicate]; omega
   ·simp; omega
theorem pow_tells {v : Nat} {p e : Int} (hp : p = ((numO v).length : Int) + e) (h1 : p < -5 ∨ 21 < p) (hb : -5000 ≤ p ∧ p ≤ 5000) (hv : v = 0 → e = 0) (hl : (numO v).length ≤ 300) : Tells (powT (numO v) p) v e:=by
 obtain ⟨hA,hV,hH⟩:=numO_dig v
 have hpos : 0 < (numO v).length:=(numO_le2 v)
 have hne : ∃ c r,numO v = c :: r ∧ c ≠ 48:=by
  rcases hH with ⟨h0,h3⟩ | h3
  ·exfalso
   have:=hv h0
   rw [h3] at hp
   simp at hp
   omega
  ·exact h3
 obtain ⟨c,r,e1,hc⟩:=head_take (k:=1) (by omega) hne
 have hwd : allDig ((numO v).take 1) = true:=allDig_take hA _
 have hfd : allDig ((numO v).drop 1) = true:=allDig_drop hA _
 unfold powT
 obtain ⟨fp,hfp⟩ : ∃ fp,fp = (if 1 < (numO v).length then 46 :: (numO v).drop 1 else []):=⟨_,rfl⟩
 rw [← hfp]
 have hf : (fp = [] ∧ (numO v).drop 1 = []) ∨ (fp = 46 :: (numO v).drop 1 ∧ (numO v).drop 1 ≠ []):=by
  by_cases h : 1 < (numO v).length
  ·rw [if_pos h] at hfp
   refine .inr ⟨hfp,?_⟩
   intro h0
   have:=congrArg List.length h0
   rw [List.length_drop,List.length_nil] at this
   omega
  ·rw [if_neg h] at hfp
   exact .inl ⟨hfp,List.drop_of_length_le (by omega)⟩
 have hfp2 : fp = [] ∨ ∃ f,fp = 46 :: f ∧ allDig f = true ∧ f ≠ []:=by
  rcases hf with h | ⟨h,h3⟩
  ·exact .inl h.1
  ·exact .inr ⟨_,h,hfd,h3⟩
 have hfr : fp = [] ∧ (numO v).drop 1 = [] ∨ fp = 46 :: (numO v).drop 1:=by
  rcases hf with h | h
  ·exact .inl h
  ·exact .inr h.1
 by_cases c1 : p < 1
 ·rw [if_pos c1]
  obtain ⟨k,hk⟩ : ∃ k : Nat,1 - p = (k : Int):=⟨(1 - p).toNat,by omega⟩
  rw [hk]
  obtain ⟨i1,i2,i3⟩:=itoD k
  refine ⟨(numO v).take 1,fp,101 :: ([45] ++ itoO (k : Int)),(numO v).drop 1,0,-(k : Int),by simp,fun sg hs => ⟨hs,.inr ⟨c,r,e1,hwd,hc⟩,hfp2,.inr ⟨101,[45],_,rfl,.inl rfl,.inr (.inr rfl),i1,i3⟩⟩,hfr,?_,by omega,.inr ⟨101,[45],_,rfl,.inl rfl,.inr (.inr rfl),i1,by rw [i2]; omega,by rw [i2,if_pos rfl]⟩,?_⟩
  ·rw [List.take_append_drop,hV]; omega
  ·rw [List.length_drop]; omega
 ·rw [if_neg c1]
  obtain ⟨k,hk⟩ : ∃ k : Nat,p - 1 = (k : Int):=⟨(p - 1).toNat,by omega⟩
  rw [hk]
  obtain ⟨i1,i2,i3⟩:=itoD k
  refine ⟨(numO v).take 1,fp,101 :: ([43] ++ itoO (k : Int)),(numO v).drop 1,0,(k : Int),by simp,fun sg hs => ⟨hs,.inr ⟨c,r,e1,hwd,hc⟩,hfp2,.inr ⟨101,[43],_,rfl,.inl rfl,.inr (.inl rfl),i1,i3⟩⟩,hfr,?_,by omega,.inr ⟨101,[43],_,rfl,.inl rfl,.inr (.inl rfl),i1,by rw [i2]; omega,by rw [i2,if_neg (by decide)]⟩,?_⟩
  ·rw [List.take_append_drop,hV]; omega
  ·rw [List.length_drop]; omega
theorem prt_back {neg : Bool} {xs : List Nat} {exp : Int} (hx : L32 xs) (hok : okB neg xs exp = true) (hlen : (prt neg (val xs) exp).length ≤ 2000) :
  fE (prt neg (val xs) exp) = 0 ∧ fN (prt neg (val xs) exp) = neg ∧ fX (prt neg (val xs) exp) = exp ∧ fZ (prt neg (val xs) exp) = xs:=by
 obtain ⟨a1,a2,a3,⟨x1,x2⟩,x3,_⟩:=okB_true hx hok
 obtain ⟨l1,l2⟩:=numO_le (okB_len hok)
 obtain ⟨v,hv⟩ : ∃ v,v = val xs:=⟨_,rfl⟩
 have hz : v = 0 → exp = 0:=fun h0 => by
  rcases okB_cases hx hok with ⟨_,_,h⟩ | ⟨h,_⟩
  ·exact h
  ·omega
 rw [← hv] at l1 l2 hlen ⊢
 obtain ⟨p,hp⟩ : ∃ p : Int,p = ((numO v).length : Int) + exp:=⟨_,rfl⟩
 have hT : Tells (if -5 ≤ p ∧ p ≤ 21 then plainT (numO v) p else powT (numO v) p) v exp:=by
  by_cases h : -5 ≤ p ∧ p ≤ 21
  ·rw [if_pos h]; exact plain_tells hp h.1 h.2 hz l1
  ·rw [if_neg h]; exact pow_tells hp (by omega) (by omega) hz l1
 obtain ⟨X,hX⟩ : ∃ X,X = prt neg v exp:=⟨_,rfl⟩
 rw [← hX] at hlen ⊢
 have hX2 : X = (if neg = true then [45] else []) ++ (if -5 ≤ p ∧ p ≤ 21 then plainT (numO v) p else powT (numO v) p):=by rw [hX]; unfold prt prtAt; rw [← hp]
 obtain ⟨wh,fp,pp,f,a,E,hTe,hP,hf,hn,ha,hE,heq⟩:=hT
 rw [hTe] at hX2
 obtain ⟨sgl,hsg⟩ : ∃ s : List Nat,s = (if neg = true then [45] else []):=⟨_,rfl⟩
 rw [← hsg] at hX2
 have hsg2 : sgl = [] ∨ sgl = [45]:=by rw [hsg]; cases neg <;> simp
 have hPc:=hP sgl hsg2
 obtain ⟨t1,t2,t3,t4,t5⟩:=hPc.told hf hX2
 have hfm : form X = some X.length:=by rw [hX2]; exact hPc.form
 have hng : tNeg X = neg:=by rw [t1,hsg]; cases neg <;> decide
 have hpw : (tPow X).2 < 1000000 ∧ (if (tPow X).1 = true then -((tPow X).2 : Int) else ((tPow X).2 : Int)) = E:=by
  rcases hE with ⟨e1,e2⟩ | ⟨x,s,q,e1,e2,e3,e4,e5,e6⟩
  ·rw [t4 e1,e2]; exact ⟨by decide,rfl⟩
  ·rw [t5 x s q e1 e2 e3 e4,e6]
   refine ⟨e5,?_⟩
   rcases e3 with rfl | rfl | rfl <;> rfl
 have hge : fGood X:=⟨hfm,hlen⟩
 obtain ⟨g1,g2,g3,g4⟩:=g_small hpw.1
 have hex : tExp X = exp - (a : Int):=by
  unfold tExp
  rw [hpw.2,t3]; exact heq
 have hlo : -5000 ≤ exp - (a : Int):=by omega
 have hsv : sg neg (v * 10 ^ a) * (sp (exp - (a : Int)) : Int) = sv neg v exp:=by
  rw [← sg_mul]
  unfold sv
  have h:=sp_add (p:=a) hlo
  rw [show exp - (a : Int) + (a : Int) = exp by omega] at h
  rw [h,Nat.mul_assoc]
 rw [hv] at hsv
 have hb:=settle_back hx hok hlo hsv
 rw [← hv] at hb
 unfold fE fN fX fZ
 rw [if_pos hge,if_pos hge,if_pos hge,if_pos hge,g1,g2,g3,g4,hng,t2,hn,hex]
 exact hb
end Go.Proofs.YtkigpbkkhgabeaaGreatDoor
namespace Go.Proofs.YtkigpbkkhgabeaaGreatDoor
open Go.RowKit
def Tab10 (w : World) : Prop := Lib.TabIs Tryz.prog w "internal/strconv.uint64pow10" .u64 Lib.pow10Tab
theorem pow_global : Tryz.prog.globalNamed "internal/strconv.uint64pow10" = some 3 := by kernel_rfl
theorem Tab10.below {w w' : World} (h : Tab10 w) (hb : Below w.heap.size w w') : Tab10 w':=by
 unfold Tab10 Lib.TabIs World.var? at h ⊢
 rw [pow_global] at h ⊢
 simp only [Option.bind_some] at h ⊢
 have hlt : (3 : Nat) < w.heap.size:=by
  rcases Nat.lt_or_ge (3 : Nat) w.heap.size with h' | h'
  ·exact h'
  ·rw [Array.getElem?_eq_none h'] at h; cases h
 rw [hb.block _ hlt]
 exact h
theorem tab10_of {W : World} {laid : List (String × DataW Unit)} (hL : laidMetH Tryz.prog laid W) (h0 : (laid.all fun x => x.2.handleName?.isNone) = true) (h1 : ("internal/strconv.uint64pow10", Rows.laid_internal_strconv_uint64pow10) ∈ laid) : Tab10 W := by
 rw [MakeChecks.laidMetH_plain _ _ _ h0] at hL
 obtain ⟨g,t,cs,fuel,p,hg,ht,hv,hd⟩:=Lib.laidMet.reads hL h1
 have hg2 : g = 3:=by rw [pow_global] at hg; injection hg with hg; exact hg.symm
 subst hg2
 have ht2 : t = 189:=by
  have h2 : (Tryz.prog.globals[(3 : Nat)]?).map (·.type) = some 189:=by kernel_rfl
  rw [h2] at ht
  injection ht with ht
  exact ht.symm
 subst ht2
 have e : (Rows.laid_internal_strconv_uint64pow10 : DataW Unit) = Lib.tabData .u64 Lib.pow10Tab:=by kernel_rfl
 rw [e] at hd
 have:=Lib.cells_of_tab (e:=103) (n:=20) (by kernel_rfl) (by kernel_rfl) (by kernel_rfl) (by kernel_rfl) hd
 unfold Tab10 Lib.TabIs
 rw [hv,← this]
theorem ItoaOk.tab {w : World} (h : Tab10 w) {z : Int} (h0 : -9223372036854775808 ≤ z) (h1 : z ≤ 9223372036854775807) : ItoaOk w.heap.size w z:=fun W hW => by
 refine (Tryz.strconv_Itoa z h0 h1 W (h.below hW)).mono ?_
 rintro e w' ⟨rfl,k,os,rfl⟩
 refine ⟨_,rfl,by rw [octs_list]; rfl,?_,?_⟩
 ·have:=Lib.itoa_length_le z h0 h1
  show (Lib.itoa z).length ≤ 100
  omega
 ·exact ⟨rfl,rfl,rfl,by show W.heap.size ≤ (W.heap ++ os).size; rw [Array.size_append]; omega,fun k hk => by
   show (W.heap ++ os)[k]? = W.heap[k]?
   rw [Array.getElem?_append_left hk]⟩
theorem prz_bound {neg : Bool} {xs : List Nat} {exp : Int} (hx : L32 xs) (hok : okB neg xs exp = true) : -10000 ≤ prz (val xs) exp ∧ prz (val xs) exp ≤ 10000:=by
 obtain ⟨a1,a2,a3,⟨x1,x2⟩,x3,_⟩:=okB_true hx hok
 obtain ⟨l1,l2⟩:=numO_le (okB_len hok)
 unfold prz
 split <;> omega
theorem prt_len {neg : Bool} {xs : List Nat} {exp : Int} (hx : L32 xs) (hok : okB neg xs exp = true) : (prt neg (val xs) exp).length ≤ 1000:=by
 obtain ⟨a1,a2,a3,⟨x1,x2⟩,x3,_⟩:=okB_true hx hok
 obtain ⟨l1,l2⟩:=numO_le (okB_len hok)
 have hi : ∀ z : Int,-10000 ≤ z → z ≤ 10000 → (itoO z).length ≤ 21:=fun z h1 h2 => by
  unfold itoO
  rw [List.length_map]
  exact Lib.itoa_length_le z (by omega) (by omega)
 unfold prt prtAt
 rw [List.length_append]
 have h1 : (if neg = true then [45] else ([] : List Nat)).length ≤ 1:=by cases neg <;> simp
 have h2 : (if -5 ≤ ((numO (val xs)).length : Int) + exp ∧ ((numO (val xs)).length : Int) + exp ≤ 21 then plainT (numO (val xs)) (((numO (val xs)).length : Int) + exp) else powT (numO (val xs)) (((numO (val xs)).length : Int) + exp)).length ≤ 900:=by
  by_cases hp : -5 ≤ ((numO (val xs)).length : Int) + exp ∧ ((numO (val xs)).length : Int) + exp ≤ 21
  ·rw [if_pos hp]
   unfold plainT
   split
   ·simp; omega
   ·split
    ·simp; omega
    ·simp; omega
  ·rw [if_neg hp]
   have:=powT_len (numO (val xs)) (p:=((numO (val xs)).length : Int) + exp) rfl (by
    have:=hi (if ((numO (val xs)).length : Int) + exp < 1 then 1 - (((numO (val xs)).length : Int) + exp) else ((numO (val xs)).length : Int) + exp - 1) (by split <;> omega) (by split <;> omega)
    omega)
   omega
 omega
def pE (neg : Bool) (xs : List Nat) (exp : Int) : Nat:=if okB neg xs exp = true then 0 else 9
def pT (neg : Bool) (xs : List Nat) (exp : Int) : List Nat:=if okB neg xs exp = true then prt neg (val xs) exp else []
theorem DPrint_c {S : Nat → Prop} {n c : Nat} {A : Option Addr} {xs : List Nat} (neg : Bool) (exp : Int) (w : World) (hT : Tab10 w) (ha : Rd w S A n xs) (hS : ∀ b,S b → b < w.heap.size) (hn : n ≤ 9223372036854775807) :
  Calls Tryz.prog 48 #[dv neg A n c exp] w fun e w' => ∃ t,e = .returned (.tuple #[.string t,.int .i64 (pE neg xs exp : Int)]) ∧ octs t = pT neg xs exp ∧ t.size ≤ 1000 ∧ Below w.heap.size w w':=by
 unfold pE pT
 cases hok : okB neg xs exp with
 | true =>
  have hb:=prz_bound ha.l32 hok
  refine (DPrint_ok neg exp w ha hS hn hok (ItoaOk.tab hT (by omega) (by omega))).mono ?_
  rintro e w' ⟨t,rfl,ht,hw⟩
  exact ⟨t,rfl,ht,by rw [← octs_length,ht]; exact prt_len ha.l32 hok,hw⟩
 | false =>
  refine (DPrint_err neg exp w ha hS hn hok).mono ?_
  rintro e w' ⟨rfl,hw⟩
  exact ⟨⟨#[]⟩,rfl,rfl,by decide,hw⟩
end Go.Proofs.YtkigpbkkhgabeaaGreatDoor
