import Derived.Test.YtcanfiaooabocaaGreatDoorPPv
import Derived.Test.YtcanfiaooabocaaGreatDoorPDtab
set_option linter.unusedVariables false
set_option linter.unusedSimpArgs false
namespace Go.Proofs.YtcanfiaooabocaaGreatDoor
open Go.Lib
theorem head_low {c : UInt8} (h : c = 45 ∨ isDg c = true) : isWs c = false ∧ (c == 91) = false ∧ (c == 123) = false ∧ (c == 34) = false ∧ (c == 110) = false ∧ (c == 102) = false ∧ (c == 116) = false ∧ (isDg c || (c == 34 || c == 45 || c == 110 || c == 102 || c == 116)) = true ∧ c ≠ 93 ∧ c ≠ 125:=by
 have key : ∀ x : UInt8,(!(x == 45 || isDg x) || (!isWs x && !(x == 91) && !(x == 123) && !(x == 34) && !(x == 110) && !(x == 102) && !(x == 116) && (isDg x || (x == 34 || x == 45 || x == 110 || x == 102 || x == 116)) && !(x == 93) && !(x == 125))) = true:=fun x => by
  have h1:=List.all_eq_true.1 (show (List.range 256).all (fun n => (fun x : UInt8 => (!(x == 45 || isDg x) || (!isWs x && !(x == 91) && !(x == 123) && !(x == 34) && !(x == 110) && !(x == 102) && !(x == 116) && (isDg x || (x == 34 || x == 45 || x == 110 || x == 102 || x == 116)) && !(x == 93) && !(x == 125)))) n.toUInt8) = true by kernel_rfl) x.toNat (List.mem_range.2 x.toNat_lt)
  rwa [show x.toNat.toUInt8 = x from UInt8.ofNat_toNat] at h1
 have hk:=key c
 have h0 : (c == 45 || isDg c) = true:=by rcases h with rfl | h <;> simp [*]
 rw [h0] at hk
 simp only [Bool.not_true,Bool.false_or,Bool.and_eq_true,Bool.not_eq_true',beq_eq_false_iff_ne] at hk
 obtain ⟨⟨⟨⟨⟨⟨⟨⟨⟨a1,a2⟩,a3⟩,a4⟩,a5⟩,a6⟩,a7⟩,a8⟩,a9⟩,a10⟩:=hk
 exact ⟨a1,by simpa using a2,by simpa using a3,by simpa using a4,by simpa using a5,by simpa using a6,by simpa using a7,a8,a9,a10⟩
theorem prV_head {qc : Int → List UInt8} {nt : Bool → List Nat → Int → List UInt8} (hnt : NtOk nt) {st o : Nat} {x : VT} (hx : Gp x) : ∃ c t,prV qc nt st o x = c :: t ∧ isWs c = false ∧ c ≠ 93 ∧ c ≠ 125:=by
 obtain ⟨h0,hl⟩:=hx.own
 have hf:=alone_fields h0
 cases x with
 | mk k n xs e t l ks =>
  unfold prV
  split
  ·exact ⟨_,_,rfl,by decide,by decide,by decide⟩
  split
  ·exact ⟨_,_,rfl,by decide,by decide,by decide⟩
  split
  ·rename_i h3
   obtain ⟨-,-,-,-,c,t,hc,hd⟩:=hnt (n:=n) (xs:=xs) (e:=e) hl (hf.2.2.1 h3)
   obtain ⟨a1,-,-,-,-,-,-,-,a9,a10⟩:=head_low hd
   exact ⟨c,t,hc,a1,a9,a10⟩
  split
  ·exact ⟨_,_,rfl,by decide,by decide,by decide⟩
  split
  ·exact ⟨_,_,rfl,by decide,by decide,by decide⟩
  split
  ·exact ⟨_,_,rfl,by decide,by decide,by decide⟩
  ·exact ⟨_,_,rfl,by decide,by decide,by decide⟩
theorem key_back {qc : Int → List UInt8} (H : QcOk qc) {s : ByteArray} {n : Nat} (hn : n ≤ 4096) (hT : isT s.data.toList = true) (hs : s.size ≤ 16384) (r : List UInt8) : rKey n (txtL qc s ++ r) 0 = .ok s (txtL qc s).length:=by
 unfold rKey
 rw [rAt_ok (show rPeek (txtL qc s ++ r) 0 = .ok 34 0 from rfl),if_pos (by decide),if_neg (by omega)]
 exact textQ H hT hs r
theorem sp_ws (st : Nat) : ∀ c ∈ (if st = 0 then [] else [32] : List UInt8),isWs c = true:=fun c hc => by
 split at hc
 ·exact absurd hc (by simp)
 ·have : c = 32:=by simpa using hc
  rw [this]; decide
theorem prV_low {qc : Int → List UInt8} {nt : Bool → List Nat → Int → List UInt8} (H : QcOk qc) (hnt : NtOk nt) (st k : Nat) (x : VT) (o nth : Nat) (r : List UInt8) (hx : Gp x) (hnth : nth ≤ 4096) (hr : Apart r) (hho : hold x.kind = false) :
  rValue mkObj k nth (prV qc nt st o x ++ r) 0 = .ok x (prV qc nt st o x).length:=by
 obtain ⟨h0,hl⟩:=hx.own
 have hf:=alone_fields h0
 have hz:=alone_zero h0
 cases x with
 | mk kd ng xs e t l ks =>
  simp only [VT.kind,VT.list,VT.num,VT.neg,VT.exp,VT.text,VT.keys] at hho hf hl hz
  obtain ⟨-,f3,f3',f4,f4',f6,-,-,-,-,f5⟩:=hf
  obtain ⟨⟨z1,z2⟩,-⟩:=hz
  have h5 : kd ≠ 5:=by rintro rfl; exact absurd hho (by decide)
  have h6 : kd ≠ 6:=by rintro rfl; exact absurd hho (by decide)
  have hll : l = []:=f5 (by omega)
  have hkk : ks = []:=f6 h6
  subst hll hkk
  by_cases e3 : kd = 3
  ·subst e3
   have g4:=text_empty (f4 (by decide))
   subst g4
   obtain ⟨n1,n2,n3,n4,c,t,hc,hd⟩:=hnt (n:=ng) (xs:=xs) (e:=e) hl (f3' rfl)
   obtain ⟨-,a2,a3,a4,a5,a6,a7,a8,-,-⟩:=head_low hd
   have hpr : prV qc nt st o (.mk 3 ng xs e ⟨#[]⟩ [] []) = nt ng xs e:=by unfold prV; rfl
   rw [hpr]
   have hb:=number_back (l:=nt ng xs e) (fun c hc => hr c (by rw [← List.head?_eq_getElem?]; exact hc)) n1
   rw [hc,List.cons_append,rv_low hnth a2 a3 a8]
   unfold lowR
   rw [a4,a5,a6,a7]
   simp only [Bool.false_eq_true,if_false]
   rw [← List.cons_append,← hc,hb]
   unfold numV
   rw [n2,n3,n4]
  ·obtain ⟨g1,g2,g3⟩:=f3 e3
   subst g1 g2 g3
   by_cases e4 : kd = 4
   ·subst e4
    have hpr : prV qc nt st o (.mk 4 false [] 0 t [] []) = txtL qc t:=by unfold prV; rfl
    rw [hpr]
    obtain ⟨t1,t2⟩:=f4' rfl
    have hb:=textQ H t1 t2 r
    have hh : txtL qc t ++ r = 34 :: (qL qc ((pcs t.data.toList).map (·.2)) ++ [34] ++ r):=by simp [txtL]
    rw [hh,rv_low hnth (by decide) (by decide) (by decide),← hh]
    unfold lowR
    rw [if_pos (by decide),rAt_ok hb]; rfl
   ·have g4:=text_empty (f4 e4)
    subst g4
    have hk : kd = 0 ∨ kd = 1 ∨ kd = 2:=by omega
    rcases hk with rfl | rfl | rfl
    ·have hpr : prV qc nt st o (.mk 0 false [] 0 ⟨#[]⟩ [] []) = [110,117,108,108]:=by unfold prV; rfl
     rw [hpr]
     show rValue mkObj k nth (110 :: ([117,108,108] ++ r)) 0 = _
     rw [rv_low hnth (by decide) (by decide) (by decide)]
     exact rAt_ok (word_back (w:=[110,117,108,108]) hr)
    ·have hpr : prV qc nt st o (.mk 1 false [] 0 ⟨#[]⟩ [] []) = [102,97,108,115,101]:=by unfold prV; rfl
     rw [hpr]
     show rValue mkObj k nth (102 :: ([97,108,115,101] ++ r)) 0 = _
     rw [rv_low hnth (by decide) (by decide) (by decide)]
     exact rAt_ok (word_back (w:=[102,97,108,115,101]) hr)
    ·have hpr : prV qc nt st o (.mk 2 false [] 0 ⟨#[]⟩ [] []) = [116,114,117,101]:=by unfold prV; rfl
     rw [hpr]
     show rValue mkObj k nth (116 :: ([114,117,101] ++ r)) 0 = _
     rw [rv_low hnth (by decide) (by decide) (by decide)]
     exact rAt_ok (word_back (w:=[116,114,117,101]) hr)
theorem prV_back {qc : Int → List UInt8} {nt : Bool → List Nat → Int → List UInt8} (H : QcOk qc) (hnt : NtOk nt) (st : Nat) : ∀ (k n : Nat) (x : VT) (o nth : Nat) (r : List UInt8),k < n → dpt n x ≤ k → Gp x → (partsV x).length ≤ 16384 → nth ≤ 4096 → Apart r →
  rValue mkObj k nth (prV qc nt st o x ++ r) 0 = .ok x (prV qc nt st o x).length:=by
 intro k
 induction k with
 | zero =>
  intro n x o nth r hkn hd hx hp hnth hr
  have hho : hold x.kind = false:=by
   obtain ⟨m,rfl⟩ : ∃ m,n = m + 1:=⟨n - 1,by omega⟩
   unfold dpt at hd
   cases hh : hold x.kind with
   | false => rfl
   | true => rw [hh] at hd; simp at hd
  exact prV_low H hnt st 0 x o nth r hx hnth hr hho
 | succ k ih =>
  intro n x o nth r hkn hd hx hp hnth hr
  cases hho : hold x.kind with
  | false => exact prV_low H hnt st (k + 1) x o nth r hx hnth hr hho
  | true =>
   obtain ⟨m,rfl⟩ : ∃ m,n = m + 1:=⟨n - 1,by omega⟩
   obtain ⟨h0,hl⟩:=hx.own
   have hf:=alone_fields h0
   have hdz : ∀ z ∈ x.list,dpt m z ≤ k:=fun z hz => by
    unfold dpt at hd
    rw [if_pos hho] at hd
    have h1 : dpt m z ≤ mxL (x.list.map (dpt m)):=by
     have key : ∀ l : List Nat,∀ a ∈ l,a ≤ mxL l:=fun l => by
      induction l with
      | nil => intro a h; exact absurd h (by simp)
      | cons b r ihh =>
       intro a h
       simp only [mxL]
       rcases List.mem_cons.1 h with rfl | h
       ·omega
       ·have:=ihh a h; omega
     exact key _ _ (List.mem_map.2 ⟨z,hz,rfl⟩)
    omega
   have hin : x.inner = x.list:=hf.1.symm
   have hsub : ∀ z ∈ x.list,Gp z ∧ (partsV z).length ≤ 16384:=fun z hz => ⟨hx.sub (hin ▸ hz),Nat.le_trans (parts_sub (hin ▸ hz)) hp⟩
   have hseen:=Nat.le_trans (seen_le x) hp
   cases x with
   | mk kd ng xs e t l ks =>
    simp only [VT.kind,VT.list,VT.num,VT.neg,VT.exp,VT.text,VT.keys] at hho hf hdz hsub
    obtain ⟨-,f3,-,f4,-,f6,f6',ftx,fl,fk,-⟩:=hf
    have hkd : kd = 5 ∨ kd = 6:=by unfold hold at hho; simpa using hho
    have hl5 : ∀ c ∈ (if l.isEmpty then [] else lineL st (o + 1)),isWs c = true:=fun c hc => by
     split at hc
     ·exact absurd hc (by simp)
     ·exact lineL_ws _ _ c hc
    rcases hkd with rfl | rfl
    ·obtain ⟨g1,g2,g3⟩:=f3 (by decide)
     have g4:=text_empty (f4 (by decide))
     have g5:=f6 (by decide)
     subst g1 g2 g3 g4 g5
     have hpr : prV qc nt st o (.mk 5 false [] 0 ⟨#[]⟩ l []) = [91] ++ ((if l.isEmpty then [] else lineL st (o + 1)) ++ itT st o 93 true (prI qc nt st o l)):=by
      unfold prV; rfl
     rw [hpr]
     have hmap:=prI_map (qc:=qc) (nt:=nt) (st:=st) (o:=o) l
     have hit:=items_back (en:=93) (item:=rValue mkObj k) (fun nth => Shift.value mkObj k nth) st o (by decide) (by decide) (by decide) (prI qc nt st o l) fuelR 1 r (by rw [hmap.2]; unfold fuelR; omega) (Nat.le_refl _)
      (fun i x hi r' hr' => by
       obtain ⟨h1,h2⟩:=prI_get l i x hi
       have hz:=List.mem_of_getElem? h1
       rw [h2]
       have hil : i < l.length:=(List.getElem?_eq_some_iff.1 h1).1
       exact ih m x.1 (o + 1) (1 + i) r' (by omega) (hdz _ hz) (hsub _ hz).1 (hsub _ hz).2 (by omega) hr')
      (fun x hx => by
       obtain ⟨i,hi⟩:=List.mem_iff_getElem?.1 hx
       obtain ⟨h1,h2⟩:=prI_get l i x hi
       obtain ⟨c,t,hc,hw,hn,-⟩:=prV_head (qc:=qc) hnt (st:=st) (o:=o + 1) (hsub _ (List.mem_of_getElem? h1)).1
       exact ⟨c,t,by rw [h2,hc],hw,hn⟩)
     rw [show decide ((1 : Nat) = 1) = true from rfl,hmap.1] at hit
     have hst : ∀ c,(itT st o 93 true (prI qc nt st o l) ++ r)[0]? = some c → isWs c = false:=fun c hc => by
      cases l with
      | nil =>
       have : (93 : UInt8) = c:=by simpa [prI,itT] using hc
       rw [← this]; decide
      | cons v l =>
       obtain ⟨d,t,hd2,hw,-⟩:=prV_head (qc:=qc) hnt (st:=st) (o:=o + 1) (hsub v (by simp)).1
       have : d = c:=by simpa [prI,itT,hd2] using hc
       rw [← this]; exact hw
     have hall:=rAt_chain (w:=if l.isEmpty then [] else lineL st (o + 1)) (w2:=itT st o 93 true (prI qc nt st o l)) (r:=r) (F:=rSkips isWs) (G:=fun _ => rItemsF 93 (rValue mkObj k) fuelR 1) (a:=()) (b:=l) (Shift.itemsF (fun nth => Shift.value mkObj k nth) fuelR 1) (skips_ws hl5 hst) hit
     obtain ⟨T,hT⟩ : ∃ T,(if l.isEmpty then [] else lineL st (o + 1)) ++ itT st o 93 true (prI qc nt st o l) = T:=⟨_,rfl⟩
     rw [hT] at hall ⊢
     show rValue mkObj (k + 1) nth (91 :: (T ++ r)) 0 = .ok _ (T.length + 1)
     unfold rValue
     rw [rAt_ok (begin_br hnth (by decide)),rAt_ok (show rPeek (91 :: (T ++ r)) 0 = .ok 91 0 from rfl)]
     have hsh : (rAt (rSkips isWs) fun _ => rItemsF 93 (rValue mkObj k) fuelR 1) (91 :: (T ++ r)) (0 + 1) = .ok l (1 + T.length):=by
      have h:=(Shift.at (G:=fun _ _ => rItemsF 93 (rValue mkObj k) fuelR 1) (Shift.skips isWs) fun _ => Shift.itemsF (fun nth => Shift.value mkObj k nth) fuelR 1) 0 [91] (T ++ r) 0
      simp only [] at h
      rw [hall] at h
      exact h
     show (rItems 93 (rValue mkObj k) (91 :: (T ++ r)) 0).bind _ = _
     unfold rItems
     rw [hsh]
     simp only [RR.bind]
     unfold rHeld
     rw [if_neg (by omega),Nat.add_comm]
    ·obtain ⟨g1,g2,g3⟩:=f3 (by decide)
     have g4:=text_empty (f4 (by decide))
     obtain ⟨f6a,f6b⟩:=f6' rfl
     subst g1 g2 g3 g4
     have hpr : prV qc nt st o (.mk 6 false [] 0 ⟨#[]⟩ l ks) = [123] ++ ((if l.isEmpty then [] else lineL st (o + 1)) ++ itT st o 125 true (prK qc nt st o l ks)):=by
      unfold prV; rfl
     rw [hpr]
     have hmap:=prK_map (qc:=qc) (nt:=nt) (st:=st) (o:=o) l ks f6a
     have hsp : ∀ n,Shift (fun _ => rAt (rKey n) fun key => rAt (rSkips isWs) fun _ => rAt (rNeed (· == 58)) fun _ => rAt (rSkips isWs) fun _ => rAt (rValue mkObj k n) fun v => rPure (key,v)):=fun n =>
      Shift.at (G:=fun _ key => rAt (rSkips isWs) fun _ => rAt (rNeed (· == 58)) fun _ => rAt (rSkips isWs) fun _ => rAt (rValue mkObj k n) fun v => rPure (key,v)) (Shift.key n) fun key =>
      Shift.at (G:=fun _ _ => rAt (rNeed (· == 58)) fun _ => rAt (rSkips isWs) fun _ => rAt (rValue mkObj k n) fun v => rPure (key,v)) (Shift.skips isWs) fun _ =>
      Shift.at (G:=fun _ _ => rAt (rSkips isWs) fun _ => rAt (rValue mkObj k n) fun v => rPure (key,v)) (Shift.need _) fun _ =>
      Shift.at (G:=fun _ _ => rAt (rValue mkObj k n) fun v => rPure (key,v)) (Shift.skips isWs) fun _ =>
      Shift.at (G:=fun _ v => rPure (key,v)) (Shift.value mkObj k n) fun v => Shift.pure (key,v)
     have hit:=items_back (en:=125) (item:=fun n => rAt (rKey n) fun key => rAt (rSkips isWs) fun _ => rAt (rNeed (· == 58)) fun _ => rAt (rSkips isWs) fun _ => rAt (rValue mkObj k n) fun v => rPure (key,v)) hsp st o (by decide) (by decide) (by decide) (prK qc nt st o l ks) fuelR 1 r (by rw [hmap.2]; unfold fuelR; omega) (Nat.le_refl _)
      (fun i x hi r' hr' => by
       obtain ⟨h1,h1k,h2⟩:=prK_get l ks i x f6a hi
       have hz:=List.mem_of_getElem? h1
       have hkt:=ftx _ (List.mem_of_getElem? h1k)
       have hil : i < l.length:=(List.getElem?_eq_some_iff.1 h1).1
       rw [h2]
       have hv:=ih m x.1.2 (o + 1) (1 + i) r' (by omega) (hdz _ hz) (hsub _ hz).1 (hsub _ hz).2 (by omega) hr'
       obtain ⟨c,t,hc,hw,-⟩:=prV_head (qc:=qc) hnt (st:=st) (o:=o + 1) (hsub _ hz).1
       have e4 : (rAt (rSkips isWs) fun _ => rAt (rValue mkObj k (1 + i)) fun v => rPure (x.1.1,v)) (((if st = 0 then [] else [32]) ++ prV qc nt st (o + 1) x.1.2) ++ r') 0 = .ok x.1 ((if st = 0 then [] else [32]) ++ prV qc nt st (o + 1) x.1.2).length:=by
        refine rAt_chain (F:=rSkips isWs) (G:=fun _ => rAt (rValue mkObj k (1 + i)) fun v => rPure (x.1.1,v)) (a:=()) (Shift.at (G:=fun _ v => rPure (x.1.1,v)) (Shift.value mkObj k (1 + i)) fun v => Shift.pure (x.1.1,v)) (skips_ws (sp_ws st) (fun d hd => (show c = d by rw [hc] at hd; simpa using hd) ▸ hw)) ?_
        have:=rAt_chain (F:=rValue mkObj k (1 + i)) (G:=fun v => rPure (x.1.1,v)) (w:=prV qc nt st (o + 1) x.1.2) (w2:=[]) (r:=r') (a:=x.1.2) (b:=x.1) (Shift.pure (x.1.1,x.1.2)) (by simpa using hv) rfl
        simpa using this
       have e3 : (rAt (rNeed (· == 58)) fun _ => rAt (rSkips isWs) fun _ => rAt (rValue mkObj k (1 + i)) fun v => rPure (x.1.1,v)) (([58] ++ ((if st = 0 then [] else [32]) ++ prV qc nt st (o + 1) x.1.2)) ++ r') 0 = .ok x.1 ([58] ++ ((if st = 0 then [] else [32]) ++ prV qc nt st (o + 1) x.1.2)).length :=
        rAt_chain (F:=rNeed (· == 58)) (G:=fun _ => rAt (rSkips isWs) fun _ => rAt (rValue mkObj k (1 + i)) fun v => rPure (x.1.1,v)) (w:=[58]) (a:=())
         (Shift.at (G:=fun _ _ => rAt (rValue mkObj k (1 + i)) fun v => rPure (x.1.1,v)) (Shift.skips isWs) fun _ => Shift.at (G:=fun _ v => rPure (x.1.1,v)) (Shift.value mkObj k (1 + i)) fun v => Shift.pure (x.1.1,v)) (need_one (by decide)) e4
       have e2:=rAt_chain (F:=rSkips isWs) (G:=fun _ => rAt (rNeed (· == 58)) fun _ => rAt (rSkips isWs) fun _ => rAt (rValue mkObj k (1 + i)) fun v => rPure (x.1.1,v)) (w:=[]) (w2:=[58] ++ ((if st = 0 then [] else [32]) ++ prV qc nt st (o + 1) x.1.2)) (r:=r') (a:=()) (b:=x.1)
        (Shift.at (G:=fun _ _ => rAt (rSkips isWs) fun _ => rAt (rValue mkObj k (1 + i)) fun v => rPure (x.1.1,v)) (Shift.need _) fun _ => Shift.at (G:=fun _ _ => rAt (rValue mkObj k (1 + i)) fun v => rPure (x.1.1,v)) (Shift.skips isWs) fun _ => Shift.at (G:=fun _ v => rPure (x.1.1,v)) (Shift.value mkObj k (1 + i)) fun v => Shift.pure (x.1.1,v)) (skips_ws (w:=[]) (fun d hd => absurd hd (by simp)) (fun d hd => (show (58 : UInt8) = d by rw [List.append_assoc,List.singleton_append,List.getElem?_cons_zero] at hd; injection hd) ▸ (by decide))) e3
       exact rAt_chain (F:=rKey (1 + i)) (G:=fun key => rAt (rSkips isWs) fun _ => rAt (rNeed (· == 58)) fun _ => rAt (rSkips isWs) fun _ => rAt (rValue mkObj k (1 + i)) fun v => rPure (key,v)) (a:=x.1.1)
        (Shift.at (G:=fun _ _ => rAt (rNeed (· == 58)) fun _ => rAt (rSkips isWs) fun _ => rAt (rValue mkObj k (1 + i)) fun v => rPure (x.1.1,v)) (Shift.skips isWs) fun _ => Shift.at (G:=fun _ _ => rAt (rSkips isWs) fun _ => rAt (rValue mkObj k (1 + i)) fun v => rPure (x.1.1,v)) (Shift.need _) fun _ => Shift.at (G:=fun _ _ => rAt (rValue mkObj k (1 + i)) fun v => rPure (x.1.1,v)) (Shift.skips isWs) fun _ => Shift.at (G:=fun _ v => rPure (x.1.1,v)) (Shift.value mkObj k (1 + i)) fun v => Shift.pure (x.1.1,v))
        (key_back H (by omega) hkt.1 hkt.2 _) e2)
      (fun x hx => by
       obtain ⟨i,hi⟩:=List.mem_iff_getElem?.1 hx
       obtain ⟨h1,h1k,h2⟩:=prK_get l ks i x f6a hi
       exact ⟨34,_,by rw [h2]; rfl,by decide,by decide⟩)
     rw [show decide ((1 : Nat) = 1) = true from rfl,hmap.1] at hit
     have hst : ∀ c,(itT st o 125 true (prK qc nt st o l ks) ++ r)[0]? = some c → isWs c = false:=fun c hc => by
      cases l with
      | nil =>
       have : (125 : UInt8) = c:=by simpa [prK,itT] using hc
       rw [← this]; decide
      | cons v l =>
       have : (34 : UInt8) = c:=by simpa [prK,itT,txtL] using hc
       rw [← this]; decide
     have hall:=rAt_chain (w:=if l.isEmpty then [] else lineL st (o + 1)) (w2:=itT st o 125 true (prK qc nt st o l ks)) (r:=r) (F:=rSkips isWs) (G:=fun _ => rItemsF 125 (fun n => rAt (rKey n) fun key => rAt (rSkips isWs) fun _ => rAt (rNeed (· == 58)) fun _ => rAt (rSkips isWs) fun _ => rAt (rValue mkObj k n) fun v => rPure (key,v)) fuelR 1) (a:=()) (b:=ks.zip l) (Shift.itemsF hsp fuelR 1) (skips_ws hl5 hst) hit
     obtain ⟨T,hT⟩ : ∃ T,(if l.isEmpty then [] else lineL st (o + 1)) ++ itT st o 125 true (prK qc nt st o l ks) = T:=⟨_,rfl⟩
     rw [hT] at hall ⊢
     show rValue mkObj (k + 1) nth (123 :: (T ++ r)) 0 = .ok _ (T.length + 1)
     unfold rValue
     rw [rAt_ok (begin_br hnth (by decide)),rAt_ok (show rPeek (123 :: (T ++ r)) 0 = .ok 123 0 from rfl)]
     have hsh : (rAt (rSkips isWs) fun _ => rItemsF 125 (fun n => rAt (rKey n) fun key => rAt (rSkips isWs) fun _ => rAt (rNeed (· == 58)) fun _ => rAt (rSkips isWs) fun _ => rAt (rValue mkObj k n) fun v => rPure (key,v)) fuelR 1) (123 :: (T ++ r)) (0 + 1) = .ok (ks.zip l) (1 + T.length):=by
      have h:=(Shift.at (G:=fun _ _ => rItemsF 125 (fun n => rAt (rKey n) fun key => rAt (rSkips isWs) fun _ => rAt (rNeed (· == 58)) fun _ => rAt (rSkips isWs) fun _ => rAt (rValue mkObj k n) fun v => rPure (key,v)) fuelR 1) (Shift.skips isWs) fun _ => Shift.itemsF hsp fuelR 1) 0 [123] (T ++ r) 0
      simp only [] at h
      rw [hall] at h
      exact h
     show (rItems 125 _ (123 :: (T ++ r)) 0).bind _ = _
     unfold rItems
     rw [hsh]
     simp only [RR.bind]
     unfold rHeld
     rw [mkObj_zip f6b f6a]
     rw [if_neg (by omega),Nat.add_comm]
end Go.Proofs.YtcanfiaooabocaaGreatDoor
namespace Go.Proofs.YtcanfiaooabocaaGreatDoor
open Go.Lib
theorem rAt_ok1 {α β : Type} {F : Rd1 α} {G : α → Rd1 β} {b : List UInt8} {p q : Nat} {a : α} (h : F b p = .ok a q) : rAt F G b p = G a b q:=by
 unfold rAt; rw [h]; rfl
theorem hex_hx {d : Nat} (h : d < 16) : hexOf (hxD d) = some d:=by
 have : ∀ d,d < 16 → hexOf (hxD d) = some d:=by decide
 exact this d h
theorem hexs_back : ∀ (ds : List Nat) (n : Nat) (r : List UInt8),(∀ d ∈ ds,d < 16) → rHex ds.length n (ds.map hxD ++ r) 0 = .ok (ds.foldl (fun n d => n * 16 + d) n) ds.length
 | [],n,r,_ => rfl
 | d :: ds,n,r,h => by
  have ih:=hexs_back ds (n * 16 + d) r (fun e he => h e (by simp [he]))
  have hs : rHex ds.length (n * 16 + d) ([hxD d] ++ (ds.map hxD ++ r)) (1 + 0) = _:=Shift.hex ds.length (n * 16 + d) 0 [hxD d] (ds.map hxD ++ r) 0
  simp only [] at hs
  rw [ih] at hs
  show rHex (ds.length + 1) n (hxD d :: (ds.map hxD ++ r)) 0 = _
  unfold rHex
  rw [show rAt rPeek _ (hxD d :: (ds.map hxD ++ r)) 0 = (match hexOf (hxD d) with
   | some e => (fun b p => rHex ds.length (n * 16 + e) b (p + 1) : Rd1 Nat)
   | none => rFail 33) (hxD d :: (ds.map hxD ++ r)) 0 from rfl,hex_hx (h d (by simp))]
  show rHex ds.length (n * 16 + d) (hxD d :: (ds.map hxD ++ r)) (0 + 1) = _
  rw [show 0 + 1 = 1 + 0 from rfl]
  rw [show hxD d :: (ds.map hxD ++ r) = [hxD d] ++ (ds.map hxD ++ r) from rfl,hs]
  simp only [RR.shift,List.foldl_cons,List.length_cons]
  congr 1
  show 0 + 1 + ds.length = _
  omega
def dg4 (n : Nat) : List Nat:=[n / 4096,n / 256 % 16,n / 16 % 16,n % 16]
def codedL (n : Nat) : List UInt8:=92 :: 117 :: (dg4 n).map hxD
theorem dg4_lt {n : Nat} (h : n < 65536) : ∀ d ∈ dg4 n,d < 16:=fun d hd => by
 unfold dg4 at hd
 simp only [List.mem_cons,List.not_mem_nil,or_false] at hd
 omega
theorem dg4_val {n : Nat} (h : n < 65536) : (dg4 n).foldl (fun n d => n * 16 + d) 0 = n:=by
 unfold dg4
 simp only [List.foldl_cons,List.foldl_nil]
 omega
theorem char_esc {b : List UInt8} (h0 : b[0]? = some 92) (h1 : b[1]? = some 117) : rChar b 0 = rCoded 0 b 2:=by
 unfold rChar
 rw [show rAt rPeek _ b 0 = _ from rAt_ok1 (show rPeek b 0 = .ok 92 0 by unfold rPeek; rw [h0])]
 rw [if_pos (by decide)]
 unfold rEscape
 rw [show rAt rPeek _ b (0 + 1) = _ from rAt_ok1 (show rPeek b 1 = .ok 117 1 by unfold rPeek; rw [h1])]
 rw [if_pos (by decide)]
theorem coded_one {n : Nat} (h : n < 65536) (hs : n < 55296 ∨ 57343 < n) (r : List UInt8) : rChar (codedL n ++ r) 0 = .ok (n : Int) (codedL n).length:=by
 rw [char_esc rfl rfl]
 have hh:=hexs_back (dg4 n) 0 r (dg4_lt h)
 rw [dg4_val h,show (dg4 n).length = 4 from rfl] at hh
 have hsh : rHex 4 0 ([92,117] ++ ((dg4 n).map hxD ++ r)) (2 + 0) = _:=Shift.hex 4 0 0 [92,117] ((dg4 n).map hxD ++ r) 0
 simp only [] at hsh
 rw [hh] at hsh
 unfold rCoded
 rw [rAt_ok1 (show rHex 4 0 (codedL n ++ r) 2 = .ok n 6 from hsh),if_pos hs]
 rfl
theorem coded_two {x z : Nat} (hx : 55296 ≤ x ∧ x < 56320) (hz : 56320 ≤ z ∧ z < 57344) (r : List UInt8) : rChar ((codedL x ++ codedL z) ++ r) 0 = .ok (65536 + ((x : Int) - 55296) * 1024 + ((z : Int) - 56320)) (codedL x ++ codedL z).length:=by
 rw [char_esc rfl rfl]
 have hh:=hexs_back (dg4 x) 0 (codedL z ++ r) (dg4_lt (by omega))
 rw [dg4_val (by omega),show (dg4 x).length = 4 from rfl] at hh
 have hsh : rHex 4 0 ([92,117] ++ ((dg4 x).map hxD ++ (codedL z ++ r))) (2 + 0) = _:=Shift.hex 4 0 0 [92,117] ((dg4 x).map hxD ++ (codedL z ++ r)) 0
 simp only [] at hsh
 rw [hh] at hsh
 have hb : (codedL x ++ codedL z) ++ r = [92,117] ++ ((dg4 x).map hxD ++ (codedL z ++ r)):=by simp [codedL]
 obtain ⟨b,hbb⟩ : ∃ b,(codedL x ++ codedL z) ++ r = b:=⟨_,rfl⟩
 rw [← hb,hbb] at hsh
 rw [hbb]
 unfold rCoded
 rw [rAt_ok1 (show rHex 4 0 b 2 = .ok x 6 from hsh),if_neg (by omega),if_neg (by omega)]
 have g (i : Nat) (c : UInt8) (h : (codedL z ++ r)[i]? = some c) : b[6 + i]? = some c:=by
  rw [← hbb,List.append_assoc,List.getElem?_append_right (by show 6 ≤ 6 + i; omega)]
  rw [show 6 + i - (codedL x).length = i by show 6 + i - 6 = i; omega]; exact h
 have hd:=dg4_lt (n:=z) (by omega)
 have hp1 : rPeek b 6 = .ok 92 6:=by unfold rPeek; rw [g 0 92 rfl]
 have hp2 : rPeek b 7 = .ok 117 7:=by unfold rPeek; rw [g 1 117 rfl]
 have one (i d n : Nat) (hdd : d < 16) (hc : (codedL z ++ r)[i]? = some (hxD d)) : rHex 1 n b (6 + i) = .ok (n * 16 + d) (6 + i + 1):=by
  unfold rHex
  rw [rAt_ok1 (show rPeek b (6 + i) = .ok (hxD d) (6 + i) by unfold rPeek; rw [g i _ hc]),hex_hx hdd]
  rfl
 have o1:=one 2 (z / 4096) 0 (by omega) rfl
 have o2:=one 3 (z / 256 % 16) 0 (by omega) rfl
 have o3 : rHex 2 0 b 10 = .ok ((0 * 16 + z / 16 % 16) * 16 + z % 16) 12:=by
  unfold rHex
  rw [rAt_ok1 (show rPeek b 10 = .ok (hxD (z / 16 % 16)) 10 by unfold rPeek; rw [g 4 (hxD (z / 16 % 16)) rfl]),hex_hx (by omega)]
  exact one 5 (z % 16) _ (by omega) rfl
 have hlow : rLow 0 b 6 = .ok z 12:=by
  unfold rLow
  rw [rAt_ok1 hp1,rAt_ok1 (show rMust 0 ((92 : UInt8) == 92) b 6 = .ok () 6 from rfl)]
  show rAt rPeek _ b 7 = _
  rw [rAt_ok1 hp2,rAt_ok1 (show rMust 0 ((117 : UInt8) == 117) b 7 = .ok () 7 from rfl)]
  show rAt (rHex 1 0) _ b 8 = _
  rw [rAt_ok1 (show rHex 1 0 b 8 = .ok (0 * 16 + z / 4096) 9 from o1)]
  have e1 : 0 * 16 + z / 4096 = 13:=by omega
  rw [e1,rAt_ok1 (show rMust 0 ((13 : Nat) == 13) b 9 = .ok () 9 from rfl),rAt_ok1 (show rHex 1 0 b 9 = .ok (0 * 16 + z / 256 % 16) 10 from o2)]
  have e2 : decide (220 ≤ 13 * 16 + (0 * 16 + z / 256 % 16)) = true:=decide_eq_true (by omega)
  rw [e2,rAt_ok1 (show rMust 0 true b 10 = .ok () 10 from rfl),rAt_ok1 o3]
  show RR.ok _ 12 = _
  congr 1
  omega
 rw [rAt_ok1 hlow]
 rfl
def quoteA (c : Int) : List UInt8 :=
 if c < 128 then quoteC c else if c < 65536 then codedL c.toNat else codedL (55296 + (c.toNat - 65536) / 1024) ++ codedL (56320 + (c.toNat - 65536) % 1024)
theorem Qc_ascii : QcOk quoteA:=by
 refine ⟨fun {c} h r => ?_,fun {c} h => ?_⟩
 ·unfold quoteA
  by_cases h1 : c < 128
  ·rw [if_pos h1]; exact char_back h r
  ·rw [if_neg h1]
   by_cases h2 : c < 65536
   ·rw [if_pos h2]
    have:=coded_one (n:=c.toNat) (by omega) (by unfold isCh at h; omega) r
    rw [this]
    congr 1
    omega
   ·rw [if_neg h2]
    have hc : c ≤ 1114111:=by unfold isCh at h; omega
    have:=coded_two (x:=55296 + (c.toNat - 65536) / 1024) (z:=56320 + (c.toNat - 65536) % 1024) (by omega) (by omega) r
    rw [this]
    congr 1
    omega
 ·unfold quoteA
  by_cases h1 : c < 128
  ·rw [if_pos h1]; exact quote_head h
  ·rw [if_neg h1]
   by_cases h2 : c < 65536
   ·rw [if_pos h2]; exact ⟨92,_,rfl,by decide⟩
   ·rw [if_neg h2]; exact ⟨92,_,rfl,by decide⟩
end Go.Proofs.YtcanfiaooabocaaGreatDoor
namespace Go.Proofs.YtcanfiaooabocaaGreatDoor
open Go.Lib
theorem enc_low {c : Int} (h0 : 0 ≤ c) (h1 : c < 128) : encodeRune c = [c.toNat.toUInt8]:=by
 unfold encodeRune
 rw [encodeRuneZ_one h0 (by omega)]; rfl
theorem u8_of {x : Int} (h0 : 0 ≤ x) (h1 : x ≤ 255) : (x.toNat.toUInt8).toNat = x.toNat:=by
 show x.toNat % 256 = x.toNat
 omega
end Go.Proofs.YtcanfiaooabocaaGreatDoor
namespace Go.Proofs.YtcanfiaooabocaaGreatDoor
open Go.Lib
def NumC (a : Nat) : Prop:=a = 43 ∨ a = 45 ∨ a = 46 ∨ a = 101 ∨ (48 ≤ a ∧ a ≤ 57)
theorem numC_digits {s : List Nat} (h : allDig s = true) : ∀ a ∈ s,NumC a:=fun a ha => by
 have h1:=List.all_eq_true.1 h a ha
 unfold isDig at h1
 have:=of_decide_eq_true h1
 exact .inr (.inr (.inr (.inr this)))
theorem itoO_numC (z : Int) : ∀ a ∈ itoO z,NumC a:=by
 unfold itoO Lib.itoa
 split
 ·intro a ha
  rw [List.map_cons] at ha
  rcases List.mem_cons.1 ha with rfl | ha
  ·exact .inr (.inl rfl)
  ·exact numC_digits (decD _).1 a ha
 ·exact numC_digits (decD _).1
theorem app_numC {s t : List Nat} (h : ∀ a ∈ s,NumC a) (k : ∀ a ∈ t,NumC a) : ∀ a ∈ s ++ t,NumC a:=fun a ha => (List.mem_append.1 ha).elim (h a) (k a)
theorem cons_numC {c : Nat} {t : List Nat} (h : NumC c) (k : ∀ a ∈ t,NumC a) : ∀ a ∈ c :: t,NumC a:=fun a ha => (List.mem_cons.1 ha).elim (fun e => e ▸ h) (k a)
theorem nil_numC : ∀ a ∈ ([] : List Nat),NumC a:=fun a ha => absurd ha (by simp)
theorem zeros_numC (n : Nat) : ∀ a ∈ List.replicate n 48,NumC a:=fun a ha => by
 rw [(List.mem_replicate.1 ha).2]; exact .inr (.inr (.inr (.inr (by omega))))
theorem prt_numC (neg : Bool) (v : Nat) (e : Int) : ∀ a ∈ prt neg v e,NumC a:=by
 have hd:=numC_digits (numO_dig v).1
 have c43 : NumC 43:=.inl rfl
 have c45 : NumC 45:=.inr (.inl rfl)
 have c46 : NumC 46:=.inr (.inr (.inl rfl))
 have c101 : NumC 101:=.inr (.inr (.inr (.inl rfl)))
 have c48 : NumC 48:=.inr (.inr (.inr (.inr (by omega))))
 have ht : ∀ n,∀ a ∈ (numO v).take n,NumC a:=fun n a ha => hd a (List.mem_of_mem_take ha)
 have hr : ∀ n,∀ a ∈ (numO v).drop n,NumC a:=fun n a ha => hd a (List.mem_of_mem_drop ha)
 unfold prt prtAt
 refine app_numC ?_ ?_
 ·split
  ·exact cons_numC c45 nil_numC
  ·exact nil_numC
 split
 ·unfold plainT
  split
  ·exact app_numC (cons_numC c48 (cons_numC c46 nil_numC)) (app_numC (zeros_numC _) hd)
  split
  ·exact app_numC (ht _) (cons_numC c46 (hr _))
  ·exact app_numC hd (zeros_numC _)
 ·unfold powT
  refine app_numC (app_numC (ht _) ?_) ?_
  ·split
   ·exact cons_numC c46 (hr _)
   ·exact nil_numC
  ·split
   ·exact cons_numC c101 (cons_numC c45 (itoO_numC _))
   ·exact cons_numC c101 (cons_numC c43 (itoO_numC _))
def numP (n : Bool) (xs : List Nat) (e : Int) : List UInt8:=(prt n (val xs) e).map Nat.toUInt8
theorem numC_u8 {a : Nat} (h : NumC a) : (Nat.toUInt8 a).toNat = a:=by
 show a % 256 = a
 unfold NumC at h; omega
theorem numP_nat (n : Bool) (xs : List Nat) (e : Int) : (numP n xs e).map (·.toNat) = prt n (val xs) e:=by
 unfold numP
 rw [List.map_map]
 conv => rhs; rw [← List.map_id (prt n (val xs) e)]
 exact List.map_congr_left fun a ha => numC_u8 (prt_numC n (val xs) e a ha)
theorem form_head {s : List Nat} (h : fE s = 0) : ∃ a t,s = a :: t ∧ (a = 45 ∨ isDig a = true):=by
 have hf : form s = some s.length:=by
  unfold fE at h
  split at h
  ·rename_i hg; exact hg.1
  ·split at h <;> omega
 cases s with
 | nil =>
  exfalso
  unfold form fWhole fSgn at hf
  first | (rw [if_neg (by decide),if_neg (by decide)] at hf; cases hf) | (rw [if_neg (by decide)] at hf; cases hf) | cases hf
 | cons a t =>
  refine ⟨a,t,rfl,?_⟩
  by_cases h1 : a = 45
  ·exact .inl h1
  ·right
   unfold form fSgn at hf
   have h2 : ¬ nth (a :: t) 0 = 45:=h1
   rw [if_neg h2] at hf
   unfold fWhole at hf
   by_cases h3 : isDig (nth (a :: t) 0) = true
   ·exact h3
   ·rw [if_neg h3] at hf; cases hf
theorem numP_ok (hlen : ∀ {n xs e},L32 xs → okB n xs e = true → (prt n (val xs) e).length ≤ 2000) : NtOk numP:=fun {n xs e} hx hok => by
 obtain ⟨h1,h2,h3,h4⟩:=prt_back hx hok (hlen hx hok)
 rw [numP_nat]
 refine ⟨h1,h2,h3,h4,?_⟩
 obtain ⟨a,t,ha,hc⟩:=form_head h1
 refine ⟨Nat.toUInt8 a,t.map Nat.toUInt8,by unfold numP; rw [ha]; rfl,?_⟩
 have hn:=numC_u8 (prt_numC n (val xs) e a (by rw [ha]; simp))
 rcases hc with rfl | hc
 ·exact .inl rfl
 ·right
  unfold isDig at hc
  have hc:=of_decide_eq_true hc
  unfold isDg
  rw [Bool.and_eq_true,decide_eq_true_eq,decide_eq_true_eq]
  constructor
  ·show (48 : UInt8).toNat ≤ (Nat.toUInt8 a).toNat
   rw [hn]; exact hc.1
  ·show (Nat.toUInt8 a).toNat ≤ (57 : UInt8).toNat
   rw [hn]; exact hc.2
end Go.Proofs.YtcanfiaooabocaaGreatDoor
namespace Go.Proofs.YtcanfiaooabocaaGreatDoor
open Go.Lib
theorem tw_none {c : UInt8} {t : List UInt8} (h : isWs c = false) : (c :: t).takeWhile isWs = []:=by rw [List.takeWhile_cons,h]; rfl
theorem okV_gp {x : VT} (h : okV x) (hl : ∀ y ∈ partsV x,L32 y.num) : Gp x ∧ (partsV x).length ≤ 16384 ∧ dpt 1000 x ≤ 64:=by
 obtain ⟨g1,g2,g3⟩:=okV_gd h
 exact ⟨fun y hy => ⟨g1 y hy,hl y hy⟩,g2,g3⟩
theorem rNext_printed {qc : Int → List UInt8} {nt : Bool → List Nat → Int → List UInt8} (H : QcOk qc) (hnt : NtOk nt) (st : Nat) {x : VT} (hx : okV x) (hl : ∀ y ∈ partsV x,L32 y.num) (d g r : List UInt8) (hg : ∀ c ∈ g,isWs c = true) (hr : Apart r) :
  rNext mkObj (d ++ (g ++ (prV qc nt st 0 x ++ r))) d.length = .ok (some x) (d.length + g.length + (prV qc nt st 0 x).length):=by
 obtain ⟨g1,g2,g3⟩:=okV_gp hx hl
 obtain ⟨c,t,hc,hw,-⟩:=prV_head (qc:=qc) hnt (st:=st) (o:=0) g1
 have hv:=prV_back H hnt st 64 1000 x 0 1 r (by omega) g3 g1 g2 (by omega) hr
 unfold rNext
 have hd : (d ++ (g ++ (prV qc nt st 0 x ++ r))).drop d.length = g ++ (prV qc nt st 0 x ++ r):=List.drop_left
 have htw : (g ++ (prV qc nt st 0 x ++ r)).takeWhile isWs = g:=by
  rw [List.takeWhile_append_of_pos hg,hc,List.cons_append,tw_none hw,List.append_nil]
 rw [hd,htw,if_neg (by rw [List.length_append,List.length_append,List.length_append,hc,List.length_cons]; omega)]
 have hs : rValue mkObj 64 1 ((d ++ g) ++ (prV qc nt st 0 x ++ r)) ((d ++ g).length + 0) = _:=Shift.value mkObj 64 1 0 (d ++ g) (prV qc nt st 0 x ++ r) 0
 simp only [] at hs
 rw [hv] at hs
 rw [List.append_assoc,Nat.add_zero,List.length_append] at hs
 rw [hs]
 simp only [RR.shift,RR.bind,List.length_append]
end Go.Proofs.YtcanfiaooabocaaGreatDoor
