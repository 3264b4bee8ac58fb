import Derived.Test.YtkigpbkkhgabeaaGreatDoorYPt
import Derived.Test.YtkigpbkkhgabeaaGreatDoorYDtab
set_option linter.unusedVariables false
set_option linter.unusedSimpArgs false
namespace Go.Proofs.YtkigpbkkhgabeaaGreatDoor
open Go.Lib
mutual
def prV (qc : Int → List UInt8) (nt : Bool → List Nat → Int → List UInt8) (st : Nat) (o : Nat) : VT → List UInt8
 | .mk k n xs e t l ks =>
  if k = 1 then [102,97,108,115,101] else if k = 2 then [116,114,117,101] else if k = 3 then nt n xs e else if k = 4 then txtL qc t
  else if k = 5 then 91 :: ((if l.isEmpty then [] else lineL st (o + 1)) ++ itT st o 93 true (prI qc nt st o l))
  else if k = 6 then 123 :: ((if l.isEmpty then [] else lineL st (o + 1)) ++ itT st o 125 true (prK qc nt st o l ks))
  else [110,117,108,108]
def prI (qc : Int → List UInt8) (nt : Bool → List Nat → Int → List UInt8) (st : Nat) (o : Nat) : List VT → List (VT × List UInt8)
 | [] => []
 | v :: r => (v,prV qc nt st (o + 1) v) :: prI qc nt st o r
def prK (qc : Int → List UInt8) (nt : Bool → List Nat → Int → List UInt8) (st : Nat) (o : Nat) : List VT → List ByteArray → List ((ByteArray × VT) × List UInt8)
 | [],_ => []
 | v :: r,ks => ((ks.headD ⟨#[]⟩,v),txtL qc (ks.headD ⟨#[]⟩) ++ ([58] ++ ((if st = 0 then [] else [32]) ++ prV qc nt st (o + 1) v))) :: prK qc nt st o r ks.tail
end
def NtOk (nt : Bool → List Nat → Int → List UInt8) : Prop:=∀ {n xs e},L32 xs → okB n xs e = true → fE ((nt n xs e).map (·.toNat)) = 0 ∧ fN ((nt n xs e).map (·.toNat)) = n ∧ fX ((nt n xs e).map (·.toNat)) = e ∧ fZ ((nt n xs e).map (·.toNat)) = xs ∧
 ∃ c t,nt n xs e = c :: t ∧ (c = 45 ∨ isDg c = true)
def Gp (x : VT) : Prop:=∀ y ∈ partsV x,alone y = 0 ∧ L32 y.num
theorem Gp.sub {x z : VT} (h : Gp x) (hz : z ∈ x.inner) : Gp z:=fun y hy => h y (by rw [parts_eq]; exact List.mem_cons_of_mem _ (List.mem_flatMap.2 ⟨z,hz,hy⟩))
theorem Gp.own {x : VT} (h : Gp x) : alone x = 0 ∧ L32 x.num:=h x (by rw [parts_eq]; exact List.mem_cons_self)
theorem parts_sub {x z : VT} (hz : z ∈ x.inner) : (partsV z).length ≤ (partsV x).length:=by
 rw [parts_eq x,List.length_cons]
 have h : ∀ l : List VT,z ∈ l → (partsV z).length ≤ (l.flatMap partsV).length:=fun l => by
  induction l with
  | nil => intro h; exact absurd h (by simp)
  | cons a r ih =>
   intro h
   rw [List.flatMap_cons,List.length_append]
   rcases List.mem_cons.1 h with rfl | h
   ·omega
   ·have:=ih h; omega
 have:=h _ hz
 omega
theorem seen_le (x : VT) : (seen x).length ≤ (partsV x).length:=by
 unfold seen partsV
 rw [List.length_map,List.length_take]
 exact Nat.min_le_right _ _
theorem text_empty {t : ByteArray} (h : t.size = 0) : t = ⟨#[]⟩:=by
 obtain ⟨a⟩:=t
 have : a.size = 0:=h
 rw [Array.eq_empty_of_size_eq_zero this]
theorem rAt_ok {α β : Type} {F : Rd1 α} {G : α → Rd1 β} {b : List UInt8} {p q : Nat} {a : α} (h : F b p = .ok a q) : rAt F G b p = G a b q:=by
 unfold rAt; rw [h]; rfl
def lowR (c : UInt8) : Rd1 VT :=
 if c == 34 then rAt rText fun t => rPure (.mk 4 false [] 0 t [] [])
 else if c == 110 then rAt (rWord [110,117,108,108]) fun _ => rPure (numT0 0)
 else if c == 102 then rAt (rWord [102,97,108,115,101]) fun _ => rPure (numT0 1)
 else if c == 116 then rAt (rWord [116,114,117,101]) fun _ => rPure (numT0 2)
 else rNumber
theorem rv_low {k nth : Nat} {c : UInt8} {t : List UInt8} (hn : nth ≤ 4096) (h1 : (c == 91) = false) (h2 : (c == 123) = false) (h3 : (isDg c || (c == 34 || c == 45 || c == 110 || c == 102 || c == 116)) = true) :
  rValue mkObj k nth (c :: t) 0 = lowR c (c :: t) 0:=by
 have hb : rBegin k nth (c :: t) 0 = .ok () 0:=by
  unfold rBegin rAt rPeek
  simp only [List.getElem?_cons_zero,RR.bind,h1,h2,Bool.or_self,Bool.not_false,Bool.true_and,Bool.false_and]
  have h4 : (!isDg c && !(c == 34 || c == 45 || c == 110 || c == 102 || c == 116)) = false:=by
   revert h3
   generalize isDg c = a1
   generalize (c == 34) = a2
   generalize (c == 45) = a3
   generalize (c == 110) = a4
   generalize (c == 102) = a5
   generalize (c == 116) = a6
   cases a1 <;> cases a2 <;> cases a3 <;> cases a4 <;> cases a5 <;> cases a6 <;> simp
  rw [h4,if_neg (by decide),if_neg (by decide),if_neg (by omega)]
  rfl
 have hp : rPeek (c :: t) 0 = .ok c 0:=rfl
 cases k with
 | zero =>
  unfold rValue
  rw [rAt_ok hb,rAt_ok hp]
  rfl
 | succ k =>
  unfold rValue
  rw [rAt_ok hb,rAt_ok hp]
  simp only [h1,h2]
  rfl
theorem begin_br {k nth : Nat} {c : UInt8} {t : List UInt8} (hn : nth ≤ 4096) (h1 : (c == 91 || c == 123) = true) : rBegin (k + 1) nth (c :: t) 0 = .ok () 0:=by
 unfold rBegin rAt rPeek
 simp only [List.getElem?_cons_zero,RR.bind,h1,Bool.not_true,Bool.false_and,Bool.true_and]
 rw [if_neg (by decide),if_neg (by simp),if_neg (by omega)]
 rfl
theorem word_back {w : List UInt8} {r : List UInt8} (hr : Apart r) : rWord w (w ++ r) 0 = .ok () w.length:=by
 induction w with
 | nil =>
  unfold rWord rApart
  rw [List.nil_append]
  cases r with
  | nil => rfl
  | cons c t => simp only [List.getElem?_cons_zero]; rw [hr c rfl]; rfl
 | cons c w ih =>
  unfold rWord
  exact rAt_chain (w:=[c]) (w2:=w) (G:=fun _ => rWord w) (a:=()) (Shift.word w) (need_one (by simp)) ih
theorem prI_get {qc : Int → List UInt8} {nt : Bool → List Nat → Int → List UInt8} {st o : Nat} : ∀ (l : List VT) (i : Nat) (x : VT × List UInt8),(prI qc nt st o l)[i]? = some x → l[i]? = some x.1 ∧ x.2 = prV qc nt st (o + 1) x.1
 | [],i,x,h => by simp [prI] at h
 | v :: r,0,x,h => by
  unfold prI at h
  injection h with h
  subst h
  exact ⟨rfl,rfl⟩
 | v :: r,i + 1,x,h => by
  unfold prI at h
  exact prI_get r i x (by simpa using h)
theorem prI_map {qc : Int → List UInt8} {nt : Bool → List Nat → Int → List UInt8} {st o : Nat} : ∀ l : List VT,(prI qc nt st o l).map (·.1) = l ∧ (prI qc nt st o l).length = l.length
 | [] => by unfold prI; exact ⟨rfl,rfl⟩
 | v :: r => by
  have ih:=prI_map (qc:=qc) (nt:=nt) (st:=st) (o:=o) r
  unfold prI
  exact ⟨by rw [List.map_cons,ih.1],by rw [List.length_cons,List.length_cons,ih.2]⟩
theorem prK_get {qc : Int → List UInt8} {nt : Bool → List Nat → Int → List UInt8} {st o : Nat} : ∀ (l : List VT) (ks : List ByteArray) (i : Nat) (x : (ByteArray × VT) × List UInt8),ks.length = l.length → (prK qc nt st o l ks)[i]? = some x →
  l[i]? = some x.1.2 ∧ ks[i]? = some x.1.1 ∧ x.2 = txtL qc x.1.1 ++ ([58] ++ ((if st = 0 then [] else [32]) ++ prV qc nt st (o + 1) x.1.2))
 | [],ks,i,x,_,h => by simp [prK] at h
 | v :: r,[],i,x,hk,h => by simp at hk
 | v :: r,s :: ks,0,x,hk,h => by
  unfold prK at h
  injection h with h
  subst h
  exact ⟨rfl,rfl,rfl⟩
 | v :: r,s :: ks,i + 1,x,hk,h => by
  unfold prK at h
  have:=prK_get r ks i x (by simpa using hk) (by simpa using h)
  simpa using this
theorem prK_map {qc : Int → List UInt8} {nt : Bool → List Nat → Int → List UInt8} {st o : Nat} : ∀ (l : List VT) (ks : List ByteArray),ks.length = l.length → (prK qc nt st o l ks).map (·.1) = ks.zip l ∧ (prK qc nt st o l ks).length = l.length
 | [],[],_ => by unfold prK; exact ⟨rfl,rfl⟩
 | [],s :: ks,hk => by simp at hk
 | v :: r,[],hk => by simp at hk
 | v :: r,s :: ks,hk => by
  have ih:=prK_map (qc:=qc) (nt:=nt) (st:=st) (o:=o) r ks (by simpa using hk)
  unfold prK
  exact ⟨by rw [List.map_cons,show (s :: ks).tail = ks from rfl,ih.1]; rfl,by rw [List.length_cons,List.length_cons,show (s :: ks).tail = ks from rfl,ih.2]⟩
end Go.Proofs.YtkigpbkkhgabeaaGreatDoor
namespace Go.Proofs.YtkigpbkkhgabeaaGreatDoor
open Go.Lib
theorem head_low {c : UInt8} (h : c = 45 ∨ isDg c = true) : isWs c = false ∧ (c == 91) = false ∧ (c == 123) = false ∧ (c == 34) = false ∧ (c == 110) = false ∧ (c == 102) = false ∧ (c == 116) = false ∧ (isDg c || (c == 34 || c == 45 || c == 110 || c == 102 || c == 116)) = true ∧ c ≠ 93 ∧ c ≠ 125:=by
 have key : ∀ x : UInt8,(!(x == 45 || isDg x) || (!isWs x && !(x == 91) && !(x == 123) && !(x == 34) && !(x == 110) && !(x == 102) && !(x == 116) && (isDg x || (x == 34 || x == 45 || x == 110 || x == 102 || x == 116)) && !(x == 93) && !(x == 125))) = true:=fun x => by
  have h1:=List.all_eq_true.1 (show (List.range 256).all (fun n => (fun x : UInt8 => (!(x == 45 || isDg x) || (!isWs x && !(x == 91) && !(x == 123) && !(x == 34) && !(x == 110) && !(x == 102) && !(x == 116) && (isDg x || (x == 34 || x == 45 || x == 110 || x == 102 || x == 116)) && !(x == 93) && !(x == 125)))) n.toUInt8) = true by kernel_rfl) x.toNat (List.mem_range.2 x.toNat_lt)
  rwa [show x.toNat.toUInt8 = x from UInt8.ofNat_toNat] at h1
 have hk:=key c
 have h0 : (c == 45 || isDg c) = true:=by rcases h with rfl | h <;> simp [*]
 rw [h0] at hk
 simp only [Bool.not_true,Bool.false_or,Bool.and_eq_true,Bool.not_eq_true',beq_eq_false_iff_ne] at hk
 obtain ⟨⟨⟨⟨⟨⟨⟨⟨⟨a1,a2⟩,a3⟩,a4⟩,a5⟩,a6⟩,a7⟩,a8⟩,a9⟩,a10⟩:=hk
 exact ⟨a1,by simpa using a2,by simpa using a3,by simpa using a4,by simpa using a5,by simpa using a6,by simpa using a7,a8,a9,a10⟩
theorem prV_head {qc : Int → List UInt8} {nt : Bool → List Nat → Int → List UInt8} (hnt : NtOk nt) {st o : Nat} {x : VT} (hx : Gp x) : ∃ c t,prV qc nt st o x = c :: t ∧ isWs c = false ∧ c ≠ 93 ∧ c ≠ 125:=by
 obtain ⟨h0,hl⟩:=hx.own
 have hf:=alone_fields h0
 cases x with
 | mk k n xs e t l ks =>
  unfold prV
  split
  ·exact ⟨_,_,rfl,by decide,by decide,by decide⟩
  split
  ·exact ⟨_,_,rfl,by decide,by decide,by decide⟩
  split
  ·rename_i h3
   obtain ⟨-,-,-,-,c,t,hc,hd⟩:=hnt (n:=n) (xs:=xs) (e:=e) hl (hf.2.2.1 h3)
   obtain ⟨a1,-,-,-,-,-,-,-,a9,a10⟩:=head_low hd
   exact ⟨c,t,hc,a1,a9,a10⟩
  split
  ·exact ⟨_,_,rfl,by decide,by decide,by decide⟩
  split
  ·exact ⟨_,_,rfl,by decide,by decide,by decide⟩
  split
  ·exact ⟨_,_,rfl,by decide,by decide,by decide⟩
  ·exact ⟨_,_,rfl,by decide,by decide,by decide⟩
theorem key_back {qc : Int → List UInt8} (H : QcOk qc) {s : ByteArray} {n : Nat} (hn : n ≤ 4096) (hT : isT s.data.toList = true) (hs : s.size ≤ 16384) (r : List UInt8) : rKey n (txtL qc s ++ r) 0 = .ok s (txtL qc s).length:=by
 unfold rKey
 rw [rAt_ok (show rPeek (txtL qc s ++ r) 0 = .ok 34 0 from rfl),if_pos (by decide),if_neg (by omega)]
 exact textQ H hT hs r
theorem sp_ws (st : Nat) : ∀ c ∈ (if st = 0 then [] else [32] : List UInt8),isWs c = true:=fun c hc => by
 split at hc
 ·exact absurd hc (by simp)
 ·have : c = 32:=by simpa using hc
  rw [this]; decide
theorem prV_low {qc : Int → List UInt8} {nt : Bool → List Nat → Int → List UInt8} (H : QcOk qc) (hnt : NtOk nt) (st k : Nat) (x : VT) (o nth : Nat) (r : List UInt8) (hx : Gp x) (hnth : nth ≤ 4096) (hr : Apart r) (hho : hold x.kind = false) :
  rValue mkObj k nth (prV qc nt st o x ++ r) 0 = .ok x (prV qc nt st o x).length:=by
 obtain ⟨h0,hl⟩:=hx.own
 have hf:=alone_fields h0
 have hz:=alone_zero h0
 cases x with
 | mk kd ng xs e t l ks =>
  simp only [VT.kind,VT.list,VT.num,VT.neg,VT.exp,VT.text,VT.keys] at hho hf hl hz
  obtain ⟨-,f3,f3',f4,f4',f6,-,-,-,-,f5⟩:=hf
  obtain ⟨⟨z1,z2⟩,-⟩:=hz
  have h5 : kd ≠ 5:=by rintro rfl; exact absurd hho (by decide)
  have h6 : kd ≠ 6:=by rintro rfl; exact absurd hho (by decide)
  have hll : l = []:=f5 (by omega)
  have hkk : ks = []:=f6 h6
  subst hll hkk
  by_cases e3 : kd = 3
  ·subst e3
   have g4:=text_empty (f4 (by decide))
   subst g4
   obtain ⟨n1,n2,n3,n4,c,t,hc,hd⟩:=hnt (n:=ng) (xs:=xs) (e:=e) hl (f3' rfl)
   obtain ⟨-,a2,a3,a4,a5,a6,a7,a8,-,-⟩:=head_low hd
   have hpr : prV qc nt st o (.mk 3 ng xs e ⟨#[]⟩ [] []) = nt ng xs e:=by unfold prV; rfl
   rw [hpr]
   have hb:=number_back (l:=nt ng xs e) (fun c hc => hr c (by rw [← List.head?_eq_getElem?]; exact hc)) n1
   rw [hc,List.cons_append,rv_low hnth a2 a3 a8]
   unfold lowR
   rw [a4,a5,a6,a7]
   simp only [Bool.false_eq_true,if_false]
   rw [← List.cons_append,← hc,hb]
   unfold numV
   rw [n2,n3,n4]
  ·obtain ⟨g1,g2,g3⟩:=f3 e3
   subst g1 g2 g3
   by_cases e4 : kd = 4
   ·subst e4
    have hpr : prV qc nt st o (.mk 4 false [] 0 t [] []) = txtL qc t:=by unfold prV; rfl
    rw [hpr]
    obtain ⟨t1,t2⟩:=f4' rfl
    have hb:=textQ H t1 t2 r
    have hh : txtL qc t ++ r = 34 :: (qL qc ((pcs t.data.toList).map (·.2)) ++ [34] ++ r):=by simp [txtL]
    rw [hh,rv_low hnth (by decide) (by decide) (by decide),← hh]
    unfold lowR
    rw [if_pos (by decide),rAt_ok hb]; rfl
   ·have g4:=text_empty (f4 e4)
    subst g4
    have hk : kd = 0 ∨ kd = 1 ∨ kd = 2:=by omega
    rcases hk with rfl | rfl | rfl
    ·have hpr : prV qc nt st o (.mk 0 false [] 0 ⟨#[]⟩ [] []) = [110,117,108,108]:=by unfold prV; rfl
     rw [hpr]
     show rValue mkObj k nth (110 :: ([117,108,108] ++ r)) 0 = _
     rw [rv_low hnth (by decide) (by decide) (by decide)]
     exact rAt_ok (word_back (w:=[110,117,108,108]) hr)
    ·have hpr : prV qc nt st o (.mk 1 false [] 0 ⟨#[]⟩ [] []) = [102,97,108,115,101]:=by unfold prV; rfl
     rw [hpr]
     show rValue mkObj k nth (102 :: ([97,108,115,101] ++ r)) 0 = _
     rw [rv_low hnth (by decide) (by decide) (by decide)]
     exact rAt_ok (word_back (w:=[102,97,108,115,101]) hr)
    ·have hpr : prV qc nt st o (.mk 2 false [] 0 ⟨#[]⟩ [] []) = [116,114,117,101]:=by unfold prV; rfl
     rw [hpr]
     show rValue mkObj k nth (116 :: ([114,117,101] ++ r)) 0 = _
     rw [rv_low hnth (by decide) (by decide) (by decide)]
     exact rAt_ok (word_back (w:=[116,114,117,101]) hr)
theorem prV_back {qc : Int → List UInt8} {nt : Bool → List Nat → Int → List UInt8} (H : QcOk qc) (hnt : NtOk nt) (st : Nat) : ∀ (k n : Nat) (x : VT) (o nth : Nat) (r : List UInt8),k < n → dpt n x ≤ k → Gp x → (partsV x).length ≤ 16384 → nth ≤ 4096 → Apart r →
  rValue mkObj k nth (prV qc nt st o x ++ r) 0 = .ok x (prV qc nt st o x).length:=by
 intro k
 induction k with
 | zero =>
  intro n x o nth r hkn hd hx hp hnth hr
  have hho : hold x.kind = false:=by
   obtain ⟨m,rfl⟩ : ∃ m,n = m + 1:=⟨n - 1,by omega⟩
   unfold dpt at hd
   cases hh : hold x.kind with
   | false => rfl
   | true => rw [hh] at hd; simp at hd
  exact prV_low H hnt st 0 x o nth r hx hnth hr hho
 | succ k ih =>
  intro n x o nth r hkn hd hx hp hnth hr
  cases hho : hold x.kind with
  | false => exact prV_low H hnt st (k + 1) x o nth r hx hnth hr hho
  | true =>
   obtain ⟨m,rfl⟩ : ∃ m,n = m + 1:=⟨n - 1,by omega⟩
   obtain ⟨h0,hl⟩:=hx.own
   have hf:=alone_fields h0
   have hdz : ∀ z ∈ x.list,dpt m z ≤ k:=fun z hz => by
    unfold dpt at hd
    rw [if_pos hho] at hd
    have h1 : dpt m z ≤ mxL (x.list.map (dpt m)):=by
     have key : ∀ l : List Nat,∀ a ∈ l,a ≤ mxL l:=fun l => by
      induction l with
      | nil => intro a h; exact absurd h (by simp)
      | cons b r ihh =>
       intro a h
       simp only [mxL]
       rcases List.mem_cons.1 h with rfl | h
       ·omega
       ·have:=ihh a h; omega
     exact key _ _ (List.mem_map.2 ⟨z,hz,rfl⟩)
    omega
   have hin : x.inner = x.list:=hf.1.symm
   have hsub : ∀ z ∈ x.list,Gp z ∧ (partsV z).length ≤ 16384:=fun z hz => ⟨hx.sub (hin ▸ hz),Nat.le_trans (parts_sub (hin ▸ hz)) hp⟩
   have hseen:=Nat.le_trans (seen_le x) hp
   cases x with
   | mk kd ng xs e t l ks =>
    simp only [VT.kind,VT.list,VT.num,VT.neg,VT.exp,VT.text,VT.keys] at hho hf hdz hsub
    obtain ⟨-,f3,-,f4,-,f6,f6',ftx,fl,fk,-⟩:=hf
    have hkd : kd = 5 ∨ kd = 6:=by unfold hold at hho; simpa using hho
    have hl5 : ∀ c ∈ (if l.isEmpty then [] else lineL st (o + 1)),isWs c = true:=fun c hc => by
     split at hc
     ·exact absurd hc (by simp)
     ·exact lineL_ws _ _ c hc
    rcases hkd with rfl | rfl
    ·obtain ⟨g1,g2,g3⟩:=f3 (by decide)
     have g4:=text_empty (f4 (by decide))
     have g5:=f6 (by decide)
     subst g1 g2 g3 g4 g5
     have hpr : prV qc nt st o (.mk 5 false [] 0 ⟨#[]⟩ l []) = [91] ++ ((if l.isEmpty then [] else lineL st (o + 1)) ++ itT st o 93 true (prI qc nt st o l)):=by
      unfold prV; rfl
     rw [hpr]
     have hmap:=prI_map (qc:=qc) (nt:=nt) (st:=st) (o:=o) l
     have hit:=items_back (en:=93) (item:=rValue mkObj k) (fun nth => Shift.value mkObj k nth) st o (by decide) (by decide) (by decide) (prI qc nt st o l) fuelR 1 r (by rw [hmap.2]; unfold fuelR; omega) (Nat.le_refl _)
      (fun i x hi r' hr' => by
       obtain ⟨h1,h2⟩:=prI_get l i x hi
       have hz:=List.mem_of_getElem? h1
       rw [h2]
       have hil : i < l.length:=(List.getElem?_eq_some_iff.1 h1).1
       exact ih m x.1 (o + 1) (1 + i) r' (by omega) (hdz _ hz) (hsub _ hz).1 (hsub _ hz).2 (by omega) hr')
      (fun x hx => by
       obtain ⟨i,hi⟩:=List.mem_iff_getElem?.1 hx
       obtain ⟨h1,h2⟩:=prI_get l i x hi
       obtain ⟨c,t,hc,hw,hn,-⟩:=prV_head (qc:=qc) hnt (st:=st) (o:=o + 1) (hsub _ (List.mem_of_getElem? h1)).1
       exact ⟨c,t,by rw [h2,hc],hw,hn⟩)
     rw [show decide ((1 : Nat) = 1) = true from rfl,hmap.1] at hit
     have hst : ∀ c,(itT st o 93 true (prI qc nt st o l) ++ r)[0]? = some c → isWs c = false:=fun c hc => by
      cases l with
      | nil =>
       have : (93 : UInt8) = c:=by simpa [prI,itT] using hc
       rw [← this]; decide
      | cons v l =>
       obtain ⟨d,t,hd2,hw,-⟩:=prV_head (qc:=qc) hnt (st:=st) (o:=o + 1) (hsub v (by simp)).1
       have : d = c:=by simpa [prI,itT,hd2] using hc
       rw [← this]; exact hw
     have hall:=rAt_chain (w:=if l.isEmpty then [] else lineL st (o + 1)) (w2:=itT st o 93 true (prI qc nt st o l)) (r:=r) (F:=rSkips isWs) (G:=fun _ => rItemsF 93 (rValue mkObj k) fuelR 1) (a:=()) (b:=l) (Shift.itemsF (fun nth => Shift.value mkObj k nth) fuelR 1) (skips_ws hl5 hst) hit
     obtain ⟨T,hT⟩ : ∃ T,(if l.isEmpty then [] else lineL st (o + 1)) ++ itT st o 93 true (prI qc nt st o l) = T:=⟨_,rfl⟩
     rw [hT] at hall ⊢
     show rValue mkObj (k + 1) nth (91 :: (T ++ r)) 0 = .ok _ (T.length + 1)
     unfold rValue
     rw [rAt_ok (begin_br hnth (by decide)),rAt_ok (show rPeek (91 :: (T ++ r)) 0 = .ok 91 0 from rfl)]
     have hsh : (rAt (rSkips isWs) fun _ => rItemsF 93 (rValue mkObj k) fuelR 1) (91 :: (T ++ r)) (0 + 1) = .ok l (1 + T.length):=by
      have h:=(Shift.at (G:=fun _ _ => rItemsF 93 (rValue mkObj k) fuelR 1) (Shift.skips isWs) fun _ => Shift.itemsF (fun nth => Shift.value mkObj k nth) fuelR 1) 0 [91] (T ++ r) 0
      simp only [] at h
      rw [hall] at h
      exact h
     show (rItems 93 (rValue mkObj k) (91 :: (T ++ r)) 0).bind _ = _
     unfold rItems
     rw [hsh]
     simp only [RR.bind]
     unfold rHeld
     rw [if_neg (by omega),Nat.add_comm]
    ·obtain ⟨g1,g2,g3⟩:=f3 (by decide)
     have g4:=text_empty (f4 (by decide))
     obtain ⟨f6a,f6b⟩:=f6' rfl
     subst g1 g2 g3 g4
     have hpr : prV qc nt st o (.mk 6 false [] 0 ⟨#[]⟩ l ks) = [123] ++ ((if l.isEmpty then [] else lineL st (o + 1)) ++ itT st o 125 true (prK qc nt st o l ks)):=by
      unfold prV; rfl
     rw [hpr]
     have hmap:=prK_map (qc:=qc) (nt:=nt) (st:=st) (o:=o) l ks f6a
     have hsp : ∀ n,Shift (fun _ => rAt (rKey n) fun key => rAt (rSkips isWs) fun _ => rAt (rNeed (· == 58)) fun _ => rAt (rSkips isWs) fun _ => rAt (rValue mkObj k n) fun v => rPure (key,v)):=fun n =>
      Shift.at (G:=fun _ key => rAt (rSkips isWs) fun _ => rAt (rNeed (· == 58)) fun _ => rAt (rSkips isWs) fun _ => rAt (rValue mkObj k n) fun v => rPure (key,v)) (Shift.key n) fun key =>
      Shift.at (G:=fun _ _ => rAt (rNeed (· == 58)) fun _ => rAt (rSkips isWs) fun _ => rAt (rValue mkObj k n) fun v => rPure (key,v)) (Shift.skips isWs) fun _ =>
      Shift.at (G:=fun _ _ => rAt (rSkips isWs) fun _ => rAt (rValue mkObj k n) fun v => rPure (key,v)) (Shift.need _) fun _ =>
      Shift.at (G:=fun _ _ => rAt (rValue mkObj k n) fun v => rPure (key,v)) (Shift.skips isWs) fun _ =>
      Shift.at (G:=fun _ v => rPure (key,v)) (Shift.value mkObj k n) fun v => Shift.pure (key,v)
     have hit:=items_back (en:=125) (item:=fun n => rAt (rKey n) fun key => rAt (rSkips isWs) fun _ => rAt (rNeed (· == 58)) fun _ => rAt (rSkips isWs) fun _ => rAt (rValue mkObj k n) fun v => rPure (key,v)) hsp st o (by decide) (by decide) (by decide) (prK qc nt st o l ks) fuelR 1 r (by rw [hmap.2]; unfold fuelR; omega) (Nat.le_refl _)
      (fun i x hi r' hr' => by
       obtain ⟨h1,h1k,h2⟩:=prK_get l ks i x f6a hi
       have hz:=List.mem_of_getElem? h1
       have hkt:=ftx _ (List.mem_of_getElem? h1k)
       have hil : i < l.length:=(List.getElem?_eq_some_iff.1 h1).1
       rw [h2]
       have hv:=ih m x.1.2 (o + 1) (1 + i) r' (by omega) (hdz _ hz) (hsub _ hz).1 (hsub _ hz).2 (by omega) hr'
       obtain ⟨c,t,hc,hw,-⟩:=prV_head (qc:=qc) hnt (st:=st) (o:=o + 1) (hsub _ hz).1
       have e4 : (rAt (rSkips isWs) fun _ => rAt (rValue mkObj k (1 + i)) fun v => rPure (x.1.1,v)) (((if st = 0 then [] else [32]) ++ prV qc nt st (o + 1) x.1.2) ++ r') 0 = .ok x.1 ((if st = 0 then [] else [32]) ++ prV qc nt st (o + 1) x.1.2).length:=by
        refine rAt_chain (F:=rSkips isWs) (G:=fun _ => rAt (rValue mkObj k (1 + i)) fun v => rPure (x.1.1,v)) (a:=()) (Shift.at (G:=fun _ v => rPure (x.1.1,v)) (Shift.value mkObj k (1 + i)) fun v => Shift.pure (x.1.1,v)) (skips_ws (sp_ws st) (fun d hd => (show c = d by rw [hc] at hd; simpa using hd) ▸ hw)) ?_
        have:=rAt_chain (F:=rValue mkObj k (1 + i)) (G:=fun v => rPure (x.1.1,v)) (w:=prV qc nt st (o + 1) x.1.2) (w2:=[]) (r:=r') (a:=x.1.2) (b:=x.1) (Shift.pure (x.1.1,x.1.2)) (by simpa using hv) rfl
        simpa using this
       have e3 : (rAt (rNeed (· == 58)) fun _ => rAt (rSkips isWs) fun _ => rAt (rValue mkObj k (1 + i)) fun v => rPure (x.1.1,v)) (([58] ++ ((if st = 0 then [] else [32]) ++ prV qc nt st (o + 1) x.1.2)) ++ r') 0 = .ok x.1 ([58] ++ ((if st = 0 then [] else [32]) ++ prV qc nt st (o + 1) x.1.2)).length :=
        rAt_chain (F:=rNeed (· == 58)) (G:=fun _ => rAt (rSkips isWs) fun _ => rAt (rValue mkObj k (1 + i)) fun v => rPure (x.1.1,v)) (w:=[58]) (a:=())
         (Shift.at (G:=fun _ _ => rAt (rValue mkObj k (1 + i)) fun v => rPure (x.1.1,v)) (Shift.skips isWs) fun _ => Shift.at (G:=fun _ v => rPure (x.1.1,v)) (Shift.value mkObj k (1 + i)) fun v => Shift.pure (x.1.1,v)) (need_one (by decide)) e4
       have e2:=rAt_chain (F:=rSkips isWs) (G:=fun _ => rAt (rNeed (· == 58)) fun _ => rAt (rSkips isWs) fun _ => rAt (rValue mkObj k (1 + i)) fun v => rPure (x.1.1,v)) (w:=[]) (w2:=[58] ++ ((if st = 0 then [] else [32]) ++ prV qc nt st (o + 1) x.1.2)) (r:=r') (a:=()) (b:=x.1)
        (Shift.at (G:=fun _ _ => rAt (rSkips isWs) fun _ => rAt (rValue mkObj k (1 + i)) fun v => rPure (x.1.1,v)) (Shift.need _) fun _ => Shift.at (G:=fun _ _ => rAt (rValue mkObj k (1 + i)) fun v => rPure (x.1.1,v)) (Shift.skips isWs) fun _ => Shift.at (G:=fun _ v => rPure (x.1.1,v)) (Shift.value mkObj k (1 + i)) fun v => Shift.pure (x.1.1,v)) (skips_ws (w:=[]) (fun d hd => absurd hd (by simp)) (fun d hd => (show (58 : UInt8) = d by rw [List.append_assoc,List.singleton_append,List.getElem?_cons_zero] at hd; injection hd) ▸ (by decide))) e3
       exact rAt_chain (F:=rKey (1 + i)) (G:=fun key => rAt (rSkips isWs) fun _ => rAt (rNeed (· == 58)) fun _ => rAt (rSkips isWs) fun _ => rAt (rValue mkObj k (1 + i)) fun v => rPure (key,v)) (a:=x.1.1)
        (Shift.at (G:=fun _ _ => rAt (rNeed (· == 58)) fun _ => rAt (rSkips isWs) fun _ => rAt (rValue mkObj k (1 + i)) fun v => rPure (x.1.1,v)) (Shift.skips isWs) fun _ => Shift.at (G:=fun _ _ => rAt (rSkips isWs) fun _ => rAt (rValue mkObj k (1 + i)) fun v => rPure (x.1.1,v)) (Shift.need _) fun _ => Shift.at (G:=fun _ _ => rAt (rValue mkObj k (1 + i)) fun v => rPure (x.1.1,v)) (Shift.skips isWs) fun _ => Shift.at (G:=fun _ v => rPure (x.1.1,v)) (Shift.value mkObj k (1 + i)) fun v => Shift.pure (x.1.1,v))
        (key_back H (by omega) hkt.1 hkt.2 _) e2)
      (fun x hx => by
       obtain ⟨i,hi⟩:=List.mem_iff_getElem?.1 hx
       obtain ⟨h1,h1k,h2⟩:=prK_get l ks i x f6a hi
       exact ⟨34,_,by rw [h2]; rfl,by decide,by decide⟩)
     rw [show decide ((1 : Nat) = 1) = true from rfl,hmap.1] at hit
     have hst : ∀ c,(itT st o 125 true (prK qc nt st o l ks) ++ r)[0]? = some c → isWs c = false:=fun c hc => by
      cases l with
      | nil =>
       have : (125 : UInt8) = c:=by simpa [prK,itT] using hc
       rw [← this]; decide
      | cons v l =>
       have : (34 : UInt8) = c:=by simpa [prK,itT,txtL] using hc
       rw [← this]; decide
     have hall:=rAt_chain (w:=if l.isEmpty then [] else lineL st (o + 1)) (w2:=itT st o 125 true (prK qc nt st o l ks)) (r:=r) (F:=rSkips isWs) (G:=fun _ => rItemsF 125 (fun n => rAt (rKey n) fun key => rAt (rSkips isWs) fun _ => rAt (rNeed (· == 58)) fun _ => rAt (rSkips isWs) fun _ => rAt (rValue mkObj k n) fun v => rPure (key,v)) fuelR 1) (a:=()) (b:=ks.zip l) (Shift.itemsF hsp fuelR 1) (skips_ws hl5 hst) hit
     obtain ⟨T,hT⟩ : ∃ T,(if l.isEmpty then [] else lineL st (o + 1)) ++ itT st o 125 true (prK qc nt st o l ks) = T:=⟨_,rfl⟩
     rw [hT] at hall ⊢
     show rValue mkObj (k + 1) nth (123 :: (T ++ r)) 0 = .ok _ (T.length + 1)
     unfold rValue
     rw [rAt_ok (begin_br hnth (by decide)),rAt_ok (show rPeek (123 :: (T ++ r)) 0 = .ok 123 0 from rfl)]
     have hsh : (rAt (rSkips isWs) fun _ => rItemsF 125 (fun n => rAt (rKey n) fun key => rAt (rSkips isWs) fun _ => rAt (rNeed (· == 58)) fun _ => rAt (rSkips isWs) fun _ => rAt (rValue mkObj k n) fun v => rPure (key,v)) fuelR 1) (123 :: (T ++ r)) (0 + 1) = .ok (ks.zip l) (1 + T.length):=by
      have h:=(Shift.at (G:=fun _ _ => rItemsF 125 (fun n => rAt (rKey n) fun key => rAt (rSkips isWs) fun _ => rAt (rNeed (· == 58)) fun _ => rAt (rSkips isWs) fun _ => rAt (rValue mkObj k n) fun v => rPure (key,v)) fuelR 1) (Shift.skips isWs) fun _ => Shift.itemsF hsp fuelR 1) 0 [123] (T ++ r) 0
      simp only [] at h
      rw [hall] at h
      exact h
     show (rItems 125 _ (123 :: (T ++ r)) 0).bind _ = _
     unfold rItems
     rw [hsh]
     simp only [RR.bind]
     unfold rHeld
     rw [mkObj_zip f6b f6a]
     rw [if_neg (by omega),Nat.add_comm]
end Go.Proofs.YtkigpbkkhgabeaaGreatDoor
namespace Go.Proofs.YtkigpbkkhgabeaaGreatDoor
open Go.Lib
def dg4 (n : Nat) : List Nat:=[n / 4096,n / 256 % 16,n / 16 % 16,n % 16]
def codedL (n : Nat) : List UInt8:=92 :: 117 :: (dg4 n).map hxD
def quoteA (c : Int) : List UInt8 :=
 if c < 128 then quoteC c else if c < 65536 then codedL c.toNat else codedL (55296 + (c.toNat - 65536) / 1024) ++ codedL (56320 + (c.toNat - 65536) % 1024)
end Go.Proofs.YtkigpbkkhgabeaaGreatDoor
namespace Go.Proofs.YtkigpbkkhgabeaaGreatDoor
open Go.Lib
theorem enc_low {c : Int} (h0 : 0 ≤ c) (h1 : c < 128) : encodeRune c = [c.toNat.toUInt8]:=by
 unfold encodeRune
 rw [encodeRuneZ_one h0 (by omega)]; rfl
theorem u8_of {x : Int} (h0 : 0 ≤ x) (h1 : x ≤ 255) : (x.toNat.toUInt8).toNat = x.toNat:=by
 show x.toNat % 256 = x.toNat
 omega
end Go.Proofs.YtkigpbkkhgabeaaGreatDoor
namespace Go.Proofs.YtkigpbkkhgabeaaGreatDoor
open Go.Lib
def NumC (a : Nat) : Prop:=a = 43 ∨ a = 45 ∨ a = 46 ∨ a = 101 ∨ (48 ≤ a ∧ a ≤ 57)
theorem numC_digits {s : List Nat} (h : allDig s = true) : ∀ a ∈ s,NumC a:=fun a ha => by
 have h1:=List.all_eq_true.1 h a ha
 unfold isDig at h1
 have:=of_decide_eq_true h1
 exact .inr (.inr (.inr (.inr this)))
theorem itoO_numC (z : Int) : ∀ a ∈ itoO z,NumC a:=by
 unfold itoO Lib.itoa
 split
 ·intro a ha
  rw [List.map_cons] at ha
  rcases List.mem_cons.1 ha with rfl | ha
  ·exact .inr (.inl rfl)
  ·exact numC_digits (decD _).1 a ha
 ·exact numC_digits (decD _).1
theorem app_numC {s t : List Nat} (h : ∀ a ∈ s,NumC a) (k : ∀ a ∈ t,NumC a) : ∀ a ∈ s ++ t,NumC a:=fun a ha => (List.mem_append.1 ha).elim (h a) (k a)
theorem cons_numC {c : Nat} {t : List Nat} (h : NumC c) (k : ∀ a ∈ t,NumC a) : ∀ a ∈ c :: t,NumC a:=fun a ha => (List.mem_cons.1 ha).elim (fun e => e ▸ h) (k a)
theorem nil_numC : ∀ a ∈ ([] : List Nat),NumC a:=fun a ha => absurd ha (by simp)
theorem zeros_numC (n : Nat) : ∀ a ∈ List.replicate n 48,NumC a:=fun a ha => by
 rw [(List.mem_replicate.1 ha).2]; exact .inr (.inr (.inr (.inr (by omega))))
theorem prt_numC (neg : Bool) (v : Nat) (e : Int) : ∀ a ∈ prt neg v e,NumC a:=by
 have hd:=numC_digits (numO_dig v).1
 have c43 : NumC 43:=.inl rfl
 have c45 : NumC 45:=.inr (.inl rfl)
 have c46 : NumC 46:=.inr (.inr (.inl rfl))
 have c101 : NumC 101:=.inr (.inr (.inr (.inl rfl)))
 have c48 : NumC 48:=.inr (.inr (.inr (.inr (by omega))))
 have ht : ∀ n,∀ a ∈ (numO v).take n,NumC a:=fun n a ha => hd a (List.mem_of_mem_take ha)
 have hr : ∀ n,∀ a ∈ (numO v).drop n,NumC a:=fun n a ha => hd a (List.mem_of_mem_drop ha)
 unfold prt prtAt
 refine app_numC ?_ ?_
 ·split
  ·exact cons_numC c45 nil_numC
  ·exact nil_numC
 split
 ·unfold plainT
  split
  ·exact app_numC (cons_numC c48 (cons_numC c46 nil_numC)) (app_numC (zeros_numC _) hd)
  split
  ·exact app_numC (ht _) (cons_numC c46 (hr _))
  ·exact app_numC hd (zeros_numC _)
 ·unfold powT
  refine app_numC (app_numC (ht _) ?_) ?_
  ·split
   ·exact cons_numC c46 (hr _)
   ·exact nil_numC
  ·split
   ·exact cons_numC c101 (cons_numC c45 (itoO_numC _))
   ·exact cons_numC c101 (cons_numC c43 (itoO_numC _))
def numP (n : Bool) (xs : List Nat) (e : Int) : List UInt8:=(prt n (val xs) e).map Nat.toUInt8
theorem numC_u8 {a : Nat} (h : NumC a) : (Nat.toUInt8 a).toNat = a:=by
 show a % 256 = a
 unfold NumC at h; omega
theorem numP_nat (n : Bool) (xs : List Nat) (e : Int) : (numP n xs e).map (·.toNat) = prt n (val xs) e:=by
 unfold numP
 rw [List.map_map]
 conv => rhs; rw [← List.map_id (prt n (val xs) e)]
 exact List.map_congr_left fun a ha => numC_u8 (prt_numC n (val xs) e a ha)
theorem form_head {s : List Nat} (h : fE s = 0) : ∃ a t,s = a :: t ∧ (a = 45 ∨ isDig a = true):=by
 have hf : form s = some s.length:=by
  unfold fE at h
  split at h
  ·rename_i hg; exact hg.1
  ·split at h <;> omega
 cases s with
 | nil =>
  exfalso
  unfold form fWhole fSgn at hf
  first | (rw [if_neg (by decide),if_neg (by decide)] at hf; cases hf) | (rw [if_neg (by decide)] at hf; cases hf) | cases hf
 | cons a t =>
  refine ⟨a,t,rfl,?_⟩
  by_cases h1 : a = 45
  ·exact .inl h1
  ·right
   unfold form fSgn at hf
   have h2 : ¬ nth (a :: t) 0 = 45:=h1
   rw [if_neg h2] at hf
   unfold fWhole at hf
   by_cases h3 : isDig (nth (a :: t) 0) = true
   ·exact h3
   ·rw [if_neg h3] at hf; cases hf
theorem numP_ok (hlen : ∀ {n xs e},L32 xs → okB n xs e = true → (prt n (val xs) e).length ≤ 2000) : NtOk numP:=fun {n xs e} hx hok => by
 obtain ⟨h1,h2,h3,h4⟩:=prt_back hx hok (hlen hx hok)
 rw [numP_nat]
 refine ⟨h1,h2,h3,h4,?_⟩
 obtain ⟨a,t,ha,hc⟩:=form_head h1
 refine ⟨Nat.toUInt8 a,t.map Nat.toUInt8,by unfold numP; rw [ha]; rfl,?_⟩
 have hn:=numC_u8 (prt_numC n (val xs) e a (by rw [ha]; simp))
 rcases hc with rfl | hc
 ·exact .inl rfl
 ·right
  unfold isDig at hc
  have hc:=of_decide_eq_true hc
  unfold isDg
  rw [Bool.and_eq_true,decide_eq_true_eq,decide_eq_true_eq]
  constructor
  ·show (48 : UInt8).toNat ≤ (Nat.toUInt8 a).toNat
   rw [hn]; exact hc.1
  ·show (Nat.toUInt8 a).toNat ≤ (57 : UInt8).toNat
   rw [hn]; exact hc.2
end Go.Proofs.YtkigpbkkhgabeaaGreatDoor
