import Derived.Test.YtkigpbkkhgabeaaGreatDoorYWwr
import Derived.Shelf.Strings.BuilderF
import Derived.Laws.Concat
set_option linter.unusedVariables false
set_option linter.unusedSimpArgs false
namespace Go.Proofs.YtkigpbkkhgabeaaGreatDoor
open Go.RowKit Go.Lib
theorem Gl.up {B C : Nat} {w : World} (h : Gl B w) (hc : B ≤ C) : Gl C w:=⟨h.tabs,h.ten,h.deb,Nat.lt_of_lt_of_le h.lt.1 hc,Nat.lt_of_lt_of_le h.lt.2.1 hc,Nat.lt_of_lt_of_le h.lt.2.2.1 hc,Nat.lt_of_lt_of_le h.lt.2.2.2 hc⟩
theorem numP_ok2 : NtOk numP:=numP_ok fun hx hok => by have:=prt_len hx hok; omega
theorem prV_ne {qc : Int → List UInt8} {st o : Nat} {x : VT} (hx : Gp x) : prV qc numP st o x ≠ []:=by
 obtain ⟨c,t,h,-⟩:=prV_head (qc:=qc) (st:=st) (o:=o) numP_ok2 hx
 rw [h]; exact List.cons_ne_nil _ _
set_option maxRecDepth 100000 in
set_option maxHeartbeats 2000000 in
theorem ind1_c {F : Value} {qc : Int → List UInt8} (hM : Md F qc) {B st : Nat} {S : Nat → Prop} {x : VT} {cs : List Value} (hS : ∀ b,S b → b < B) (hst : st ≤ 8) (hx : Gp x) (hd : dpt 1000 x ≤ 64) (bp pb : Nat) (w : World) (hP : Pg B pb [] 1048576 st 0 F w) (hG : Gl B w) (hB : B ≤ w.heap.size)
  (hv : VIn w S x cs) (hbox : w.heap[bp]? = some (.cells cs.toArray 28)) : Calls Tryz.prog 25 #[pgP pb,.pointer (some ⟨bp,0,none⟩)] w (Wr B pb [] 1048576 st 0 F w (prV qc numP st 0 x)):=by
 have hc:=pvalue_c (st:=st) hM hS hst 64 1000 x cs [] 1048576 0 w (by omega) hd hx (by omega) hP hG hB hv (by simp)
 obtain ⟨R,hR⟩ : ∃ R,Wr B pb [] 1048576 st 0 F w (prV qc numP st 0 x) = R:=⟨_,rfl⟩
 have hRr : ∀ v w',R (.returned v) w' → v = .tuple #[]:=by
  rintro v w' h
  rw [← hR] at h
  rcases h with ⟨-,h,-⟩ | ⟨-,h,-⟩
  ·injection h
  ·cases h
 have hRo : ∀ w',¬ R .outgrown w':=by
  rintro w' h
  rw [← hR] at h
  rcases h with ⟨-,h,-⟩ | ⟨-,h,-⟩ <;> cases h
 rw [hR] at hc ⊢
 obtain ⟨k,neg,A,n,c,e,t,LA,ln,lc,KA,kn,kc,rfl,-,-⟩:=hv.seven
 obtain ⟨y0,y1,y2,y3,y4,y5,y6⟩:=box7_of hbox
 have HC:=Lib.hid hc
 have HR:=Lib.hid hRr
 have HRO:=Lib.hid hRo
 clear hc hv hR hbox hP hG hRr hRo hx
 go_enter Tryz.func25,Tryz.ntmps25
 go_wp2_with fail
 refine HC.out.mono ?_
 rintro e9 w9 hr
 cases e9 with
 | returned v =>
  have hv:=HR.out _ _ hr
  subst hv
  go_wp2_with fail
  first | go_end0 | refine bodyPost_ret (results_none rfl _ _ _) rfl ?_
  exact hr
 | panicked ch => exact ⟨rfl,hr⟩
 | outgrown =>
  exact absurd hr (HRO.out _)
def IndE (x : VT) (n : Int) (e : Ending) : Prop :=
 if errV x ≠ 0 then e = .returned (.tuple #[.string ⟨#[]⟩,.int .i64 ((errV x : Nat) : Int)])
 else if n < 0 ∨ 8 < n then e = .returned (.tuple #[.string ⟨#[]⟩,.int .i64 4])
 else WrE (prV quoteC numP n.toNat 0 x) 1048576 e
set_option maxRecDepth 100000 in
set_option maxHeartbeats 4000000 in
theorem indent_c {S : Nat → Prop} {x : VT} {cs : List Value} (n : Int) (w : World) (hG : Gl w.heap.size w) (hx : VIn w S x cs) (hS : ∀ b,S b → b < w.heap.size) :
  Calls Tryz.prog 10 #[.agg cs.toArray,.int .i64 n] w fun e w' => IndE x n e ∧ Below w.heap.size w w':=by
 have hmf : ∀ (fn : Fn) (first cap : Array Value) (w : World),(Instr.makeFunc fn first cap).run Tryz.prog w = .ok (.func fn first cap) w:=fun _ _ _ _ => rfl
 obtain ⟨k,neg,A,nn,c,e,t,LA,ln,lc,KA,kn,kc,rfl,-,-⟩:=hx.seven
 obtain ⟨bp,hbp⟩ : ∃ b,w.heap.size = b:=⟨_,rfl⟩
 have hb : Below w.heap.size w (w.alloc (.cells #[.int .i64 k,.bool neg,.slice A nn c,.int .i64 e,.string t,.slice LA ln lc,.slice KA kn kc] 28)):=(Below.refl _ w).alloc (Nat.le_refl _) _
 have hm:=World.alloc_heap_new w (.cells #[.int .i64 k,.bool neg,.slice A nn c,.int .i64 e,.string t,.slice LA ln lc,.slice KA kn kc] 28)
 have hsz : (w.alloc (.cells #[.int .i64 k,.bool neg,.slice A nn c,.int .i64 e,.string t,.slice LA ln lc,.slice KA kn kc] 28)).heap.size = bp + 1:=by rw [World.size_alloc,hbp]
 have hG1:=hG.low hb
 have hx1:=hx.keep (w':=(w.alloc (.cells #[.int .i64 k,.bool neg,.slice A nn c,.int .i64 e,.string t,.slice LA ln lc,.slice KA kn kc] 28))) fun p hp => hb.cell (p:=p) (hS _ hp)
 have hl:=hx.l32
 rw [hbp] at hm hb hG1 hS ⊢
 obtain ⟨y0,y1,y2,y3,y4,y5,y6⟩:=box7_of hm
 have HG:=Lib.hid hG1
 have HX:=Lib.hid hx1
 have HB:=Lib.hid hb
 have HM:=Lib.hid hm
 have HL:=Lib.hid hl
 have HS:=Lib.hid hS
 have HBP:=Lib.hid hbp
 clear hG hx hG1 hx1 hb hm hS hl
 go_enter Tryz.func10,Tryz.ntmps10
 go_wp2_with fail
 try rw [hbp]
 clear y0 y1 y2 y3 y4 y5 y6 hbp
 generalize (w.alloc (.cells #[.int .i64 k,.bool neg,.slice A nn c,.int .i64 e,.string t,.slice LA ln lc,.slice KA kn kc] 28)) = w1 at *
 refine (VCheck_c w1 HG.out.tabs HX.out (fun b h => by have:=HS.out b h; omega)).mono ?_
 rintro e9 w2 ⟨rfl,hb2⟩
 rw [hsz] at hb2
 obtain ⟨r,hr⟩ : ∃ r,errV x = r:=⟨_,rfl⟩
 rw [hr]
 have hB2 : Below bp w w2:=HB.out.trans (hb2.mono (by omega))
 have hl2 : bp + 1 ≤ w2.heap.size:=by have:=hb2.size; omega
 have HB2:=Lib.hid hB2
 have HR:=Lib.hid hr
 have HW2:=Lib.hid hb2
 clear hB2 hb2 hr
 rcases Nat.eq_zero_or_pos r with h0 | h0
 case inr =>
  have hne : (r : Int) ≠ 0:=by omega
  go_wp2_with fail
  go_ret2
  refine ⟨?_,HB2.out⟩
  unfold IndE
  rw [HR.out,if_pos (by omega)]
  rfl
 subst h0
 by_cases hn : n < 0
 ·go_wp2_with fail
  go_ret2
  refine ⟨?_,HB2.out⟩
  unfold IndE
  rw [HR.out,if_neg (by omega),if_pos (.inl hn)]
  rfl
 by_cases hn8 : 8 < n
 ·go_wp2_with fail
  go_ret2
  refine ⟨?_,HB2.out⟩
  unfold IndE
  rw [HR.out,if_neg (by omega),if_pos (.inr hn8)]
  rfl
 obtain ⟨m,rfl⟩ : ∃ m : Nat,n = (m : Int):=⟨n.toNat,by omega⟩
 have hbx:=(HW2.out.block bp (by omega)).trans HM.out
 have hx2:=HX.out.keep (w':=w2) fun p hp => HW2.out.cell (p:=p) (by have:=HS.out _ hp; omega)
 have hg2 : Gl w2.heap.size w2:=((HG.out.up (C:=bp + 1) (by omega)).low HW2.out).up (by omega)
 obtain ⟨g1,g2,g3⟩:=okV_gp (x:=x) HR.out HL.out
 have hwc:=written_c (F:=plainF) (room:=1048576) (st:=m) (out:=prV quoteC numP m 0 x) (fn:=25) (cp:=.pointer (some ⟨bp,0,none⟩)) w2 (by omega) (prV_ne g1) (fun ar W => by kernel_rfl)
  (fun w' hP hb => ind1_c (.inl ⟨rfl,rfl⟩) (B:=w2.heap.size) (S:=S) (fun b hb => by have:=HS.out b hb; omega) (by omega) g1 g3 bp _ w' hP (hg2.low (hb.below (Nat.le_refl _) fun _ _ h => h)) hb.size (hx2.keep fun p hp => (hb.below (Nat.le_refl _) fun _ _ h => h).cell (by have:=HS.out _ hp; omega)) ((hb.block bp (by omega) (fun h => h)).trans hbx))
 obtain ⟨out,hout⟩ : ∃ out,prV quoteC numP m 0 x = out:=⟨_,rfl⟩
 rw [hout] at hwc
 have HOUT:=Lib.hid hout
 have HWC:=Lib.hid hwc
 clear hwc hout g1 g2 g3 hg2 hx2 hbx
 go_wp2_with fail
 refine HWC.out.mono ?_
 rintro e9 w3 ⟨he,hb3⟩
 have hB3:=HB2.out.trans (hb3.mono (by omega))
 rcases he with ⟨hl,rfl⟩ | ⟨hl,rfl⟩
 all_goals
  have HB3:=Lib.hid hB3
  clear hB3 hb3
  go_wp2_with fail
  go_ret2
  refine ⟨?_,HB3.out⟩
  unfold IndE
  rw [HR.out,if_neg (by omega),if_neg (by omega),Int.toNat_natCast,HOUT.out]
  unfold WrE
  simp [hl]
end Go.Proofs.YtkigpbkkhgabeaaGreatDoor
namespace Go.Proofs.YtkigpbkkhgabeaaGreatDoor
open Go.RowKit Go.Lib
theorem linesW_drop {st : Nat} {xs : List VT} {i : Nat} {x : VT} (h : xs[i]? = some x) : linesT quoteC numP st (xs.drop i) = prV quoteC numP st 0 x ++ ([10] ++ linesT quoteC numP st (xs.drop (i + 1))):=by
 obtain ⟨hi,rfl⟩:=List.getElem?_eq_some_iff.1 h
 rw [List.drop_eq_getElem_cons hi]
 simp only [linesT,List.flatMap_cons,List.append_assoc]
theorem linesW_take {st : Nat} {xs : List VT} {i : Nat} {x : VT} (h : xs[i]? = some x) : linesT quoteC numP st (xs.take (i + 1)) = linesT quoteC numP st (xs.take i) ++ (prV quoteC numP st 0 x ++ [10]):=by
 rw [List.take_add_one,h]; simp [linesT]
def AtW (L : List UInt8) (st : Nat) (xs : List VT) (i p : Nat) : Prop:=∃ d g : List UInt8,L = d ++ (g ++ linesT quoteC numP st (xs.drop i)) ∧ (∀ c ∈ g,isWs c = true) ∧ d.length = p
theorem AtW.start (st : Nat) (xs : List VT) : AtW (linesT quoteC numP st xs) st xs 0 0:=⟨[],[],rfl,by simp,rfl⟩
theorem AtW.le {L : List UInt8} {st : Nat} {xs : List VT} {i p : Nat} (h : AtW L st xs i p) : p ≤ L.length:=by
 obtain ⟨d,g,rfl,-,rfl⟩:=h
 rw [List.length_append]; omega
theorem AtW.next {L : List UInt8} {st : Nat} {xs : List VT} {i p : Nat} {x : VT} (h : AtW L st xs i p) (hx : xs[i]? = some x) (ho : okV x) (hl : ∀ y ∈ partsV x,L32 y.num) :
  ∃ P q,p + ((L.drop p).takeWhile isWs).length = P ∧ P < L.length ∧ rValue mkObj 64 1 L P = .ok x q ∧ AtW L st xs (i + 1) q:=by
 obtain ⟨d,g,hL,hg,rfl⟩:=h
 rw [linesW_drop hx] at hL
 have hn:=rNext_printed Qc_plain numP_ok2 st ho hl d g ([10] ++ linesT quoteC numP st (xs.drop (i + 1))) hg (fun c hc => (show (10 : UInt8) = c by rw [List.singleton_append,List.getElem?_cons_zero] at hc; injection hc) ▸ (by decide))
 rw [← hL] at hn
 unfold rNext at hn
 split at hn
 ·cases hn
 ·rename_i hne
  cases hv : rValue mkObj 64 1 L (d.length + ((L.drop d.length).takeWhile isWs).length) with
  | bad a b => rw [hv] at hn; cases hn
  | ok v q =>
   rw [hv] at hn
   simp only [RR.bind] at hn
   injection hn with h1 h2
   injection h1 with h1
   subst h1 h2
   have hle:=(List.takeWhile_sublist (l:=L.drop d.length) isWs).length_le
   rw [List.length_drop] at hle
   have hdl : d.length ≤ L.length:=by rw [hL,List.length_append]; omega
   refine ⟨_,_,rfl,by omega,hv,d ++ (g ++ prV quoteC numP st 0 v),[10],by rw [hL]; simp,fun c hc => (show c = 10 by simpa using hc) ▸ (by decide),by simp only [List.length_append]; omega⟩
theorem AtW.done {L : List UInt8} {st : Nat} {xs : List VT} {i p : Nat} (h : AtW L st xs i p) (hx : xs.length ≤ i) : p + ((L.drop p).takeWhile isWs).length = L.length:=by
 obtain ⟨d,g,hL,hg,rfl⟩:=h
 rw [List.drop_eq_nil_of_le hx] at hL
 have hL : L = d ++ g:=by rw [hL]; simp [linesT]
 have htw : g.takeWhile isWs = g:=by
  have:=List.takeWhile_append_of_pos (l₂:=[]) hg
  simpa using this
 rw [hL,List.drop_left,htw,List.length_append]
end Go.Proofs.YtkigpbkkhgabeaaGreatDoor
namespace Go.Proofs.YtkigpbkkhgabeaaGreatDoor
open Go.RowKit Go.Lib Go.Shelf
def wsRen : Go.Shelf.Ren:=⟨fun | 166 => 38 | 240 => 58 | 276 => 90 | n => n,fun | 0 => 0 | 3 => 3 | 4 => 4 | 5 => 5 | 9 => 9 | 20 => 20 | 37 => 38 | 70 => 54 | 72 => 56 | 75 => 72 | 80 => 75 | 164 => 130 | n => n,fun  | n => n⟩
theorem wsLaid : Go.Proofs.Lays.n166 Tryz.prog wsRen:={
 mixed:=by kernel_rfl
 f166:=Tryz.func38.trans (congrArg some (by kernel_rfl))
 f240:=Tryz.func58.trans (congrArg some (by kernel_rfl))
 f276:=Tryz.func90.trans (congrArg some (by kernel_rfl))
 t0:=Tryz.underlying0
 a0:=Tryz.isAgg0
 z0:=Tryz.sizeOf0
 v0:=Tryz.zeroValue0
 t3:=Tryz.underlying3
 a3:=Tryz.isAgg3
 z3:=Tryz.sizeOf3
 v3:=Tryz.zeroValue3
 t4:=Tryz.underlying4
 a4:=Tryz.isAgg4
 z4:=Tryz.sizeOf4
 v4:=Tryz.zeroValue4
 t9:=Tryz.underlying9
 a9:=Tryz.isAgg9
 z9:=Tryz.sizeOf9
 v9:=Tryz.zeroValue9
 t20:=Tryz.underlying20
 a20:=Tryz.isAgg20
 z20:=Tryz.sizeOf20
 v20:=Tryz.zeroValue20
 t37:=Tryz.underlying38
 a37:=Tryz.isAgg38
 z37:=Tryz.sizeOf38
 v37:=Tryz.zeroValue38
 t70:=Tryz.underlying54
 a70:=Tryz.isAgg54
 z70:=Tryz.sizeOf54
 v70:=Tryz.zeroValue54
 t72:=Tryz.underlying56
 a72:=Tryz.isAgg56
 z72:=Tryz.sizeOf56
 v72:=Tryz.zeroValue56
 t75:=Tryz.underlying72
 a75:=Tryz.isAgg72
 z75:=Tryz.sizeOf72
 v75:=Tryz.zeroValue72
 t164:=Tryz.underlying130
 a164:=Tryz.isAgg130
 z164:=Tryz.sizeOf130
 v164:=Tryz.zeroValue130
}
theorem wsExtra : Builder.Extra Tryz.prog wsRen:={
 sizeBuilder:=by kernel_rfl
 liesBuilder:=by kernel_rfl
 t5:=Tryz.underlying5
 a5:=Tryz.isAgg5
 z5:=Tryz.sizeOf5
 v5:=Tryz.zeroValue5
 infoByte:=by kernel_rfl
 cellsByte:=by kernel_rfl
 sizeByte:=by kernel_rfl
 neB5:=by decide }
theorem writeStringW_c (B b : Nat) (bs : List Value) (s : ByteArray) (w : World) (h : Lib.IsBuilderF 56 5 B b bs w) (hlen : bs.length + s.size ≤ 140737488355328) (hBw : B ≤ w.heap.size) :
  Calls Tryz.prog 38 #[.pointer (some ⟨b,0,none⟩),.string s] w fun e w' => e = .returned (.tuple #[.int .i64 s.size,.nilIface]) ∧ (Lib.BuilderAtF 56 5 B b (.pointer (some ⟨b,0,none⟩)) (bs ++ Lib.strCells s) w' ∧ Below B w w'):=Any.Builder_WriteString_f wsLaid wsExtra B b bs s w h hlen hBw
end Go.Proofs.YtkigpbkkhgabeaaGreatDoor
namespace Go.Proofs.YtkigpbkkhgabeaaGreatDoor
open Go.RowKit Go.Lib
theorem bldKeepW {T e b0 b : Nat} {bs : List Value} {w w' : World} (h : IsBuilderF T e b0 b bs w) (hb : Below w.heap.size w w') : IsBuilderF T e b0 b bs w':=by
 have key : ∀ p,BuilderAtF T e b0 b p bs w → BuilderAtF T e b0 b p bs w':=by
  rintro p ⟨hB,v,hv,⟨h1,h2⟩,h3⟩
  have keep : ∀ k o,w.heap[k]? = some o → w'.heap[k]? = some o:=fun k o ho => (hb.block k (Array.getElem?_eq_some_iff.1 ho).1).trans ho
  refine ⟨hB,v,keep _ _ hv,⟨h1,?_⟩,h3⟩
  rcases h2 with h2 | ⟨g,cap,cur,fz,e1,e2,e3,e4⟩
  ·exact .inl h2
  ·exact .inr ⟨g,cap,cur,fz,e1,e2,keep _ _ e3,e4⟩
 rcases h with h | h
 ·exact .inl (key _ h)
 ·exact .inr (key _ h)
def LinE (xs : List VT) (st : Nat) (e : Ending) : Prop :=
 (∃ x : Int,x ≠ 0 ∧ e = .returned (.tuple #[.string ⟨#[]⟩,.int .i64 x])) ∨ ((∀ x ∈ xs,errV x = 0) ∧ e = .returned (.tuple #[.string ⟨(linesT quoteC numP st xs).toArray⟩,.int .i64 0]))
theorem ind_two {x : VT} {n : Int} {e : Ending} (hn : ¬ (n < 0 ∨ 8 < n)) (h : IndE x n e) : (∃ r : Int,r ≠ 0 ∧ e = .returned (.tuple #[.string ⟨#[]⟩,.int .i64 r])) ∨ (errV x = 0 ∧ (prV quoteC numP n.toNat 0 x).length ≤ 1048576 ∧ e = .returned (.tuple #[.string ⟨(prV quoteC numP n.toNat 0 x).toArray⟩,.int .i64 0])):=by
 unfold IndE at h
 by_cases h0 : errV x ≠ 0
 ·rw [if_pos h0] at h; exact .inl ⟨_,by omega,h⟩
 ·rw [if_neg h0,if_neg hn] at h
  rcases h with ⟨h1,h2⟩ | ⟨h1,h2⟩
  ·exact .inr ⟨by omega,h1,h2⟩
  ·exact .inl ⟨5,by decide,h2⟩
set_option maxRecDepth 100000 in
set_option maxHeartbeats 8000000 in
theorem lines_c {S : Nat → Prop} {A : Option Addr} {m c : Nat} {xs : List VT} (n : Int) (w : World) (hG : Gl w.heap.size w) (hl : RdL w S A m xs) (hS : ∀ b,S b → b < w.heap.size) (hm : m ≤ 1256584717458) (hn : ¬ (n < 0 ∨ 8 < n)) :
  Calls Tryz.prog 17 #[.slice A m c,.int .i64 n] w fun e w' => LinE xs n.toNat e ∧ Below w.heap.size w w':=by
 obtain ⟨ob,hob⟩ : ∃ ob,w.heap.size = ob:=⟨_,rfl⟩
 have hb0 : Below w.heap.size w (w.alloc (.cells #[.pointer none,.slice none 0 0] 56)):=(Below.refl _ w).alloc (Nat.le_refl _) _
 have hnew:=World.alloc_heap_new w (.cells #[.pointer none,.slice none 0 0] 56)
 have hs0 : (w.alloc (.cells #[.pointer none,.slice none 0 0] 56)).heap.size = ob + 1:=by rw [World.size_alloc,hob]
 rw [hob] at hnew hb0 hG hS ⊢
 have HG:=Lib.hid hG
 have HL:=Lib.hid hl
 have HXM:=Lib.hid hl.1
 have HS:=Lib.hid hS
 have HB0:=Lib.hid hb0
 have HN:=Lib.hid hn
 have HS0:=Lib.hid hs0
 have HI0:=Lib.hid (show IsBuilderF 56 5 ob ob (byteCells []) (w.alloc (.cells #[.pointer none,.slice none 0 0] 56)) from .inl ⟨Nat.le_refl _,_,hnew,World.ownsRowF_nil _ _ _ _,by simp [Value.ownBlock]⟩)
 clear hG hl hS hb0 hnew hn hs0
 go_enter Tryz.func17,Tryz.ntmps17
 go_upto_region 4 with fail
 try rw [hob]
 clear hob
 generalize (w.alloc (.cells #[.pointer none,.slice none 0 0] 56)) = w0 at *
 go_loopw [7,14] (fun zv iv wr => ∃ (i sz : Nat) (bs : List UInt8),i ≤ m ∧ zv = .int .i64 (sz : Int) ∧ iv = .int .i64 (i : Int) ∧ Hid (∀ x ∈ xs.take i,errV x = 0) ∧ Hid ((linesT quoteC numP n.toNat (xs.take i)).length = sz) ∧ sz ≤ i * 1048577 ∧ Hid (bs.length ≤ 1048576) ∧ Hid (sz ≤ 1048576 → bs = linesT quoteC numP n.toNat (xs.take i)) ∧ Hid (IsBuilderF 56 5 ob ob (byteCells bs) wr) ∧ Hid (Below ob w wr) ∧ Hid (ob + 1 ≤ wr.heap.size)) (fun _ iv _ => m - (RowKit.intOf iv).toNat)
 case atStart => exact ⟨0,0,[],Nat.zero_le _,rfl,rfl,by show ∀ x ∈ xs.take 0,_; simp,by show _ = _; simp [linesT],Nat.zero_le _,by show _ ≤ _; simp,fun _ => by simp [linesT],HI0.out,HB0.out,by show _ ≤ _; rw [HS0.out]; omega⟩
 case round =>
  obtain ⟨i,sz,bs,him,rfl,rfl,hok,hsz,hsb,hbl,hbs,hI,hbel,how⟩:=hrel
  have hobw:=how.out
  clear how HI0 HB0 HS0
  by_cases hi : i < m
  ·have hilt : (i : Int) < (m : Int):=by omega
   have hi0 : (0 : Int) ≤ (i : Int):=by omega
   have hit : ((i : Int)).toNat = i:=by omega
   have hiw : IntKind.i64.wrap ((i : Int) + 1) = (i : Int) + 1:=IntWalk.i64_in _ (by omega)
   obtain ⟨b,off,x,cs,rfl,hSb,hx,h7,hcells,hvx⟩:=HL.out.at_ hi
   have hl32:=hvx.l32
   obtain ⟨k2,neg2,A2,n2,c2,e2,t2,LA2,ln2,lc2,KA2,kn2,kc2,rfl,-,-⟩:=hvx.seven
   have hcw : ∀ a,a < 7 → wr.cell? ⟨b,off + (i * 7 + a),none⟩ = _:=fun a ha => (hbel.out.cell (p:=⟨b,off + (i * 7 + a),none⟩) (HS.out _ hSb)).trans (hcells a ha)
   have d0 : wr.cell? ⟨b,off + i * 7,none⟩ = some (.int .i64 k2):=hcw 0 (by omega)
   have d1 : wr.cell? ⟨b,off + i * 7 + 1,none⟩ = some (.bool neg2):=hcw 1 (by omega)
   have d2 : wr.cell? ⟨b,off + i * 7 + 2,none⟩ = some (.slice A2 n2 c2):=hcw 2 (by omega)
   have d3 : wr.cell? ⟨b,off + i * 7 + 3,none⟩ = some (.int .i64 e2):=hcw 3 (by omega)
   have d4 : wr.cell? ⟨b,off + i * 7 + 4,none⟩ = some (.string t2):=hcw 4 (by omega)
   have d5 : wr.cell? ⟨b,off + i * 7 + 5,none⟩ = some (.slice LA2 ln2 lc2):=hcw 5 (by omega)
   have d6 : wr.cell? ⟨b,off + i * 7 + 6,none⟩ = some (.slice KA2 kn2 kc2):=hcw 6 (by omega)
   have HX:=Lib.hid hx
   have HVX:=Lib.hid hvx
   have HOK:=Lib.hid hok.out
   have HSZ:=Lib.hid hsz.out
   have HBL:=Lib.hid hbl.out
   have HBS:=Lib.hid hbs.out
   have HI:=Lib.hid hI.out
   clear hcw hcells h7 hx hvx hok hsz hbl hbs hI
   go_upto_region 6 with fail
   have hm1:=World.alloc_heap_new wr (.cells #[.int .i64 k2,.bool neg2,.slice A2 n2 c2,.int .i64 e2,.string t2,.slice LA2 ln2 lc2,.slice KA2 kn2 kc2] 28)
   have hb1 : Below ob w (wr.alloc (.cells #[.int .i64 k2,.bool neg2,.slice A2 n2 c2,.int .i64 e2,.string t2,.slice LA2 ln2 lc2,.slice KA2 kn2 kc2] 28)):=hbel.out.alloc (by omega) _
   have hI1:=bldKeepW HI.out ((Below.refl wr.heap.size wr).alloc (Nat.le_refl _) (.cells #[.int .i64 k2,.bool neg2,.slice A2 n2 c2,.int .i64 e2,.string t2,.slice LA2 ln2 lc2,.slice KA2 kn2 kc2] 28))
   have hs1 : (wr.alloc (.cells #[.int .i64 k2,.bool neg2,.slice A2 n2 c2,.int .i64 e2,.string t2,.slice LA2 ln2 lc2,.slice KA2 kn2 kc2] 28)).heap.size = wr.heap.size + 1:=World.size_alloc _ _
   generalize (wr.alloc (.cells #[.int .i64 k2,.bool neg2,.slice A2 n2 c2,.int .i64 e2,.string t2,.slice LA2 ln2 lc2,.slice KA2 kn2 kc2] 28)) = W1 at *
   obtain ⟨x0,x1,x2,x3,x4,x5,x6⟩:=box7_of hm1
   have HC:=indent_c n W1 ((HG.out.low hb1).up (by omega)) (HVX.out.keep (w':=W1) fun p hp => hb1.cell (HS.out _ hp)) (fun b hb => Nat.lt_of_lt_of_le (HS.out b hb) (by omega))
   have HB1:=Lib.hid hb1
   have HI1:=Lib.hid hI1
   have HW1:=Lib.hid (show ob + 1 ≤ W1.heap.size by omega)
   clear d0 d1 d2 d3 d4 d5 d6 hm1 hb1 hbel hI1 HI hs1
   go_wp2_with fail
   refine HC.mono ?_
   rintro e' W2 ⟨he,hb2⟩
   have hI2:=bldKeepW HI1.out hb2
   have hb12:=HB1.out.trans (hb2.mono (by have:=HW1.out; omega))
   have HI2:=Lib.hid hI2
   have HB2:=Lib.hid hb12
   have HW2:=Lib.hid (show ob + 1 ≤ W2.heap.size by have:=hb2.size; have:=HW1.out; omega)
   clear HC hb2 hb12 hI2 x0 x1 x2 x3 x4 x5 x6
   rcases ind_two HN.out he with ⟨r,hr,rfl⟩ | ⟨h0,hpl,rfl⟩
   ·go_wp2_with fail
    go_ret2
    exact ⟨.inl ⟨r,hr,rfl⟩,HB2.out⟩
   ·obtain ⟨P,hP⟩ : ∃ P,prV quoteC numP n.toNat 0 x = P:=⟨_,rfl⟩
    rw [hP] at hpl
    rw [hP]
    obtain ⟨Q,hQ⟩ : ∃ Q : ByteArray,(⟨P.toArray⟩ : ByteArray) = Q:=⟨_,rfl⟩
    have hQs : Q.size = P.length:=by rw [← hQ]; show P.toArray.size = _; simp
    rw [hQ]
    have hcat : ∀ W,(Op.stringOp .add Q ⟨#[10]⟩).run Tryz.prog W = .ok (.string (Q ++ ⟨#[10]⟩)) W:=fun W => run_string_add_sum W Q ⟨#[10]⟩ (by rw [hQs]; show P.length + 1 ≤ _; omega)
    obtain ⟨PL,hPL⟩ : ∃ PL,P.length + 1 = PL:=⟨_,rfl⟩
    obtain ⟨z,hz⟩ : ∃ z,sz + (P.length + 1) = z:=⟨_,rfl⟩
    have hpw : IntKind.i64.wrap ((P.length : Int) + 1) = (PL : Int):=by rw [IntWalk.i64_in _ (by omega)]; omega
    have hzw : IntKind.i64.wrap ((sz : Int) + (PL : Int)) = (z : Int):=by rw [IntWalk.i64_in _ (by omega)]; omega
    have htk : linesT quoteC numP n.toNat (xs.take (i + 1)) = linesT quoteC numP n.toNat (xs.take i) ++ (P ++ [10]):=by rw [linesW_take HX.out,hP]
    have hok2 : ∀ y ∈ xs.take (i + 1),errV y = 0:=fun y hy => by
     rw [List.take_add_one,HX.out] at hy
     rcases List.mem_append.1 hy with hy | hy
     ·exact HOK.out y hy
     ·rw [show y = x by simpa using hy]; exact h0
    have hsz2 : (linesT quoteC numP n.toNat (xs.take (i + 1))).length = sz + (P.length + 1):=by
     rw [htk,List.length_append,HSZ.out]; simp
    have hsb2 : sz + (P.length + 1) ≤ (i + 1) * 1048577:=by omega
    have HTK:=Lib.hid htk
    have HOK2:=Lib.hid hok2
    have HSZ2:=Lib.hid hsz2
    have HQ:=Lib.hid hQ
    have HP:=Lib.hid hP
    rw [hz] at hsb2 HSZ2
    have HPL:=Lib.hid hPL
    have HZ:=Lib.hid hz
    clear htk hok2 hsz2 hP hQ h0 hz hPL
    by_cases hbig : z ≤ 1048576
    ·have hbI : (z : Int) ≤ 1048576:=by omega
     have hbL:=HBS.out (by have:=HZ.out; omega)
     have hws:=writeStringW_c ob ob (byteCells bs) (Q ++ ⟨#[10]⟩) W2 HI2.out (by rw [byteCells_length,ByteArray.size_append,hQs]; have:=HBL.out; show _ + (_ + 1) ≤ _; omega) (by have:=HW2.out; omega)
     have HWS:=Lib.hid hws
     have HBB:=Lib.hid hbL
     clear hws hbL
     go_wp2_with fail
     refine HWS.out.mono ?_
     rintro e9 W3 ⟨rfl,hA3,hb3⟩
     have HB3:=Lib.hid (HB2.out.trans hb3)
     have HW3:=Lib.hid (show ob + 1 ≤ W3.heap.size by have:=hb3.size; have:=HW2.out; omega)
     have hcat2 : (bs ++ (P ++ [10])) = linesT quoteC numP n.toNat (xs.take (i + 1)):=by rw [HTK.out,HBB.out]
     have hA4 : IsBuilderF 56 5 ob ob (byteCells (bs ++ (P ++ [10]))) W3:=by
      have hst : Lib.strCells (Q ++ ⟨#[10]⟩) = byteCells (P ++ [10]):=by
       rw [← HQ.out]; unfold Lib.strCells byteCells; rw [ByteArray.data_append]; simp
      rw [byteCells_append,← hst]
      exact .inr hA3
     have HA4:=Lib.hid hA4
     have HC2:=Lib.hid hcat2
     clear hA3 hb3 hA4 hcat2
     go_wp2_with fail
     go_roundw
     case rel =>
      refine ⟨i + 1,z,bs ++ (P ++ [10]),by omega,rfl,by go_num,HOK2.out,HSZ2.out,hsb2,?_,fun _ => HC2.out,HA4.out,HB3.out,HW3.out⟩
      show _ ≤ _
      rw [HC2.out,HSZ2.out]; exact hbig
     case measure => simp [RowKit.intOf]; omega
    ·have hbI : ¬ (z : Int) ≤ 1048576:=by omega
     go_wp2_with fail
     go_roundw
     case rel => exact ⟨i + 1,z,bs,by omega,rfl,by go_num,HOK2.out,HSZ2.out,hsb2,HBL.out,fun h => absurd h hbig,HI2.out,HB2.out,HW2.out⟩
     case measure => simp [RowKit.intOf]; omega
  ·have hni : ¬ (i : Int) < (m : Int):=by omega
   have htk : xs.take i = xs:=by rw [show i = xs.length by rw [HXM.out]; omega,List.take_length]
   have hok2:=hok.out
   have hsz2:=hsz.out
   have hbs2:=hbs.out
   rw [htk] at hok2 hsz2 hbs2
   have HOK:=Lib.hid hok2
   have HBS:=Lib.hid hbs2
   have HI:=Lib.hid hI.out
   have HBL:=Lib.hid hbl.out
   have HB1:=Lib.hid hbel.out
   clear hok hsz hbs hI hbl hok2 hsz2 hbs2 htk hbel
   by_cases hbig : sz ≤ 1048576
   ·have hbI : ¬ (1048576 : Int) < (sz : Int):=by omega
    have hst:=Tryz.Builder_String_any_f ob ob bs wr HI.out (by omega)
    rw [HBS.out hbig] at hst
    obtain ⟨R,hR⟩ : ∃ R : ByteArray,(⟨(linesT quoteC numP n.toNat xs).toArray⟩ : ByteArray) = R:=⟨_,rfl⟩
    rw [hR] at hst
    have HST:=Lib.hid hst
    have HR:=Lib.hid hR
    clear hst hR
    go_wp2_with fail
    refine HST.out.mono ?_
    rintro e9 W3 ⟨rfl,-,hb3⟩
    have HB3:=Lib.hid (HB1.out.trans hb3)
    clear hb3
    go_wp2_with fail
    go_ret2
    exact ⟨.inr ⟨HOK.out,by rw [HR.out]; rfl⟩,HB3.out⟩
   ·have hbI : (1048576 : Int) < (sz : Int):=by omega
    go_wp2_with fail
    go_ret2
    exact ⟨.inl ⟨5,by decide,rfl⟩,HB1.out⟩
end Go.Proofs.YtkigpbkkhgabeaaGreatDoor
