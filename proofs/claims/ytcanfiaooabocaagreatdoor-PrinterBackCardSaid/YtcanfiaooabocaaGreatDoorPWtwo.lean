import Derived.Test.YtcanfiaooabocaaGreatDoorPWwr
import Derived.Deep.RegionHeld
set_option linter.unusedVariables false
set_option linter.unusedSimpArgs false
namespace Go.Proofs.YtcanfiaooabocaaGreatDoor
open Go.RowKit Go.Lib
theorem Gl.up {B C : Nat} {w : World} (h : Gl B w) (hc : B ≤ C) : Gl C w:=⟨h.tabs,h.ten,h.deb,Nat.lt_of_lt_of_le h.lt.1 hc,Nat.lt_of_lt_of_le h.lt.2.1 hc,Nat.lt_of_lt_of_le h.lt.2.2.1 hc,Nat.lt_of_lt_of_le h.lt.2.2.2 hc⟩
theorem numP_ok2 : NtOk numP:=numP_ok fun hx hok => by have:=prt_len hx hok; omega
theorem prV_ne {qc : Int → List UInt8} {st o : Nat} {x : VT} (hx : Gp x) : prV qc numP st o x ≠ []:=by
 obtain ⟨c,t,h,-⟩:=prV_head (qc:=qc) (st:=st) (o:=o) numP_ok2 hx
 rw [h]; exact List.cons_ne_nil _ _
set_option maxRecDepth 100000 in
set_option maxHeartbeats 2000000 in
theorem ind1_c {F : Value} {qc : Int → List UInt8} (hM : Md F qc) {B st : Nat} {S : Nat → Prop} {x : VT} {cs : List Value} (hS : ∀ b,S b → b < B) (hst : st ≤ 8) (hx : Gp x) (hd : dpt 1000 x ≤ 64) (bp pb : Nat) (w : World) (hP : Pg B pb [] 1048576 st 0 F w) (hG : Gl B w) (hB : B ≤ w.heap.size)
  (hv : VIn w S x cs) (hbox : w.heap[bp]? = some (.cells cs.toArray 28)) : Calls Tryz.prog 25 #[pgP pb,.pointer (some ⟨bp,0,none⟩)] w (Wr B pb [] 1048576 st 0 F w (prV qc numP st 0 x)):=by
 have hc:=pvalue_c (st:=st) hM hS hst 64 1000 x cs [] 1048576 0 w (by omega) hd hx (by omega) hP hG hB hv (by simp)
 obtain ⟨R,hR⟩ : ∃ R,Wr B pb [] 1048576 st 0 F w (prV qc numP st 0 x) = R:=⟨_,rfl⟩
 have hRr : ∀ v w',R (.returned v) w' → v = .tuple #[]:=by
  rintro v w' h
  rw [← hR] at h
  rcases h with ⟨-,h,-⟩ | ⟨-,h,-⟩
  ·injection h
  ·cases h
 have hRo : ∀ w',¬ R .outgrown w':=by
  rintro w' h
  rw [← hR] at h
  rcases h with ⟨-,h,-⟩ | ⟨-,h,-⟩ <;> cases h
 rw [hR] at hc ⊢
 obtain ⟨k,neg,A,n,c,e,t,LA,ln,lc,KA,kn,kc,rfl,-,-⟩:=hv.seven
 obtain ⟨y0,y1,y2,y3,y4,y5,y6⟩:=box7_of hbox
 have HC:=Lib.hid hc
 have HR:=Lib.hid hRr
 have HRO:=Lib.hid hRo
 clear hc hv hR hbox hP hG hRr hRo hx
 go_enter Tryz.func25,Tryz.ntmps25
 go_wp2_with fail
 refine HC.out.mono ?_
 rintro e9 w9 hr
 cases e9 with
 | returned v =>
  have hv:=HR.out _ _ hr
  subst hv
  go_wp2_with fail
  first | go_end0 | refine bodyPost_ret (results_none rfl _ _ _) rfl ?_
  exact hr
 | panicked ch => exact ⟨rfl,hr⟩
 | outgrown =>
  exact absurd hr (HRO.out _)
set_option maxRecDepth 100000 in
set_option maxHeartbeats 2000000 in
theorem asc2_c {F : Value} {qc : Int → List UInt8} (hM : Md F qc) {B st : Nat} {S : Nat → Prop} {x : VT} {cs : List Value} (hS : ∀ b,S b → b < B) (hst : st ≤ 8) (hx : Gp x) (hd : dpt 1000 x ≤ 64) (bp pb : Nat) (w : World) (hP : Pg B pb [] 1048576 st 0 F w) (hG : Gl B w) (hB : B ≤ w.heap.size)
  (hv : VIn w S x cs) (hbox : w.heap[bp]? = some (.cells cs.toArray 28)) : Calls Tryz.prog 28 #[pgP pb,.pointer (some ⟨bp,0,none⟩)] w (Wr B pb [] 1048576 st 0 F w (prV qc numP st 0 x)):=by
 have hc:=pvalue_c (st:=st) hM hS hst 64 1000 x cs [] 1048576 0 w (by omega) hd hx (by omega) hP hG hB hv (by simp)
 obtain ⟨R,hR⟩ : ∃ R,Wr B pb [] 1048576 st 0 F w (prV qc numP st 0 x) = R:=⟨_,rfl⟩
 have hRr : ∀ v w',R (.returned v) w' → v = .tuple #[]:=by
  rintro v w' h
  rw [← hR] at h
  rcases h with ⟨-,h,-⟩ | ⟨-,h,-⟩
  ·injection h
  ·cases h
 have hRo : ∀ w',¬ R .outgrown w':=by
  rintro w' h
  rw [← hR] at h
  rcases h with ⟨-,h,-⟩ | ⟨-,h,-⟩ <;> cases h
 rw [hR] at hc ⊢
 obtain ⟨k,neg,A,n,c,e,t,LA,ln,lc,KA,kn,kc,rfl,-,-⟩:=hv.seven
 obtain ⟨y0,y1,y2,y3,y4,y5,y6⟩:=box7_of hbox
 have HC:=Lib.hid hc
 have HR:=Lib.hid hRr
 have HRO:=Lib.hid hRo
 clear hc hv hR hbox hP hG hRr hRo hx
 go_enter Tryz.func28,Tryz.ntmps28
 go_wp2_with fail
 refine HC.out.mono ?_
 rintro e9 w9 hr
 cases e9 with
 | returned v =>
  have hv:=HR.out _ _ hr
  subst hv
  go_wp2_with fail
  first | go_end0 | refine bodyPost_ret (results_none rfl _ _ _) rfl ?_
  exact hr
 | panicked ch => exact ⟨rfl,hr⟩
 | outgrown =>
  exact absurd hr (HRO.out _)
def IndE (x : VT) (n : Int) (e : Ending) : Prop :=
 if errV x ≠ 0 then e = .returned (.tuple #[.string ⟨#[]⟩,.int .i64 ((errV x : Nat) : Int)])
 else if n < 0 ∨ 8 < n then e = .returned (.tuple #[.string ⟨#[]⟩,.int .i64 4])
 else WrE (prV quoteC numP n.toNat 0 x) 1048576 e
def AscE (x : VT) (e : Ending) : Prop :=
 if errV x ≠ 0 then e = .returned (.tuple #[.string ⟨#[]⟩,.int .i64 ((errV x : Nat) : Int)])
 else WrE (prV quoteA numP 0 0 x) 1048576 e
set_option maxRecDepth 100000 in
set_option maxHeartbeats 4000000 in
theorem indent_c {S : Nat → Prop} {x : VT} {cs : List Value} (n : Int) (w : World) (hG : Gl w.heap.size w) (hx : VIn w S x cs) (hS : ∀ b,S b → b < w.heap.size) :
  Calls Tryz.prog 10 #[.agg cs.toArray,.int .i64 n] w fun e w' => IndE x n e ∧ Below w.heap.size w w':=by
 have hmf : ∀ (fn : Fn) (first cap : Array Value) (w : World),(Instr.makeFunc fn first cap).run Tryz.prog w = .ok (.func fn first cap) w:=fun _ _ _ _ => rfl
 obtain ⟨k,neg,A,nn,c,e,t,LA,ln,lc,KA,kn,kc,rfl,-,-⟩:=hx.seven
 obtain ⟨bp,hbp⟩ : ∃ b,w.heap.size = b:=⟨_,rfl⟩
 have hb : Below w.heap.size w (w.alloc (.cells #[.int .i64 k,.bool neg,.slice A nn c,.int .i64 e,.string t,.slice LA ln lc,.slice KA kn kc] 28)):=(Below.refl _ w).alloc (Nat.le_refl _) _
 have hm:=World.alloc_heap_new w (.cells #[.int .i64 k,.bool neg,.slice A nn c,.int .i64 e,.string t,.slice LA ln lc,.slice KA kn kc] 28)
 have hsz : (w.alloc (.cells #[.int .i64 k,.bool neg,.slice A nn c,.int .i64 e,.string t,.slice LA ln lc,.slice KA kn kc] 28)).heap.size = bp + 1:=by rw [World.size_alloc,hbp]
 have hG1:=hG.low hb
 have hx1:=hx.keep (w':=(w.alloc (.cells #[.int .i64 k,.bool neg,.slice A nn c,.int .i64 e,.string t,.slice LA ln lc,.slice KA kn kc] 28))) fun p hp => hb.cell (p:=p) (hS _ hp)
 have hl:=hx.l32
 rw [hbp] at hm hb hG1 hS ⊢
 obtain ⟨y0,y1,y2,y3,y4,y5,y6⟩:=box7_of hm
 have HG:=Lib.hid hG1
 have HX:=Lib.hid hx1
 have HB:=Lib.hid hb
 have HM:=Lib.hid hm
 have HL:=Lib.hid hl
 have HS:=Lib.hid hS
 have HBP:=Lib.hid hbp
 clear hG hx hG1 hx1 hb hm hS hl
 go_enter Tryz.func10,Tryz.ntmps10
 go_wp2_with fail
 try rw [hbp]
 clear y0 y1 y2 y3 y4 y5 y6 hbp
 generalize (w.alloc (.cells #[.int .i64 k,.bool neg,.slice A nn c,.int .i64 e,.string t,.slice LA ln lc,.slice KA kn kc] 28)) = w1 at *
 refine (VCheck_c w1 HG.out.tabs HX.out (fun b h => by have:=HS.out b h; omega)).mono ?_
 rintro e9 w2 ⟨rfl,hb2⟩
 rw [hsz] at hb2
 obtain ⟨r,hr⟩ : ∃ r,errV x = r:=⟨_,rfl⟩
 rw [hr]
 have hB2 : Below bp w w2:=HB.out.trans (hb2.mono (by omega))
 have hl2 : bp + 1 ≤ w2.heap.size:=by have:=hb2.size; omega
 have HB2:=Lib.hid hB2
 have HR:=Lib.hid hr
 have HW2:=Lib.hid hb2
 clear hB2 hb2 hr
 rcases Nat.eq_zero_or_pos r with h0 | h0
 case inr =>
  have hne : (r : Int) ≠ 0:=by omega
  go_wp2_with fail
  go_ret2
  refine ⟨?_,HB2.out⟩
  unfold IndE
  rw [HR.out,if_pos (by omega)]
  rfl
 subst h0
 by_cases hn : n < 0
 ·go_wp2_with fail
  go_ret2
  refine ⟨?_,HB2.out⟩
  unfold IndE
  rw [HR.out,if_neg (by omega),if_pos (.inl hn)]
  rfl
 by_cases hn8 : 8 < n
 ·go_wp2_with fail
  go_ret2
  refine ⟨?_,HB2.out⟩
  unfold IndE
  rw [HR.out,if_neg (by omega),if_pos (.inr hn8)]
  rfl
 obtain ⟨m,rfl⟩ : ∃ m : Nat,n = (m : Int):=⟨n.toNat,by omega⟩
 have hbx:=(HW2.out.block bp (by omega)).trans HM.out
 have hx2:=HX.out.keep (w':=w2) fun p hp => HW2.out.cell (p:=p) (by have:=HS.out _ hp; omega)
 have hg2 : Gl w2.heap.size w2:=((HG.out.up (C:=bp + 1) (by omega)).low HW2.out).up (by omega)
 obtain ⟨g1,g2,g3⟩:=okV_gp (x:=x) HR.out HL.out
 have hwc:=written_c (F:=plainF) (room:=1048576) (st:=m) (out:=prV quoteC numP m 0 x) (fn:=25) (cp:=.pointer (some ⟨bp,0,none⟩)) w2 (by omega) (prV_ne g1) (fun ar W => by kernel_rfl)
  (fun w' hP hb => ind1_c (.inl ⟨rfl,rfl⟩) (B:=w2.heap.size) (S:=S) (fun b hb => by have:=HS.out b hb; omega) (by omega) g1 g3 bp _ w' hP (hg2.low (hb.below (Nat.le_refl _) fun _ _ h => h)) hb.size (hx2.keep fun p hp => (hb.below (Nat.le_refl _) fun _ _ h => h).cell (by have:=HS.out _ hp; omega)) ((hb.block bp (by omega) (fun h => h)).trans hbx))
 obtain ⟨out,hout⟩ : ∃ out,prV quoteC numP m 0 x = out:=⟨_,rfl⟩
 rw [hout] at hwc
 have HOUT:=Lib.hid hout
 have HWC:=Lib.hid hwc
 clear hwc hout g1 g2 g3 hg2 hx2 hbx
 go_wp2_with fail
 refine HWC.out.mono ?_
 rintro e9 w3 ⟨he,hb3⟩
 have hB3:=HB2.out.trans (hb3.mono (by omega))
 rcases he with ⟨hl,rfl⟩ | ⟨hl,rfl⟩
 all_goals
  have HB3:=Lib.hid hB3
  clear hB3 hb3
  go_wp2_with fail
  go_ret2
  refine ⟨?_,HB3.out⟩
  unfold IndE
  rw [HR.out,if_neg (by omega),if_neg (by omega),Int.toNat_natCast,HOUT.out]
  unfold WrE
  simp [hl]
set_option maxRecDepth 100000 in
set_option maxHeartbeats 4000000 in
theorem asciiV_c {S : Nat → Prop} {x : VT} {cs : List Value} (w : World) (hG : Gl w.heap.size w) (hx : VIn w S x cs) (hS : ∀ b,S b → b < w.heap.size) :
  Calls Tryz.prog 11 #[.agg cs.toArray] w fun e w' => AscE x e ∧ Below w.heap.size w w':=by
 have hmf : ∀ (fn : Fn) (first cap : Array Value) (w : World),(Instr.makeFunc fn first cap).run Tryz.prog w = .ok (.func fn first cap) w:=fun _ _ _ _ => rfl
 obtain ⟨k,neg,A,nn,c,e,t,LA,ln,lc,KA,kn,kc,rfl,-,-⟩:=hx.seven
 obtain ⟨bp,hbp⟩ : ∃ b,w.heap.size = b:=⟨_,rfl⟩
 have hb : Below w.heap.size w (w.alloc (.cells #[.int .i64 k,.bool neg,.slice A nn c,.int .i64 e,.string t,.slice LA ln lc,.slice KA kn kc] 28)):=(Below.refl _ w).alloc (Nat.le_refl _) _
 have hm:=World.alloc_heap_new w (.cells #[.int .i64 k,.bool neg,.slice A nn c,.int .i64 e,.string t,.slice LA ln lc,.slice KA kn kc] 28)
 have hsz : (w.alloc (.cells #[.int .i64 k,.bool neg,.slice A nn c,.int .i64 e,.string t,.slice LA ln lc,.slice KA kn kc] 28)).heap.size = bp + 1:=by rw [World.size_alloc,hbp]
 have hG1:=hG.low hb
 have hx1:=hx.keep (w':=(w.alloc (.cells #[.int .i64 k,.bool neg,.slice A nn c,.int .i64 e,.string t,.slice LA ln lc,.slice KA kn kc] 28))) fun p hp => hb.cell (p:=p) (hS _ hp)
 have hl:=hx.l32
 rw [hbp] at hm hb hG1 hS ⊢
 obtain ⟨y0,y1,y2,y3,y4,y5,y6⟩:=box7_of hm
 have HG:=Lib.hid hG1
 have HX:=Lib.hid hx1
 have HB:=Lib.hid hb
 have HM:=Lib.hid hm
 have HL:=Lib.hid hl
 have HS:=Lib.hid hS
 have HBP:=Lib.hid hbp
 clear hG hx hG1 hx1 hb hm hS hl
 go_enter Tryz.func11,Tryz.ntmps11
 go_wp2_with fail
 try rw [hbp]
 clear y0 y1 y2 y3 y4 y5 y6 hbp
 generalize (w.alloc (.cells #[.int .i64 k,.bool neg,.slice A nn c,.int .i64 e,.string t,.slice LA ln lc,.slice KA kn kc] 28)) = w1 at *
 refine (VCheck_c w1 HG.out.tabs HX.out (fun b h => by have:=HS.out b h; omega)).mono ?_
 rintro e9 w2 ⟨rfl,hb2⟩
 rw [hsz] at hb2
 obtain ⟨r,hr⟩ : ∃ r,errV x = r:=⟨_,rfl⟩
 rw [hr]
 have hB2 : Below bp w w2:=HB.out.trans (hb2.mono (by omega))
 have hl2 : bp + 1 ≤ w2.heap.size:=by have:=hb2.size; omega
 have HB2:=Lib.hid hB2
 have HR:=Lib.hid hr
 have HW2:=Lib.hid hb2
 clear hB2 hb2 hr
 rcases Nat.eq_zero_or_pos r with h0 | h0
 case inr =>
  have hne : (r : Int) ≠ 0:=by omega
  go_wp2_with fail
  go_ret2
  refine ⟨?_,HB2.out⟩
  unfold AscE
  rw [HR.out,if_pos (by omega)]
  rfl
 subst h0
 have hbx:=(HW2.out.block bp (by omega)).trans HM.out
 have hx2:=HX.out.keep (w':=w2) fun p hp => HW2.out.cell (p:=p) (by have:=HS.out _ hp; omega)
 have hg2 : Gl w2.heap.size w2:=((HG.out.up (C:=bp + 1) (by omega)).low HW2.out).up (by omega)
 obtain ⟨g1,g2,g3⟩:=okV_gp (x:=x) HR.out HL.out
 have hwc:=written_c (F:=asciiF) (room:=1048576) (st:=0) (out:=prV quoteA numP 0 0 x) (fn:=28) (cp:=.pointer (some ⟨bp,0,none⟩)) w2 (by omega) (prV_ne g1) (fun ar W => by kernel_rfl)
  (fun w' hP hb => asc2_c (.inr ⟨rfl,rfl⟩) (B:=w2.heap.size) (S:=S) (fun b hb => by have:=HS.out b hb; omega) (by omega) g1 g3 bp _ w' hP (hg2.low (hb.below (Nat.le_refl _) fun _ _ h => h)) hb.size (hx2.keep fun p hp => (hb.below (Nat.le_refl _) fun _ _ h => h).cell (by have:=HS.out _ hp; omega)) ((hb.block bp (by omega) (fun h => h)).trans hbx))
 obtain ⟨out,hout⟩ : ∃ out,prV quoteA numP 0 0 x = out:=⟨_,rfl⟩
 rw [hout] at hwc
 have HOUT:=Lib.hid hout
 have HWC:=Lib.hid hwc
 clear hwc hout g1 g2 g3 hg2 hx2 hbx
 go_wp2_with fail
 refine HWC.out.mono ?_
 rintro e9 w3 ⟨he,hb3⟩
 have hB3:=HB2.out.trans (hb3.mono (by omega))
 rcases he with ⟨hl,rfl⟩ | ⟨hl,rfl⟩
 all_goals
  have HB3:=Lib.hid hB3
  clear hB3 hb3
  go_wp2_with fail
  go_ret2
  refine ⟨?_,HB3.out⟩
  unfold AscE
  rw [HR.out,if_neg (by omega),HOUT.out]
  unfold WrE
  simp [hl]
end Go.Proofs.YtcanfiaooabocaaGreatDoor
namespace Go.Proofs.YtcanfiaooabocaaGreatDoor
open Go.RowKit Go.Lib
theorem lnum9_c (z : Int) (w : World) : Calls Tryz.prog 12 #[.int .i64 z] w fun e w' => e = .returned (.int .i64 z) ∧ w = w':=by
 go_enter Tryz.func12,Tryz.ntmps12
 go_wp2_with fail
 go_ret
 exact ⟨rfl,rfl⟩
set_option maxRecDepth 100000 in
set_option maxHeartbeats 2000000 in
theorem compact_c {S : Nat → Prop} {x : VT} {cs : List Value} (w : World) (hG : Gl w.heap.size w) (hx : VIn w S x cs) (hS : ∀ b,S b → b < w.heap.size) :
  Calls Tryz.prog 9 #[.agg cs.toArray] w fun e w' => IndE x 0 e ∧ Below w.heap.size w w':=by
 obtain ⟨k,neg,A,nn,c,e,t,LA,ln,lc,KA,kn,kc,rfl,-,-⟩:=hx.seven
 have hb : Below w.heap.size w (w.alloc (.cells #[.int .i64 k,.bool neg,.slice A nn c,.int .i64 e,.string t,.slice LA ln lc,.slice KA kn kc] 28)):=(Below.refl _ w).alloc (Nat.le_refl _) _
 have hm:=World.alloc_heap_new w (.cells #[.int .i64 k,.bool neg,.slice A nn c,.int .i64 e,.string t,.slice LA ln lc,.slice KA kn kc] 28)
 have hsz : (w.alloc (.cells #[.int .i64 k,.bool neg,.slice A nn c,.int .i64 e,.string t,.slice LA ln lc,.slice KA kn kc] 28)).heap.size = w.heap.size + 1:=by simp
 have hc:=indent_c 0 _ ((hG.low hb).up (by omega)) (hx.keep fun p hp => hb.cell (p:=p) (hS _ hp)) (fun b h => by have:=hS b h; omega)
 obtain ⟨y0,y1,y2,y3,y4,y5,y6⟩:=box7_of hm
 have HC:=Lib.hid hc
 have HB:=Lib.hid hb
 clear hc hb hm hx hG hS
 go_enter Tryz.func9,Tryz.ntmps9
 go_wp2_with fail
 clear y0 y1 y2 y3 y4 y5 y6
 refine HC.out.mono ?_
 rintro e9 w3 ⟨he,hb3⟩
 have HB3:=Lib.hid (HB.out.trans (hb3.mono (by omega)))
 clear hb3
 have hpair : ∃ s r,e9 = .returned (.tuple #[.string s,.int .i64 r]):=by
  unfold IndE at he
  split at he
  ·exact ⟨_,_,he⟩
  ·split at he
   ·exact ⟨_,_,he⟩
   ·rcases he with ⟨-,he⟩ | ⟨-,he⟩ <;> exact ⟨_,_,he⟩
 obtain ⟨s,r,rfl⟩:=hpair
 have HE:=Lib.hid he
 clear he
 go_wp2_with fail
 go_ret2
 exact ⟨HE.out,HB3.out⟩
def exL : VT:=.mk 5 false [] 0 ⟨#[]⟩ [numT 1] []
def exO : VT:=.mk 6 false [] 0 ⟨#[]⟩ [exL] [⟨#[97]⟩]
theorem err_exO : errV exO = 0:=by kernel_rfl
theorem out_exO : prV quoteC numP 1 0 exO = [123,10,32,34,97,34,58,32,91,10,32,32,49,10,32,93,10,125]:=by kernel_rfl
set_option maxRecDepth 100000 in
set_option maxHeartbeats 4000000 in
theorem alive9_c (w : World) (hG : Gl w.heap.size w) : Calls Tryz.prog 8 #[] w fun e w' => e = .returned (.bool true) ∧ Below w.heap.size w w':=by
 obtain ⟨kb,hkb⟩ : ∃ b,w.heap.size = b:=⟨_,rfl⟩
 obtain ⟨w0,hw0⟩ : ∃ w0,w.alloc (.cells #[.string ⟨#[97]⟩] 9) = w0:=⟨_,rfl⟩
 have hb0 : Below kb w w0:=by rw [← hw0,← hkb]; exact (Below.refl _ w).alloc (Nat.le_refl _) _
 have hm0 : w0.heap[kb]? = some (.cells #[.string ⟨#[97]⟩] 9):=by rw [← hw0,← hkb]; exact World.alloc_heap_new _ _
 have hs0 : w0.heap.size = kb + 1:=by rw [← hw0,World.size_alloc,hkb]
 rw [hkb] at hG
 have HW0:=Lib.hid hw0
 have HC1:=num_c 1 (by omega) w0
 rw [hs0] at HC1
 have HG:=Lib.hid hG
 have HB0:=Lib.hid hb0
 have HM0:=Lib.hid hm0
 clear hG hb0 hm0 hw0
 go_enter Tryz.func8,Tryz.ntmps8
 go_wp2_with fail
 rw [HW0.out]
 try rw [hkb]
 refine HC1.mono ?_
 rintro e' w1 ⟨cs1,rfl,hv1,hb1⟩
 clear HC1
 obtain ⟨k1,n1,A1,m1,c1,e1,t1,LA1,lm1,lc1,KA1,km1,kc1,rfl,-,-⟩:=hv1.seven
 obtain ⟨rb,hrb⟩ : ∃ b,w1.heap.size = b:=⟨_,rfl⟩
 obtain ⟨w4,hw4⟩ : ∃ w4,((w1.alloc (.cells #[.int .i64 k1,.bool n1,.slice A1 m1 c1,.int .i64 e1,.string t1,.slice LA1 lm1 lc1,.slice KA1 km1 kc1] 28)).alloc (.cells #[.int .i64 5,.bool false,.slice none 0 0,.int .i64 0,.string ⟨#[]⟩,.slice (some ⟨rb,0,none⟩) 1 1,.slice none 0 0] 28)).alloc (.cells #[.int .i64 6,.bool false,.slice none 0 0,.int .i64 0,.string ⟨#[]⟩,.slice (some ⟨rb + 1,0,none⟩) 1 1,.slice (some ⟨kb,0,none⟩) 1 1] 28) = w4:=⟨_,rfl⟩
 have hkr : kb + 1 ≤ rb:=by have:=hb1.size; omega
 have hb4 : Below rb w1 w4:=by rw [← hw4,← hrb]; exact (((Below.refl _ w1).alloc (Nat.le_refl _) _).alloc (by rw [World.size_alloc]; omega) _).alloc (by rw [World.size_alloc,World.size_alloc]; omega) _
 have hr4 : w4.heap[rb]? = some (.cells #[.int .i64 k1,.bool n1,.slice A1 m1 c1,.int .i64 e1,.string t1,.slice LA1 lm1 lc1,.slice KA1 km1 kc1] 28):=by
  rw [← hw4,Below.heap_alloc _ _ _ (by simp; omega),Below.heap_alloc _ _ _ (by simp; omega),← hrb]; exact World.alloc_heap_new _ _
 have hl4 : w4.heap[rb + 1]? = some (.cells #[.int .i64 5,.bool false,.slice none 0 0,.int .i64 0,.string ⟨#[]⟩,.slice (some ⟨rb,0,none⟩) 1 1,.slice none 0 0] 28):=by
  rw [← hw4,Below.heap_alloc _ _ _ (by simp; omega)]
  have:=World.alloc_heap_new (w1.alloc (.cells #[.int .i64 k1,.bool n1,.slice A1 m1 c1,.int .i64 e1,.string t1,.slice LA1 lm1 lc1,.slice KA1 km1 kc1] 28)) (.cells #[.int .i64 5,.bool false,.slice none 0 0,.int .i64 0,.string ⟨#[]⟩,.slice (some ⟨rb,0,none⟩) 1 1,.slice none 0 0] 28)
  rwa [World.size_alloc,hrb] at this
 have ho4 : w4.heap[rb + 1 + 1]? = some (.cells #[.int .i64 6,.bool false,.slice none 0 0,.int .i64 0,.string ⟨#[]⟩,.slice (some ⟨rb + 1,0,none⟩) 1 1,.slice (some ⟨kb,0,none⟩) 1 1] 28):=by
  rw [← hw4]
  have:=World.alloc_heap_new ((w1.alloc (.cells #[.int .i64 k1,.bool n1,.slice A1 m1 c1,.int .i64 e1,.string t1,.slice LA1 lm1 lc1,.slice KA1 km1 kc1] 28)).alloc (.cells #[.int .i64 5,.bool false,.slice none 0 0,.int .i64 0,.string ⟨#[]⟩,.slice (some ⟨rb,0,none⟩) 1 1,.slice none 0 0] 28)) (.cells #[.int .i64 6,.bool false,.slice none 0 0,.int .i64 0,.string ⟨#[]⟩,.slice (some ⟨rb + 1,0,none⟩) 1 1,.slice (some ⟨kb,0,none⟩) 1 1] 28)
  rwa [World.size_alloc,World.size_alloc,hrb] at this
 have hs4 : w4.heap.size = rb + 3:=by rw [← hw4]; simp; omega
 have hk4 : w4.heap[kb]? = some (.cells #[.string ⟨#[97]⟩] 9):=(hb4.block kb (by omega)).trans ((hb1.block kb (by omega)).trans HM0.out)
 have hbw : Below kb w w4:=HB0.out.trans ((hb1.mono (by omega)).trans (hb4.mono (by omega)))
 have hv1' : VIn w4 (fun b => b < w4.heap.size) (numT 1) [.int .i64 k1,.bool n1,.slice A1 m1 c1,.int .i64 e1,.string t1,.slice LA1 lm1 lc1,.slice KA1 km1 kc1]:=(hv1.keep fun p hp => hb4.cell (by have:=hp.2; omega)).more fun b hb => by have:=hb.2; omega
 have hvL : VIn w4 (fun b => b < w4.heap.size) exL [.int .i64 5,.bool false,.slice none 0 0,.int .i64 0,.string ⟨#[]⟩,.slice (some ⟨rb,0,none⟩) 1 1,.slice none 0 0] :=
  .mk (cs:=fun _ => [.int .i64 k1,.bool n1,.slice A1 m1 c1,.int .i64 e1,.string t1,.slice LA1 lm1 lc1,.slice KA1 km1 kc1]) (Rd.nil _ _ _) (by omega) (by decide) ⟨rfl,fun h0 => absurd h0 (by omega)⟩ (by omega) rfl (by omega) (Nat.le_refl _)
   (fun _ => ⟨rb,0,rfl,by show rb < _; omega,fun i hi => by
    obtain rfl : i = 0:=by omega
    exact ⟨rfl,fun t ht => by
     match t,ht with
     | 0,_ => exact cell_at hr4 rfl
     | 1,_ => exact cell_at hr4 rfl
     | 2,_ => exact cell_at hr4 rfl
     | 3,_ => exact cell_at hr4 rfl
     | 4,_ => exact cell_at hr4 rfl
     | 5,_ => exact cell_at hr4 rfl
     | 6,_ => exact cell_at hr4 rfl⟩⟩)
   (fun i x hi => by
    match i,hi with
    | 0,hi => injection hi with hi; subst hi; exact hv1')
 have hvO : VIn w4 (fun b => b < w4.heap.size) exO [.int .i64 6,.bool false,.slice none 0 0,.int .i64 0,.string ⟨#[]⟩,.slice (some ⟨rb + 1,0,none⟩) 1 1,.slice (some ⟨kb,0,none⟩) 1 1] :=
  .mk (cs:=fun _ => [.int .i64 5,.bool false,.slice none 0 0,.int .i64 0,.string ⟨#[]⟩,.slice (some ⟨rb,0,none⟩) 1 1,.slice none 0 0]) (Rd.nil _ _ _) (by omega) (by decide) ⟨rfl,fun _ => ⟨kb,0,rfl,by show kb < _; omega,fun i k hi => by
    match i,hi with
    | 0,hi => injection hi with hi; subst hi; exact ⟨cell_at hk4 rfl,by decide⟩⟩⟩ (by omega) rfl (by omega) (Nat.le_refl _)
   (fun _ => ⟨rb + 1,0,rfl,by show rb + 1 < _; omega,fun i hi => by
    obtain rfl : i = 0:=by omega
    exact ⟨rfl,fun t ht => by
     match t,ht with
     | 0,_ => exact cell_at hl4 rfl
     | 1,_ => exact cell_at hl4 rfl
     | 2,_ => exact cell_at hl4 rfl
     | 3,_ => exact cell_at hl4 rfl
     | 4,_ => exact cell_at hl4 rfl
     | 5,_ => exact cell_at hl4 rfl
     | 6,_ => exact cell_at hl4 rfl⟩⟩)
   (fun i x hi => by
    match i,hi with
    | 0,hi => injection hi with hi; subst hi; exact hvL)
 have hc:=indent_c 1 w4 (((HG.out.low hbw)).up (by omega)) hvO (fun b h => h)
 have HC:=Lib.hid hc
 have HBW:=Lib.hid hbw
 have HW4:=Lib.hid hw4
 clear hc hvO hvL hv1' hv1 hk4 ho4 hl4 hr4 hb4 hbw hw4 hb1
 go_wp2_with fail
 try rw [hrb]
 rw [HW4.out]
 refine HC.out.mono ?_
 rintro e9 w5 ⟨he,hb5⟩
 have hBw : Below kb w w5:=HBW.out.trans (hb5.mono (by omega))
 have HBW5:=Lib.hid hBw
 clear hb5 hBw
 unfold IndE at he
 rw [err_exO,if_neg (by decide),if_neg (by decide),show ((1 : Int).toNat) = 1 from rfl,out_exO] at he
 rcases he with ⟨-,rfl⟩ | ⟨hl,-⟩
 case inr => exact absurd hl (by decide)
 go_wp2_with (first | (go_at_call 12; refine (lnum9_c _ _).mono ?_; rintro e' w' ⟨rfl,rfl⟩))
 go_ret
 rw [hkb]
 exact ⟨rfl,HBW5.out⟩
end Go.Proofs.YtcanfiaooabocaaGreatDoor
namespace Go.Proofs.YtcanfiaooabocaaGreatDoor
open Go.RowKit Go.Lib
def twoL (L0 : Array Bool) (iA iB : List Nat) (x y : Nat) : Array Bool:=(iA.take x ++ iB.take y).foldl (fun l i => l.setIfInBounds i true) L0
def twoOk (md : Region.Mode) (ops : Array Oper) (L0 : Array Bool) (iA iB : List Nat) : Bool :=
 (List.range (iA.length + 1)).all fun x => (List.range (iB.length + 1)).all fun y =>
  (decide (x = iA.length ∧ y = iB.length) || ((Region.ready md ops (twoL L0 iA iB x y)).all (fun i => (decide (x < iA.length) && i == iA.getD x 0) || (decide (y < iB.length) && i == iB.getD y 0)) &&
  !(Region.ready md ops (twoL L0 iA iB x y)).isEmpty)) &&
  (!decide (x < iA.length) || decide ((twoL L0 iA iB x y).setIfInBounds (iA.getD x 0) true = twoL L0 iA iB (x + 1) y)) &&
  (!decide (y < iB.length) || decide ((twoL L0 iA iB x y).setIfInBounds (iB.getD y 0) true = twoL L0 iA iB x (y + 1)))
theorem wpAnyH_two {P : Program} {ops : Array Oper} {Q : Exit → Act → World → Prop} {md : Region.Mode} {S : World → Prop} (L0 : Array Bool) (iA iB : List Nat) (J : Nat → Nat → Act → World → Prop) (f0 : Nat)
  (hg : twoOk md ops L0 iA iB = true) (hJS : ∀ x y a w,J x y a w → S w)
  (hA : ∀ x y a w,x < iA.length → y ≤ iB.length → J x y a w → wpOp P ops Q (iA.getD x 0) (fun a' w' => J (x + 1) y a' w') a w)
  (hB : ∀ x y a w,x ≤ iA.length → y < iB.length → J x y a w → wpOp P ops Q (iB.getD y 0) (fun a' w' => J x (y + 1) a' w') a w)
  (hE : ∀ a w,J iA.length iB.length a w → wpAnyH P md ops Q S f0 (twoL L0 iA iB iA.length iB.length) a w) :
  ∀ (f x y : Nat) (a : Act) (w : World),x ≤ iA.length → y ≤ iB.length → (iA.length - x) + (iB.length - y) + f0 = f → J x y a w → wpAnyH P md ops Q S f (twoL L0 iA iB x y) a w:=by
 have hc : ∀ x y,x ≤ iA.length → y ≤ iB.length → ((x = iA.length ∧ y = iB.length) ∨ ((∀ i ∈ Region.ready md ops (twoL L0 iA iB x y),(x < iA.length ∧ i = iA.getD x 0) ∨ (y < iB.length ∧ i = iB.getD y 0)) ∧ Region.ready md ops (twoL L0 iA iB x y) ≠ [])) ∧
   (x < iA.length → (twoL L0 iA iB x y).setIfInBounds (iA.getD x 0) true = twoL L0 iA iB (x + 1) y) ∧ (y < iB.length → (twoL L0 iA iB x y).setIfInBounds (iB.getD y 0) true = twoL L0 iA iB x (y + 1)):=fun x y hx hy => by
  have h1:=List.all_eq_true.1 (List.all_eq_true.1 hg x (List.mem_range.2 (by omega))) y (List.mem_range.2 (by omega))
  simp only [Bool.and_eq_true,Bool.or_eq_true,List.all_eq_true,decide_eq_true_eq,beq_iff_eq,Bool.not_eq_true',decide_eq_false_iff_not] at h1
  obtain ⟨⟨h1,h3⟩,h4⟩:=h1
  refine ⟨?_,fun h => h3.resolve_left (fun n => n h),fun h => h4.resolve_left (fun n => n h)⟩
  rcases h1 with h1 | ⟨h1,h2⟩
  ·exact .inl h1
  ·exact .inr ⟨fun i hi => h1 i hi,fun e => by rw [e] at h2; simp at h2⟩
 intro f
 induction f with
 | zero =>
  intro x y a w hx hy hf hJ
  have e1 : x = iA.length:=by omega
  have e2 : y = iB.length:=by omega
  have e3 : f0 = 0:=by omega
  subst e1 e2 e3
  exact hE a w hJ
 | succ f ih =>
  intro x y a w hx hy hf hJ
  obtain ⟨h1,h3,h4⟩:=hc x y hx hy
  rcases h1 with ⟨e1,e2⟩ | ⟨h1,h2⟩
  ·have e3 : f0 = f + 1:=by omega
   subst e1 e2 e3
   exact hE a w hJ
  ·refine ⟨fun h => absurd h h2,fun i hi => ?_⟩
   rcases h1 i hi with ⟨hl,rfl⟩ | ⟨hl,rfl⟩
   ·refine wpOp_mono ?_ (hA x y a w hl hy hJ)
    intro a' w' hJ'
    refine ⟨hJS _ _ _ _ hJ',?_⟩
    rw [h3 hl]
    exact ih (x + 1) y a' w' (by omega) hy (by omega) hJ'
   ·refine wpOp_mono ?_ (hB x y a w hx hl hJ)
    intro a' w' hJ'
    refine ⟨hJS _ _ _ _ hJ',?_⟩
    rw [h4 hl]
    exact ih x (y + 1) a' w' hx (by omega) (by omega) hJ'
def putD (a : Act) (D : List Nat) (f : Nat → Value) : Act:=D.foldl (fun a d => a.put (some d) (f d)) a
theorem putD_get (f : Nat → Value) (k : Nat) : ∀ (D : List Nat) (a : Act),(putD a D f).tmps[k]? = (if k ∈ D then (if k < a.tmps.size then some (f k) else none) else a.tmps[k]?) ∧ (putD a D f).defers = a.defers ∧ (putD a D f).tmps.size = a.tmps.size
 | [],a => ⟨by simp [putD],rfl,rfl⟩
 | d :: r,a => by
  obtain ⟨h1,h2,h3⟩:=putD_get f k r (a.put (some d) (f d))
  have hs : (a.put (some d) (f d)).tmps.size = a.tmps.size:=by simp [Act.put]
  have he : putD a (d :: r) f = putD (a.put (some d) (f d)) r f:=rfl
  rw [he]
  refine ⟨?_,h2,h3.trans hs⟩
  rw [h1,hs]
  by_cases hk : k ∈ r
  ·simp [hk]
  ·rw [if_neg hk]
   by_cases hd : k = d
   ·subst hd
    simp only [List.mem_cons,true_or,if_true,Act.put,Array.getElem?_setIfInBounds]
   ·have : ¬ d = k:=fun e => hd e.symm
    simp only [List.mem_cons,hd,hk,or_self,if_false,Act.put,Array.getElem?_setIfInBounds,this]
theorem act_ext7 {a b : Act} (h : ∀ k : Nat,a.tmps[k]? = b.tmps[k]?) (hd : a.defers = b.defers) : a = b:=by
 cases a; cases b
 simp only at h hd
 subst hd
 congr 1
 exact Array.ext_getElem? h
theorem putD_put {a : Act} {D : List Nat} {f : Nat → Value} {d : Nat} {v : Value} (hd : d ∈ D) : (putD a D f).put (some d) v = putD a D (fun k => if k = d then v else f k):=by
 refine act_ext7 (fun k => ?_) ?_
 ·obtain ⟨h1,-,h3⟩:=putD_get f k D a
  obtain ⟨g1,-,-⟩:=putD_get (fun k => if k = d then v else f k) k D a
  rw [g1]
  simp only [Act.put,Array.getElem?_setIfInBounds,h3]
  by_cases hk : d = k
  ·subst hk; simp [hd]
  ·have hk' : ¬ k = d:=fun e => hk e.symm
   rw [if_neg hk,h1]
   simp only [hk',if_false]
 ·exact ((putD_get f 0 D a).2.1).trans ((putD_get _ 0 D a).2.1).symm
theorem putD_self (a : Act) (D : List Nat) : a = putD a D (fun k => a.tmps.getD k undef):=by
 refine act_ext7 (fun k => ?_) ((putD_get _ 0 D a).2.1).symm
 obtain ⟨h1,-,-⟩:=putD_get (fun k => a.tmps.getD k undef) k D a
 rw [h1]
 split
 ·split
  ·rename_i hs
   exact Array.getElem?_eq_getElem hs
  ·rename_i hs
   exact Array.getElem?_eq_none (by omega)
 ·rfl
theorem putD_eval {a : Act} {D : List Nat} {f : Nat → Value} {d : Nat} (hd : d ∈ D) (hs : d < a.tmps.size) : (putD a D f).eval (.tmp d) = f d:=by
 show (putD a D f).tmps.getD d undef = _
 rw [Array.getD_eq_getD_getElem?,(putD_get f d D a).1,if_pos hd,if_pos hs]; rfl
theorem putD_else {a : Act} {D : List Nat} {f : Nat → Value} {d : Nat} (hd : d ∉ D) : (putD a D f).eval (.tmp d) = a.eval (.tmp d):=by
 show (putD a D f).tmps.getD d undef = a.tmps.getD d undef
 rw [Array.getD_eq_getD_getElem?,(putD_get f d D a).1,if_neg hd,← Array.getD_eq_getD_getElem?]
theorem wpAnyH_twoD {P : Program} {ops : Array Oper} {Q : Exit → Act → World → Prop} {md : Region.Mode} {S : World → Prop} {L0 : Array Bool} {a0 : Act} {w : World} (iA iB D : List Nat) (J : Nat → Nat → (Nat → Value) → World → Prop) (f0 F : Nat)
  (hg : twoOk md ops L0 iA iB = true) (hF : iA.length + iB.length + f0 = F) (hJS : ∀ x y f w,J x y f w → S w) (h0 : J 0 0 (fun k => a0.tmps.getD k undef) w)
  (hA : ∀ x y f w,x < iA.length → y ≤ iB.length → J x y f w → wpOp P ops Q (iA.getD x 0) (fun a' w' => ∃ f',a' = putD a0 D f' ∧ J (x + 1) y f' w') (putD a0 D f) w)
  (hB : ∀ x y f w,x ≤ iA.length → y < iB.length → J x y f w → wpOp P ops Q (iB.getD y 0) (fun a' w' => ∃ f',a' = putD a0 D f' ∧ J x (y + 1) f' w') (putD a0 D f) w)
  (hE : ∀ f w,J iA.length iB.length f w → wpAnyH P md ops Q S f0 (twoL L0 iA iB iA.length iB.length) (putD a0 D f) w) : wpAnyH P md ops Q S F L0 a0 w:=by
 have h:=wpAnyH_two (P:=P) (ops:=ops) (Q:=Q) (md:=md) (S:=S) L0 iA iB (fun x y a w => ∃ f,a = putD a0 D f ∧ J x y f w) f0 hg (fun x y a w ⟨f,_,hJ⟩ => hJS x y f w hJ)
  (fun x y a w hx hy ⟨f,e,hJ⟩ => by subst e; exact hA x y f w hx hy hJ) (fun x y a w hx hy ⟨f,e,hJ⟩ => by subst e; exact hB x y f w hx hy hJ)
  (fun a w ⟨f,e,hJ⟩ => by subst e; exact hE f w hJ) F 0 0 a0 w (Nat.zero_le _) (Nat.zero_le _) (by omega) ⟨_,putD_self a0 D,h0⟩
 simpa [twoL] using h
end Go.Proofs.YtcanfiaooabocaaGreatDoor
