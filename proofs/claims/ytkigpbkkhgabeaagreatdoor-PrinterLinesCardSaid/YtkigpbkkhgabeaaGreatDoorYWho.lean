import Derived.Test.YtkigpbkkhgabeaaGreatDoorYWrr
set_option linter.unusedVariables false
set_option linter.unusedSimpArgs false
namespace Go.Proofs.YtkigpbkkhgabeaaGreatDoor
open Go.RowKit Go.Lib
attribute [local go_sem] Oper.semAt_some
theorem WpH.seq_k {P : Program} {f : FuncId} {x y : Code} {Q : Exit → Act → World → Prop} {a : Act} {w : World} (h : ∀ K : Act → World → Prop,(∀ a w,WpH P f y Q a w → K a w) → x.wpIn Fence.wide 0 P (Exit.then K Q) a w) : WpH P f (.seq x y) Q a w :=
 WpH.seq (WpH.of (h _ fun _ _ h => h))
def NP (Q : Exit → Act → World → Prop) : Exit → Act → World → Prop
 | .normal,a,w => Q .normal a w
 | .panic ch,a,w => Q (.panic ch) a w
 | _,_,_ => False
theorem WpH.block {P : Program} {f : FuncId} {id : Nat} {c : Code} {Q : Exit → Act → World → Prop} {a : Act} {w : World} (h : WpH P f c (NP Q) a w) : WpH P f (.block id c) Q a w:=by
 intro b k cs h1 h2
 have s0 : StepsIn (Machine.fenced P Fence.wide) P (lone (b.atR a (.code (.block id c) :: k)) cs w) (lone (b.atR a (.code c :: .inBlock id :: k)) cs w):=.one (fenced_wide _ _) stepR_block
 obtain ⟨e,a₁,w₁,hq,harr⟩:=h b (.inBlock id :: k) cs h1 h2
 match e,hq,harr with
 | .normal,hq,harr => exact ⟨.normal,a₁,w₁,hq,(s0.trans harr).trans (.one (fenced_wide _ _) stepR_inBlock)⟩
 | .panic ch,hq,harr => exact ⟨.panic ch,a₁,w₁,hq,.of_steps s0 harr⟩
 | .ret,hq,_ => exact hq.elim
 | .exit _,hq,_ => exact hq.elim
 | .goto _,hq,_ => exact hq.elim
 | .outgrown,hq,_ => exact hq.elim
theorem seqE_app (st o : Nat) : ∀ (a b : List (List UInt8)) (f : Bool),seqE st o f (a ++ b) = seqE st o f a ++ seqE st o (f && a.isEmpty) b
 | [],b,f => by simp [seqE]
 | x :: a,b,f => by
  show leadE st o f x ++ seqE st o false (a ++ b) = _
  rw [seqE_app st o a b false]
  simp [seqE]
theorem Fix.trans {a b c : World} (h : Fix a b) (k : Fix b c) : Fix a c:=fun i o hi ho => k i o (h i o hi ho) ho
theorem Fix.set {w : World} {b i : Nat} {vs : Array Value} {t : TypeId} (u : Value) (hb : w.heap[b]? = some (.cells vs t)) : Fix w (w.setCell ⟨b,i,none⟩ u):=fun k o hk ho => by
 rw [Below.heap_setCell _ _ _ _ (by rintro rfl; rw [hb] at hk; injection hk with hk; subst hk; cases ho)]
 exact hk
theorem KeptK.soft {keep : Nat → Prop} {B pb : Nat} {a b : World} (h : Soft B pb a b) (hk : ∀ k,keep k → k < a.heap.size ∧ k ≠ pb ∧ (k < B ∨ ∀ vs fr,a.heap[k]? ≠ some (.cells vs 5 fr))) : KeptK keep a b :=
 ⟨h.size,fun k hkk => h.block k (hk k hkk).1 (hk k hkk).2.1 (hk k hkk).2.2⟩
theorem Soft.setNew {B pb cb i : Nat} {w W : World} (h : Soft B pb w W) (hk : w.heap.size ≤ cb) (u : Value) : Soft B pb w (W.setCell ⟨cb,i,none⟩ u) :=
 ⟨h.os,h.tape,h.output,by simpa [World.setCell] using h.size,fun k hkk hp hc => (Below.heap_setCell _ _ _ _ (by show k ≠ cb; omega)).trans (h.block k hkk hp hc)⟩
theorem Soft.put {B pb D : Nat} {w W : World} (h : Soft B pb w W) (hD : w.heap.size ≤ D) (ob : Obj) : Soft B pb w (W.putObj D ob) :=
 ⟨h.os,h.tape,h.output,by simpa using h.size,fun k hkk hp hc => (World.putObj_heap_other (by omega)).trans (h.block k hkk hp hc)⟩
theorem Pg.putObj {B pb D : Nat} {bs : List UInt8} {room st o : Nat} {F : Value} {w : World} (h : Pg B pb bs room st o F w) {ds : Option (List Deferred)} (hD : w.heap[D]? = some (.deferred ds)) (ob : Obj) : Pg B pb bs room st o F (w.putObj D ob) :=
 h.stay (C:=fun k => k = D) (but_put w ob) (fun k hc vs t fr hv => by subst hc; rw [hD] at hv; cases hv)
theorem Pg.setOther {B pb cb i : Nat} {bs : List UInt8} {room st o : Nat} {F : Value} {w : World} (h : Pg B pb bs room st o F w) {vs : Array Value} {t : TypeId} (hc : w.heap[cb]? = some (.cells vs t)) (h1 : t ≠ 5) (h2 : t ≠ 61) (u : Value) : Pg B pb bs room st o F (w.setCell ⟨cb,i,none⟩ u) :=
 h.stay (C:=fun k => k = cb) (But.setCell (C:=fun k => k = cb) (p:=⟨cb,i,none⟩) (But.refl _ _) (.inl rfl) _) (fun k hk vs' t' fr hv => by subst hk; rw [hc] at hv; injection hv with hv; injection hv with _ h3 _; subst h3; exact ⟨h1,h2⟩)
theorem box_set {w : World} {b cb i : Nat} {vs : Array Value} {t : TypeId} (u : Value) (hb : w.heap[b]? = some (.cells vs t)) (h : b ≠ cb) : (w.setCell ⟨cb,i,none⟩ u).heap[b]? = some (.cells vs t):=by
 rw [Below.heap_setCell _ _ _ _ h]; exact hb
structure RnS (keep : Nat → Prop) (B pb bp cb nb : Nat) (vc vd : Array Value) (cm : ByteArray) (w a W : World) : Prop where
 fx : Fix a W
 kp : KeptK keep a W
 sf : Soft B pb w W
 b1 : W.heap[bp]? = some (.cells #[pgP pb] 62)
 b2 : W.heap[bp + 1]? = some (.cells vc 28)
 b3 : W.heap[cb]? = some (.cells #[.string cm] 9)
 b4 : W.heap[cb + 1]? = some (.cells vc 28)
 b5 : W.heap[nb]? = some (.cells vd 28)
def RnL (keep : Nat → Prop) (B pb bp cb nb : Nat) (w a : World) : Prop:=B ≤ pb ∧ pb < bp ∧ bp + 2 ≤ cb ∧ cb + 2 ≤ nb ∧ w.heap.size ≤ cb ∧ B ≤ a.heap.size ∧ ∀ k,keep k → k < B ∨ k = cb + 1
theorem RnS.step {keep : Nat → Prop} {B pb bp cb nb : Nat} {vc vd : Array Value} {cm : ByteArray} {w a W W' : World} (h : RnS keep B pb bp cb nb vc vd cm w a W) (hl : RnL keep B pb bp cb nb w a) (hs : Soft B pb W W') (hi : ∃ vs t fr,W.heap[pb]? = some (.cells vs t fr)) : RnS keep B pb bp cb nb vc vd cm w a W':=by
 obtain ⟨l1,l2,l3,l4,l5,l6,l7⟩:=hl
 refine ⟨h.fx.trans (hs.fix hi),h.kp.trans (KeptK.soft hs fun k hk => ?_),h.sf.trans hs,hs.keep h.b1 (by omega) (by decide),hs.keep h.b2 (by omega) (by decide),hs.keep h.b3 (by omega) (by decide),hs.keep h.b4 (by omega) (by decide),hs.keep h.b5 (by omega) (by decide)⟩
 rcases l7 k hk with hk | hk
 ·have:=h.kp.size
  exact ⟨by omega,by omega,.inl hk⟩
 ·have h4:=h.b4
  refine ⟨by rw [hk]; exact (Array.getElem?_eq_some_iff.1 h4).1,by omega,.inr fun vs fr e => ?_⟩
  rw [hk,h4] at e
  injection e with e
  injection e with _ e2 _
  exact absurd e2 (by decide)
theorem RnS.setc {keep : Nat → Prop} {B pb bp cb nb : Nat} {vc vd : Array Value} {cm : ByteArray} {w a W : World} (h : RnS keep B pb bp cb nb vc vd cm w a W) (hl : RnL keep B pb bp cb nb w a) (c2 : ByteArray) : RnS keep B pb bp cb nb vc vd c2 w a (W.setCell ⟨cb,0,none⟩ (.string c2)):=by
 obtain ⟨l1,l2,l3,l4,l5,l6,l7⟩:=hl
 refine ⟨h.fx.trans (Fix.set _ h.b3),h.kp.trans ⟨by simp [World.setCell],fun k hk => Below.heap_setCell _ _ _ _ ?_⟩,h.sf.setNew l5 _,box_set _ h.b1 (by omega),box_set _ h.b2 (by omega),?_,box_set _ h.b4 (by omega),box_set _ h.b5 (by omega)⟩
 ·show k ≠ cb
  rcases l7 k hk with hk | hk <;> omega
 ·exact set_page (w:=W) (pb:=cb) (i:=0) (.string c2) h.b3
set_option maxRecDepth 100000 in
set_option maxHeartbeats 8000000 in
theorem holder_c {F : Value} {qc : Int → List UInt8} (hM : Md F qc) {B pb : Nat} {bs : List UInt8} {room st o : Nat} {S : Nat → Prop} {x : VT} {cs : List Value} (be en : UInt8) (w : World) (hP : Pg B pb bs room st o F w) (hG : Gl B w) (hB : B ≤ w.heap.size)
  (hx : VIn w S x cs) (hS : ∀ b,S b → b < B) (hk : x.kind = 5 ∨ x.kind = 6) (hkl : x.kind = 6 → x.keys.length = x.list.length) (hkt : ∀ s ∈ x.keys,isT s.data.toList = true ∧ s.size ≤ 16384) (hln : x.list.length ≤ 4096) (hst : st ≤ 8) (ho : o ≤ 900) (hcap : bs.length + room ≤ 140737488355328)
  (hitem : ∀ y ∈ x.list,∀ (bs' : List UInt8) (room' : Nat) (w' : World) (ds : List Value),Pg B pb bs' room' st (o + 1) F w' → Gl B w' → B ≤ w'.heap.size → VIn w' S y ds → bs'.length + room' ≤ 140737488355328 →
   Calls Tryz.prog 26 #[pgP pb,.agg ds.toArray] w' (Wr B pb bs' room' st (o + 1) F w' (prV qc numP st (o + 1) y))) :
  Calls Tryz.prog 49 #[pgP pb,.string ⟨#[be]⟩,.agg cs.toArray,.string ⟨#[en]⟩] w (Wr B pb bs room st o F w (holdL qc numP st o be en x)):=by
 obtain ⟨pc,hpc⟩ : ∃ pc,pcE qc numP st o (decide (x.kind = 6)) = pc:=⟨_,rfl⟩
 obtain ⟨O,hO⟩ : ∃ O,holdL qc numP st o be en x = O:=⟨_,rfl⟩
 obtain ⟨LL,hLL⟩ : ∃ LL,(if x.list.isEmpty then [] else lineL st o) = LL:=⟨_,rfl⟩
 have hOO : O = [be] ++ (seqE st o true ((entL x).map pc) ++ (LL ++ [en])):=by rw [← hO,← hLL,← hpc]; rfl
 rw [hO]
 obtain ⟨SQ,hSQ⟩ : ∃ SQ,seqE st o true ((entL x).map pc) = SQ:=⟨_,rfl⟩
 rw [hSQ] at hOO
 have hOl : O.length = 1 + (SQ.length + (LL.length + 1)):=by rw [hOO]; simp only [List.length_append,List.length_singleton]
 have HX:=Lib.hid hx
 have HP:=Lib.hid hP
 have HG:=Lib.hid hG
 have HOO:=Lib.hid hOO
 have HOL:=Lib.hid hOl
 have HLL:=Lib.hid hLL
 have HSQ:=Lib.hid hSQ
 have HPC:=Lib.hid hpc
 have HIT:=Lib.hid hitem
 have HKT:=Lib.hid hkt
 have HKL:=Lib.hid hkl
 have HK56:=Lib.hid hk
 have HLN:=Lib.hid hln
 have HCAP:=Lib.hid hcap
 have hpl:=hP.lt
 have hpB:=hP.base
 clear hP hG hO hOO hOl hLL hSQ hpc hitem hkt hkl hk hln hcap
 obtain ⟨k,neg,xs,e,t,li,ks,hxk⟩ : ∃ k neg xs e t li ks,x = VT.mk k neg xs e t li ks:=by cases x; exact ⟨_,_,_,_,_,_,_,rfl⟩
 rw [hxk] at hx
 obtain ⟨A,n,c,LA,ln,lc,KA,kn,kc,rfl,-,-,-,hrl,-⟩:=hx.parts
 have hlen : li.length = ln:=hrl.1
 have HXK:=Lib.hid hxk
 clear hx hxk hrl
 obtain ⟨bp,hbp⟩ : ∃ b,w.heap.size = b:=⟨_,rfl⟩
 have hw0 : But (fun _ => False) w ((w.alloc (.cells #[pgP pb] 62)).alloc (.cells #[.int .i64 k,.bool neg,.slice A n c,.int .i64 e,.string t,.slice LA ln lc,.slice KA kn kc] 28)):=((But.refl _ w).alloc _).alloc _
 have hm2:=World.alloc_heap_new (w.alloc (.cells #[pgP pb] 62)) (.cells #[.int .i64 k,.bool neg,.slice A n c,.int .i64 e,.string t,.slice LA ln lc,.slice KA kn kc] 28)
 have hm1:=(Below.heap_alloc (w.alloc (.cells #[pgP pb] 62)) (.cells #[.int .i64 k,.bool neg,.slice A n c,.int .i64 e,.string t,.slice LA ln lc,.slice KA kn kc] 28) w.heap.size (by simp)).trans (World.alloc_heap_new w _)
 have hsz0 : ((w.alloc (.cells #[pgP pb] 62)).alloc (.cells #[.int .i64 k,.bool neg,.slice A n c,.int .i64 e,.string t,.slice LA ln lc,.slice KA kn kc] 28)).heap.size = bp + 2:=by simp; omega
 rw [World.size_alloc,hbp] at hm2
 rw [hbp] at hm1
 have hbpp : bp ≠ pb:=by omega
 refine callsIn_wide.1 (calls_of_WpH Tryz.func49 rfl ?_)
 simp only [Tryz.ntmps49,List.size_toArray,List.length_cons,List.length_nil,Nat.reduceAdd,Nat.reduceSub,Array.replicate_succ,Array.replicate_zero,List.push_toArray,List.append_toArray,List.nil_append,List.cons_append]
 refine WpH.seq_k fun K hK => ?_
 gi_wp2_with fail
 try clear hK
 generalize ((w.alloc (.cells #[pgP pb] 62)).alloc (.cells #[.int .i64 k,.bool neg,.slice A n c,.int .i64 e,.string t,.slice LA ln lc,.slice KA kn kc] 28)) = w0 at *
 have hP0:=HP.out.stay0 hw0
 have hB0 : B ≤ w0.heap.size:=by omega
 have q1:=cell_at3 (i:=0) hm1 rfl
 refine WpH.seq_k fun K hK => ?_
 gi_wp2_with fail
 refine ⟨trivial,rfl,?_⟩
 refine (callsIn_wide.2 (putL_c w0 hP0 ⟨#[be]⟩ [be] rfl (by rw [List.length_singleton]; have:=HCAP.out; omega) hB0)).mono ?_
 rintro e9 w1 (⟨hr1,rfl,hP1,hS1⟩ | ⟨hr1,rfl,hS1⟩)
 case inr => exact (Wr.no (by rw [List.length_singleton] at hr1; have:=HOL.out; omega) ((Soft.of0 hw0).trans hS1) : Wr B pb bs room st o F w O Flt5 w1)
 rw [List.length_singleton] at hr1 hP1
 have n1:=hS1.keep hm1 hbpp (by decide)
 have n2:=hS1.keep hm2 (by omega) (by decide)
 have hS01:=(Soft.of0 hw0).trans hS1
 have hsz1 : bp + 2 ≤ w1.heap.size:=by have:=hS1.size; omega
 clear hm1 hm2 hP0 hw0 hS1 q1
 gi_wp2_with fail
 try clear hK
 obtain ⟨-,-,c4,-⟩:=hP1.cells
 have f4:=hP1.frozen 4
 have q1:=cell_at3 (i:=0) n1 rfl
 have hwo : IntKind.i64.wrap ((o : Int) + 1) = ((o + 1 : Nat) : Int):=by rw [IntWalk.i64_in _ (by omega)]; omega
 obtain ⟨o1,ho1⟩ : ∃ o1,o + 1 = o1:=⟨_,rfl⟩
 rw [ho1] at hwo
 have hP2:=hP1.opn o1
 have m1:=box_set (i:=4) (cb:=pb) (.int .i64 (o1 : Int)) n1 hbpp
 have m2:=box_set (i:=4) (cb:=pb) (.int .i64 (o1 : Int)) n2 (by omega)
 have hS2:=hS01.trans (Soft.set (B:=B) w1 4 (.int .i64 (o1 : Int)))
 have hsz2 : (w1.setCell ⟨pb,4,none⟩ (.int .i64 (o1 : Int))).heap.size = w1.heap.size:=by simp [World.setCell]
 have HO1:=Lib.hid ho1
 have HP1:=Lib.hid hP1
 clear ho1 hP1
 refine WpH.seq_k fun K hK => ?_
 gi_wp2_with fail
 try clear hK
 generalize (w1.setCell ⟨pb,4,none⟩ (.int .i64 (o1 : Int))) = w2 at *
 have hsz2' : bp + 2 ≤ w2.heap.size:=by omega
 clear c4 f4 q1 n1 n2 hwo HP1 hS01 hsz2
 obtain ⟨cb,hcb⟩ : ∃ b,w2.heap.size = b:=⟨_,rfl⟩
 have hw3 : But (fun _ => False) w2 (w2.alloc (.cells #[.string ⟨#[]⟩] 9)):=(But.refl _ _).alloc _
 have hm3:=World.alloc_heap_new w2 (.cells #[.string ⟨#[]⟩] 9)
 rw [hcb] at hm3
 refine WpH.seq_k fun K hK => ?_
 gi_wp2_with fail
 try clear hK
 obtain ⟨w3,hw3e⟩ : ∃ w3,w2.alloc (.cells #[.string ⟨#[]⟩] 9) = w3:=⟨_,rfl⟩
 try rw [hcb]
 rw [hw3e] at hw3 hm3 ⊢
 have hcl2 : cb = w2.heap.size:=hcb.symm
 have e1:=(hw3.block bp (by omega) (fun h => h)).trans m1
 have e2:=(hw3.block (bp + 1) (by omega) (fun h => h)).trans m2
 have hP3:=hP2.stay0 hw3
 have hS3:=hS2.trans (Soft.of0 hw3)
 have hsz3 : w3.heap.size = cb + 1:=by rw [← hw3e]; simp; omega
 have hcbb : bp + 2 ≤ cb:=by omega
 clear hw3e hw3 m1 m2 hP2 hS2 hcb hcl2
 obtain ⟨y0,y1,y2,y3,y4,y5,y6⟩:=box7_of e2
 refine WpH.seq ?_
 refine WpH.seq_k fun K hK => ?_
 gi_wp2_with fail
 refine ⟨trivial,rfl,?_⟩
 refine (callsIn_wide.2 (entries_c #[.int .i64 k,.bool neg,.slice A n c,.int .i64 e,.string t,.slice LA ln lc,.slice KA kn kc] w3)).mono ?_
 rintro e9 w4 ⟨rfl,hw4e⟩
 have hb4 : But (fun _ => False) w3 w4:=by rw [hw4e]; exact (But.refl _ _).alloc _
 have hm4 : w4.heap[w3.heap.size]? = some (.cells #[.int .i64 k,.bool neg,.slice A n c,.int .i64 e,.string t,.slice LA ln lc,.slice KA kn kc] 28):=by rw [hw4e]; exact World.alloc_heap_new _ _
 have hsz4 : w4.heap.size = cb + 2:=by rw [hw4e]; simp; omega
 rw [hsz3] at hm4
 clear y0 y1 y2 y3 y4 y5 y6 hw4e
 try rw [hsz3]
 gi_wp2_with fail
 try clear hK
 have g1:=(hb4.block bp (by omega) (fun h => h)).trans e1
 have g2:=(hb4.block (bp + 1) (by omega) (fun h => h)).trans e2
 have g3:=(hb4.block cb (by omega) (fun h => h)).trans hm3
 have hP4:=hP3.stay0 hb4
 have hS4:=hS3.trans (Soft.of0 hb4)
 have hG4:=HG.out.low (hS4.below hB hpB)
 have HG4:=Lib.hid hG4
 clear hP3 hS3 e1 e2 hm3 hb4 hG4
 have HP4:=Lib.hid hP4
 have HS4:=Lib.hid hS4
 have HM4:=Lib.hid hm4
 have HG1:=Lib.hid g1
 have HG2:=Lib.hid g2
 have HG3:=Lib.hid g3
 clear hP4 hS4 hm4 g1 g2 g3
 refine WpH.block ?_
 refine range_law_p (f:=49) (fnF:=Tryz.f49) Tryz.func49 (gf:=107) (lb:=#[.pointer (some ⟨cb + 1,0,none⟩)]) rfl (enters_of Tryz.func107 (by kernel_rfl) rfl) (Enc:=EncE S) (keep:=fun k => S k ∨ k = cb + 1) (xs:=entL x)
  (fun W hsz hb => entries1_iter W ((hb.block _ (by omega) (fun h => h)).trans HM4.out) (HX.out.keep fun p hp => ((HS4.out.trans (Soft.of0 hb)).low hpB hB (hS _ hp))) (fun b hb2 => by have:=hS b hb2; have:=HS4.out.size; omega) HK56.out HKL.out HLN.out)
  (fun W p vs ⟨cs,h,_⟩ => by rw [h]; rfl)
  (fun k hk => by rcases hk with hk | hk; (have:=hS k hk; have:=HS4.out.size; omega); omega)
  (fun W W' p vs h ⟨ds,h1,h2⟩ => ⟨ds,h1,h2.keep fun q hq => World.cell?_of_block (h _ (.inl hq))⟩)
  (fun pre W => Hid (1 + (seqE st o true (pre.map pc)).length ≤ room) ∧ Hid (Pg B pb (bs ++ [be] ++ seqE st o true (pre.map pc)) (room - 1 - (seqE st o true (pre.map pc)).length) st o1 F W) ∧ Hid (Soft B pb w W) ∧ Hid (W.heap[bp]? = some (.cells #[pgP pb] 62)) ∧ Hid (W.heap[bp + 1]? = some (.cells #[.int .i64 k,.bool neg,.slice A n c,.int .i64 e,.string t,.slice LA ln lc,.slice KA kn kc] 28)) ∧ Hid (W.heap[cb]? = some (.cells #[.string (if pre.isEmpty then ⟨#[]⟩ else ⟨#[44]⟩)] 9)) ∧ Hid (W.heap[cb + 1]? = some (.cells #[.int .i64 k,.bool neg,.slice A n c,.int .i64 e,.string t,.slice LA ln lc,.slice KA kn kc] 28)))
  (fun ch W => ch = [{ v:=.iface 83 (.agg #[.int .i64 5]),recovered:=false }] ∧ Soft B pb w W ∧ room < O.length)
  ?_ ?_ ?_ ?_ ?_
 ·rintro pre X Y ⟨h1,h2,h3,h4,h5,h6,h7⟩ hb
  have hlt : ∀ (q : Nat) (vs : Array Value) (tt : TypeId),X.heap[q]? = some (.cells vs tt) → Y.heap[q]? = some (.cells vs tt):=fun q vs tt hq => by
   rcases hb with hb | ⟨hb,ob,hb2,hb3⟩
   ·exact (hb.block q (Array.getElem?_eq_some_iff.1 hq).1 (fun h => h)).trans hq
   ·refine (hb.block q (Array.getElem?_eq_some_iff.1 hq).1 (fun h => ?_)).trans hq
    rw [h,hb2] at hq; injection hq with hq; subst hq; cases hb3
  refine ⟨h1,?_,?_,hlt _ _ _ h4.out,hlt _ _ _ h5.out,hlt _ _ _ h6.out,hlt _ _ _ h7.out⟩
  ·rcases hb with hb | hb
   ·exact h2.out.stay0 hb
   ·exact h2.out.turn hb
  ·rcases hb with hb | hb
   ·exact h3.out.trans (Soft.of0 hb)
   ·refine ⟨hb.1.os.trans h3.out.os,hb.1.tape.trans h3.out.tape,hb.1.output.trans h3.out.output,Nat.le_trans h3.out.size hb.1.size,fun k hk hp hc => (hb.1.block k (Nat.lt_of_lt_of_le hk h3.out.size) (by have:=HS4.out.size; omega)).trans (h3.out.block k hk hp hc)⟩
 ·intro W hb
  refine ⟨hr1,?_,HS4.out.trans (Soft.of0 hb),(hb.block _ (by omega) (fun h => h)).trans HG1.out,(hb.block _ (by omega) (fun h => h)).trans HG2.out,(hb.block _ (by omega) (fun h => h)).trans HG3.out,(hb.block _ (by omega) (fun h => h)).trans HM4.out⟩
  have:=HP4.out.stay0 hb
  show Pg _ _ _ _ _ _ _ _
  simpa [seqE] using this
 ·rintro l pre ⟨ke,y⟩ rest vs Wv hxs ⟨ds,rfl,hv⟩ W K hK
  obtain ⟨k2,neg2,A2,n2,c2,e2,t2,LA2,ln2,lc2,KA2,kn2,kc2,rfl,-,-⟩:=hv.seven
  have HK:=Lib.hid hK
  clear hK hv
  obtain ⟨nb,hnb⟩ : ∃ nb,W.heap.size = nb:=⟨_,rfl⟩
  have hz:=World.alloc_heap_new W (.cells #[.int .i64 0,.bool false,.slice none 0 0,.int .i64 0,.string ⟨#[]⟩,.slice none 0 0,.slice none 0 0] 28)
  rw [hnb] at hz
  obtain ⟨z0,z1,z2,z3,z4,z5,z6⟩:=box7_of hz
  have hfz : ∀ i,(W.alloc (.cells #[.int .i64 0,.bool false,.slice none 0 0,.int .i64 0,.string ⟨#[]⟩,.slice none 0 0,.slice none 0 0] 28)).frozen? ⟨nb,i,none⟩ = false:=fun i => by simp [World.frozen?,hz]
  have f0:=hfz 0
  have f1:=hfz 1
  have f2:=hfz 2
  have f3:=hfz 3
  have f4:=hfz 4
  have f5:=hfz 5
  have f6:=hfz 6
  have hm:=World.alloc_heap_new W (.cells #[.int .i64 k2,.bool neg2,.slice A2 n2 c2,.int .i64 e2,.string t2,.slice LA2 ln2 lc2,.slice KA2 kn2 kc2] 28)
  rw [hnb] at hm
  clear hfz
  gi_wp2_with fail
  refine HK.out _ _ ((But.refl _ _).alloc _) ?_
  clear z0 z1 z2 z3 z4 z5 z6 f0 f1 f2 f3 f4 f5 f6 hz
  rintro W2 ⟨h1,h2,h3,h4,h5,h6,h7⟩ ⟨ds2,hd2,hv2⟩ hszW hsz2 hsame
  have hds : ds2 = [.int .i64 k2,.bool neg2,.slice A2 n2 c2,.int .i64 e2,.string t2,.slice LA2 ln2 lc2,.slice KA2 kn2 kc2]:=by
   have:=congrArg (fun a : Array Value => a[1]?) hd2
   simp at this
   exact this.symm
  subst hds
  have hv3 : VIn W2 S y [.int .i64 k2,.bool neg2,.slice A2 n2 c2,.int .i64 e2,.string t2,.slice LA2 ln2 lc2,.slice KA2 kn2 kc2]:=hv2
  have hpart : W2.heap[nb]? = some (.cells #[.int .i64 k2,.bool neg2,.slice A2 n2 c2,.int .i64 e2,.string t2,.slice LA2 ln2 lc2,.slice KA2 kn2 kc2] 28):=by
   rw [hsame nb (by simp; omega) (by omega)]; exact hm
  have hnW : nb < W2.heap.size:=(Array.getElem?_eq_some_iff.1 hpart).1
  clear HK hsame hm hsz2 hd2 hv2
  obtain ⟨cm,hcm⟩ : ∃ cm : ByteArray,(if pre.isEmpty then ⟨#[]⟩ else ⟨#[44]⟩) = cm:=⟨_,rfl⟩
  obtain ⟨cl,hcl⟩ : ∃ cl : List UInt8,(if pre.isEmpty then [] else [44]) = cl:=⟨_,rfl⟩
  have hcml : cm.data.toList = cl:=by rw [← hcm,← hcl]; cases pre <;> rfl
  rw [hcm] at h6
  obtain ⟨SE,hSE⟩ : ∃ SE,seqE st o true (pre.map pc) = SE:=⟨_,rfl⟩
  rw [hSE] at h1 h2
  obtain ⟨KL,hKLd⟩ : ∃ KL,(if decide (x.kind = 6) then keyL qc st ke else []) = KL:=⟨_,rfl⟩
  obtain ⟨VL,hVL⟩ : ∃ VL,prV qc numP st o1 y = VL:=⟨_,rfl⟩
  have hnext : seqE st o true ((pre ++ [(ke,y)]).map pc) = SE ++ (cl ++ (lineL st o1 ++ (KL ++ VL))):=by
   rw [List.map_append,List.map_singleton,seqE_snoc,hSE,List.isEmpty_map,Bool.true_and]
   unfold leadE
   rw [hcl,HO1.out,← HPC.out]
   unfold pcE
   rw [hKLd,HO1.out,hVL]
  have hpfx : SE.length + (cl.length + ((lineL st o1).length + (KL.length + VL.length))) ≤ SQ.length:=by
   have h9 : SQ = SE ++ (cl ++ (lineL st o1 ++ (KL ++ VL))) ++ seqE st o (true && ((pre ++ [(ke,y)]).map pc).isEmpty) (rest.map pc):=by
    rw [← HSQ.out,hxs,← hnext,← seqE_app,← List.map_append,List.append_assoc]; rfl
   rw [h9]
   simp only [List.length_append]
   omega
  have hroomO : ∀ n : Nat,1 + n ≤ O.length → room < 1 + n → room < O.length:=fun n a b => by omega
  obtain ⟨bs0,hbs0⟩ : ∃ b,bs ++ [be] ++ SE = b:=⟨_,rfl⟩
  obtain ⟨room0,hroom0⟩ : ∃ r,room - 1 - SE.length = r:=⟨_,rfl⟩
  rw [hbs0,hroom0] at h2
  have hbl : bs0.length = bs.length + 1 + SE.length:=by rw [← hbs0]; simp only [List.length_append,List.length_singleton]
  have hcap0 : bs0.length + room0 ≤ 140737488355328:=by have:=HCAP.out; have:=h1.out; omega
  have hBW : B ≤ W2.heap.size:=by have:=h3.out.size; omega
  have hyin : y ∈ x.list ∧ (x.kind = 6 → isT ke.data.toList = true ∧ ke.size ≤ 16384):=by
   have hme : (ke,y) ∈ entL x:=by rw [hxs]; simp
   rw [HXK.out,entL_mk] at hme
   rw [HXK.out]
   by_cases h6k : k = 6
   ·rw [if_pos h6k] at hme
    have:=List.of_mem_zip hme
    exact ⟨this.2,fun _ => HKT.out ke (by rw [HXK.out]; exact this.1)⟩
   ·rw [if_neg h6k] at hme
    obtain ⟨z,hz,hze⟩:=List.mem_map.1 hme
    injection hze with _ hze2
    rw [← hze2]
    exact ⟨hz,fun h => absurd h h6k⟩
  have HNEXT:=Lib.hid hnext
  have HPFX:=Lib.hid hpfx
  have HCL:=Lib.hid hcml
  have HKLD:=Lib.hid hKLd
  have HVL:=Lib.hid hVL
  have HBS0:=Lib.hid hbs0
  have HR0:=Lib.hid hroom0
  have HV:=Lib.hid hv3
  have HYIN:=Lib.hid hyin
  have HPART:=Lib.hid hpart
  have q1:=cell_at3 (i:=0) h4.out rfl
  have q3:=cell_at3 (i:=0) h6.out rfl
  clear hnext hpfx hcml hKLd hVL hbs0 hroom0 hcm hcl hSE hv3 hxs hyin hpart hroomO
  gi_wp2_with fail
  have hmx : Tryz.prog.follows .mixedOrders = true:=by kernel_rfl
  refine region_held_roundW (S:=fun V => V.cell? ⟨bp,0,none⟩ = some (pgP pb) ∧ V.cell? ⟨cb,0,none⟩ = some (.string cm)) hmx (by rfl) (fun h => ?_) ⟨q1,q3⟩ (fun hHeld => ?_)
  ·obtain ⟨_,_,h⟩:=h
   exact h
  (try simp only [List.size_toArray,List.length_cons,List.length_nil,Nat.reduceAdd,Array.replicate_succ,Array.replicate_zero,List.push_toArray,List.append_toArray,List.nil_append,List.cons_append])
  refine wpAnyH_take (i:=0) (oi:=⟨_,_,_,_,_,_⟩) (v:=?_) rfl (by kernel_rfl) (by kernel_rfl) (by kernel_rfl) (fun _ _ _ h => h) (Or.inl ⟨by rfl,?_⟩) (by assumption) ?_
  rotate_left
  ·intro w hSw
   (try dsimp only at hSw)
   go_split_ands
   go_simp
   try with_reducible rfl
  try simp only [Act.put,List.setIfInBounds_toArray,List.set_cons_zero,List.set_cons_succ]
  refine wpAnyH_take (i:=1) (oi:=⟨_,_,_,_,_,_⟩) (v:=?_) rfl (by kernel_rfl) (by kernel_rfl) (by kernel_rfl) (fun _ _ _ h => h) (Or.inl ⟨by rfl,?_⟩) (by assumption) ?_
  rotate_left
  ·intro w hSw
   (try dsimp only at hSw)
   go_split_ands
   go_simp
   try with_reducible rfl
  try simp only [Act.put,List.setIfInBounds_toArray,List.set_cons_zero,List.set_cons_succ]
  refine wpAnyH_take (i:=2) (oi:=⟨_,_,_,_,_,_⟩) (v:=?_) rfl (by kernel_rfl) (by kernel_rfl) (by kernel_rfl) (fun _ _ _ h => h) (Or.inl ⟨by rfl,?_⟩) (by assumption) ?_
  rotate_left
  ·intro w hSw
   (try dsimp only at hSw)
   go_split_ands
   go_simp
   try with_reducible rfl
  try simp only [Act.put,List.setIfInBounds_toArray,List.set_cons_zero,List.set_cons_succ]
  refine wpAnyH_take (i:=3) (oi:=⟨_,_,_,_,_,_⟩) (v:=?_) rfl (by kernel_rfl) (by kernel_rfl) (by kernel_rfl) (fun _ _ _ h => h) (Or.inl ⟨by rfl,?_⟩) (by assumption) ?_
  rotate_left
  ·intro w hSw
   (try dsimp only at hSw)
   go_split_ands
   go_simp
   try with_reducible rfl
  try simp only [Act.put,List.setIfInBounds_toArray,List.set_cons_zero,List.set_cons_succ]
  refine wpAnyH_ready (rs:=[4]) (by kernel_rfl) (by simp) (AllReadyH.cons (o:=⟨_,_,_,_,_,_⟩) rfl (fun K hK => ?_) AllReadyH.nil)
  go_simp
  refine (putL_c _ h2.out.drw cm cl HCL.out (by omega) hBW).mono ?_
  rintro e9 w7 (⟨hr7,rfl,hP7,hS7⟩ | ⟨hr7,rfl,hS7⟩)
  case inr =>
   have hS27:=(Soft.refl B pb W2).drw.trans hS7
   exact ⟨hS27.fix h2.out.isc,rfl,rfl,h3.out.trans hS27,by have:=HPFX.out; have:=HOL.out; have:=h1.out; have:=HR0.out; omega⟩
  (try dsimp only)
  have hL : RnL (fun k => S k ∨ k = cb + 1) B pb bp cb nb w W2:=⟨hpB,by omega,hcbb,by omega,by omega,hBW,fun k hk => hk.imp (hS k) id⟩
  have hR7 : RnS (fun k => S k ∨ k = cb + 1) B pb bp cb nb #[.int .i64 k,.bool neg,.slice A n c,.int .i64 e,.string t,.slice LA ln lc,.slice KA kn kc] #[.int .i64 k2,.bool neg2,.slice A2 n2 c2,.int .i64 e2,.string t2,.slice LA2 ln2 lc2,.slice KA2 kn2 kc2] cm w W2 w7:=RnS.step ⟨fun _ _ h _ => h,KeptK.refl _ _,h3.out,h4.out,h5.out,h6.out,h7.out,HPART.out⟩ hL ((Soft.refl B pb W2).drw.trans hS7) h2.out.isc
  refine hK _ _ ⟨cell_at3 (i:=0) hR7.b1 rfl,cell_at3 (i:=0) hR7.b3 rfl⟩ (fun hHeld2 => ?_)
  clear hK K hHeld hHeld2 q1 q3
  try simp only [Act.put,List.setIfInBounds_toArray,List.set_cons_zero,List.set_cons_succ]
  refine wpAnyH_done (by kernel_rfl) ?_ _
  have q3:=cell_at3 (i:=0) hR7.b3 rfl
  have hf3 : w7.frozen? ⟨cb,0,none⟩ = false:=by simp [World.frozen?,hR7.b3]
  have hP8:=hP7.setOther (i:=0) hR7.b3 (by decide) (by decide) (.string ⟨#[44]⟩)
  have hR8:=hR7.setc hL ⟨#[44]⟩
  have HL:=Lib.hid hL
  have HP8:=Lib.hid hP8
  have HR8:=Lib.hid hR8
  clear hP7 hS7 hR7 h2 h3 h4 h5 h6 h7 HPART hP8 hR8 hL
  gi_upto_region 9 with fail
  generalize (w7.setCell ⟨cb,0,none⟩ (.string ⟨#[44]⟩)) = w8 at HP8 HR8 ⊢
  clear q3 hf3
  have q1:=cell_at3 (i:=0) HR8.out.b1 rfl
  have hB8 : B ≤ w8.heap.size:=by have:=HR8.out.sf.size; omega
  gi_wp2_with fail
  refine ⟨trivial,rfl,?_⟩
  refine (CallsIn.inRound l (callsIn_wide.2 (line_c w8 HP8.out hB8 hst (by have:=HO1.out; omega) (by simp only [List.length_append]; omega)))).mono ?_
  rintro e9 w9 (⟨hr9,rfl,hP9,hS9⟩ | ⟨hr9,rfl,hS9⟩)
  case inr => exact ⟨HR8.out.fx.trans (hS9.fix HP8.out.isc),rfl,rfl,HR8.out.sf.trans hS9,by have:=HPFX.out; have:=HOL.out; have:=h1.out; have:=HR0.out; omega⟩
  (try dsimp only)
  have HR9:=Lib.hid (HR8.out.step HL.out hS9 HP8.out.isc)
  have HP9:=Lib.hid hP9
  have hB9 : B ≤ w9.heap.size:=by have:=hS9.size; omega
  clear hP9 hS9 HP8 HR8 hB8 q1
  obtain ⟨y0,y1,y2,y3,y4,y5,y6⟩:=box7_of HR9.out.b2
  have hk56 : k = 5 ∨ k = 6:=by have h:=HK56.out; rw [HXK.out] at h; exact h
  rcases hk56 with rfl | rfl
  ·have hKL0 : KL = []:=by rw [← HKLD.out,HXK.out]; rfl
   rw [hKL0] at HNEXT HPFX
   have q1:=cell_at3 (i:=0) HR9.out.b1 rfl
   obtain ⟨v0,v1,v2,v3,v4,v5,v6⟩:=box7_of HR9.out.b5
   have hVy : VIn w9 S y [.int .i64 k2,.bool neg2,.slice A2 n2 c2,.int .i64 e2,.string t2,.slice LA2 ln2 lc2,.slice KA2 kn2 kc2]:=HV.out.keep fun q hq => World.cell?_of_block (HR9.out.kp.block _ (.inl hq))
   have hGy : Gl B w9:=HG.out.low (HR9.out.sf.below hB hpB)
   have hit:=HIT.out
   rw [HO1.out] at hit
   have hiv:=hit y HYIN.out.1 _ _ w9 _ HP9.out hGy hB9 hVy (by simp only [List.length_append]; omega)
   rw [HVL.out] at hiv
   clear hit
   clear hVy hGy
   gi_wp2_with fail
   refine ⟨trivial,rfl,?_⟩
   refine (CallsIn.inRound l (callsIn_wide.2 hiv)).mono ?_
   rintro e9 w11 (⟨hr11,rfl,hP11,hS11⟩ | ⟨hr11,rfl,hS11⟩)
   case inr => exact ⟨HR9.out.fx.trans (hS11.fix HP9.out.isc),rfl,rfl,HR9.out.sf.trans hS11,by have:=HPFX.out; have:=HOL.out; have:=h1.out; have:=HR0.out; omega⟩
   (try dsimp only)
   have HR11:=Lib.hid (HR9.out.step HL.out hS11 HP9.out.isc)
   have HP11:=Lib.hid hP11
   clear hP11 hS11 v0 v1 v2 v3 v4 v5 v6 q1
   gi_wp2_with fail
   have hne : (if (pre ++ [(ke,y)]).isEmpty then (⟨#[]⟩ : ByteArray) else ⟨#[44]⟩) = ⟨#[44]⟩:=by simp
   refine ⟨HR11.out.fx,HR11.out.kp,?_⟩
   show Hid _ ∧ Hid _ ∧ Hid _ ∧ Hid _ ∧ Hid _ ∧ Hid _ ∧ Hid _
   rw [HNEXT.out,hne]
   refine ⟨?_,?_,HR11.out.sf,HR11.out.b1,HR11.out.b2,HR11.out.b3,HR11.out.b4⟩
   ·show 1 + (SE ++ (cl ++ (lineL st o1 ++ (([] : List UInt8) ++ VL)))).length ≤ room
    simp only [List.length_append,List.length_nil]
    have:=h1.out; have:=HR0.out
    omega
   ·have h9:=HP11.out
    rw [← HBS0.out] at h9
    show Pg _ _ _ _ _ _ _ _
    have hrm : room0 - cl.length - (lineL st o1).length - VL.length = room - 1 - (SE ++ (cl ++ (lineL st o1 ++ (([] : List UInt8) ++ VL)))).length:=by
     simp only [List.length_append,List.length_nil]
     have:=HR0.out
     omega
    rw [hrm] at h9
    simp only [List.append_assoc,List.nil_append] at h9 ⊢
    exact h9
  ·have hKL6 : keyL qc st ke = KL:=by rw [← HKLD.out,HXK.out]; rfl
   have hkt:=HYIN.out.2 (by rw [HXK.out]; rfl)
   have hky:=pkey_c hM w9 HP9.out (HG.out.low (HR9.out.sf.below hB hpB)) hB9 ke hkt.1 (by have:=hkt.2; omega) (by simp only [List.length_append]; omega)
   rw [hKL6] at hky
   have q1:=cell_at3 (i:=0) HR9.out.b1 rfl
   clear hkt hKL6
   gi_wp2_with fail
   refine ⟨trivial,rfl,?_⟩
   refine (CallsIn.inRound l (callsIn_wide.2 hky)).mono ?_
   rintro e9 w10 (⟨hr10,rfl,hP10,hS10⟩ | ⟨hr10,rfl,hS10⟩)
   case inr => exact ⟨HR9.out.fx.trans (hS10.fix HP9.out.isc),rfl,rfl,HR9.out.sf.trans hS10,by have:=HPFX.out; have:=HOL.out; have:=h1.out; have:=HR0.out; omega⟩
   (try dsimp only)
   have HR10:=Lib.hid (HR9.out.step HL.out hS10 HP9.out.isc)
   have HP10:=Lib.hid hP10
   have hB10 : B ≤ w10.heap.size:=by have:=hS10.size; omega
   clear hP10 hS10 q1 y0 y1 y2 y3 y4 y5 y6 hky HP9 HR9
   have q1:=cell_at3 (i:=0) HR10.out.b1 rfl
   obtain ⟨v0,v1,v2,v3,v4,v5,v6⟩:=box7_of HR10.out.b5
   have hVy : VIn w10 S y [.int .i64 k2,.bool neg2,.slice A2 n2 c2,.int .i64 e2,.string t2,.slice LA2 ln2 lc2,.slice KA2 kn2 kc2]:=HV.out.keep fun q hq => World.cell?_of_block (HR10.out.kp.block _ (.inl hq))
   have hGy : Gl B w10:=HG.out.low (HR10.out.sf.below hB hpB)
   have hit:=HIT.out
   rw [HO1.out] at hit
   have hiv:=hit y HYIN.out.1 _ _ w10 _ HP10.out hGy hB10 hVy (by simp only [List.length_append]; omega)
   rw [HVL.out] at hiv
   clear hit
   clear hVy hGy
   gi_wp2_with fail
   refine ⟨trivial,rfl,?_⟩
   refine (CallsIn.inRound l (callsIn_wide.2 hiv)).mono ?_
   rintro e9 w11 (⟨hr11,rfl,hP11,hS11⟩ | ⟨hr11,rfl,hS11⟩)
   case inr => exact ⟨HR10.out.fx.trans (hS11.fix HP10.out.isc),rfl,rfl,HR10.out.sf.trans hS11,by have:=HPFX.out; have:=HOL.out; have:=h1.out; have:=HR0.out; omega⟩
   (try dsimp only)
   have HR11:=Lib.hid (HR10.out.step HL.out hS11 HP10.out.isc)
   have HP11:=Lib.hid hP11
   clear hP11 hS11 v0 v1 v2 v3 v4 v5 v6 q1
   gi_wp2_with fail
   have hne : (if (pre ++ [(ke,y)]).isEmpty then (⟨#[]⟩ : ByteArray) else ⟨#[44]⟩) = ⟨#[44]⟩:=by simp
   refine ⟨HR11.out.fx,HR11.out.kp,?_⟩
   show Hid _ ∧ Hid _ ∧ Hid _ ∧ Hid _ ∧ Hid _ ∧ Hid _ ∧ Hid _
   rw [HNEXT.out,hne]
   refine ⟨?_,?_,HR11.out.sf,HR11.out.b1,HR11.out.b2,HR11.out.b3,HR11.out.b4⟩
   ·show 1 + (SE ++ (cl ++ (lineL st o1 ++ (KL ++ VL)))).length ≤ room
    simp only [List.length_append]
    have:=h1.out; have:=HR0.out
    omega
   ·have h9:=HP11.out
    rw [← HBS0.out] at h9
    show Pg _ _ _ _ _ _ _ _
    have hrm : room0 - cl.length - (lineL st o1).length - KL.length - VL.length = room - 1 - (SE ++ (cl ++ (lineL st o1 ++ (KL ++ VL)))).length:=by
     simp only [List.length_append]
     have:=HR0.out
     omega
    rw [hrm] at h9
    simp only [List.append_assoc] at h9 ⊢
    exact h9
 ·rintro D W ⟨h1,h2,h3,h4,h5,h6,-⟩ rfl hD
  rw [HSQ.out] at h1 h2
  have hDw : w.heap.size ≤ w4.heap.size:=by have:=HS4.out.size; omega
  obtain ⟨D,hDe⟩ : ∃ D,w4.heap.size = D:=⟨_,rfl⟩
  rw [hDe] at hD hDw ⊢
  have hBW : B ≤ W.heap.size:=by have:=h3.out.size; omega
  obtain ⟨-,-,c4,-⟩:=h2.out.cells
  have f4:=h2.out.frozen 4
  have q1:=cell_at3 (i:=0) h4.out rfl
  have hwo : IntKind.i64.wrap ((o1 : Int) - 1) = (o : Int):=by rw [IntWalk.i64_in _ (by have:=HO1.out; omega)]; have:=HO1.out; omega
  have hP5:=h2.out.opn o
  have m2:=box_set (i:=4) (cb:=pb) (.int .i64 (o : Int)) h5.out (by omega)
  have m1:=box_set (i:=4) (cb:=pb) (.int .i64 (o : Int)) h4.out (by omega)
  have hS5:=h3.out.trans (Soft.set (B:=B) W 4 (.int .i64 (o : Int)))
  have hsz5 : (W.setCell ⟨pb,4,none⟩ (.int .i64 (o : Int))).heap.size = W.heap.size:=by simp [World.setCell]
  have hD5 : (W.setCell ⟨pb,4,none⟩ (.int .i64 (o : Int))).heap[D]? = some (.deferred (some [])):=by
   rw [Below.heap_setCell _ _ _ _ (by show D ≠ pb; omega)]; exact hD
  show WpH _ _ _ _ _ _
  refine WpH.seq_k fun K hK => ?_
  gi_wp2_with fail
  try clear hK
  generalize (W.setCell ⟨pb,4,none⟩ (.int .i64 (o : Int))) = w5 at *
  clear c4 f4 q1 hwo h2 h3 h4 h5 h6 hD
  have q1:=cell_at3 (i:=0) m1 rfl
  obtain ⟨y0,y1,y2,y3,y4,y5,y6⟩:=box7_of m2
  refine WpH.of ?_
  have H1:=h1
  have HP5:=Lib.hid hP5
  have HS5:=Lib.hid hS5
  have HM1:=Lib.hid m1
  have HD5:=Lib.hid hD5
  clear h1 hP5 hS5 m1 m2 hD5
  have hfin : ∀ (w8 : World) (bs8 : List UInt8) (room8 : Nat),bs8 ++ [en] = bs ++ O → room8 + O.length = room + 1 → Pg B pb bs8 room8 st o F w8 → Soft B pb w w8 → w8.heap[D]? = some (.deferred (some [])) → B ≤ w8.heap.size → w8.heap[bp]? = some (.cells #[pgP pb] 62) → True:=fun _ _ _ _ _ _ _ _ _ _ => trivial
  rcases Nat.eq_zero_or_pos ln with hl0 | hl0
  ·have hL0 : LL = []:=by
    rw [← HLL.out,HXK.out]
    have : li = []:=List.eq_nil_of_length_eq_zero (by omega)
    simp [VT.list,this]
   subst hl0
   have HL0:=Lib.hid hL0
   clear hL0
   gi_wp2_with fail
   refine ⟨trivial,rfl,?_⟩
   refine (callsIn_wide.2 (putL_c w5 HP5.out ⟨#[en]⟩ [en] rfl (by simp only [List.length_append,List.length_singleton]; have:=HCAP.out; have:=H1.out; omega) (by omega))).mono ?_
   rintro e9 w6 (⟨hr6,rfl,hP6,hS6⟩ | ⟨hr6,rfl,hS6⟩)
   case inr =>
    refine ⟨by simp,.inl ⟨_,_,rfl,run_takeDeferred (hS6.fix HP5.out.isc _ _ HD5.out rfl),?_⟩⟩
    exact Wr.no (by rw [List.length_singleton] at hr6; have:=HOL.out; have:=H1.out; omega) ((HS5.out.trans hS6).put hDw _)
   have hD6:=hS6.fix HP5.out.isc _ _ HD5.out rfl
   have HP6:=Lib.hid hP6
   have HS6:=Lib.hid (HS5.out.trans hS6)
   clear hP6 hS6 q1 y0 y1 y2 y3 y4 y5 y6
   gi_wp2_with fail
   refine ⟨by simp,.inl ⟨_,_,rfl,run_takeDeferred hD6,?_⟩⟩
   refine ⟨.tuple #[],results_none rfl _ _ _,?_⟩
   have hO9 : O = [be] ++ (SQ ++ [en]):=by rw [HOO.out,HL0.out]; simp
   have hOl9 : O.length = 1 + (SQ.length + 1):=by rw [hO9]; simp only [List.length_append,List.length_singleton]
   refine Wr.done (by rw [List.length_singleton] at hr6; have:=H1.out; omega) ?_ (HS6.out.put hDw _)
   have h9:=HP6.out
   rw [List.append_assoc,List.append_assoc,← hO9,List.length_singleton,show room - 1 - SQ.length - 1 = room - O.length by omega] at h9
   exact h9.putObj hD6 _
  ·have hpos : (0 : Int) < (ln : Int):=by omega
   have hL0 : LL = lineL st o:=by
    rw [← HLL.out,HXK.out]
    have : li ≠ []:=fun e => by rw [e] at hlen; simp at hlen; omega
    simp [VT.list,this]
   have HL0:=Lib.hid hL0
   clear hL0
   gi_wp2_with fail
   refine ⟨trivial,rfl,?_⟩
   refine (callsIn_wide.2 (line_c w5 HP5.out (by omega) hst (by omega) (by simp only [List.length_append,List.length_singleton]; have:=HCAP.out; have:=H1.out; omega))).mono ?_
   rintro e9 w7 (⟨hr7,rfl,hP7,hS7⟩ | ⟨hr7,rfl,hS7⟩)
   case inr =>
    refine ⟨by simp,.inl ⟨_,_,rfl,run_takeDeferred (hS7.fix HP5.out.isc _ _ HD5.out rfl),?_⟩⟩
    exact Wr.no (by have:=HOL.out; have:=H1.out; have:=congrArg List.length HL0.out; omega) ((HS5.out.trans hS7).put hDw _)
   have hD7:=hS7.fix HP5.out.isc _ _ HD5.out rfl
   have hq7:=hS7.keep HM1.out hbpp (by decide)
   have hBw7 : B ≤ w7.heap.size:=by have:=hS7.size; omega
   have HP7:=Lib.hid hP7
   have HS7:=Lib.hid (HS5.out.trans hS7)
   clear hP7 hS7 q1 y0 y1 y2 y3 y4 y5 y6
   have q1:=cell_at3 (i:=0) hq7 rfl
   clear hq7
   gi_wp2_with fail
   refine ⟨trivial,rfl,?_⟩
   refine (callsIn_wide.2 (putL_c w7 HP7.out ⟨#[en]⟩ [en] rfl (by simp only [List.length_append,List.length_singleton]; have:=HCAP.out; have:=H1.out; omega) hBw7)).mono ?_
   rintro e9 w6 (⟨hr6,rfl,hP6,hS6⟩ | ⟨hr6,rfl,hS6⟩)
   case inr =>
    refine ⟨by simp,.inl ⟨_,_,rfl,run_takeDeferred (hS6.fix HP7.out.isc _ _ hD7 rfl),?_⟩⟩
    exact Wr.no (by rw [List.length_singleton] at hr6; have:=HOL.out; have:=H1.out; have:=congrArg List.length HL0.out; omega) ((HS7.out.trans hS6).put hDw _)
   have hD6:=hS6.fix HP7.out.isc _ _ hD7 rfl
   have HP6:=Lib.hid hP6
   have HS6:=Lib.hid (HS7.out.trans hS6)
   clear hP6 hS6 q1
   gi_wp2_with fail
   refine ⟨by simp,.inl ⟨_,_,rfl,run_takeDeferred hD6,?_⟩⟩
   refine ⟨.tuple #[],results_none rfl _ _ _,?_⟩
   have hO9 : O = [be] ++ (SQ ++ (lineL st o ++ [en])):=by rw [HOO.out,HL0.out]
   have hOl9 : O.length = 1 + (SQ.length + ((lineL st o).length + 1)):=by rw [hO9]; simp only [List.length_append,List.length_singleton]
   refine Wr.done (by rw [List.length_singleton] at hr6; have:=H1.out; omega) ?_ (HS6.out.put hDw _)
   have h9:=HP6.out
   rw [List.append_assoc,List.append_assoc,List.append_assoc,← hO9,List.length_singleton,show room - 1 - SQ.length - (lineL st o).length - 1 = room - O.length by omega] at h9
   exact h9.putObj hD6 _
 ·rintro D ch W ⟨rfl,h2,h3⟩ rfl hD
  refine ⟨by simp,.inl ⟨_,_,rfl,run_takeDeferred hD,?_⟩⟩
  exact Wr.no h3 (h2.put (by have:=HS4.out.size; omega) _)
end Go.Proofs.YtkigpbkkhgabeaaGreatDoor
