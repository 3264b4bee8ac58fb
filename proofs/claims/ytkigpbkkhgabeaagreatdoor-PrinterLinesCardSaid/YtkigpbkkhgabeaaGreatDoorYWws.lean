import Derived.Test.YtkigpbkkhgabeaaGreatDoorYWra
import Derived.Test.YtkigpbkkhgabeaaGreatDoorYWrj
import Derived.Test.YtkigpbkkhgabeaaGreatDoorYWrs
set_option linter.unusedVariables false
set_option linter.unusedSimpArgs false
namespace Go.Proofs.YtkigpbkkhgabeaaGreatDoor
open Go.RowKit Go.Lib
theorem VIn.row7 {w : World} {S : Nat → Prop} {x : VT} {cs : List Value} (h : VIn w S x cs) : ∃ v0 v1 v2 v3 v4 v5 v6,cs = [v0,v1,v2,v3,v4,v5,v6] ∧ cs.all Value.oneCell' = true:=by
 obtain ⟨k1,neg1,xs1,e1,t1,li1,ks1,hak⟩ : ∃ k neg xs e t li ks,x = VT.mk k neg xs e t li ks:=by cases x; exact ⟨_,_,_,_,_,_,_,rfl⟩
 rw [hak] at h
 obtain ⟨A1,n1,c1,LA1,ln1,lc1,KA1,kn1,kc1,rfl,-⟩:=h.parts
 exact ⟨_,_,_,_,_,_,_,rfl,by simp [Value.oneCell']⟩
theorem st_field3 {ops : Array Oper} {o : Oper} {a : Act} {w : World} {K : Act → World → Prop} {Q : Exit → Act → World → Prop} {E : Prop} {x : Operand} {b : Nat} (hgd : o.guard = none) (ho : o.op = .fieldAddr 28 x 3)
  (hx : a.eval x = .pointer (some ⟨b,0,none⟩)) (h : K (a.put o.dst (.pointer (some ⟨b,5,none⟩))) w) :
  if Region.wanted o (yielded ops a.tmps) = true then Oper.wp Tryz.prog o a w K Q else E:=by
 have hw : Region.wanted o (yielded ops a.tmps) = true:=by simp [Region.wanted,hgd]
 rw [if_pos hw]
 have hr : (Instr.fieldAt 28 (.pointer (some ⟨b,0,none⟩)) 3).run Tryz.prog w = .ok (.pointer (some ⟨b,5,none⟩)) w:=by go_simp
 unfold Oper.wp execOp
 simp only [ho,hx,Sem.run_bind,Sem.run_pure,Result.andThen_ok,hr]
 exact h
variable {B : Nat} {L : List UInt8} {A : Option Addr} {c rb : Nat}
structure LJ (wr : World) (B : Nat) (L : List UInt8) (A : Option Addr) (c rb ln lc : Nat) (LA : Option Addr) (a : VT) (p1 x y : Nat) (f : Nat → Value) (V : World) : Prop where
 hb : But (fun k => k = rb) wr V
 h33 : 1 ≤ x → f 33 = .slice LA ln lc
 h37 : 1 ≤ y → f 37 = .slice LA ln lc
 h38 : 2 ≤ y → f 38 = .int .i64 (ln : Int)
 h2 : y < 3 → V = wr
 h3 : 3 ≤ y → ∃ v0 v1 v2 v3 v4 v5 v6 w2,[v0,v1,v2,v3,v4,v5,v6].all Value.oneCell' = true ∧ f 39 = .agg #[v0,v1,v2,v3,v4,v5,v6] ∧ VIn w2 (fun b => wr.heap.size ≤ b ∧ b < w2.heap.size) a [v0,v1,v2,v3,v4,v5,v6] ∧ REnv B L A c rb w2 p1 ∧ But (fun k => k = rb) wr w2 ∧
  (y = 3 → V = w2) ∧ (4 ≤ y → V = w2.alloc (.cells #[v0,v1,v2,v3,v4,v5,v6] 28) ∧ f 40 = .slice (some ⟨w2.heap.size,0,none⟩) 1 1)
set_option maxHeartbeats 2000000 in
theorem li_app {ops : Array Oper} {Q : Exit → Act → World → Prop} {md : Region.Mode} {L0 : Array Bool} {a0 : Act} {wr : World} {N ob ln lc d pp p1 : Nat} {LA : Option Addr} {a : VT} {acc : List VT} {oa ob1 ob2 ob3 ob4 oc1 oc2 oc3 : Oper} {ts : Array TypeId}
  (hg : twoOk md ops L0 [1] [5,6,7,8] = true)
  (g1 : ops[1]? = some oa) (e1 : oa.op = .load 25 (.tmp 32)) (n1 : oa.guard = none) (d1 : oa.dst = some 33)
  (k1 : ops[5]? = some ob1) (f1 : ob1.op = .load 25 (.tmp 36)) (m1 : ob1.guard = none) (c1 : ob1.dst = some 37)
  (k2 : ops[6]? = some ob2) (f2 : ob2.op = .call { callee:=.builtin .len,args:=#[.tmp 37],argTypes:=#[25] }) (m2 : ob2.guard = none) (c2 : ob2.dst = some 38)
  (k3 : ops[7]? = some ob3) (f3 : ob3.op = .call { callee:=.value (.func 52),args:=#[.tmp 34,.tmp 35,.tmp 38],argTypes:=ts }) (m3 : ob3.guard = none) (c3 : ob3.dst = some 39)
  (k4 : ops[8]? = some ob4) (f4 : ob4.op = .buildSlice 25 1 #[(0,.tmp 39)]) (m4 : ob4.guard = none) (c4 : ob4.dst = some 40)
  (l1 : ops[9]? = some oc1) (r1 : oc1.op = .call { callee:=.builtin .append,args:=#[.tmp 33,.tmp 40],argTypes:=#[25,25] }) (s1 : oc1.guard = none) (t1 : oc1.dst = some 41)
  (l2 : ops[10]? = some oc2) (r2 : oc2.op = .fieldAddr 28 (.tmp 5) 3) (s2 : oc2.guard = none) (t2 : oc2.dst = some 42)
  (l3 : ops[11]? = some oc3) (r3 : oc3.op = .store 25 (.tmp 42) (.tmp 41)) (s3 : oc3.guard = none) (t3 : oc3.dst = none)
  (x1 : a0.eval (.tmp 32) = .pointer (some ⟨ob,5,none⟩)) (x2 : a0.eval (.tmp 36) = .pointer (some ⟨ob,5,none⟩)) (x3 : a0.eval (.tmp 34) = .pointer (some ⟨rb,0,none⟩)) (x4 : a0.eval (.tmp 35) = .int .i64 (d : Int)) (x5 : a0.eval (.tmp 5) = .pointer (some ⟨ob,0,none⟩)) (hsz : 42 < a0.tmps.size)
  (hr1 : Region.ready md ops (twoL L0 [1] [5,6,7,8] 1 4) = [9]) (hr2 : Region.ready md ops ((twoL L0 [1] [5,6,7,8] 1 4).setIfInBounds 9 true) = [10])
  (hr3 : Region.ready md ops (((twoL L0 [1] [5,6,7,8] 1 4).setIfInBounds 9 true).setIfInBounds 10 true) = [11]) (hr4 : Region.ready md ops ((((twoL L0 [1] [5,6,7,8] 1 4).setIfInBounds 9 true).setIfInBounds 10 true).setIfInBounds 11 true) = [])
  (hE : REnv B L A c rb wr pp) (hN : N ≤ wr.heap.size) (hobN : ob < N) (hrbN : rb < ob) (hln : ln ≤ 100000) (hal : acc.length = ln)
  (hob : wr.heap[ob]? = some (.cells #[.int .i64 5,.bool false,.slice none 0 0,.int .i64 0,.string ⟨#[]⟩,.slice LA ln lc,.slice none 0 0] 28)) (hG : Grow N (.slice LA ln lc) acc wr)
  (hv : Calls Tryz.prog 52 #[.pointer (some ⟨rb,0,none⟩),.int .i64 (d : Int),.int .i64 (ln : Int)] wr (RvP B L A c rb p1 a wr))
  (hQ : ∀ f V LA' lc',But (fun b => b = rb ∨ b = ob ∨ N ≤ b) wr V → REnv B L A c rb V p1 → V.heap[ob]? = some (.cells #[.int .i64 5,.bool false,.slice none 0 0,.int .i64 0,.string ⟨#[]⟩,.slice LA' (ln + 1) lc',.slice none 0 0] 28) →
   Grow N (.slice LA' (ln + 1) lc') (acc ++ [a]) V → Q .normal (putD a0 [33,37,38,39,40,41,42] f) V) : wpAnyH Tryz.prog md ops Q (fun _ => True) 8 L0 a0 wr:=by
 obtain ⟨i7,hi7,hp7,hq7,hr7⟩:=info_parts infoV7
 have hcf : ∀ (args : Array Value) (V : World),(callFunc 52 args).run Tryz.prog V = .ok (.enter 52 args) V:=fun args V => by kernel_rfl
 have hc5 : wr.cell? ⟨ob,5,none⟩ = some (.slice LA ln lc):=cell_at3 hob rfl
 have HC5 : ∀ V,But (fun k => k = rb) wr V → V.cell? ⟨ob,5,none⟩ = some (.slice LA ln lc):=fun V hV => hV.cell_some hc5 (by show ¬ ob = rb; omega)
 have ed : ∀ {f : Nat → Value} {k : Nat},k ∈ [33,37,38,39,40,41,42] → (putD a0 [33,37,38,39,40,41,42] f).eval (.tmp k) = f k:=fun {f k} hk => putD_eval hk (by
  have : k ≤ 42:=by simp at hk; omega
  omega)
 have ev : ∀ {f : Nat → Value} {k : Nat} {v : Value},k ∉ [33,37,38,39,40,41,42] → a0.eval (.tmp k) = v → (putD a0 [33,37,38,39,40,41,42] f).eval (.tmp k) = v:=fun {f k v} hk h => (putD_else hk).trans h
 refine wpAnyH_twoD [1] [5,6,7,8] [33,37,38,39,40,41,42] (LJ wr B L A c rb ln lc LA a p1) 3 8 hg rfl (fun _ _ _ _ _ => trivial) ⟨But.refl _ _,fun h => by omega,fun h => by omega,fun h => by omega,fun _ => rfl,fun h => by omega⟩ ?_ ?_ ?_
 ·intro x y f V hx hy hJ
  obtain rfl : x = 0:=by simp at hx; omega
  refine wpOp_step (o:=oa) g1 (fun K' hK => ?_)
  refine st_loadL n1 e1 (ev (by decide) x1) (HC5 V hJ.hb) (hK _ _ ?_)
  rw [d1]
  exact ⟨_,putD_put (by decide),hJ.hb,fun _ => rfl,hJ.h37,hJ.h38,hJ.h2,hJ.h3⟩
 ·intro x y f V hx hy hJ
  have hy4 : y = 0 ∨ y = 1 ∨ y = 2 ∨ y = 3:=by simp at hy; omega
  rcases hy4 with rfl | rfl | rfl | rfl
  ·refine wpOp_step (o:=ob1) k1 (fun K' hK => ?_)
   refine st_loadL m1 f1 (ev (by decide) x2) (HC5 V hJ.hb) (hK _ _ ?_)
   rw [c1]
   exact ⟨_,putD_put (by decide),hJ.hb,hJ.h33,fun _ => rfl,fun h => by omega,fun _ => hJ.h2 (by omega),fun h => by omega⟩
  ·refine wpOp_step (o:=ob2) k2 (fun K' hK => ?_)
   refine st_lenL m2 f2 ((ed (by decide)).trans (hJ.h37 (by omega))) (hK _ _ ?_)
   rw [c2]
   exact ⟨_,putD_put (by decide),hJ.hb,hJ.h33,fun _ => hJ.h37 (by omega),fun _ => rfl,fun _ => hJ.h2 (by omega),fun h => by omega⟩
  ·refine wpOp_step (o:=ob3) k3 (fun K' hK => ?_)
   refine st_call3 m3 f3 (ev (by decide) x3) (ev (by decide) x4) ((ed (by decide)).trans (hJ.h38 (by omega))) (hcf _ _) ?_
   obtain rfl:=hJ.h2 (by omega)
   refine hv.mono ?_
   rintro e w2 ⟨cs,rfl,hva,hE2,hb2⟩
   obtain ⟨v0,v1,v2,v3,v4,v5,v6,rfl,h7⟩:=hva.row7
   refine ⟨_,rfl,hK _ _ ?_⟩
   rw [c3]
   exact ⟨_,putD_put (by decide),hb2,hJ.h33,fun _ => hJ.h37 (by omega),fun _ => hJ.h38 (by omega),fun h => by omega,fun _ => ⟨v0,v1,v2,v3,v4,v5,v6,w2,h7,rfl,hva,hE2,hb2,fun _ => rfl,fun h => by omega⟩⟩
  ·refine wpOp_step (o:=ob4) k4 (fun K' hK => ?_)
   obtain ⟨v0,v1,v2,v3,v4,v5,v6,w2,h7,h39,hva,hE2,hb2,h3,-⟩:=hJ.h3 (by omega)
   obtain rfl:=h3 rfl
   refine st_buildL m4 f4 ((ed (by decide)).trans h39) h7 (hK _ _ ?_)
   rw [c4]
   exact ⟨_,putD_put (by decide),hb2.alloc _,hJ.h33,fun _ => hJ.h37 (by omega),fun _ => hJ.h38 (by omega),fun h => by omega,fun _ => ⟨v0,v1,v2,v3,v4,v5,v6,_,h7,h39,hva,hE2,hb2,fun h => by omega,fun _ => ⟨rfl,rfl⟩⟩⟩
 ·intro f V hJ
  replace hJ : LJ wr B L A c rb ln lc LA a p1 1 4 f V:=hJ
  have h33:=hJ.h33 (Nat.le_refl _)
  obtain ⟨v0,v1,v2,v3,v4,v5,v6,w2,h7,-,hva,hE2,hb2,-,h4⟩:=hJ.h3 (by decide)
  obtain ⟨rfl,h40⟩:=h4 (by decide)
  clear hJ h4
  have hgr : Grow N (.slice LA ln lc) acc (w2.alloc (.cells #[v0,v1,v2,v3,v4,v5,v6] 28)):=hG.keep (hb2.alloc _) (fun k hk => by omega)
  obtain ⟨fs,hown,hf7,hft⟩:=hgr
  rw [hal] at hown hf7
  have hsz2:=hb2.size
  have hsa : (w2.alloc (.cells #[v0,v1,v2,v3,v4,v5,v6] 28)).heap.size = w2.heap.size + 1:=by rw [World.size_alloc]
  refine wpAnyH_ready (rs:=[9]) hr1 (by simp) (AllReadyH.cons (o:=oc1) l1 (fun K hK => ?_) AllReadyH.nil)
  refine step_append_at (base:=N) (e:=28) (v:=.slice LA ln lc) (n:=ln) (xs:=flatC fs id ln) (news:=[v0,v1,v2,v3,v4,v5,v6]) (m:=1) (c:=1) (ad:=⟨w2.heap.size,0,none⟩) s1 (.tmp 33) (.tmp 40) 25 r1 Tryz.underlying25 hi7 hp7 hq7 hr7 rfl (by decide) ((ed (by decide)).trans h33) hown ((ed (by decide)).trans h40) rfl (new7 w2 v0 v1 v2 v3 v4 v5 v6 28) (fun u hu => List.all_eq_true.1 h7 u hu) (by unfold maxLen; omega) (by omega) (by omega) ?_
  intro v' w5 hown5 hg5 _ hat5
  obtain ⟨g',cap',rfl⟩:=ownsRow_succ hown5
  rw [t1,putD_put (by decide)]
  refine hK.out _ _ trivial (fun _ => ?_)
  clear hK K
  refine wpAnyH_ready (rs:=[10]) hr2 (by simp) (AllReadyH.cons (o:=oc2) l2 (fun K hK => ?_) AllReadyH.nil)
  refine st_field3 s2 r2 (ev (by decide) x5) ?_
  rw [t2,putD_put (by decide)]
  refine hK.out _ _ trivial (fun _ => ?_)
  clear hK K
  have hbl : Below N (w2.alloc (.cells #[v0,v1,v2,v3,v4,v5,v6] 28)) w5:=(Below.refl N _).grown hg5 (by omega) (fun q e => (ownsRow_lt hown e).1)
  have hob2 : (w2.alloc (.cells #[v0,v1,v2,v3,v4,v5,v6] 28)).heap[ob]? = _:=((hb2.alloc (.cells #[v0,v1,v2,v3,v4,v5,v6] 28)).block ob (Array.getElem?_eq_some_iff.1 hob).1 (by omega)).trans hob
  have hob5:=(hbl.block ob hobN).trans hob2
  have hgN : N ≤ g':=(ownsRow_lt hown5 rfl).1
  refine wpAnyH_ready (rs:=[11]) hr3 (by simp) (AllReadyH.cons (o:=oc3) l3 (fun K hK => ?_) AllReadyH.nil)
  refine st_storeL s3 r3 ((ed (by decide)).trans (if_pos rfl)) ((ed (by decide)).trans ((if_neg (by decide)).trans (if_pos rfl))) (cell_at3 hob5 rfl) (frozen_of_row w5 _ _ _ _ hob5) ?_
  rw [t3]
  refine hK.out _ _ trivial (fun _ => ?_)
  clear hK K
  refine wpAnyH_done hr4 ?_ _
  have hset:=set_heap (i:=5) (u:=.slice (some ⟨g',0,none⟩) (ln + 1) cap') hob5
  have hb56 : But (fun j => j = g' ∨ j = ob) w5 (w5.setCell ⟨ob,5,none⟩ (.slice (some ⟨g',0,none⟩) (ln + 1) cap')):=But.setCell (C:=fun j => j = g' ∨ j = ob) (p:=⟨ob,5,none⟩) (But.refl _ w5) (.inl (.inr rfl)) _
  have hown6:=ownsRow_setCell_other (a:=⟨ob,5,none⟩) hown5 (by show some g' ≠ some ob; intro h; injection h with h; omega) (.slice (some ⟨g',0,none⟩) (ln + 1) cap')
  have hb25 : But (fun b => b = ob ∨ N ≤ b) w2 (w5.setCell ⟨ob,5,none⟩ (.slice (some ⟨g',0,none⟩) (ln + 1) cap')):=((But.refl (fun b => b = ob ∨ N ≤ b) w2).alloc _).trans ((⟨hbl.os,hbl.tape,hbl.output,hbl.size,fun j hj hc => hbl.block j (by omega)⟩ : But (fun b => b = ob ∨ N ≤ b) _ w5).trans (hb56.mono fun j _ h => by rcases h with h | h <;> omega))
  refine hQ _ _ (some ⟨g',0,none⟩) cap' ((hb2.mono fun _ _ h => .inl h).trans (hb25.mono fun _ _ h => .inr h)) (hE2.stay hb25 (fun k hk => by have:=hE2.base; omega)) (hset.trans (by simp)) ?_
  have hvl : ∀ k,(Value.slice LA ln lc).ownBlock = some k → k < wr.heap.size:=fun k hk => by
   obtain ⟨cs,h1,-,-⟩:=hG
   exact (ownsRow_lt h1 hk).2
  exact Grow.push (ob:=ob) hal hf7 hft hvl hN ((Below.refl _ w2).alloc (Nat.le_refl _) _) hva rfl hg5 hat5 hb56 hobN hown6
end Go.Proofs.YtkigpbkkhgabeaaGreatDoor
namespace Go.Proofs.YtkigpbkkhgabeaaGreatDoor
open Go.RowKit Go.Lib
def wStep (k : ByteArray) (x : VT) (st : List (ByteArray × VT) × Bool) (p : ByteArray × VT) : List (ByteArray × VT) × Bool :=
 ((if st.2 = false ∧ Go.Op.bytesLess p.1.toList k.toList = false then st.1 ++ [(k,x)] else st.1) ++ (if p.1 = k then [] else [p]),st.2 || !Go.Op.bytesLess p.1.toList k.toList)
def withF (k : ByteArray) (x : VT) (P : List (ByteArray × VT)) : List (ByteArray × VT) × Bool:=P.foldl (wStep k x) ([],false)
def withP (k : ByteArray) (x : VT) (P : List (ByteArray × VT)) : List (ByteArray × VT):=(withF k x P).1 ++ if (withF k x P).2 then [] else [(k,x)]
def pairsOf (ks : List ByteArray) (l : List VT) : List (ByteArray × VT):=(keysB ks).map fun s => (s,lastV ks l s)
def objP (P : List (ByteArray × VT)) : VT:=.mk 6 false [] 0 ⟨#[]⟩ (P.map (·.2)) (P.map (·.1))
theorem objV_pairs (ks : List ByteArray) (l : List VT) : objV ks l = objP (pairsOf ks l):=by
 unfold objV objP pairsOf
 rw [List.map_map,List.map_map]
 congr 1
 exact (List.map_id _).symm
theorem less_lt (a b : ByteArray) : Go.Op.bytesLess a.toList b.toList = decide (a.data.toList < b.data.toList):=by
 rw [bytesLess_eq,ByteArray.toList_eq,ByteArray.toList_eq]
theorem ba_ext {a b : ByteArray} (h : a.data.toList = b.data.toList) : a = b:=by
 cases a; cases b; simp at h; subst h; rfl
theorem withF_sorted {k : ByteArray} {x : VT} : ∀ (P : List (ByteArray × VT)),(P.map fun p => p.1.data.toList).Pairwise (· < ·) → ∀ (acc : List (ByteArray × VT)) ,
  P.foldl (wStep k x) (acc,true) = (acc ++ P.filter (fun p => !decide (p.1 = k)),true)
 | [],_,acc => by simp
 | p :: r,h,acc => by
  rw [List.foldl_cons]
  have h1 : wStep k x (acc,true) p = (acc ++ (if p.1 = k then [] else [p]),true):=by
   unfold wStep; simp
  rw [h1,withF_sorted r (by rw [List.map_cons] at h; exact (List.pairwise_cons.1 h).2)]
  by_cases hp : p.1 = k
  ·simp [hp]
  ·simp [hp]
theorem withP_sorted {k : ByteArray} {x : VT} : ∀ (P : List (ByteArray × VT)),(P.map fun p => p.1.data.toList).Pairwise (· < ·) → ∀ (acc : List (ByteArray × VT)),
  (P.foldl (wStep k x) (acc,false)).1 ++ (if (P.foldl (wStep k x) (acc,false)).2 then [] else [(k,x)]) = acc ++ (P.filter (fun p => Go.Op.bytesLess p.1.toList k.toList) ++ (k,x) :: P.filter (fun p => Go.Op.bytesLess k.toList p.1.toList))
 | [],_,acc => by simp
 | p :: r,h,acc => by
  rw [List.map_cons] at h
  obtain ⟨h1,h2⟩:=List.pairwise_cons.1 h
  rw [List.foldl_cons]
  cases hl : Go.Op.bytesLess p.1.toList k.toList with
  | true =>
   have hlt : p.1.data.toList < k.data.toList:=by rw [less_lt] at hl; exact of_decide_eq_true hl
   have hne : p.1 ≠ k:=fun e => by rw [e] at hlt; exact List.lt_irrefl _ hlt
   have hg : Go.Op.bytesLess k.toList p.1.toList = false:=by rw [less_lt,decide_eq_false_iff_not]; exact List.lt_asymm hlt
   have h3 : wStep k x (acc,false) p = (acc ++ [p],false):=by unfold wStep; simp [hl,hne]
   rw [h3,withP_sorted r h2,List.filter_cons_of_pos (by simpa using hl),List.filter_cons_of_neg (by simp [hg])]
   simp
  | false =>
   have hge : ¬ p.1.data.toList < k.data.toList:=by rw [less_lt] at hl; exact of_decide_eq_false hl
   have h3 : wStep k x (acc,false) p = (acc ++ [(k,x)] ++ (if p.1 = k then [] else [p]),true):=by unfold wStep; simp [hl]
   have hall : ∀ q ∈ r,k.data.toList < q.1.data.toList:=fun q hq => by
    have h4:=h1 _ (List.mem_map_of_mem hq)
    rcases List.le_iff_lt_or_eq.1 (List.not_lt.1 hge) with h5 | h5
    ·exact List.lt_trans h5 h4
    ·rw [h5]; exact h4
   have f1 : r.filter (fun p => Go.Op.bytesLess p.1.toList k.toList) = []:=by
    rw [List.filter_eq_nil_iff]
    intro q hq
    rw [less_lt]
    simp only [decide_eq_true_eq]
    exact List.lt_asymm (hall q hq)
   have f2 : r.filter (fun p => Go.Op.bytesLess k.toList p.1.toList) = r:=by
    rw [List.filter_eq_self]
    intro q hq
    rw [less_lt,decide_eq_true_eq]
    exact hall q hq
   have f3 : r.filter (fun p => !decide (p.1 = k)) = r:=by
    rw [List.filter_eq_self]
    intro q hq
    have h5 : q.1 ≠ k:=fun e => by have:=hall q hq; rw [e] at this; exact List.lt_irrefl _ this
    simp [h5]
   rw [h3,withF_sorted r h2,List.filter_cons_of_neg (by simp [hl]),f1,f3]
   by_cases hp : p.1 = k
   ·have hg : Go.Op.bytesLess k.toList p.1.toList = false:=by rw [hp,less_lt,decide_eq_false_iff_not]; exact List.lt_irrefl _
    rw [List.filter_cons_of_neg (by simp [hg]),f2]
    simp [hp]
   ·have hg : Go.Op.bytesLess k.toList p.1.toList = true:=by
     rw [less_lt,decide_eq_true_eq]
     rcases List.le_iff_lt_or_eq.1 (List.not_lt.1 hge) with h5 | h5
     ·exact h5
     ·exact absurd (ba_ext h5.symm) hp
    rw [List.filter_cons_of_pos (by simpa using hg),f2]
    simp [hp]
theorem lastAt_snoc {ks : List ByteArray} {k s : ByteArray} : lastAt (ks ++ [k]) s (ks ++ [k]).length = if k = s then some ks.length else lastAt ks s ks.length:=by
 rw [List.length_append]
 show (if (ks ++ [k]).getD ks.length ⟨#[]⟩ = s then some ks.length else lastAt (ks ++ [k]) s ks.length) = _
 have h1 : (ks ++ [k]).getD ks.length ⟨#[]⟩ = k:=by rw [List.getD_eq_getElem?_getD,List.getElem?_append_right (Nat.le_refl _),Nat.sub_self]; rfl
 rw [h1]
 split
 ·rfl
 ·have h2 : ∀ n,n ≤ ks.length → lastAt (ks ++ [k]) s n = lastAt ks s n:=by
   intro n
   induction n with
   | zero => intro _; rfl
   | succ n ih =>
    intro hn
    unfold lastAt
    rw [ih (by omega)]
    have h3 : (ks ++ [k]).getD n ⟨#[]⟩ = ks.getD n ⟨#[]⟩:=by rw [List.getD_eq_getElem?_getD,List.getD_eq_getElem?_getD,List.getElem?_append_left (by omega)]
    rw [h3]
  rename_i hne
  exact h2 ks.length (Nat.le_refl _)
theorem lastV_snoc {ks : List ByteArray} {l : List VT} {k s : ByteArray} {x : VT} (hl : ks.length = l.length) : lastV (ks ++ [k]) (l ++ [x]) s = if k = s then x else lastV ks l s:=by
 unfold lastV
 rw [lastAt_snoc]
 split
 ·rename_i i hi
  split at hi
  ·injection hi with hi
   rw [if_pos (by assumption),← hi,hl,List.getD_eq_getElem?_getD,List.getElem?_append_right (Nat.le_refl _),Nat.sub_self]; rfl
  ·rw [if_neg (by assumption),hi]
   have:=(lastAt_some hi).1
   show _ = l.getD i VT0
   rw [List.getD_eq_getElem?_getD,List.getD_eq_getElem?_getD,List.getElem?_append_left (by omega)]
 ·rename_i hi
  split at hi
  ·cases hi
  ·rw [if_neg (by assumption),hi]
theorem keysB_ltB (ks : List ByteArray) : (keysB ks).Pairwise (fun a b : ByteArray => a.data.toList < b.data.toList):=by
 have h1:=lt_of_rises (keysB_rises ks)
 rw [List.pairwise_map] at h1
 exact h1
theorem keysB_memB {ks : List ByteArray} {s : ByteArray} : s ∈ keysB ks ↔ s ∈ ks:=⟨keysB_in,fun hs => keysB_mem.2 (lastAt_ex hs)⟩
theorem keysB_snoc (ks : List ByteArray) (k : ByteArray) : keysB (ks ++ [k]) = (keysB ks).filter (fun s => Go.Op.bytesLess s.toList k.toList) ++ k :: (keysB ks).filter (fun s => Go.Op.bytesLess k.toList s.toList):=by
 have hr : ((keysB ks).filter (fun s => Go.Op.bytesLess s.toList k.toList) ++ k :: (keysB ks).filter (fun s => Go.Op.bytesLess k.toList s.toList)).Pairwise (fun a b : ByteArray => a.data.toList < b.data.toList):=by
  have h1:=keysB_ltB ks
  rw [List.pairwise_append,List.pairwise_cons]
  refine ⟨h1.filter _,⟨fun b hb => ?_,h1.filter _⟩,fun a ha b hb => ?_⟩
  ·have:=(List.mem_filter.1 hb).2
   rw [less_lt] at this
   exact of_decide_eq_true this
  ·have h2:=(List.mem_filter.1 ha).2
   rw [less_lt] at h2
   have h2:=of_decide_eq_true h2
   rcases List.mem_cons.1 hb with rfl | hb
   ·exact h2
   ·have h3:=(List.mem_filter.1 hb).2
    rw [less_lt] at h3
    exact List.lt_trans h2 (of_decide_eq_true h3)
 have hm : ∀ s,s ∈ keysB (ks ++ [k]) ↔ s ∈ (keysB ks).filter (fun s => Go.Op.bytesLess s.toList k.toList) ++ k :: (keysB ks).filter (fun s => Go.Op.bytesLess k.toList s.toList):=fun s => by
  simp only [keysB_memB,List.mem_append,List.mem_cons,List.mem_filter,less_lt,decide_eq_true_eq,List.not_mem_nil,or_false]
  constructor
  ·rintro (h | rfl)
   ·by_cases h1 : s.data.toList < k.data.toList
    ·exact .inl ⟨h,h1⟩
    ·rcases List.le_iff_lt_or_eq.1 (List.not_lt.1 h1) with h5 | h5
     ·exact .inr (.inr ⟨h,h5⟩)
     ·exact .inr (.inl (ba_ext h5.symm))
   ·exact .inr (.inl rfl)
  ·rintro (⟨h,-⟩ | rfl | ⟨h,-⟩)
   ·exact .inl h
   ·exact .inr rfl
   ·exact .inl h
 have nd : ∀ {l : List ByteArray},l.Pairwise (fun a b : ByteArray => a.data.toList < b.data.toList) → l.Nodup:=fun h => h.imp fun {a b} hab e => by rw [e] at hab; exact List.lt_irrefl _ hab
 exact ((List.perm_ext_iff_of_nodup (nd (keysB_ltB _)) (nd hr)).2 hm).eq_of_pairwise (le:=fun a b : ByteArray => a.data.toList < b.data.toList) (fun a b _ _ x y => absurd y (List.lt_asymm x)) (keysB_ltB _) hr
theorem pairs_snoc {ks : List ByteArray} {l : List VT} {k : ByteArray} {x : VT} (hl : ks.length = l.length) : pairsOf (ks ++ [k]) (l ++ [x]) = withP k x (pairsOf ks l):=by
 have hs : ((pairsOf ks l).map fun p => p.1.data.toList).Pairwise (· < ·):=by
  have h1:=keysB_ltB ks
  unfold pairsOf
  rw [List.map_map,List.pairwise_map]
  exact h1
 have hw:=withP_sorted (k:=k) (x:=x) (pairsOf ks l) hs []
 unfold withP withF
 rw [hw,List.nil_append]
 unfold pairsOf
 rw [keysB_snoc,List.map_append,List.map_cons,List.filter_map,List.filter_map]
 have hk : lastV (ks ++ [k]) (l ++ [x]) k = x:=by rw [lastV_snoc hl,if_pos rfl]
 have hc : ∀ (f : ByteArray → Bool),(∀ s,f s = true → s ≠ k) → ((keysB ks).filter f).map (fun s => (s,lastV (ks ++ [k]) (l ++ [x]) s)) = ((keysB ks).filter f).map (fun s => (s,lastV ks l s)):=fun f hf => by
  refine List.map_congr_left fun s hs => ?_
  have hne:=hf s (List.mem_filter.1 hs).2
  rw [lastV_snoc hl,if_neg (fun e => hne e.symm)]
 rw [hk,hc _ (fun s h e => by rw [e,less_lt] at h; exact List.lt_irrefl _ (of_decide_eq_true h)),hc _ (fun s h e => by rw [e,less_lt] at h; exact List.lt_irrefl _ (of_decide_eq_true h))]
 rfl
theorem mkObj_snoc (P : List (ByteArray × VT)) (k : ByteArray) (x : VT) : mkObj (P ++ [(k,x)]) = objP (withP k x (pairsOf (P.map (·.1)) (P.map (·.2)))):=by
 unfold mkObj
 rw [objV_pairs,List.map_append,List.map_append]
 exact congrArg objP (pairs_snoc (by simp))
end Go.Proofs.YtkigpbkkhgabeaaGreatDoor
namespace Go.Proofs.YtkigpbkkhgabeaaGreatDoor
open Go.RowKit Go.Lib
def WS (w0 : World) (S : Nat → Prop) (N ob : Nat) (acc : List (ByteArray × VT)) (W : World) : Prop:=∃ (KA : Option Addr) (kc : Nat) (LA : Option Addr) (lc : Nat) (fs : Nat → List Value),
 But (fun b => b = ob ∨ N ≤ b) w0 W ∧ W.heap[ob]? = some (.cells #[.int .i64 6,.bool false,.slice none 0 0,.int .i64 0,.string ⟨#[]⟩,.slice LA acc.length lc,.slice KA acc.length kc] 28) ∧
 W.ownsRow N 9 1 (.slice KA acc.length kc) acc.length (acc.map fun p => .string p.1) ∧ W.ownsRow N 28 7 (.slice LA acc.length lc) acc.length (flatC fs id acc.length) ∧
 (∀ i,i < acc.length → (fs i).length = 7) ∧ (∀ i p,acc[i]? = some p → VIn W S p.2 (fs i)) ∧ ∀ p ∈ acc,p.1.size ≤ 140737488355328
theorem WS.push {w0 W V : World} {S : Nat → Prop} {N ob : Nat} {acc : List (ByteArray × VT)} {KA' LA' : Option Addr} {kc' lc' : Nat} {fs : Nat → List Value} {k : ByteArray} {y : VT} {v0 v1 v2 v3 v4 v5 v6 : Value}
  (hb : But (fun b => b = ob ∨ N ≤ b) w0 W) (hf7 : ∀ i,i < acc.length → (fs i).length = 7) (hft : ∀ i p,acc[i]? = some p → VIn W S p.2 (fs i)) (hks : ∀ p ∈ acc,p.1.size ≤ 140737488355328)
  (hbV : But (fun b => b = ob ∨ N ≤ b) W V) (hob : V.heap[ob]? = some (.cells #[.int .i64 6,.bool false,.slice none 0 0,.int .i64 0,.string ⟨#[]⟩,.slice LA' (acc.length + 1) lc',.slice KA' (acc.length + 1) kc'] 28))
  (hK : V.ownsRow N 9 1 (.slice KA' (acc.length + 1) kc') (acc.length + 1) ((acc.map fun p => .string p.1) ++ [.string k])) (hL : V.ownsRow N 28 7 (.slice LA' (acc.length + 1) lc') (acc.length + 1) (flatC fs id acc.length ++ [v0,v1,v2,v3,v4,v5,v6]))
  (hy : VIn W S y [v0,v1,v2,v3,v4,v5,v6]) (hS : ∀ b,S b → b < W.heap.size ∧ b ≠ ob ∧ b < N) (hk : k.size ≤ 140737488355328) : WS w0 S N ob (acc ++ [(k,y)]) V:=by
 have hl : (acc ++ [(k,y)]).length = acc.length + 1:=by rw [List.length_append]; rfl
 have hkeep : ∀ {x : VT} {cs : List Value},VIn W S x cs → VIn V S x cs:=fun h => h.keep fun p hp => hbV.cell (p:=p) (hS _ hp).1 (by have:=hS _ hp; omega)
 have hflat : flatC (fun i => if i < acc.length then fs i else [v0,v1,v2,v3,v4,v5,v6]) id (acc.length + 1) = flatC fs id acc.length ++ [v0,v1,v2,v3,v4,v5,v6]:=by
  rw [flatC_succ]
  have h1 : flatC (fun i => if i < acc.length then fs i else [v0,v1,v2,v3,v4,v5,v6]) id acc.length = flatC fs id acc.length:=by
   unfold flatC
   congr 1
   refine List.map_congr_left fun q hq => ?_
   have:=List.mem_range.1 hq
   simp [this]
  rw [h1]
  simp
 refine ⟨KA',kc',LA',lc',fun i => if i < acc.length then fs i else [v0,v1,v2,v3,v4,v5,v6],hb.trans hbV,?_,?_,?_,fun i hi => ?_,fun i p hp => ?_,fun p hp => ?_⟩
 ·rw [hl]; exact hob
 ·rw [hl,List.map_append]; exact hK
 ·rw [hl,hflat]; exact hL
 ·by_cases h : i < acc.length
  ·simp only [h,if_true]; exact hf7 i h
  ·simp only [h,if_false]; rfl
 ·by_cases h : i < acc.length
  ·simp only [h,if_true]
   rw [List.getElem?_append_left h] at hp
   exact hkeep (hft i p hp)
  ·simp only [h,if_false]
   rw [List.getElem?_append_right (by omega)] at hp
   have h0 : i - acc.length = 0:=by
    rcases Nat.eq_zero_or_pos (i - acc.length) with h0 | h0
    ·exact h0
    ·rw [List.getElem?_eq_none (by simp; omega)] at hp; cases hp
   rw [h0] at hp
   injection hp with hp
   subst hp
   exact hkeep hy
 ·rcases List.mem_append.1 hp with hp | hp
  ·exact hks p hp
  ·rw [List.mem_singleton.1 hp]; exact hk
theorem WS.vin {w0 W W' : World} {S : Nat → Prop} {N ob rs M : Nat} {acc : List (ByteArray × VT)} (h : WS w0 S N ob acc W) (hs : But (fun k => k = rs) W W') (hr : rs < N) (hM : M ≤ N) (hrS : ∀ b,S b → b ≠ rs ∧ b < W.heap.size) (hlen : acc.length ≤ 100000) :
  ∃ (KA : Option Addr) (kc : Nat) (LA : Option Addr) (lc : Nat),W.heap[ob]? = some (.cells #[.int .i64 6,.bool false,.slice none 0 0,.int .i64 0,.string ⟨#[]⟩,.slice LA acc.length lc,.slice KA acc.length kc] 28) ∧
   VIn W' (fun b => S b ∨ (M ≤ b ∧ b < W'.heap.size)) (objP acc) [.int .i64 6,.bool false,.slice none 0 0,.int .i64 0,.string ⟨#[]⟩,.slice LA acc.length lc,.slice KA acc.length kc]:=by
 obtain ⟨KA,kc,LA,lc,fs,hb,hob,hK,hL,hf7,hft,hks⟩:=h
 have hsz:=hs.size
 have own : ∀ {t : TypeId} {sz c : Nat} {A : Option Addr} {xs : List Value},W.ownsRow N t sz (.slice A acc.length c) acc.length xs → acc.length ≤ c ∧ (0 < acc.length → ∃ g,A = some ⟨g,0,none⟩ ∧ N ≤ g ∧ g < W.heap.size):=fun {t sz c A xs} h => by
  rcases h.2 with ⟨e,e2⟩ | ⟨g,cap,cur,e,e2,e3,e4,-⟩
  ·injection e with e3 e4 e5
   exact ⟨by omega,fun h => by omega⟩
  ·injection e with e6 e7 e8
   subst e6 e8
   exact ⟨e4,fun _ => ⟨g,rfl,e2,(Array.getElem?_eq_some_iff.1 e3).1⟩⟩
 refine ⟨KA,kc,LA,lc,hob,?_⟩
 unfold objP
 refine .mk (cs:=fs) (Rd.nil _ _ _) (by omega) (by show (0 : Nat) ≤ _; omega) ⟨by rw [List.length_map],fun h0 => ?_⟩ (by omega) (by rw [List.length_map]) (by omega) (own hL).1 (fun h0 => ?_) (fun i x hx => ?_)
 ·obtain ⟨g,rfl,hg1,hg2⟩:=(own hK).2 h0
  refine ⟨g,0,rfl,.inr ⟨by omega,by omega⟩,fun i k hk => ?_⟩
  rw [List.getElem?_map] at hk
  obtain ⟨p,hp,rfl⟩:=Option.map_eq_some_iff.1 hk
  refine ⟨?_,hks p (List.mem_of_getElem? hp)⟩
  have hc:=(ownsRow_cell hK (j:=i) (u:=.string p.1) (by rw [List.getElem?_map,hp]; rfl)).1
  rw [Nat.zero_add]
  exact hs.cell_some hc (by show ¬ g = rs; omega)
 ·obtain ⟨g,rfl,hg1,hg2⟩:=(own hL).2 h0
  refine ⟨g,0,rfl,.inr ⟨by omega,by omega⟩,fun i hi => ⟨hf7 i hi,fun j hj => ?_⟩⟩
  have hx : (flatC fs id acc.length)[i * 7 + j]? = (fs i)[j]?:=flatC_get (fun k hk => hf7 k hk) i j hi hj
  obtain ⟨u,hu⟩ : ∃ u,(fs i)[j]? = some u:=⟨_,List.getElem?_eq_getElem (by rw [hf7 i hi]; exact hj)⟩
  rw [hu] at hx ⊢
  have hc:=(ownsRow_cell hL hx).1
  rw [Nat.zero_add]
  exact hs.cell_some hc (by show ¬ g = rs; omega)
 ·rw [List.getElem?_map] at hx
  obtain ⟨p,hp,rfl⟩:=Option.map_eq_some_iff.1 hx
  exact ((hft i p hp).keep (w':=W') fun q hq => hs.cell (p:=q) (hrS _ hq).2 (hrS _ hq).1).more fun b hb => .inl hb
end Go.Proofs.YtkigpbkkhgabeaaGreatDoor
