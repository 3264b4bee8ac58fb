import Derived.Test.YtkigpbkkhgabeaaGreatDoorYWws
set_option linter.unusedVariables false
set_option linter.unusedSimpArgs false
namespace Go.Proofs.YtkigpbkkhgabeaaGreatDoor
open Go.RowKit Go.Lib
def depB (md : Region.Mode) (ops : Array Oper) (i k : Nat) : Bool:=match ops[i]? with | some o => o.after.any (fun e => Nat.beq e.on k && Region.binds md e) | none => false
theorem dep_of {md : Region.Mode} {ops : Array Oper} {L : Array Bool} {i k : Nat} (hi : i ∈ Region.ready md ops L) (hd : depB md ops i k = true) : L.getD k false = true:=by
 obtain ⟨-,o,ho,hall⟩:=mem_ready.1 hi
 unfold depB at hd
 rw [ho] at hd
 simp only [Array.any_eq_true] at hd
 obtain ⟨n,hn,he⟩:=hd
 rw [Bool.and_eq_true] at he
 have h1:=hall o.after[n] (Array.getElem_mem hn) he.2
 rw [Nat.eq_of_beq_eq_true he.1] at h1
 exact h1
theorem getD_set_ne {L : Array Bool} {i k : Nat} (h : k ≠ i) : (L.setIfInBounds i true).getD k false = L.getD k false:=by
 rw [Array.getD_eq_getD_getElem?,Array.getD_eq_getD_getElem?,Array.getElem?_setIfInBounds,if_neg (fun e => h e.symm)]
theorem getD_set_eq {L : Array Bool} {i : Nat} (h : i < L.size) : (L.setIfInBounds i true).getD i false = true:=by
 rw [Array.getD_eq_getD_getElem?,Array.getElem?_setIfInBounds,if_pos rfl,if_pos h]; rfl
theorem not_done {md : Region.Mode} {ops : Array Oper} {L : Array Bool} {i : Nat} (hi : i ∈ Region.ready md ops L) : i < L.size ∧ L.getD i false = false:=by
 have h:=(mem_ready.1 hi).1
 rcases Nat.lt_or_ge i L.size with hl | hl
 ·refine ⟨hl,?_⟩
  rw [Array.getD_eq_getD_getElem?,Array.getElem?_eq_getElem hl] at h ⊢
  exact h
 ·rw [Array.getD_eq_getD_getElem?,Array.getElem?_eq_none hl] at h; cases h
theorem wpAnyH_bits {P : Program} {ops : Array Oper} {Q : Exit → Act → World → Prop} {md : Region.Mode} {S : World → Prop} (J : Array Bool → Act → World → Prop) (hJS : ∀ L a w,J L a w → S w)
  (hstep : ∀ L a w,J L a w → ∀ i ∈ Region.ready md ops L,wpOp P ops Q i (fun a' w' => J (L.setIfInBounds i true) a' w') a w) (hend : ∀ L a w,J L a w → Region.ready md ops L = [] → Q .normal a w) :
  ∀ (f : Nat) (L : Array Bool) (a : Act) (w : World),L.toList.count false ≤ f → J L a w → wpAnyH P md ops Q S f L a w:=by
 intro f
 induction f with
 | zero =>
  intro L a w hf hJ
  have hr : Region.ready md ops L = []:=by
   rw [List.eq_nil_iff_forall_not_mem]
   intro i hi
   obtain ⟨hl,h0⟩:=not_done hi
   rw [Array.getD_eq_getD_getElem?,Array.getElem?_eq_getElem hl] at h0
   have hm : false ∈ L.toList:=by
    have : L[i] = false:=h0
    rw [← this]; exact Array.getElem_mem_toList hl
   have:=List.count_pos_iff.2 hm
   omega
  exact ⟨hr,hend L a w hJ hr⟩
 | succ f ih =>
  intro L a w hf hJ
  refine ⟨fun hr => hend L a w hJ hr,fun i hi => wpOp_mono (fun a' w' hJ' => ⟨hJS _ _ _ hJ',ih _ a' w' ?_ hJ'⟩) (hstep L a w hJ i hi)⟩
  obtain ⟨hl,h0⟩:=not_done hi
  rw [Array.getD_eq_getD_getElem?,Array.getElem?_eq_getElem hl] at h0
  have h0 : L[i] = false:=h0
  have hm : false ∈ L.toList:=by rw [← h0]; exact Array.getElem_mem_toList hl
  have hp:=List.count_pos_iff.2 hm
  have hc:=List.count_set (a:=true) (b:=false) (l:=L.toList) (i:=i) (by simpa using hl)
  rw [Array.toList_setIfInBounds,hc,Array.getElem_toList,h0]
  have e1 : (if (false == false) = true then 1 else 0) = 1:=rfl
  have e2 : (if (true == false) = true then 1 else 0) = 0:=rfl
  rw [e1,e2]
  omega
def topoB (md : Region.Mode) (ops : Array Oper) : Bool:=(List.range ops.size).all fun i => match ops[i]? with | some o => o.after.all (fun e => !Region.binds md e || decide (e.on < i)) | none => true
theorem all_done {md : Region.Mode} {ops : Array Oper} {L : Array Bool} (ht : topoB md ops = true) (hz : L.size = ops.size) (hr : Region.ready md ops L = []) : ∀ k,k < ops.size → L.getD k false = true:=by
 intro k
 induction k using Nat.strongRecOn with
 | _ k ih =>
  intro hk
  cases h : L.getD k false with
  | true => rfl
  | false =>
   exfalso
   have hmem : k ∈ Region.ready md ops L:=by
    refine mem_ready.2 ⟨?_,ops[k],Array.getElem?_eq_getElem hk,fun e he hb => ?_⟩
    ·rw [Array.getD_eq_getD_getElem?,Array.getElem?_eq_getElem (by omega)] at h ⊢
     exact h
    ·have h1:=List.all_eq_true.1 ht k (List.mem_range.2 hk)
     rw [Array.getElem?_eq_getElem hk] at h1
     simp only [Array.all_eq_true_iff_forall_mem] at h1
     have h2:=h1 e he
     rw [hb] at h2
     have h3 : e.on < k:=by simpa using h2
     exact ih e.on h3 (by omega)
   rw [hr] at hmem
   cases hmem
structure Ch8 (N : Nat) (t : TypeId) (sz ob ix : Nat) (A : Option Addr) (n c : Nat) (xs news : List Value) (s1 s2 s3 s5 : Nat) (l b a p s : Bool) (f : Nat → Value) (V : World) : Prop where
 h1 : l = true → f s1 = .slice A n c
 h2 : b = true → a = false → ∃ bk,f s2 = .slice (some ⟨bk,0,none⟩) 1 1 ∧ N ≤ bk ∧ V.heap[bk]? = some (.cells news.toArray t)
 h3 : a = false → V.ownsRow N t sz (.slice A n c) n xs
 h4 : a = true → ∃ A' c',f s3 = .slice A' (n + 1) c' ∧ V.ownsRow N t sz (.slice A' (n + 1) c') (n + 1) (xs ++ news)
 h5 : p = true → f s5 = .pointer (some ⟨ob,ix,none⟩)
 d1 : a = true → l = true
 d2 : s = true → a = true
 d3 : a = true → b = true
theorem Ch8.keep {N : Nat} {t : TypeId} {sz ob ix : Nat} {A : Option Addr} {n c : Nat} {xs news : List Value} {s1 s2 s3 s5 : Nat} {l b a p s : Bool} {f f' : Nat → Value} {V V' : World} (h : Ch8 N t sz ob ix A n c xs news s1 s2 s3 s5 l b a p s f V) (hk : KeepT N t V V') (e1 : f' s1 = f s1) (e2 : f' s2 = f s2) (e3 : f' s3 = f s3) (e5 : f' s5 = f s5) : Ch8 N t sz ob ix A n c xs news s1 s2 s3 s5 l b a p s f' V':=by
 refine ⟨fun hx => e1.trans (h.h1 hx),fun hx ha => ?_,fun hx => row_keepT (h.h3 hx) hk,fun hx => ?_,fun hx => e5.trans (h.h5 hx),h.d1,h.d2,h.d3⟩
 ·obtain ⟨bk,a1,a2,a3⟩:=h.h2 hx ha
  exact ⟨bk,e2.trans a1,a2,(hk bk _ _ a2 a3).trans a3⟩
 ·obtain ⟨A',c',a1,a2⟩:=h.h4 hx
  exact ⟨A',c',e3.trans a1,row_keepT a2 hk⟩
theorem st_fieldK {ops : Array Oper} {o : Oper} {a : Act} {w : World} {K : Act → World → Prop} {Q : Exit → Act → World → Prop} {E : Prop} {x : Operand} {b : Nat} (hgd : o.guard = none) (ho : o.op = .fieldAddr 28 x 4)
  (hx : a.eval x = .pointer (some ⟨b,0,none⟩)) (h : K (a.put o.dst (.pointer (some ⟨b,6,none⟩))) w) :
  if Region.wanted o (yielded ops a.tmps) = true then Oper.wp Tryz.prog o a w K Q else E:=by
 have hw : Region.wanted o (yielded ops a.tmps) = true:=by simp [Region.wanted,hgd]
 rw [if_pos hw]
 have hr : (Instr.fieldAt 28 (.pointer (some ⟨b,0,none⟩)) 4).run Tryz.prog w = .ok (.pointer (some ⟨b,6,none⟩)) w:=by go_simp
 unfold Oper.wp execOp
 simp only [ho,hx,Sem.run_bind,Sem.run_pure,Result.andThen_ok,hr]
 exact h
structure TJS (wr : World) (N ob : Nat) (KA LA : Option Addr) (kn kc ln lc : Nat) (ks xs ns nx : List Value) (s1 s2 s3 s5 t1 t2 t3 t5 : Nat) (L : Array Bool) (f : Nat → Value) (V : World) : Prop where
 hb : But (fun b => b = ob ∨ N ≤ b) wr V
 hob : V.heap[ob]? = some (.cells #[.int .i64 6,.bool false,.slice none 0 0,.int .i64 0,.string ⟨#[]⟩,if L.getD 13 false = true then f t3 else .slice LA ln lc,if L.getD 11 false = true then f s3 else .slice KA kn kc] 28)
 hA : Ch8 N 9 1 ob 6 KA kn kc ks ns s1 s2 s3 s5 (L.getD 1 false) (L.getD 3 false) (L.getD 4 false) (L.getD 10 false) (L.getD 11 false) f V
 hB : Ch8 N 28 7 ob 5 LA ln lc xs nx t1 t2 t3 t5 (L.getD 6 false) (L.getD 8 false) (L.getD 9 false) (L.getD 12 false) (L.getD 13 false) f V
 hT : L.getD 0 false = true ∧ L.getD 2 false = true ∧ L.getD 5 false = true ∧ L.getD 7 false = true
 hz : L.size = 14
set_option maxHeartbeats 4000000 in
theorem two_appS {ops : Array Oper} {Q : Exit → Act → World → Prop} {md : Region.Mode} {S : World → Prop} {L0 : Array Bool} {a0 : Act} {wr : World} {N ob kn kc ln lc : Nat} {KA LA : Option Addr} {ks xs : List Value} {s : ByteArray} {v0 v1 v2 v3 v4 v5 v6 : Value}
  (s1 s2 s3 s5 t1 t2 t3 t5 p1 p2 p5 q1 q2 q5 : Nat) {o1 o2 o3 o4 o5 r1 r2 r3 r4 r5 : Oper}
  (g1 : ops[1]? = some o1) (e1 : o1.op = .load 26 (.tmp p1)) (n1 : o1.guard = none) (d1 : o1.dst = some s1)
  (g2 : ops[3]? = some o2) (e2 : o2.op = .buildSlice 26 1 #[(0,.tmp p2)]) (n2 : o2.guard = none) (d2 : o2.dst = some s2)
  (g3 : ops[4]? = some o3) (e3 : o3.op = .call { callee:=.builtin .append,args:=#[.tmp s1,.tmp s2],argTypes:=#[26,26] }) (n3 : o3.guard = none) (d3 : o3.dst = some s3)
  (g5 : ops[10]? = some o5) (e5 : o5.op = .fieldAddr 28 (.tmp p5) 4) (n5 : o5.guard = none) (d5 : o5.dst = some s5)
  (g4 : ops[11]? = some o4) (e4 : o4.op = .store 26 (.tmp s5) (.tmp s3)) (n4 : o4.guard = none) (d4 : o4.dst = none)
  (k1 : ops[6]? = some r1) (f1 : r1.op = .load 25 (.tmp q1)) (m1 : r1.guard = none) (c1 : r1.dst = some t1)
  (k2 : ops[8]? = some r2) (f2 : r2.op = .buildSlice 25 1 #[(0,.tmp q2)]) (m2 : r2.guard = none) (c2 : r2.dst = some t2)
  (k3 : ops[9]? = some r3) (f3 : r3.op = .call { callee:=.builtin .append,args:=#[.tmp t1,.tmp t2],argTypes:=#[25,25] }) (m3 : r3.guard = none) (c3 : r3.dst = some t3)
  (k5 : ops[12]? = some r5) (f5 : r5.op = .fieldAddr 28 (.tmp q5) 3) (m5 : r5.guard = none) (c5 : r5.dst = some t5)
  (k4 : ops[13]? = some r4) (f4 : r4.op = .store 25 (.tmp t5) (.tmp t3)) (m4 : r4.guard = none) (c4 : r4.dst = none)
  (dep4_1 : depB md ops 4 1 = true) (dep4_3 : depB md ops 4 3 = true) (dep11_4 : depB md ops 11 4 = true) (dep11_10 : depB md ops 11 10 = true) (dep9_6 : depB md ops 9 6 = true) (dep9_8 : depB md ops 9 8 = true) (dep13_9 : depB md ops 13 9 = true) (dep13_12 : depB md ops 13 12 = true)
  (htopo : topoB md ops = true) (hn : ops.size = 14)
  (x1 : a0.eval (.tmp p1) = .pointer (some ⟨ob,6,none⟩)) (x2 : a0.eval (.tmp p2) = .string s) (x5 : a0.eval (.tmp p5) = .pointer (some ⟨ob,0,none⟩))
  (y1 : a0.eval (.tmp q1) = .pointer (some ⟨ob,5,none⟩)) (y2 : a0.eval (.tmp q2) = .agg #[v0,v1,v2,v3,v4,v5,v6]) (y5 : a0.eval (.tmp q5) = .pointer (some ⟨ob,0,none⟩))
  (hp : ([p1,p2,p5,q1,q2,q5].all fun k => ![s1,s2,s3,s5,t1,t2,t3,t5].contains k) = true) (hnd : [s1,s2,s3,s5,t1,t2,t3,t5].Nodup) (hsz : ([s1,s2,s3,s5,t1,t2,t3,t5].all fun k => decide (k < a0.tmps.size)) = true)
  (h7 : [v0,v1,v2,v3,v4,v5,v6].all Value.oneCell' = true) (hS : ∀ V,But (fun b => b = ob ∨ N ≤ b) wr V → S V) (hN : N ≤ wr.heap.size) (hobN : ob < N)
  (hL0 : L0 = #[true,false,true,false,false,true,false,true,false,false,false,false,false,false])
  (hob : wr.heap[ob]? = some (.cells #[.int .i64 6,.bool false,.slice none 0 0,.int .i64 0,.string ⟨#[]⟩,.slice LA ln lc,.slice KA kn kc] 28))
  (hK : wr.ownsRow N 9 1 (.slice KA kn kc) kn ks) (hL : wr.ownsRow N 28 7 (.slice LA ln lc) ln xs) (hkn : kn ≤ 1000000) (hln : ln ≤ 1000000)
  (hQ : ∀ f V KA' kc' LA' lc',But (fun b => b = ob ∨ N ≤ b) wr V → V.heap[ob]? = some (.cells #[.int .i64 6,.bool false,.slice none 0 0,.int .i64 0,.string ⟨#[]⟩,.slice LA' (ln + 1) lc',.slice KA' (kn + 1) kc'] 28) →
   V.ownsRow N 9 1 (.slice KA' (kn + 1) kc') (kn + 1) (ks ++ [.string s]) → V.ownsRow N 28 7 (.slice LA' (ln + 1) lc') (ln + 1) (xs ++ [v0,v1,v2,v3,v4,v5,v6]) → Q .normal (putD a0 [s1,s2,s3,s5,t1,t2,t3,t5] f) V) : wpAnyH Tryz.prog md ops Q S 10 L0 a0 wr:=by
 obtain ⟨iS,hiS,hpS,hqS,hrS⟩:=info_parts infoS1
 obtain ⟨i7,hi7,hp7,hq7,hr7⟩:=info_parts infoV7
 have nd:=hnd
 simp only [List.nodup_cons,List.mem_cons,List.not_mem_nil,not_or,or_false,not_false_eq_true,List.nodup_nil,and_true] at nd
 obtain ⟨⟨ns1s2,ns1s3,ns1s5,ns1t1,ns1t2,ns1t3,ns1t5⟩,⟨ns2s3,ns2s5,ns2t1,ns2t2,ns2t3,ns2t5⟩,⟨ns3s5,ns3t1,ns3t2,ns3t3,ns3t5⟩,⟨ns5t1,ns5t2,ns5t3,ns5t5⟩,⟨nt1t2,nt1t3,nt1t5⟩,⟨nt2t3,nt2t5⟩,nt3t5⟩:=nd
 have ns2s1 : ¬ s2 = s1:=fun e => ns1s2 e.symm
 have ns3s1 : ¬ s3 = s1:=fun e => ns1s3 e.symm
 have ns5s1 : ¬ s5 = s1:=fun e => ns1s5 e.symm
 have nt1s1 : ¬ t1 = s1:=fun e => ns1t1 e.symm
 have nt2s1 : ¬ t2 = s1:=fun e => ns1t2 e.symm
 have nt3s1 : ¬ t3 = s1:=fun e => ns1t3 e.symm
 have nt5s1 : ¬ t5 = s1:=fun e => ns1t5 e.symm
 have ns3s2 : ¬ s3 = s2:=fun e => ns2s3 e.symm
 have ns5s2 : ¬ s5 = s2:=fun e => ns2s5 e.symm
 have nt1s2 : ¬ t1 = s2:=fun e => ns2t1 e.symm
 have nt2s2 : ¬ t2 = s2:=fun e => ns2t2 e.symm
 have nt3s2 : ¬ t3 = s2:=fun e => ns2t3 e.symm
 have nt5s2 : ¬ t5 = s2:=fun e => ns2t5 e.symm
 have ns5s3 : ¬ s5 = s3:=fun e => ns3s5 e.symm
 have nt1s3 : ¬ t1 = s3:=fun e => ns3t1 e.symm
 have nt2s3 : ¬ t2 = s3:=fun e => ns3t2 e.symm
 have nt3s3 : ¬ t3 = s3:=fun e => ns3t3 e.symm
 have nt5s3 : ¬ t5 = s3:=fun e => ns3t5 e.symm
 have nt1s5 : ¬ t1 = s5:=fun e => ns5t1 e.symm
 have nt2s5 : ¬ t2 = s5:=fun e => ns5t2 e.symm
 have nt3s5 : ¬ t3 = s5:=fun e => ns5t3 e.symm
 have nt5s5 : ¬ t5 = s5:=fun e => ns5t5 e.symm
 have nt2t1 : ¬ t2 = t1:=fun e => nt1t2 e.symm
 have nt3t1 : ¬ t3 = t1:=fun e => nt1t3 e.symm
 have nt5t1 : ¬ t5 = t1:=fun e => nt1t5 e.symm
 have nt3t2 : ¬ t3 = t2:=fun e => nt2t3 e.symm
 have nt5t2 : ¬ t5 = t2:=fun e => nt2t5 e.symm
 have nt5t3 : ¬ t5 = t3:=fun e => nt3t5 e.symm
 have ev : ∀ {f : Nat → Value} {k : Nat} {v : Value},k ∈ [p1,p2,p5,q1,q2,q5] → a0.eval (.tmp k) = v → (putD a0 [s1,s2,s3,s5,t1,t2,t3,t5] f).eval (.tmp k) = v:=fun {f k v} hk h => by
  have:=List.all_eq_true.1 hp k hk
  rw [putD_else (by simpa using this)]
  exact h
 have ed : ∀ {f : Nat → Value} {k : Nat},k ∈ [s1,s2,s3,s5,t1,t2,t3,t5] → (putD a0 [s1,s2,s3,s5,t1,t2,t3,t5] f).eval (.tmp k) = f k:=fun {f k} hk => putD_eval hk (of_decide_eq_true (List.all_eq_true.1 hsz k hk))
 have mS : ∀ {k : Nat},k = s1 ∨ k = s2 ∨ k = s3 ∨ k = s5 ∨ k = t1 ∨ k = t2 ∨ k = t3 ∨ k = t5 → k ∈ [s1,s2,s3,s5,t1,t2,t3,t5]:=fun h => by simpa using h
 have hgb : ∀ {V V' : World} {t : TypeId} {sz n c : Nat} {A : Option Addr} {xs : List Value},V.ownsRow N t sz (.slice A n c) n xs → V.grownBy V' (Value.slice A n c).ownBlock → But (fun b => b = ob ∨ N ≤ b) V V' ∧ (ob < V.heap.size → V'.heap[ob]? = V.heap[ob]?):=fun {V V' t sz n c A xs} hr hg =>
  ⟨⟨hg.os,hg.tape,hg.output,hg.size,fun k hk hc => hg.block k hk (fun e => hc (.inr (ownsRow_lt hr e.symm).1))⟩,fun h => hg.block ob h (fun e => by have:=(ownsRow_lt hr e.symm).1; omega)⟩
 have hne1 : (9 : TypeId) ≠ 28:=by decide
 have hne2 : (28 : TypeId) ≠ 9:=by decide
 refine wpAnyH_bits (fun L a V => ∃ f,a = putD a0 [s1,s2,s3,s5,t1,t2,t3,t5] f ∧ TJS wr N ob KA LA kn kc ln lc ks xs [.string s] [v0,v1,v2,v3,v4,v5,v6] s1 s2 s3 s5 t1 t2 t3 t5 L f V) (fun L a V ⟨f,_,h⟩ => hS V h.hb) ?_ ?_ 10 L0 a0 wr (by rw [hL0]; decide)
  ⟨_,putD_self a0 [s1,s2,s3,s5,t1,t2,t3,t5],?_⟩
 ·rintro L a V ⟨f,rfl,hJ⟩ i hi
  have hnd0:=not_done hi
  have hsV:=hJ.hb.size
  have hol:=(Array.getElem?_eq_some_iff.1 hJ.hob).1
  have hlt:=hnd0.1
  rw [hJ.hz] at hlt
  have hnT : i ≠ 0 ∧ i ≠ 2 ∧ i ≠ 5 ∧ i ≠ 7:=by
   obtain ⟨z0,z2,z5,z7⟩:=hJ.hT
   refine ⟨?_,?_,?_,?_⟩ <;> (rintro rfl; have:=hnd0.2; simp_all)
  have hcase : i = 1 ∨ i = 3 ∨ i = 4 ∨ i = 10 ∨ i = 11 ∨ i = 6 ∨ i = 8 ∨ i = 9 ∨ i = 12 ∨ i = 13:=by omega
  rcases hcase with rfl | rfl | rfl | rfl | rfl | rfl | rfl | rfl | rfl | rfl
  ·have hna : L.getD 4 false = false:=by
    cases h : L.getD 4 false with
    | false => rfl
    | true => have:=hJ.hA.d1 h; rw [hnd0.2] at this; cases this
   have hns : L.getD 11 false = false:=by
    cases h : L.getD 11 false with
    | false => rfl
    | true => have:=hJ.hA.d2 h; rw [hna] at this; cases this
   have hcell : V.cell? ⟨ob,6,none⟩ = some (if L.getD 11 false = true then f s3 else .slice KA kn kc):=cell_at3 hJ.hob rfl
   rw [if_neg (by rw [hns]; decide)] at hcell
   refine wpOp_step (o:=o1) g1 (fun K' hK => ?_)
   refine st_loadK n1 e1 (ev (by simp) x1) hcell (hK _ _ ?_)
   rw [d1]
   refine ⟨_,putD_put (mS (by simp)),hJ.hb,?_,?_,?_,?_,by rw [Array.size_setIfInBounds]; exact hJ.hz⟩
   all_goals simp (disch:=decide) only [getD_set_ne,getD_set_eq (L:=L) (i:=1) hnd0.1]
   ·exact by simpa [ns3s1,nt3s1] using hJ.hob
   ·exact ⟨fun _ => if_pos rfl,fun hb ha => (by obtain ⟨bk,z1,z2⟩:=hJ.hA.h2 hb ha; exact ⟨bk,(if_neg ns2s1).trans z1,z2⟩),hJ.hA.h3,fun ha => (by rw [hna] at ha; cases ha),fun hp => (if_neg ns5s1).trans (hJ.hA.h5 hp),fun _ => rfl,hJ.hA.d2,hJ.hA.d3⟩
   ·exact hJ.hB.keep (fun _ _ _ _ _ => rfl) (if_neg nt1s1) (if_neg nt2s1) (if_neg nt3s1) (if_neg nt5s1)
   ·exact hJ.hT
  ·have hna : L.getD 4 false = false:=by
    cases h : L.getD 4 false with
    | false => rfl
    | true => have:=(hJ.hA.d3 h); rw [hnd0.2] at this; cases this
   refine wpOp_step (o:=o2) g2 (fun K' hK => ?_)
   refine st_buildK n2 e2 (ev (by simp) x2) (hK _ _ ?_)
   rw [d2]
   refine ⟨_,putD_put (mS (by simp)),hJ.hb.alloc _,?_,?_,?_,?_,by rw [Array.size_setIfInBounds]; exact hJ.hz⟩
   all_goals simp (disch:=decide) only [getD_set_ne,getD_set_eq (L:=L) (i:=3) hnd0.1]
   ·exact ((((Below.refl _ V).alloc (Nat.le_refl _) _).block ob hol).trans hJ.hob).trans (by simp [ns3s2,nt3s2])
   ·exact ⟨fun hl => (if_neg ns1s2).trans (hJ.hA.h1 hl),fun _ _ => ⟨V.heap.size,if_pos rfl,by omega,World.alloc_heap_new _ _⟩,fun ha => row_keepT (hJ.hA.h3 ha) (keepT_alloc _ _ _ _),fun ha => (by rw [hna] at ha; cases ha),fun hp => (if_neg ns5s2).trans (hJ.hA.h5 hp),hJ.hA.d1,hJ.hA.d2,fun _ => rfl⟩
   ·exact hJ.hB.keep (keepT_alloc _ _ _ _) (if_neg nt1s2) (if_neg nt2s2) (if_neg nt3s2) (if_neg nt5s2)
   ·exact hJ.hT
  ·have hl:=dep_of hi dep4_1
   have hbd:=dep_of hi dep4_3
   have hns : L.getD 11 false = false:=by
    cases h : L.getD 11 false with
    | false => rfl
    | true => have:=hJ.hA.d2 h; rw [hnd0.2] at this; cases this
   obtain ⟨bk,hf2,hNb,hbk⟩:=hJ.hA.h2 hbd hnd0.2
   have hrow:=hJ.hA.h3 hnd0.2
   refine wpOp_step (o:=o3) g3 (fun K' hK => ?_)
   refine step_append_at (base:=N) (e:=9) (v:=.slice KA kn kc) (n:=kn) (xs:=ks) (news:=[.string s]) (m:=1) (c:=1) (ad:=⟨bk,0,none⟩) n3 (.tmp s1) (.tmp s2) 26 e3 Tryz.underlying26 hiS hpS hqS hrS rfl (by decide) ((ed (mS (by simp))).trans (hJ.hA.h1 hl)) hrow ((ed (mS (by simp))).trans hf2) rfl (fun j u hj => by
    rw [Addr.add_lit,Nat.zero_add]
    exact cell_at3 hbk (by rw [List.getElem?_toArray]; exact hj)) (by simp [Value.oneCell']) (by unfold maxLen; omega) (by omega) (by omega) ?_
   intro v' w' hown hgr _ _
   obtain ⟨g',cap',rfl⟩:=ownsRow_succ hown
   obtain ⟨hb',ho'⟩:=hgb hrow hgr
   refine hK _ _ ?_
   rw [d3]
   refine ⟨_,putD_put (mS (by simp)),hJ.hb.trans hb',?_,?_,?_,?_,by rw [Array.size_setIfInBounds]; exact hJ.hz⟩
   all_goals simp (disch:=decide) only [getD_set_ne,getD_set_eq (L:=L) (i:=4) hnd0.1]
   ·exact ((ho' hol).trans hJ.hob).trans (by simp [hns,nt3s3])
   ·exact ⟨fun hl => (if_neg ns1s3).trans (hJ.hA.h1 hl),fun _ ha => (by cases ha),fun ha => (by cases ha),fun _ => ⟨_,_,if_pos rfl,hown⟩,fun hp => (if_neg ns5s3).trans (hJ.hA.h5 hp),fun _ => hl,fun _ => rfl,fun _ => hbd⟩
   ·exact hJ.hB.keep (keepT_grown hrow hgr hne1) (if_neg nt1s3) (if_neg nt2s3) (if_neg nt3s3) (if_neg nt5s3)
   ·exact hJ.hT
  ·refine wpOp_step (o:=o5) g5 (fun K' hK => ?_)
   refine st_fieldK n5 e5 (ev (by simp) x5) (hK _ _ ?_)
   rw [d5]
   refine ⟨_,putD_put (mS (by simp)),hJ.hb,?_,?_,?_,?_,by rw [Array.size_setIfInBounds]; exact hJ.hz⟩
   all_goals simp (disch:=decide) only [getD_set_ne,getD_set_eq (L:=L) (i:=10) hnd0.1]
   ·exact by simpa [ns3s5,nt3s5] using hJ.hob
   ·exact ⟨fun hl => (if_neg ns1s5).trans (hJ.hA.h1 hl),fun hb ha => (by obtain ⟨bk,z1,z2⟩:=hJ.hA.h2 hb ha; exact ⟨bk,(if_neg ns2s5).trans z1,z2⟩),hJ.hA.h3,fun ha => (by obtain ⟨A9,c9,z1,z2⟩:=hJ.hA.h4 ha; exact ⟨A9,c9,(if_neg ns3s5).trans z1,z2⟩),fun _ => if_pos rfl,hJ.hA.d1,hJ.hA.d2,hJ.hA.d3⟩
   ·exact hJ.hB.keep (fun _ _ _ _ _ => rfl) (if_neg nt1s5) (if_neg nt2s5) (if_neg nt3s5) (if_neg nt5s5)
   ·exact hJ.hT
  ·have ha:=dep_of hi dep11_4
   have hp:=dep_of hi dep11_10
   obtain ⟨A',c',hf3,hrow⟩:=hJ.hA.h4 ha
   have hcell : V.cell? ⟨ob,6,none⟩ = some (if L.getD 11 false = true then f s3 else .slice KA kn kc):=cell_at3 hJ.hob rfl
   rw [if_neg (by rw [hnd0.2]; decide)] at hcell
   have hfr : V.frozen? ⟨ob,6,none⟩ = false:=frozen_of_row V _ _ _ _ hJ.hob
   refine wpOp_step (o:=o4) g4 (fun K' hK => ?_)
   refine st_storeK n4 e4 ((ed (mS (by simp))).trans (hJ.hA.h5 hp)) ((ed (mS (by simp))).trans hf3) hcell hfr (hK _ _ ?_)
   rw [d4]
   have hset:=set_heap (i:=6) (u:=.slice A' (kn + 1) c') hJ.hob
   refine ⟨f,rfl,But.setCell hJ.hb (.inl (.inl rfl)) _,?_,?_,?_,?_,by rw [Array.size_setIfInBounds]; exact hJ.hz⟩
   all_goals simp (disch:=decide) only [getD_set_ne,getD_set_eq (L:=L) (i:=11) hnd0.1]
   ·exact hset.trans (by simp [hf3])
   ·exact ⟨hJ.hA.h1,fun hb ha2 => (by rw [ha] at ha2; cases ha2),fun ha2 => (by rw [ha] at ha2; cases ha2),fun _ => ⟨A',c',hf3,row_keepT hrow (keepT_set hobN)⟩,hJ.hA.h5,hJ.hA.d1,fun _ => ha,hJ.hA.d3⟩
   ·exact hJ.hB.keep (keepT_set hobN) rfl rfl rfl rfl
   ·exact hJ.hT
  ·have hna : L.getD 9 false = false:=by
    cases h : L.getD 9 false with
    | false => rfl
    | true => have:=hJ.hB.d1 h; rw [hnd0.2] at this; cases this
   have hns : L.getD 13 false = false:=by
    cases h : L.getD 13 false with
    | false => rfl
    | true => have:=hJ.hB.d2 h; rw [hna] at this; cases this
   have hcell : V.cell? ⟨ob,5,none⟩ = some (if L.getD 13 false = true then f t3 else .slice LA ln lc):=cell_at3 hJ.hob rfl
   rw [if_neg (by rw [hns]; decide)] at hcell
   refine wpOp_step (o:=r1) k1 (fun K' hK => ?_)
   refine st_loadL m1 f1 (ev (by simp) y1) hcell (hK _ _ ?_)
   rw [c1]
   refine ⟨_,putD_put (mS (by simp)),hJ.hb,?_,?_,?_,?_,by rw [Array.size_setIfInBounds]; exact hJ.hz⟩
   all_goals simp (disch:=decide) only [getD_set_ne,getD_set_eq (L:=L) (i:=6) hnd0.1]
   ·exact by simpa [ns3t1,nt3t1] using hJ.hob
   ·exact hJ.hA.keep (fun _ _ _ _ _ => rfl) (if_neg ns1t1) (if_neg ns2t1) (if_neg ns3t1) (if_neg ns5t1)
   ·exact ⟨fun _ => if_pos rfl,fun hb ha => (by obtain ⟨bk,z1,z2⟩:=hJ.hB.h2 hb ha; exact ⟨bk,(if_neg nt2t1).trans z1,z2⟩),hJ.hB.h3,fun ha => (by rw [hna] at ha; cases ha),fun hp => (if_neg nt5t1).trans (hJ.hB.h5 hp),fun _ => rfl,hJ.hB.d2,hJ.hB.d3⟩
   ·exact hJ.hT
  ·have hna : L.getD 9 false = false:=by
    cases h : L.getD 9 false with
    | false => rfl
    | true => have:=(hJ.hB.d3 h); rw [hnd0.2] at this; cases this
   refine wpOp_step (o:=r2) k2 (fun K' hK => ?_)
   refine st_buildL m2 f2 (ev (by simp) y2) h7 (hK _ _ ?_)
   rw [c2]
   refine ⟨_,putD_put (mS (by simp)),hJ.hb.alloc _,?_,?_,?_,?_,by rw [Array.size_setIfInBounds]; exact hJ.hz⟩
   all_goals simp (disch:=decide) only [getD_set_ne,getD_set_eq (L:=L) (i:=8) hnd0.1]
   ·exact ((((Below.refl _ V).alloc (Nat.le_refl _) _).block ob hol).trans hJ.hob).trans (by simp [ns3t2,nt3t2])
   ·exact hJ.hA.keep (keepT_alloc _ _ _ _) (if_neg ns1t2) (if_neg ns2t2) (if_neg ns3t2) (if_neg ns5t2)
   ·exact ⟨fun hl => (if_neg nt1t2).trans (hJ.hB.h1 hl),fun _ _ => ⟨V.heap.size,if_pos rfl,by omega,World.alloc_heap_new _ _⟩,fun ha => row_keepT (hJ.hB.h3 ha) (keepT_alloc _ _ _ _),fun ha => (by rw [hna] at ha; cases ha),fun hp => (if_neg nt5t2).trans (hJ.hB.h5 hp),hJ.hB.d1,hJ.hB.d2,fun _ => rfl⟩
   ·exact hJ.hT
  ·have hl:=dep_of hi dep9_6
   have hbd:=dep_of hi dep9_8
   have hns : L.getD 13 false = false:=by
    cases h : L.getD 13 false with
    | false => rfl
    | true => have:=hJ.hB.d2 h; rw [hnd0.2] at this; cases this
   obtain ⟨bk,hf2,hNb,hbk⟩:=hJ.hB.h2 hbd hnd0.2
   have hrow:=hJ.hB.h3 hnd0.2
   refine wpOp_step (o:=r3) k3 (fun K' hK => ?_)
   refine step_append_at (base:=N) (e:=28) (v:=.slice LA ln lc) (n:=ln) (xs:=xs) (news:=[v0,v1,v2,v3,v4,v5,v6]) (m:=1) (c:=1) (ad:=⟨bk,0,none⟩) m3 (.tmp t1) (.tmp t2) 25 f3 Tryz.underlying25 hi7 hp7 hq7 hr7 rfl (by decide) ((ed (mS (by simp))).trans (hJ.hB.h1 hl)) hrow ((ed (mS (by simp))).trans hf2) rfl (fun j u hj => by
    rw [Addr.add_lit,Nat.zero_add]
    exact cell_at3 hbk (by rw [List.getElem?_toArray]; exact hj)) (fun u hu => List.all_eq_true.1 h7 u hu) (by unfold maxLen; omega) (by omega) (by omega) ?_
   intro v' w' hown hgr _ _
   obtain ⟨g',cap',rfl⟩:=ownsRow_succ hown
   obtain ⟨hb',ho'⟩:=hgb hrow hgr
   refine hK _ _ ?_
   rw [c3]
   refine ⟨_,putD_put (mS (by simp)),hJ.hb.trans hb',?_,?_,?_,?_,by rw [Array.size_setIfInBounds]; exact hJ.hz⟩
   all_goals simp (disch:=decide) only [getD_set_ne,getD_set_eq (L:=L) (i:=9) hnd0.1]
   ·exact ((ho' hol).trans hJ.hob).trans (by simp [hns,ns3t3])
   ·exact hJ.hA.keep (keepT_grown hrow hgr hne2) (if_neg ns1t3) (if_neg ns2t3) (if_neg ns3t3) (if_neg ns5t3)
   ·exact ⟨fun hl => (if_neg nt1t3).trans (hJ.hB.h1 hl),fun _ ha => (by cases ha),fun ha => (by cases ha),fun _ => ⟨_,_,if_pos rfl,hown⟩,fun hp => (if_neg nt5t3).trans (hJ.hB.h5 hp),fun _ => hl,fun _ => rfl,fun _ => hbd⟩
   ·exact hJ.hT
  ·refine wpOp_step (o:=r5) k5 (fun K' hK => ?_)
   refine st_field3 m5 f5 (ev (by simp) y5) (hK _ _ ?_)
   rw [c5]
   refine ⟨_,putD_put (mS (by simp)),hJ.hb,?_,?_,?_,?_,by rw [Array.size_setIfInBounds]; exact hJ.hz⟩
   all_goals simp (disch:=decide) only [getD_set_ne,getD_set_eq (L:=L) (i:=12) hnd0.1]
   ·exact by simpa [ns3t5,nt3t5] using hJ.hob
   ·exact hJ.hA.keep (fun _ _ _ _ _ => rfl) (if_neg ns1t5) (if_neg ns2t5) (if_neg ns3t5) (if_neg ns5t5)
   ·exact ⟨fun hl => (if_neg nt1t5).trans (hJ.hB.h1 hl),fun hb ha => (by obtain ⟨bk,z1,z2⟩:=hJ.hB.h2 hb ha; exact ⟨bk,(if_neg nt2t5).trans z1,z2⟩),hJ.hB.h3,fun ha => (by obtain ⟨A9,c9,z1,z2⟩:=hJ.hB.h4 ha; exact ⟨A9,c9,(if_neg nt3t5).trans z1,z2⟩),fun _ => if_pos rfl,hJ.hB.d1,hJ.hB.d2,hJ.hB.d3⟩
   ·exact hJ.hT
  ·have ha:=dep_of hi dep13_9
   have hp:=dep_of hi dep13_12
   obtain ⟨A',c',hf3,hrow⟩:=hJ.hB.h4 ha
   have hcell : V.cell? ⟨ob,5,none⟩ = some (if L.getD 13 false = true then f t3 else .slice LA ln lc):=cell_at3 hJ.hob rfl
   rw [if_neg (by rw [hnd0.2]; decide)] at hcell
   have hfr : V.frozen? ⟨ob,5,none⟩ = false:=frozen_of_row V _ _ _ _ hJ.hob
   refine wpOp_step (o:=r4) k4 (fun K' hK => ?_)
   refine st_storeL m4 f4 ((ed (mS (by simp))).trans (hJ.hB.h5 hp)) ((ed (mS (by simp))).trans hf3) hcell hfr (hK _ _ ?_)
   rw [c4]
   have hset:=set_heap (i:=5) (u:=.slice A' (ln + 1) c') hJ.hob
   refine ⟨f,rfl,But.setCell hJ.hb (.inl (.inl rfl)) _,?_,?_,?_,?_,by rw [Array.size_setIfInBounds]; exact hJ.hz⟩
   all_goals simp (disch:=decide) only [getD_set_ne,getD_set_eq (L:=L) (i:=13) hnd0.1]
   ·exact hset.trans (by simp [hf3])
   ·exact hJ.hA.keep (keepT_set hobN) rfl rfl rfl rfl
   ·exact ⟨hJ.hB.h1,fun hb ha2 => (by rw [ha] at ha2; cases ha2),fun ha2 => (by rw [ha] at ha2; cases ha2),fun _ => ⟨A',c',hf3,row_keepT hrow (keepT_set hobN)⟩,hJ.hB.h5,hJ.hB.d1,fun _ => ha,hJ.hB.d3⟩
   ·exact hJ.hT
 ·rintro L a V ⟨f,rfl,hJ⟩ hr
  have hd:=all_done htopo (hJ.hz.trans hn.symm) hr
  obtain ⟨KA',kc',h3,hr3⟩:=hJ.hA.h4 (hd 4 (by omega))
  obtain ⟨LA',lc',g3,hs3⟩:=hJ.hB.h4 (hd 9 (by omega))
  refine hQ f V KA' kc' LA' lc' hJ.hb ?_ hr3 hs3
  have:=hJ.hob
  rw [if_pos (hd 13 (by omega)),if_pos (hd 11 (by omega)),h3,g3] at this
  exact this
 ·subst hL0
  exact ⟨But.refl _ _,hob,⟨fun h => (by cases h),fun h => (by cases h),fun _ => hK,fun h => (by cases h),fun h => (by cases h),fun h => (by cases h),fun h => (by cases h),fun h => (by cases h)⟩,⟨fun h => (by cases h),fun h => (by cases h),fun _ => hL,fun h => (by cases h),fun h => (by cases h),fun h => (by cases h),fun h => (by cases h),fun h => (by cases h)⟩,⟨rfl,rfl,rfl,rfl⟩,rfl⟩
end Go.Proofs.YtkigpbkkhgabeaaGreatDoor
