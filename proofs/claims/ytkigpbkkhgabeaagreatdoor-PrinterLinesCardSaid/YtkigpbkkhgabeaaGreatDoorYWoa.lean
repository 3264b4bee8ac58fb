import Derived.Test.YtkigpbkkhgabeaaGreatDoorYWwt
import Derived.Test.YtkigpbkkhgabeaaGreatDoorYWsl
set_option linter.unusedVariables false
set_option linter.unusedSimpArgs false
namespace Go.Proofs.YtkigpbkkhgabeaaGreatDoor
open Go.RowKit Go.Lib
theorem st_load7 {ops : Array Oper} {o : Oper} {a : Act} {w : World} {K : Act → World → Prop} {Q : Exit → Act → World → Prop} {E : Prop} {x : Operand} {b : Nat} {v0 v1 v2 v3 v4 v5 v6 : Value} (hgd : o.guard = none) (ho : o.op = .load 28 x)
  (hx : a.eval x = .pointer (some ⟨b,0,none⟩)) (hc : w.heap[b]? = some (.cells #[v0,v1,v2,v3,v4,v5,v6] 28)) (h : K (a.put o.dst (.agg #[v0,v1,v2,v3,v4,v5,v6])) w) :
  if Region.wanted o (yielded ops a.tmps) = true then Oper.wp Tryz.prog o a w K Q else E:=by
 have hw : Region.wanted o (yielded ops a.tmps) = true:=by simp [Region.wanted,hgd]
 rw [if_pos hw]
 obtain ⟨y0,y1,y2,y3,y4,y5,y6⟩:=box7_of hc
 clear hc
 have hr : (Instr.loadAt 28 (.pointer (some ⟨b,0,none⟩))).run Tryz.prog w = .ok (.agg #[v0,v1,v2,v3,v4,v5,v6]) w:=by go_simp
 unfold Oper.wp execOp
 simp only [ho,hx,Sem.run_bind,Sem.run_pure,Result.andThen_ok,hr]
 exact h
theorem st_store7 {ops : Array Oper} {o : Oper} {a : Act} {w : World} {K : Act → World → Prop} {Q : Exit → Act → World → Prop} {E : Prop} {x y : Operand} {b : Nat} {u0 u1 u2 u3 u4 u5 u6 : Value} {k e : Int} {neg : Bool} {A LA KA : Option Addr} {n c ln lc kn kc : Nat} {t : ByteArray} (hgd : o.guard = none) (ho : o.op = .store 28 x y)
  (hx : a.eval x = .pointer (some ⟨b,0,none⟩)) (hy : a.eval y = .agg #[.int .i64 k,.bool neg,.slice A n c,.int .i64 e,.string t,.slice LA ln lc,.slice KA kn kc]) (hc : w.heap[b]? = some (.cells #[u0,u1,u2,u3,u4,u5,u6] 28))
  (h : ∀ w',But (fun j => j = b) w w' → w'.heap[b]? = some (.cells #[.int .i64 k,.bool neg,.slice A n c,.int .i64 e,.string t,.slice LA ln lc,.slice KA kn kc] 28) → K (a.put o.dst undef) w') :
  if Region.wanted o (yielded ops a.tmps) = true then Oper.wp Tryz.prog o a w K Q else E:=by
 have hw : Region.wanted o (yielded ops a.tmps) = true:=by simp [Region.wanted,hgd]
 rw [if_pos hw]
 obtain ⟨y0,y1,y2,y3,y4,y5,y6⟩:=box7_of hc
 have fz : ∀ j,w.frozen? ⟨b,j,none⟩ = false:=fun j => frozen_of_row w _ j _ _ hc
 have hr : (Instr.storeAt 28 (.pointer (some ⟨b,0,none⟩)) (.agg #[.int .i64 k,.bool neg,.slice A n c,.int .i64 e,.string t,.slice LA ln lc,.slice KA kn kc])).run Tryz.prog w = .ok () (((((((w.setCell ⟨b,0,none⟩ (.int .i64 k)).setCell ⟨b,1,none⟩ (.bool neg)).setCell ⟨b,2,none⟩ (.slice A n c)).setCell ⟨b,3,none⟩ (.int .i64 e)).setCell ⟨b,4,none⟩ (.string t)).setCell ⟨b,5,none⟩ (.slice LA ln lc)).setCell ⟨b,6,none⟩ (.slice KA kn kc)):=by
  clear hc
  go_simp
 unfold Oper.wp execOp
 simp only [ho,hx,hy,Sem.run_bind,Sem.run_pure,Result.andThen_ok,hr]
 refine h _ (But.setCell (C:=fun j => j = b) (p:=⟨b,6,none⟩) (But.setCell (C:=fun j => j = b) (p:=⟨b,5,none⟩) (But.setCell (C:=fun j => j = b) (p:=⟨b,4,none⟩) (But.setCell (C:=fun j => j = b) (p:=⟨b,3,none⟩) (But.setCell (C:=fun j => j = b) (p:=⟨b,2,none⟩) (But.setCell (C:=fun j => j = b) (p:=⟨b,1,none⟩) (But.setCell (C:=fun j => j = b) (p:=⟨b,0,none⟩) (But.refl _ w) (.inl rfl) _) (.inl rfl) _) (.inl rfl) _) (.inl rfl) _) (.inl rfl) _) (.inl rfl) _) (.inl rfl) _) ?_
 have h7:=set_heap (i:=6) (u:=.slice KA kn kc) (set_heap (i:=5) (u:=.slice LA ln lc) (set_heap (i:=4) (u:=.string t) (set_heap (i:=3) (u:=.int .i64 e) (set_heap (i:=2) (u:=.slice A n c) (set_heap (i:=1) (u:=.bool neg) (set_heap (i:=0) (u:=.int .i64 k) hc))))))
 simp only [List.setIfInBounds_toArray,List.set_cons_zero,List.set_cons_succ] at h7
 exact h7
variable {B : Nat} {L : List UInt8} {A : Option Addr} {c rb : Nat}
structure OJ (wr : World) (B : Nat) (L : List UInt8) (A : Option Addr) (c rb : Nat) (os : List Value) (v : VT) (p1 x y : Nat) (f : Nat → Value) (V : World) : Prop where
 hb : But (fun k => k = rb) wr V
 h84 : 1 ≤ x → f 84 = .agg os.toArray
 h2 : y < 1 → V = wr
 h3 : 1 ≤ y → ∃ cs : List Value,f 88 = .agg cs.toArray ∧ VIn V (fun b => wr.heap.size ≤ b ∧ b < V.heap.size) v cs ∧ REnv B L A c rb V p1
set_option maxHeartbeats 2000000 in
theorem ob_app {ops : Array Oper} {Q : Exit → Act → World → Prop} {md : Region.Mode} {L0 : Array Bool} {a0 : Act} {wr : World} {N ob d pp p1 n1 c1 ln lc kn kc : Nat} {A1 LA KA : Option Addr} {v : VT} {P : List (ByteArray × VT)} {key : ByteArray} {o0 o4 o5 o6 : Oper} {ts ts2 : Array TypeId}
  (hg : twoOk md ops L0 [0] [4] = true)
  (g0 : ops[0]? = some o0) (e0 : o0.op = .load 28 (.tmp 5)) (n0 : o0.guard = none) (d0 : o0.dst = some 84)
  (g4 : ops[4]? = some o4) (e4 : o4.op = .call { callee:=.value (.func 52),args:=#[.tmp 86,.tmp 87,.const (.int .i64 0)],argTypes:=ts }) (n4 : o4.guard = none) (d4 : o4.dst = some 88)
  (g5 : ops[5]? = some o5) (e5 : o5.op = .call { callee:=.value (.func 112),args:=#[.tmp 84,.tmp 85,.tmp 88],argTypes:=ts2 }) (n5 : o5.guard = none) (d5 : o5.dst = some 89)
  (g6 : ops[6]? = some o6) (e6 : o6.op = .store 28 (.tmp 5) (.tmp 89)) (n6 : o6.guard = none) (d6 : o6.dst = none)
  (x1 : a0.eval (.tmp 5) = .pointer (some ⟨ob,0,none⟩)) (x2 : a0.eval (.tmp 85) = .string key) (x3 : a0.eval (.tmp 86) = .pointer (some ⟨rb,0,none⟩)) (x4 : a0.eval (.tmp 87) = .int .i64 (d : Int)) (hsz : 89 < a0.tmps.size)
  (hr1 : Region.ready md ops (twoL L0 [0] [4] 1 1) = [5]) (hr2 : Region.ready md ops ((twoL L0 [0] [4] 1 1).setIfInBounds 5 true) = [6]) (hr3 : Region.ready md ops (((twoL L0 [0] [4] 1 1).setIfInBounds 5 true).setIfInBounds 6 true) = [])
  (hN : N ≤ wr.heap.size) (hobN : ob < N) (hrbo : rb < ob) (hP : P.length ≤ 5000) (hk : key.size ≤ 140737488355328)
  (hob : wr.heap[ob]? = some (.cells #[.int .i64 6,.bool false,.slice A1 n1 c1,.int .i64 0,.string ⟨#[]⟩,.slice LA ln lc,.slice KA kn kc] 28))
  (ho : VIn wr (fun b => N ≤ b ∧ b < wr.heap.size) (objP P) [.int .i64 6,.bool false,.slice A1 n1 c1,.int .i64 0,.string ⟨#[]⟩,.slice LA ln lc,.slice KA kn kc])
  (hv : Calls Tryz.prog 52 #[.pointer (some ⟨rb,0,none⟩),.int .i64 (d : Int),.int .i64 0] wr (RvP B L A c rb p1 v wr))
  (hQ : ∀ f V n2 c2 ln2 lc2 kn2 kc2 A2 LA2 KA2,But (fun b => b = rb ∨ b = ob) wr V → REnv B L A c rb V p1 → V.heap[ob]? = some (.cells #[.int .i64 6,.bool false,.slice A2 n2 c2,.int .i64 0,.string ⟨#[]⟩,.slice LA2 ln2 lc2,.slice KA2 kn2 kc2] 28) →
   VIn V (fun b => N ≤ b ∧ b < V.heap.size) (objP (withP key v P)) [.int .i64 6,.bool false,.slice A2 n2 c2,.int .i64 0,.string ⟨#[]⟩,.slice LA2 ln2 lc2,.slice KA2 kn2 kc2] → Q .normal (putD a0 [84,88,89] f) V) : wpAnyH Tryz.prog md ops Q (fun _ => True) 4 L0 a0 wr:=by
 have hcf : ∀ (args : Array Value) (V : World),(callFunc 52 args).run Tryz.prog V = .ok (.enter 52 args) V:=fun args V => by kernel_rfl
 have hcg : ∀ (args : Array Value) (V : World),(callFunc 112 args).run Tryz.prog V = .ok (.enter 112 args) V:=fun args V => by kernel_rfl
 have ed : ∀ {f : Nat → Value} {k : Nat},k ∈ [84,88,89] → (putD a0 [84,88,89] f).eval (.tmp k) = f k:=fun {f k} hk => putD_eval hk (by
  have : k ≤ 89:=by simp at hk; omega
  omega)
 have ev : ∀ {f : Nat → Value} {k : Nat} {v : Value},k ∉ [84,88,89] → a0.eval (.tmp k) = v → (putD a0 [84,88,89] f).eval (.tmp k) = v:=fun {f k v} hk h => (putD_else hk).trans h
 have hobW : ∀ V,But (fun k => k = rb) wr V → V.heap[ob]? = some (.cells #[.int .i64 6,.bool false,.slice A1 n1 c1,.int .i64 0,.string ⟨#[]⟩,.slice LA ln lc,.slice KA kn kc] 28):=fun V hV => (hV.block ob (Array.getElem?_eq_some_iff.1 hob).1 (by omega)).trans hob
 refine wpAnyH_twoD [0] [4] [84,88,89] (OJ wr B L A c rb [.int .i64 6,.bool false,.slice A1 n1 c1,.int .i64 0,.string ⟨#[]⟩,.slice LA ln lc,.slice KA kn kc] v p1) 2 4 hg rfl (fun _ _ _ _ _ => trivial) ⟨But.refl _ _,fun h => by omega,fun _ => rfl,fun h => by omega⟩ ?_ ?_ ?_
 ·intro x y f V hx hy hJ
  obtain rfl : x = 0:=by simp at hx; omega
  refine wpOp_step (o:=o0) g0 (fun K' hK => ?_)
  refine st_load7 n0 e0 (ev (by decide) x1) (hobW V hJ.hb) (hK _ _ ?_)
  rw [d0]
  exact ⟨_,putD_put (by decide),hJ.hb,fun _ => rfl,hJ.h2,hJ.h3⟩
 ·intro x y f V hx hy hJ
  obtain rfl : y = 0:=by simp at hy; omega
  refine wpOp_step (o:=o4) g4 (fun K' hK => ?_)
  refine st_call3 n4 e4 (ev (by decide) x3) (ev (by decide) x4) rfl (hcf _ _) ?_
  obtain rfl:=hJ.h2 (by omega)
  refine hv.mono ?_
  rintro e w2 ⟨cs,rfl,hva,hE2,hb2⟩
  refine ⟨_,rfl,hK _ _ ?_⟩
  rw [d4]
  exact ⟨_,putD_put (by decide),hb2,hJ.h84,fun h => by omega,fun _ => ⟨cs,rfl,hva,hE2⟩⟩
 ·intro f V hJ
  replace hJ : OJ wr B L A c rb [.int .i64 6,.bool false,.slice A1 n1 c1,.int .i64 0,.string ⟨#[]⟩,.slice LA ln lc,.slice KA kn kc] v p1 1 1 f V:=hJ
  have h84:=hJ.h84 (Nat.le_refl _)
  obtain ⟨cs,h88,hva,hE2⟩:=hJ.h3 (Nat.le_refl _)
  have hb:=hJ.hb
  have hsz2:=hb.size
  have hobV:=hobW V hb
  refine wpAnyH_ready (rs:=[5]) hr1 (by simp) (AllReadyH.cons (o:=o5) g5 (fun K hK => ?_) AllReadyH.nil)
  refine st_call3 n5 e5 ((ed (by decide)).trans h84) (ev (by decide) x2) ((ed (by decide)).trans h88) (hcg _ _) ?_
  have ho2:=(ho.keep (w':=V) fun p hp => hb.cell (p:=p) hp.2 (by have:=hp.1; omega)).more (S':=fun b => N ≤ b ∧ b < V.heap.size) fun b h => ⟨h.1,by have:=h.2; omega⟩
  have hva2:=hva.more (S':=fun b => N ≤ b ∧ b < V.heap.size) fun b h => ⟨by have:=h.1; omega,h.2⟩
  refine (with7_c ho2 hva2 (fun b h => h.2) hP hk).mono ?_
  rintro e w3 ⟨cs',rfl,hvn,hb3⟩
  have hvp:=hvn
  unfold objP at hvp
  obtain ⟨A2,n2,c2,LA2,ln2,lc2,KA2,kn2,kc2,rfl,-⟩:=hvp.parts
  refine ⟨_,rfl,?_⟩
  rw [d5,putD_put (by decide)]
  refine hK.out _ _ trivial (fun _ => ?_)
  clear hK K hvp
  have hob3:=(hb3.block ob (Array.getElem?_eq_some_iff.1 hobV).1).trans hobV
  refine wpAnyH_ready (rs:=[6]) hr2 (by simp) (AllReadyH.cons (o:=o6) g6 (fun K hK => ?_) AllReadyH.nil)
  refine st_store7 n6 e6 (ev (by decide) x1) ((ed (by decide)).trans (if_pos rfl)) hob3 ?_
  intro w4 hb4 hob4
  rw [d6]
  refine hK.out _ _ trivial (fun _ => ?_)
  refine wpAnyH_done hr3 ?_ _
  have hs3:=hb3.size
  have hs4:=hb4.size
  have hB3 : But (fun _ => False) V w3:=But.of hb3
  have hE3:=hE2.stay (C:=fun _ => False) hB3 (fun k h => h.elim)
  have hE4:=hE3.stay hb4 (fun k hk => by have:=hE3.base; omega)
  refine hQ _ _ _ _ _ _ _ _ _ _ _ ((hb.mono fun _ _ h => .inl h).trans ((hB3.mono fun _ _ h => h.elim).trans (hb4.mono fun _ _ h => .inr h))) hE4 hob4 ?_
  refine (hvn.keep (w':=w4) fun p hp => hb4.cell (p:=p) (by rcases hp with hp | hp <;> omega) (by rcases hp with hp | hp <;> omega)).more fun b h => ?_
  rcases h with h | h <;> omega
def pairR (k n : Nat) : Rd1 (ByteArray × VT):=rAt (rKey n) fun key => rAt (rSkips isWs) fun _ => rAt (rNeed (· == 58)) fun _ => rAt (rSkips isWs) fun _ => rAt (rValue mkObj k n) fun v => rPure (key,v)
theorem pairR_ok {k n p p1 : Nat} {a : ByteArray × VT} (h : pairR k n L p = .ok a p1) : ∃ p2,L[p]? = some 34 ∧ n ≤ 4096 ∧ rText L p = .ok a.1 p2 ∧ L[wsN L p2]? = some 58 ∧ rValue mkObj k n L (wsN L (wsN L p2 + 1)) = .ok a.2 p1:=by
 unfold pairR at h
 obtain ⟨key,p2,h1,h⟩:=bind_ok h
 obtain ⟨u,p3,h2,h⟩:=bind_ok h
 obtain ⟨u2,p4,h3,h⟩:=bind_ok h
 obtain ⟨u3,p5,h4,h⟩:=bind_ok h
 obtain ⟨v,p6,h5,h6⟩:=bind_ok h
 unfold rPure at h6
 injection h6 with e1 e2
 subst e1 e2
 have q2:=rSkips_ok7 h2
 subst q2
 have q4:=rSkips_ok7 h4
 subst q4
 unfold rNeed at h3
 cases hx : L[p2 + ((L.drop p2).takeWhile isWs).length]? with
 | none => rw [hx] at h3; cases h3
 | some x =>
  rw [hx] at h3
  simp only at h3
  split at h3
  ·rename_i hc
   injection h3 with _ h3
   subst h3
   have hc':=eq_of_beq hc
   subst hc'
   unfold rKey at h1
   obtain ⟨y,q,h7,h8⟩:=bind_ok h1
   unfold rPeek at h7
   cases hy : L[p]? with
   | none => rw [hy] at h7; cases h7
   | some z =>
    rw [hy] at h7
    injection h7 with e1 e2
    subst e1 e2
    split at h8
    ·rename_i hz
     have hz':=eq_of_beq hz
     subst hz'
     split at h8
     ·cases h8
     ·exact ⟨p2,rfl,by omega,h8,hx,h5⟩
    ·cases h8
  ·cases h3
end Go.Proofs.YtkigpbkkhgabeaaGreatDoor
