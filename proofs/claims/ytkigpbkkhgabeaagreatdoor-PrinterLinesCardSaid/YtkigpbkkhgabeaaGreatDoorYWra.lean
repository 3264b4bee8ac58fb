import Derived.Test.YtkigpbkkhgabeaaGreatDoorYWrs
import Derived.Deep.RegionHeld
import Derived.Test.YtkigpbkkhgabeaaGreatDoorYWyn
import Derived.BigQuiet
set_option linter.unusedVariables false
set_option linter.unusedSimpArgs false
namespace Go.Proofs.YtkigpbkkhgabeaaGreatDoor
open Go.RowKit Go.Lib
def twoL (L0 : Array Bool) (iA iB : List Nat) (x y : Nat) : Array Bool:=(iA.take x ++ iB.take y).foldl (fun l i => l.setIfInBounds i true) L0
def twoOk (md : Region.Mode) (ops : Array Oper) (L0 : Array Bool) (iA iB : List Nat) : Bool :=
 (List.range (iA.length + 1)).all fun x => (List.range (iB.length + 1)).all fun y =>
  (decide (x = iA.length ∧ y = iB.length) || ((Region.ready md ops (twoL L0 iA iB x y)).all (fun i => (decide (x < iA.length) && i == iA.getD x 0) || (decide (y < iB.length) && i == iB.getD y 0)) &&
  !(Region.ready md ops (twoL L0 iA iB x y)).isEmpty)) &&
  (!decide (x < iA.length) || decide ((twoL L0 iA iB x y).setIfInBounds (iA.getD x 0) true = twoL L0 iA iB (x + 1) y)) &&
  (!decide (y < iB.length) || decide ((twoL L0 iA iB x y).setIfInBounds (iB.getD y 0) true = twoL L0 iA iB x (y + 1)))
theorem wpAnyH_two {P : Program} {ops : Array Oper} {Q : Exit → Act → World → Prop} {md : Region.Mode} {S : World → Prop} (L0 : Array Bool) (iA iB : List Nat) (J : Nat → Nat → Act → World → Prop) (f0 : Nat)
  (hg : twoOk md ops L0 iA iB = true) (hJS : ∀ x y a w,J x y a w → S w)
  (hA : ∀ x y a w,x < iA.length → y ≤ iB.length → J x y a w → wpOp P ops Q (iA.getD x 0) (fun a' w' => J (x + 1) y a' w') a w)
  (hB : ∀ x y a w,x ≤ iA.length → y < iB.length → J x y a w → wpOp P ops Q (iB.getD y 0) (fun a' w' => J x (y + 1) a' w') a w)
  (hE : ∀ a w,J iA.length iB.length a w → wpAnyH P md ops Q S f0 (twoL L0 iA iB iA.length iB.length) a w) :
  ∀ (f x y : Nat) (a : Act) (w : World),x ≤ iA.length → y ≤ iB.length → (iA.length - x) + (iB.length - y) + f0 = f → J x y a w → wpAnyH P md ops Q S f (twoL L0 iA iB x y) a w:=by
 have hc : ∀ x y,x ≤ iA.length → y ≤ iB.length → ((x = iA.length ∧ y = iB.length) ∨ ((∀ i ∈ Region.ready md ops (twoL L0 iA iB x y),(x < iA.length ∧ i = iA.getD x 0) ∨ (y < iB.length ∧ i = iB.getD y 0)) ∧ Region.ready md ops (twoL L0 iA iB x y) ≠ [])) ∧
   (x < iA.length → (twoL L0 iA iB x y).setIfInBounds (iA.getD x 0) true = twoL L0 iA iB (x + 1) y) ∧ (y < iB.length → (twoL L0 iA iB x y).setIfInBounds (iB.getD y 0) true = twoL L0 iA iB x (y + 1)):=fun x y hx hy => by
  have h1:=List.all_eq_true.1 (List.all_eq_true.1 hg x (List.mem_range.2 (by omega))) y (List.mem_range.2 (by omega))
  simp only [Bool.and_eq_true,Bool.or_eq_true,List.all_eq_true,decide_eq_true_eq,beq_iff_eq,Bool.not_eq_true',decide_eq_false_iff_not] at h1
  obtain ⟨⟨h1,h3⟩,h4⟩:=h1
  refine ⟨?_,fun h => h3.resolve_left (fun n => n h),fun h => h4.resolve_left (fun n => n h)⟩
  rcases h1 with h1 | ⟨h1,h2⟩
  ·exact .inl h1
  ·exact .inr ⟨fun i hi => h1 i hi,fun e => by rw [e] at h2; simp at h2⟩
 intro f
 induction f with
 | zero =>
  intro x y a w hx hy hf hJ
  have e1 : x = iA.length:=by omega
  have e2 : y = iB.length:=by omega
  have e3 : f0 = 0:=by omega
  subst e1 e2 e3
  exact hE a w hJ
 | succ f ih =>
  intro x y a w hx hy hf hJ
  obtain ⟨h1,h3,h4⟩:=hc x y hx hy
  rcases h1 with ⟨e1,e2⟩ | ⟨h1,h2⟩
  ·have e3 : f0 = f + 1:=by omega
   subst e1 e2 e3
   exact hE a w hJ
  ·refine ⟨fun h => absurd h h2,fun i hi => ?_⟩
   rcases h1 i hi with ⟨hl,rfl⟩ | ⟨hl,rfl⟩
   ·refine wpOp_mono ?_ (hA x y a w hl hy hJ)
    intro a' w' hJ'
    refine ⟨hJS _ _ _ _ hJ',?_⟩
    rw [h3 hl]
    exact ih (x + 1) y a' w' (by omega) hy (by omega) hJ'
   ·refine wpOp_mono ?_ (hB x y a w hx hl hJ)
    intro a' w' hJ'
    refine ⟨hJS _ _ _ _ hJ',?_⟩
    rw [h4 hl]
    exact ih x (y + 1) a' w' hx (by omega) (by omega) hJ'
def putD (a : Act) (D : List Nat) (f : Nat → Value) : Act:=D.foldl (fun a d => a.put (some d) (f d)) a
theorem putD_get (f : Nat → Value) (k : Nat) : ∀ (D : List Nat) (a : Act),(putD a D f).tmps[k]? = (if k ∈ D then (if k < a.tmps.size then some (f k) else none) else a.tmps[k]?) ∧ (putD a D f).defers = a.defers ∧ (putD a D f).tmps.size = a.tmps.size
 | [],a => ⟨by simp [putD],rfl,rfl⟩
 | d :: r,a => by
  obtain ⟨h1,h2,h3⟩:=putD_get f k r (a.put (some d) (f d))
  have hs : (a.put (some d) (f d)).tmps.size = a.tmps.size:=by simp [Act.put]
  have he : putD a (d :: r) f = putD (a.put (some d) (f d)) r f:=rfl
  rw [he]
  refine ⟨?_,h2,h3.trans hs⟩
  rw [h1,hs]
  by_cases hk : k ∈ r
  ·simp [hk]
  ·rw [if_neg hk]
   by_cases hd : k = d
   ·subst hd
    simp only [List.mem_cons,true_or,if_true,Act.put,Array.getElem?_setIfInBounds]
   ·have : ¬ d = k:=fun e => hd e.symm
    simp only [List.mem_cons,hd,hk,or_self,if_false,Act.put,Array.getElem?_setIfInBounds,this]
theorem act_ext7 {a b : Act} (h : ∀ k : Nat,a.tmps[k]? = b.tmps[k]?) (hd : a.defers = b.defers) : a = b:=by
 cases a; cases b
 simp only at h hd
 subst hd
 congr 1
 exact Array.ext_getElem? h
theorem putD_put {a : Act} {D : List Nat} {f : Nat → Value} {d : Nat} {v : Value} (hd : d ∈ D) : (putD a D f).put (some d) v = putD a D (fun k => if k = d then v else f k):=by
 refine act_ext7 (fun k => ?_) ?_
 ·obtain ⟨h1,-,h3⟩:=putD_get f k D a
  obtain ⟨g1,-,-⟩:=putD_get (fun k => if k = d then v else f k) k D a
  rw [g1]
  simp only [Act.put,Array.getElem?_setIfInBounds,h3]
  by_cases hk : d = k
  ·subst hk; simp [hd]
  ·have hk' : ¬ k = d:=fun e => hk e.symm
   rw [if_neg hk,h1]
   simp only [hk',if_false]
 ·exact ((putD_get f 0 D a).2.1).trans ((putD_get _ 0 D a).2.1).symm
theorem putD_self (a : Act) (D : List Nat) : a = putD a D (fun k => a.tmps.getD k undef):=by
 refine act_ext7 (fun k => ?_) ((putD_get _ 0 D a).2.1).symm
 obtain ⟨h1,-,-⟩:=putD_get (fun k => a.tmps.getD k undef) k D a
 rw [h1]
 split
 ·split
  ·rename_i hs
   exact Array.getElem?_eq_getElem hs
  ·rename_i hs
   exact Array.getElem?_eq_none (by omega)
 ·rfl
theorem putD_eval {a : Act} {D : List Nat} {f : Nat → Value} {d : Nat} (hd : d ∈ D) (hs : d < a.tmps.size) : (putD a D f).eval (.tmp d) = f d:=by
 show (putD a D f).tmps.getD d undef = _
 rw [Array.getD_eq_getD_getElem?,(putD_get f d D a).1,if_pos hd,if_pos hs]; rfl
theorem putD_else {a : Act} {D : List Nat} {f : Nat → Value} {d : Nat} (hd : d ∉ D) : (putD a D f).eval (.tmp d) = a.eval (.tmp d):=by
 show (putD a D f).tmps.getD d undef = a.tmps.getD d undef
 rw [Array.getD_eq_getD_getElem?,(putD_get f d D a).1,if_neg hd,← Array.getD_eq_getD_getElem?]
theorem wpAnyH_twoD {P : Program} {ops : Array Oper} {Q : Exit → Act → World → Prop} {md : Region.Mode} {S : World → Prop} {L0 : Array Bool} {a0 : Act} {w : World} (iA iB D : List Nat) (J : Nat → Nat → (Nat → Value) → World → Prop) (f0 F : Nat)
  (hg : twoOk md ops L0 iA iB = true) (hF : iA.length + iB.length + f0 = F) (hJS : ∀ x y f w,J x y f w → S w) (h0 : J 0 0 (fun k => a0.tmps.getD k undef) w)
  (hA : ∀ x y f w,x < iA.length → y ≤ iB.length → J x y f w → wpOp P ops Q (iA.getD x 0) (fun a' w' => ∃ f',a' = putD a0 D f' ∧ J (x + 1) y f' w') (putD a0 D f) w)
  (hB : ∀ x y f w,x ≤ iA.length → y < iB.length → J x y f w → wpOp P ops Q (iB.getD y 0) (fun a' w' => ∃ f',a' = putD a0 D f' ∧ J x (y + 1) f' w') (putD a0 D f) w)
  (hE : ∀ f w,J iA.length iB.length f w → wpAnyH P md ops Q S f0 (twoL L0 iA iB iA.length iB.length) (putD a0 D f) w) : wpAnyH P md ops Q S F L0 a0 w:=by
 have h:=wpAnyH_two (P:=P) (ops:=ops) (Q:=Q) (md:=md) (S:=S) L0 iA iB (fun x y a w => ∃ f,a = putD a0 D f ∧ J x y f w) f0 hg (fun x y a w ⟨f,_,hJ⟩ => hJS x y f w hJ)
  (fun x y a w hx hy ⟨f,e,hJ⟩ => by subst e; exact hA x y f w hx hy hJ) (fun x y a w hx hy ⟨f,e,hJ⟩ => by subst e; exact hB x y f w hx hy hJ)
  (fun a w ⟨f,e,hJ⟩ => by subst e; exact hE f w hJ) F 0 0 a0 w (Nat.zero_le _) (Nat.zero_le _) (by omega) ⟨_,putD_self a0 D,h0⟩
 simpa [twoL] using h
end Go.Proofs.YtkigpbkkhgabeaaGreatDoor
namespace Go.Proofs.YtkigpbkkhgabeaaGreatDoor
open Go.RowKit Go.Lib
theorem st_loadL {ops : Array Oper} {o : Oper} {a : Act} {w : World} {K : Act → World → Prop} {Q : Exit → Act → World → Prop} {E : Prop} {x : Operand} {p : Addr} {A : Option Addr} {n c : Nat} (hgd : o.guard = none) (ho : o.op = .load 25 x)
  (hx : a.eval x = .pointer (some p)) (hc : w.cell? p = some (.slice A n c)) (h : K (a.put o.dst (.slice A n c)) w) :
  if Region.wanted o (yielded ops a.tmps) = true then Oper.wp Tryz.prog o a w K Q else E:=by
 have hw : Region.wanted o (yielded ops a.tmps) = true:=by simp [Region.wanted,hgd]
 rw [if_pos hw]
 have hr : (Instr.loadAt 25 (.pointer (some p))).run Tryz.prog w = .ok (.slice A n c) w:=by go_simp
 unfold Oper.wp execOp
 simp only [ho,hx,Sem.run_bind,Sem.run_pure,Result.andThen_ok,hr]
 exact h
theorem st_loadK {ops : Array Oper} {o : Oper} {a : Act} {w : World} {K : Act → World → Prop} {Q : Exit → Act → World → Prop} {E : Prop} {x : Operand} {p : Addr} {A : Option Addr} {n c : Nat} (hgd : o.guard = none) (ho : o.op = .load 26 x)
  (hx : a.eval x = .pointer (some p)) (hc : w.cell? p = some (.slice A n c)) (h : K (a.put o.dst (.slice A n c)) w) :
  if Region.wanted o (yielded ops a.tmps) = true then Oper.wp Tryz.prog o a w K Q else E:=by
 have hw : Region.wanted o (yielded ops a.tmps) = true:=by simp [Region.wanted,hgd]
 rw [if_pos hw]
 have hr : (Instr.loadAt 26 (.pointer (some p))).run Tryz.prog w = .ok (.slice A n c) w:=by go_simp
 unfold Oper.wp execOp
 simp only [ho,hx,Sem.run_bind,Sem.run_pure,Result.andThen_ok,hr]
 exact h
theorem st_storeL {ops : Array Oper} {o : Oper} {a : Act} {w : World} {K : Act → World → Prop} {Q : Exit → Act → World → Prop} {E : Prop} {x y : Operand} {p : Addr} {A A' : Option Addr} {n c n' c' : Nat} (hgd : o.guard = none) (ho : o.op = .store 25 x y)
  (hx : a.eval x = .pointer (some p)) (hy : a.eval y = .slice A n c) (hc : w.cell? p = some (.slice A' n' c')) (hf : w.frozen? p = false) (h : K (a.put o.dst undef) (w.setCell p (.slice A n c))) :
  if Region.wanted o (yielded ops a.tmps) = true then Oper.wp Tryz.prog o a w K Q else E:=by
 have hw : Region.wanted o (yielded ops a.tmps) = true:=by simp [Region.wanted,hgd]
 rw [if_pos hw]
 have hr : (Instr.storeAt 25 (.pointer (some p)) (.slice A n c)).run Tryz.prog w = .ok () (w.setCell p (.slice A n c)):=by go_simp
 unfold Oper.wp execOp
 simp only [ho,hx,hy,Sem.run_bind,Sem.run_pure,Result.andThen_ok,hr]
 exact h
theorem st_storeK {ops : Array Oper} {o : Oper} {a : Act} {w : World} {K : Act → World → Prop} {Q : Exit → Act → World → Prop} {E : Prop} {x y : Operand} {p : Addr} {A A' : Option Addr} {n c n' c' : Nat} (hgd : o.guard = none) (ho : o.op = .store 26 x y)
  (hx : a.eval x = .pointer (some p)) (hy : a.eval y = .slice A n c) (hc : w.cell? p = some (.slice A' n' c')) (hf : w.frozen? p = false) (h : K (a.put o.dst undef) (w.setCell p (.slice A n c))) :
  if Region.wanted o (yielded ops a.tmps) = true then Oper.wp Tryz.prog o a w K Q else E:=by
 have hw : Region.wanted o (yielded ops a.tmps) = true:=by simp [Region.wanted,hgd]
 rw [if_pos hw]
 have hr : (Instr.storeAt 26 (.pointer (some p)) (.slice A n c)).run Tryz.prog w = .ok () (w.setCell p (.slice A n c)):=by go_simp
 unfold Oper.wp execOp
 simp only [ho,hx,hy,Sem.run_bind,Sem.run_pure,Result.andThen_ok,hr]
 exact h
theorem st_buildL {ops : Array Oper} {o : Oper} {a : Act} {w : World} {K : Act → World → Prop} {Q : Exit → Act → World → Prop} {E : Prop} {x : Operand} {v0 v1 v2 v3 v4 v5 v6 : Value} (hgd : o.guard = none) (ho : o.op = .buildSlice 25 1 #[(0,x)])
  (hx : a.eval x = .agg #[v0,v1,v2,v3,v4,v5,v6]) (h7 : [v0,v1,v2,v3,v4,v5,v6].all Value.oneCell' = true) (h : K (a.put o.dst (.slice (some ⟨w.heap.size,0,none⟩) 1 1)) (w.alloc (.cells #[v0,v1,v2,v3,v4,v5,v6] 28))) :
  if Region.wanted o (yielded ops a.tmps) = true then Oper.wp Tryz.prog o a w K Q else E:=by
 have hw : Region.wanted o (yielded ops a.tmps) = true:=by simp [Region.wanted,hgd]
 rw [if_pos hw]
 simp only [List.all_cons,List.all_nil,Bool.and_true,Bool.and_eq_true] at h7
 obtain ⟨g0,g1,g2,g3,g4,g5,g6⟩:=h7
 have hr : (Instr.buildSlice 25 1 #[(0,.agg #[v0,v1,v2,v3,v4,v5,v6])]).run Tryz.prog w = .ok (.slice (some ⟨w.heap.size,0,none⟩) 1 1) (w.alloc (.cells #[v0,v1,v2,v3,v4,v5,v6] 28)):=by go_simp
 unfold Oper.wp execOp
 simp only [ho,hx,Sem.run_bind,Sem.run_pure,Result.andThen_ok,List.map_toArray,List.map_cons,List.map_nil,hr]
 exact h
theorem st_buildK {ops : Array Oper} {o : Oper} {a : Act} {w : World} {K : Act → World → Prop} {Q : Exit → Act → World → Prop} {E : Prop} {x : Operand} {s : ByteArray} (hgd : o.guard = none) (ho : o.op = .buildSlice 26 1 #[(0,x)])
  (hx : a.eval x = .string s) (h : K (a.put o.dst (.slice (some ⟨w.heap.size,0,none⟩) 1 1)) (w.alloc (.cells #[.string s] 9))) :
  if Region.wanted o (yielded ops a.tmps) = true then Oper.wp Tryz.prog o a w K Q else E:=by
 have hw : Region.wanted o (yielded ops a.tmps) = true:=by simp [Region.wanted,hgd]
 rw [if_pos hw]
 have hr : (Instr.buildSlice 26 1 #[(0,.string s)]).run Tryz.prog w = .ok (.slice (some ⟨w.heap.size,0,none⟩) 1 1) (w.alloc (.cells #[.string s] 9)):=by go_simp
 unfold Oper.wp execOp
 simp only [ho,hx,Sem.run_bind,Sem.run_pure,Result.andThen_ok,List.map_toArray,List.map_cons,List.map_nil,hr]
 exact h
theorem st_lenL {ops : Array Oper} {o : Oper} {a : Act} {w : World} {K : Act → World → Prop} {Q : Exit → Act → World → Prop} {E : Prop} {x : Operand} {A : Option Addr} {n c : Nat} (hgd : o.guard = none) (ho : o.op = .call { callee:=.builtin .len,args:=#[x],argTypes:=#[25] })
  (hx : a.eval x = .slice A n c) (h : K (a.put o.dst (.int .i64 (n : Int))) w) :
  if Region.wanted o (yielded ops a.tmps) = true then Oper.wp Tryz.prog o a w K Q else E:=by
 have hw : Region.wanted o (yielded ops a.tmps) = true:=by simp [Region.wanted,hgd]
 rw [if_pos hw]
 unfold Oper.wp execOp
 simp only [ho,resolve,List.map_toArray,List.map_cons,List.map_nil,hx]
 go_simp
 exact h
theorem st_call3 {ops : Array Oper} {o : Oper} {a : Act} {w : World} {K : Act → World → Prop} {Q : Exit → Act → World → Prop} {E : Prop} {F : FuncId} {x y z : Operand} {vx vy vz : Value} {ts : Array TypeId} (hgd : o.guard = none) (ho : o.op = .call { callee:=.value (.func F),args:=#[x,y,z],argTypes:=ts })
  (hx : a.eval x = vx) (hy : a.eval y = vy) (hz : a.eval z = vz) (hcf : (callFunc F #[vx,vy,vz]).run Tryz.prog w = .ok (.enter F #[vx,vy,vz]) w) (h : Calls Tryz.prog F #[vx,vy,vz] w fun e w' => ∃ v,e = .returned v ∧ K (a.put o.dst v) w') :
  if Region.wanted o (yielded ops a.tmps) = true then Oper.wp Tryz.prog o a w K Q else E:=by
 have hw : Region.wanted o (yielded ops a.tmps) = true:=by simp [Region.wanted,hgd]
 rw [if_pos hw]
 unfold Oper.wp execOp
 simp only [ho,resolve,List.map_toArray,List.map_cons,List.map_nil,hx,hy,hz]
 go_simp
 refine Calls.mono h ?_
 rintro e w' ⟨v,rfl,hK⟩
 exact hK
end Go.Proofs.YtkigpbkkhgabeaaGreatDoor
namespace Go.Proofs.YtkigpbkkhgabeaaGreatDoor
open Go.RowKit Go.Lib
def KeepT (N : Nat) (t : TypeId) (V V' : World) : Prop:=∀ b cur fz,N ≤ b → V.heap[b]? = some (.cells cur t fz) → V'.heap[b]? = V.heap[b]?
theorem row_keepT {N : Nat} {t : TypeId} {sz n : Nat} {v : Value} {xs : List Value} {V V' : World} (h : V.ownsRow N t sz v n xs) (hk : KeepT N t V V') : V'.ownsRow N t sz v n xs:=by
 obtain ⟨h1,h2⟩:=h
 refine ⟨h1,?_⟩
 rcases h2 with h2 | ⟨g,cap,cur,e1,e2,e3,e4⟩
 ·exact .inl h2
 ·exact .inr ⟨g,cap,cur,e1,e2,(hk g cur (0,0) e2 e3).trans e3,e4⟩
theorem keepT_alloc (N : Nat) (t : TypeId) (V : World) (o : Obj) : KeepT N t V (V.alloc o):=fun b _ _ _ h => by
 have hl:=(Array.getElem?_eq_some_iff.1 h).1
 exact ((Below.refl _ V).alloc (Nat.le_refl _) o).block b hl
theorem keepT_set {N ob i : Nat} {t : TypeId} {V : World} {u : Value} (h : ob < N) : KeepT N t V (V.setCell ⟨ob,i,none⟩ u):=fun b _ _ hb _ => Below.heap_setCell _ _ _ _ (fun e => by have e2 : b = ob:=e; omega)
theorem keepT_grown {N : Nat} {t u : TypeId} {sz n c : Nat} {A : Option Addr} {xs : List Value} {V V' : World} (hr : V.ownsRow N t sz (.slice A n c) n xs) (hg : V.grownBy V' (Value.slice A n c).ownBlock) (hne : t ≠ u) : KeepT N u V V':=fun b cur fz _ h => by
 refine hg.block b (Array.getElem?_eq_some_iff.1 h).1 (fun e => ?_)
 rcases hr.2 with ⟨h2,-⟩ | ⟨g,cap,cur2,e1,e2,e3,-⟩
 ·rw [h2] at e; exact absurd e (by simp [Value.ownBlock])
 ·rw [e1] at e
  injection e with e
  have e : b = g:=e
  subst e
  rw [h] at e3
  injection e3 with e3
  injection e3 with _ e3 _
  exact hne e3.symm
end Go.Proofs.YtkigpbkkhgabeaaGreatDoor
namespace Go.Proofs.YtkigpbkkhgabeaaGreatDoor
open Go.RowKit Go.Lib
theorem wd_no {x : UInt8} (h : isWd x = false) : let z:=(x.toNat : Int); ¬ (97 ≤ z ∧ z ≤ 122) ∧ ¬ (65 ≤ z ∧ z ≤ 90) ∧ ¬ (48 ≤ z ∧ z ≤ 57) ∧ z ≠ 43 ∧ z ≠ 45 ∧ z ≠ 46 ∧ z ≠ 95:=by
 unfold isWd isDg at h
 simp only [Bool.or_eq_false_iff,Bool.and_eq_false_iff,decide_eq_false_iff_not,UInt8.le_iff_toNat_le,beq_eq_false_iff_ne,ne_eq,← UInt8.toNat_inj] at h
 have e : ∀ n : Nat,n < 256 → (UInt8.ofNat n).toNat = n:=fun n hn => by simp; omega
 have k43:=e 43 (by omega); have k45:=e 45 (by omega); have k46:=e 46 (by omega); have k95:=e 95 (by omega); have k48:=e 48 (by omega); have k57:=e 57 (by omega); have k97:=e 97 (by omega); have k122:=e 122 (by omega); have k65:=e 65 (by omega); have k90:=e 90 (by omega)
 simp only [show (43 : UInt8) = UInt8.ofNat 43 from rfl,show (45 : UInt8) = UInt8.ofNat 45 from rfl,show (46 : UInt8) = UInt8.ofNat 46 from rfl,show (95 : UInt8) = UInt8.ofNat 95 from rfl,show (48 : UInt8) = UInt8.ofNat 48 from rfl,show (57 : UInt8) = UInt8.ofNat 57 from rfl,show (97 : UInt8) = UInt8.ofNat 97 from rfl,show (122 : UInt8) = UInt8.ofNat 122 from rfl,show (65 : UInt8) = UInt8.ofNat 65 from rfl,show (90 : UInt8) = UInt8.ofNat 90 from rfl,k43,k45,k46,k95,k48,k57,k97,k122,k65,k90] at h
 intro z
 omega
set_option maxRecDepth 100000 in
set_option maxHeartbeats 1000000 in
theorem rwordNo_c (x : UInt8) (w : World) (h : isWd x = false) : Calls Tryz.prog 142 #[.int .u8 (x.toNat : Int)] w fun e w' => e = .returned (.bool false) ∧ w = w':=by
 obtain ⟨h1,h2,h3,n43,n45,n46,n95⟩:=wd_no h
 clear h
 generalize (x.toNat : Int) = z at *
 have e43 : (z == 43) = false:=by rw [beq_eq_false_iff_ne]; exact n43
 have e45 : (z == 45) = false:=by rw [beq_eq_false_iff_ne]; exact n45
 have e46 : (z == 46) = false:=by rw [beq_eq_false_iff_ne]; exact n46
 have e95 : (z == 95) = false:=by rw [beq_eq_false_iff_ne]; exact n95
 clear n43 n45 n46 n95
 rcases (show z < 48 ∨ (57 < z ∧ z < 65) ∨ (90 < z ∧ z < 97) ∨ 122 < z by omega) with g | ⟨g,g'⟩ | ⟨g,g'⟩ | g
 ·have d97 : decide (97 ≤ z) = false:=decide_eq_false (by omega)
  have d65 : decide (65 ≤ z) = false:=decide_eq_false (by omega)
  have d48 : decide (48 ≤ z) = false:=decide_eq_false (by omega)
  clear h1 h2 h3
  go_enter Tryz.func142,Tryz.ntmps142
  go_wp2
  go_ret
  exact ⟨rfl,rfl⟩
 ·have d97 : decide (97 ≤ z) = false:=decide_eq_false (by omega)
  have d65 : decide (65 ≤ z) = false:=decide_eq_false (by omega)
  have d48 : decide (48 ≤ z) = true:=decide_eq_true (by omega)
  have d57 : decide (z ≤ 57) = false:=decide_eq_false (by omega)
  clear h1 h2 h3
  go_enter Tryz.func142,Tryz.ntmps142
  go_wp2
  go_ret
  exact ⟨rfl,rfl⟩
 ·have d97 : decide (97 ≤ z) = false:=decide_eq_false (by omega)
  have d65 : decide (65 ≤ z) = true:=decide_eq_true (by omega)
  have d90 : decide (z ≤ 90) = false:=decide_eq_false (by omega)
  have d48 : decide (48 ≤ z) = true:=decide_eq_true (by omega)
  have d57 : decide (z ≤ 57) = false:=decide_eq_false (by omega)
  clear h1 h2 h3
  go_enter Tryz.func142,Tryz.ntmps142
  go_wp2
  go_ret
  exact ⟨rfl,rfl⟩
 ·have d97 : decide (97 ≤ z) = true:=decide_eq_true (by omega)
  have d122 : decide (z ≤ 122) = false:=decide_eq_false (by omega)
  have d65 : decide (65 ≤ z) = true:=decide_eq_true (by omega)
  have d90 : decide (z ≤ 90) = false:=decide_eq_false (by omega)
  have d48 : decide (48 ≤ z) = true:=decide_eq_true (by omega)
  have d57 : decide (z ≤ 57) = false:=decide_eq_false (by omega)
  clear h1 h2 h3
  go_enter Tryz.func142,Tryz.ntmps142
  go_wp2
  go_ret
  exact ⟨rfl,rfl⟩
theorem quietR7 {P : Program} {f : FuncId} {args : Array Value} {w : World} {n : Nat} {v : Value}
  (h : Calls P f args (w.drewN n) fun e w' => e = .returned v ∧ w.drewN n = w') :
  Calls P f args (w.drewN n) fun e w'' => e = .returned v ∧ ∃ m,w'' = w.drewN m :=
 h.mono fun _ _ ⟨he,hm⟩ => ⟨he,n,hm.symm⟩
variable {B : Nat} {L : List UInt8} {A : Option Addr} {c rb : Nat}
set_option maxRecDepth 4000000 in
set_option maxHeartbeats 2000000 in
theorem ralone_c {w : World} {p : Nat} (E : REnv B L A c rb w p) (h : rApart L p = .ok () p) :
  Calls Tryz.prog 118 #[.pointer (some ⟨rb,0,none⟩)] w fun e w' => (∃ v,e = .returned v) ∧ But (fun _ => False) w w':=by
 have mixed : Tryz.prog.follows .mixedOrders = true:=by kernel_rfl
 obtain ⟨c0,c1,c2⟩:=E.cells
 have hfit:=E.fits
 have hcap:=E.cap
 rcases Nat.lt_or_ge p L.length with hp | hp
 ·obtain ⟨x,hx⟩ : ∃ x,L[p]? = some x:=⟨_,List.getElem?_eq_getElem hp⟩
  obtain ⟨g,off,rfl,hg,hc⟩:=E.oct p x hx
  have hw : isWd x = false:=by
   unfold rApart at h
   rw [hx] at h
   simp only at h
   split at h
   ·cases h
   ·rename_i hh; simpa using hh
  have hwd:=fun W => rwordNo_c x W hw
  have HW:=Lib.hid hwd
  clear hwd hw E h hx
  go_enter Tryz.func118,Tryz.ntmps118
  go_upto_region 0 with fail
  go_quiet ((go_at_call 142; exact quietR7 (HW.out _)))
  all_goals go_wp2_with fail
  all_goals first | go_end0 | refine bodyPost_ret (results_none rfl _ _ _) rfl ?_
  all_goals exact ⟨⟨_,rfl⟩,(But.refl _ w).drewN _⟩
 ·have hpe : p = L.length:=Nat.le_antisymm E.here hp
  subst hpe
  clear E h hp
  go_enter Tryz.func118,Tryz.ntmps118
  go_upto_region 0 with fail
  go_quiet ((fail))
  all_goals go_wp2_with fail
  all_goals first | go_end0 | refine bodyPost_ret (results_none rfl _ _ _) rfl ?_
  all_goals exact ⟨⟨_,rfl⟩,(But.refl _ w).drewN _⟩
set_option maxRecDepth 4000000 in
set_option maxHeartbeats 2000000 in
theorem rspc7_c {w : World} {p : Nat} (E : REnv B L A c rb w p) :
  Calls Tryz.prog 111 #[.pointer (some ⟨rb,0,none⟩)] w fun e w' => (∃ v,e = .returned v) ∧ REnv B L A c rb w' (p + ((L.drop p).takeWhile isWs).length) ∧ But (fun k => k = rb) w w':=by
 obtain ⟨c0,c1,c2⟩:=E.cells
 have fz:=E.frozen 1
 obtain ⟨P,hP⟩ : ∃ P,p + ((L.drop p).takeWhile isWs).length = P:=⟨_,rfl⟩
 have hPL : P ≤ L.length:=by
  have:=(List.takeWhile_sublist (l:=L.drop p) isWs).length_le
  rw [List.length_drop] at this
  have:=E.here
  omega
 have hsp:=fun W (h : W = w.drew) => rSpace_c (A:=A) (cp:=c) (p:=p) W (M:=L) (fun j x hx => by
  obtain ⟨g,off,h1,h2,h3⟩:=E.oct j x hx
  subst h
  exact ⟨g,off,h1,h3⟩) E.fits E.here
 rw [hP] at hsp ⊢
 have HSP:=Lib.hid hsp
 have HE:=Lib.hid E
 clear hsp E hP
 go_enter Tryz.func111,Tryz.ntmps111
 go_upto_region 1 with fail
 refine wp_region_held_drew (S:=fun V => V.cell? ⟨rb,0,none⟩ = some (.slice A L.length c)) (by kernel_rfl) c0 (fun hHeld => ?_)
 (try simp only [List.size_toArray,List.length_cons,List.length_nil,Nat.reduceAdd,Array.replicate_succ,Array.replicate_zero,List.push_toArray,List.append_toArray,List.nil_append,List.cons_append])
 refine wpAnyH_take (i:=0) (oi:=⟨_,_,_,_,_,_⟩) (v:=?_) rfl (by kernel_rfl) (by kernel_rfl) (by kernel_rfl) (fun _ _ _ h => h) (Or.inl ⟨by rfl,?_⟩) (by assumption) ?_
 rotate_left
 ·intro w hSw
  (try dsimp only at hSw)
  go_split_ands
  go_simp
  try with_reducible rfl
 try simp only [Act.put,List.setIfInBounds_toArray,List.set_cons_zero,List.set_cons_succ]
 refine wpAnyH_take (i:=1) (oi:=⟨_,_,_,_,_,_⟩) (v:=?_) rfl (by kernel_rfl) (by kernel_rfl) (by kernel_rfl) (fun _ _ _ h => h) (Or.inl ⟨by rfl,?_⟩) (by assumption) ?_
 rotate_left
 ·intro w hSw
  (try dsimp only at hSw)
  go_split_ands
  go_simp
  try with_reducible rfl
 try simp only [Act.put,List.setIfInBounds_toArray,List.set_cons_zero,List.set_cons_succ]
 refine wpAnyH_take (i:=2) (oi:=⟨_,_,_,_,_,_⟩) (v:=?_) rfl (by kernel_rfl) (by kernel_rfl) (by kernel_rfl) (fun _ _ _ h => h) (Or.inl ⟨by rfl,?_⟩) (by assumption) ?_
 rotate_left
 ·intro w hSw
  (try dsimp only at hSw)
  go_split_ands
  go_simp
  try with_reducible rfl
 try simp only [Act.put,List.setIfInBounds_toArray,List.set_cons_zero,List.set_cons_succ]
 refine wpAnyH_take (i:=3) (oi:=⟨_,_,_,_,_,_⟩) (v:=?_) rfl (by kernel_rfl) (by kernel_rfl) (by kernel_rfl) (fun _ _ _ h => h) (Or.inl ⟨by rfl,?_⟩) (by assumption) ?_
 rotate_left
 ·intro w hSw
  (try dsimp only at hSw)
  go_split_ands
  go_simp
  try with_reducible rfl
 try simp only [Act.put,List.setIfInBounds_toArray,List.set_cons_zero,List.set_cons_succ]
 refine wpAnyH_take (i:=4) (oi:=⟨_,_,_,_,_,_⟩) (v:=?_) rfl (by kernel_rfl) (by kernel_rfl) (by kernel_rfl) (fun _ _ _ h => h) (Or.inl ⟨by rfl,?_⟩) (by assumption) ?_
 rotate_left
 ·intro w hSw
  (try dsimp only at hSw)
  go_split_ands
  go_simp
  try with_reducible rfl
 try simp only [Act.put,List.setIfInBounds_toArray,List.set_cons_zero,List.set_cons_succ]
 refine wpAnyH_take (i:=5) (oi:=⟨_,_,_,_,_,_⟩) (v:=?_) rfl (by kernel_rfl) (by kernel_rfl) (by kernel_rfl) (fun _ _ _ h => h) (Or.inl ⟨by rfl,?_⟩) (by assumption) ?_
 rotate_left
 ·intro w hSw
  (try dsimp only at hSw)
  go_split_ands
  go_simp
  try with_reducible rfl
 try simp only [Act.put,List.setIfInBounds_toArray,List.set_cons_zero,List.set_cons_succ]
 refine wpAnyH_take (i:=6) (oi:=⟨_,_,_,_,_,_⟩) (v:=?_) rfl (by kernel_rfl) (by kernel_rfl) (by kernel_rfl) (fun _ _ _ h => h) (Or.inl ⟨by rfl,?_⟩) (by assumption) ?_
 rotate_left
 ·intro w hSw
  (try dsimp only at hSw)
  go_split_ands
  go_simp
  try with_reducible rfl
 try simp only [Act.put,List.setIfInBounds_toArray,List.set_cons_zero,List.set_cons_succ]
 refine wpAnyH_take (i:=7) (oi:=⟨_,_,_,_,_,_⟩) (v:=?_) rfl (by kernel_rfl) (by kernel_rfl) (by kernel_rfl) (fun _ _ _ h => h) (Or.inl ⟨by rfl,?_⟩) (by assumption) ?_
 rotate_left
 ·intro w hSw
  (try dsimp only at hSw)
  go_split_ands
  go_simp
  try with_reducible rfl
 try simp only [Act.put,List.setIfInBounds_toArray,List.set_cons_zero,List.set_cons_succ]
 refine wpAnyH_ready (rs:=[8]) (by kernel_rfl) (by simp) (AllReadyH.cons (o:=⟨_,_,_,_,_,_⟩) rfl (fun K hK => ?_) AllReadyH.nil)
 go_simp
 refine hK.out _ _ c0 (fun hHeld2 => ?_)
 try simp only [Act.put,List.setIfInBounds_toArray,List.set_cons_zero,List.set_cons_succ]
 refine wpAnyH_ready (rs:=[9]) (by kernel_rfl) (by simp) (AllReadyH.cons (o:=⟨_,_,_,_,_,_⟩) rfl (fun K hK => ?_) AllReadyH.nil)
 go_simp
 refine (HSP.out _ rfl).mono ?_
 rintro e9 w1 ⟨rfl,rfl⟩
 refine hK.out _ _ c0 (fun hHeld3 => ?_)
 try simp only [Act.put,List.setIfInBounds_toArray,List.set_cons_zero,List.set_cons_succ]
 refine wpAnyH_take (i:=10) (oi:=⟨_,_,_,_,_,_⟩) (v:=?_) rfl (by kernel_rfl) (by kernel_rfl) (by kernel_rfl) (fun _ _ _ h => h) (Or.inl ⟨by rfl,?_⟩) (by assumption) ?_
 rotate_left
 ·intro w hSw
  (try dsimp only at hSw)
  go_split_ands
  go_simp
  try with_reducible rfl
 try simp only [Act.put,List.setIfInBounds_toArray,List.set_cons_zero,List.set_cons_succ]
 refine wpAnyH_take (i:=11) (oi:=⟨_,_,_,_,_,_⟩) (v:=?_) rfl (by kernel_rfl) (by kernel_rfl) (by kernel_rfl) (fun _ _ _ h => h) (Or.inl ⟨by rfl,?_⟩) (by assumption) ?_
 rotate_left
 ·intro w hSw
  (try dsimp only at hSw)
  go_split_ands
  go_simp
  try with_reducible rfl
 try simp only [Act.put,List.setIfInBounds_toArray,List.set_cons_zero,List.set_cons_succ]
 refine wpAnyH_ready (rs:=[12]) (by kernel_rfl) (by simp) (AllReadyH.cons (o:=⟨_,_,_,_,_,_⟩) rfl (fun K hK => ?_) AllReadyH.nil)
 go_simp
 have hE':=HE.out.to hPL
 have hb1 : But (fun k => k = rb) w (w.setCell ⟨rb,1,none⟩ (.int .i64 (P : Int))):=But.setCell (C:=fun k => k = rb) (p:=⟨rb,1,none⟩) (But.refl _ w) (.inl rfl) _
 refine hK.out _ _ hE'.cells.1 (fun hHeld4 => ?_)
 try simp only [Act.put,List.setIfInBounds_toArray,List.set_cons_zero,List.set_cons_succ]
 refine wpAnyH_done (by kernel_rfl) ?_ _
 go_wp2_with fail
 first | go_end0 | refine bodyPost_ret (results_none rfl _ _ _) rfl ?_
 exact ⟨⟨_,rfl⟩,hE'.stay (C:=fun _ => False) (But.refl _ _).drew (fun k h => h.elim),hb1.drew⟩
end Go.Proofs.YtkigpbkkhgabeaaGreatDoor
