import Derived.Test.YtkigpbkkhgabeaaGreatDoorYPd
import Derived.Test.YtkigpbkkhgabeaaGreatDoorYDtab
import Derived.Test.YtkigpbkkhgabeaaGreatDoorYVchk
import Derived.Test.YtkigpbkkhgabeaaGreatDoorYNlimb
import Derived.Test.YtkigpbkkhgabeaaGreatDoorYUcheck
import Derived.Test.YtkigpbkkhgabeaaGreatDoorYLsall
import Derived.Test.YtkigpbkkhgabeaaGreatDoorYLli
import Derived.Test.YtkigpbkkhgabeaaGreatDoorYArgs
import Derived.Test.YtkigpbkkhgabeaaGreatDoorYUtextb
import Derived.Deep.QuietTactic
import Derived.BigQuiet
import Derived.Test.YtkigpbkkhgabeaaGreatDoorYLdp
import Derived.Test.YtkigpbkkhgabeaaGreatDoorYUfind
import Derived.Test.YtkigpbkkhgabeaaGreatDoorYDref
import Derived.Test.YtkigpbkkhgabeaaGreatDoorYDpar
import Derived.Laws.Concat
import Derived.Test.YtkigpbkkhgabeaaGreatDoorYDbm
import Derived.Test.YtkigpbkkhgabeaaGreatDoorYNrefb
import Derived.PlainAid
import Derived.Test.YtkigpbkkhgabeaaGreatDoorYDa
import Derived.Deep.AppendLies
import Derived.Deep.RegionHeld3
import Derived.Test.YtkigpbkkhgabeaaGreatDoorYRloc
import Derived.Deep.Cut
import Derived.Deep.CutRange
import Derived.Test.YtkigpbkkhgabeaaGreatDoorYPt
import Derived.RangeFuncNested
import Derived.RangeFuncBound
import Derived.RangeFuncCalls
import Derived.RangeFuncLeaves
import Derived.RangeFuncBox
import Derived.Shelf.Strings.Builder1
set_option linter.unusedVariables false
set_option linter.unusedSimpArgs false
namespace Go.Proofs.YtkigpbkkhgabeaaGreatDoor
open Go.Lib
theorem tw_none {c : UInt8} {t : List UInt8} (h : isWs c = false) : (c :: t).takeWhile isWs = []:=by rw [List.takeWhile_cons,h]; rfl
theorem okV_gp {x : VT} (h : okV x) (hl : ∀ y ∈ partsV x,L32 y.num) : Gp x ∧ (partsV x).length ≤ 16384 ∧ dpt 1000 x ≤ 64:=by
 obtain ⟨g1,g2,g3⟩:=okV_gd h
 exact ⟨fun y hy => ⟨g1 y hy,hl y hy⟩,g2,g3⟩
theorem rNext_printed {qc : Int → List UInt8} {nt : Bool → List Nat → Int → List UInt8} (H : QcOk qc) (hnt : NtOk nt) (st : Nat) {x : VT} (hx : okV x) (hl : ∀ y ∈ partsV x,L32 y.num) (d g r : List UInt8) (hg : ∀ c ∈ g,isWs c = true) (hr : Apart r) :
  rNext mkObj (d ++ (g ++ (prV qc nt st 0 x ++ r))) d.length = .ok (some x) (d.length + g.length + (prV qc nt st 0 x).length):=by
 obtain ⟨g1,g2,g3⟩:=okV_gp hx hl
 obtain ⟨c,t,hc,hw,-⟩:=prV_head (qc:=qc) hnt (st:=st) (o:=0) g1
 have hv:=prV_back H hnt st 64 1000 x 0 1 r (by omega) g3 g1 g2 (by omega) hr
 unfold rNext
 have hd : (d ++ (g ++ (prV qc nt st 0 x ++ r))).drop d.length = g ++ (prV qc nt st 0 x ++ r):=List.drop_left
 have htw : (g ++ (prV qc nt st 0 x ++ r)).takeWhile isWs = g:=by
  rw [List.takeWhile_append_of_pos hg,hc,List.cons_append,tw_none hw,List.append_nil]
 rw [hd,htw,if_neg (by rw [List.length_append,List.length_append,List.length_append,hc,List.length_cons]; omega)]
 have hs : rValue mkObj 64 1 ((d ++ g) ++ (prV qc nt st 0 x ++ r)) ((d ++ g).length + 0) = _:=Shift.value mkObj 64 1 0 (d ++ g) (prV qc nt st 0 x ++ r) 0
 simp only [] at hs
 rw [hv] at hs
 rw [List.append_assoc,Nat.add_zero,List.length_append] at hs
 rw [hs]
 simp only [RR.shift,RR.bind,List.length_append]
def linesT (qc : Int → List UInt8) (nt : Bool → List Nat → Int → List UInt8) (st : Nat) (l : List VT) : List UInt8:=l.flatMap fun x => prV qc nt st 0 x ++ [10]
end Go.Proofs.YtkigpbkkhgabeaaGreatDoor
namespace Go.Proofs.YtkigpbkkhgabeaaGreatDoor
open Go.RowKit
attribute [local go_sem] Oper.semAt_some
def roundPostP (P : Program) (l : Nat) (R : Ending → World → Prop) : Exit → Act → World → Prop
 | .normal,_,w => ∃ v w',(Instr.endRound l none).run P w = .ok v w' ∧ R (.returned v) w'
 | .panic ch,a,w => a.defers = [] ∧ R (.panicked ch) w
 | _,_,_ => False
theorem roundIn_of_wpIn_p {F : Fence} {n : Nat} {P : Program} {l : Nat} {f : FuncId} {tmps : Array Value} {assign body : Code} {w : World} {R : Ending → World → Prop} (hF : F.fn f) {fn : Func} (hfn : P.funcs[f]? = some fn)
  (h : assign.wpIn (F.inRound l) n P (Exit.then (fun a₁ w₁ => ∃ w₂,(Instr.beginRound l).run P w₁ = .ok () w₂ ∧ body.wpIn (F.inRound l) n P (roundPostP P l R) a₁ w₂) (fun _ _ _ => False))
   { tmps:=tmps,defers:=[] } w) :
  RoundIn F n P l f tmps assign body w R:=by
 refine ⟨hF,fun c cs hr => ?_⟩
 let b : Frame:={ (default : Frame) with fn:=f,kind:=.normal,roundOf:=some l }
 have hb0 : Frame.round l f tmps assign body .normal = b.atR { tmps:=tmps,defers:=[] } [.code assign,.beginRound,.code body]:=by
  simp [Frame.round,Frame.atR,b]
 have hr' : (F.inRound l).room ((c :: cs).length + 1 + n):=hr
 have hF' : (F.inRound l).fn b.fn:=hF
 obtain ⟨e,a₁,w₁,hq,harr⟩:=h b [.beginRound,.code body] (c :: cs) rfl hF' hr'
 rw [← hb0] at harr
 cases e with
 | normal =>
  obtain ⟨w₂,hbr,hbody⟩:=hq
  have s1 : StepsIn (Machine.fenced P (F.inRound l)) P (lone (b.atR a₁ [.beginRound,.code body]) (c :: cs) w₁) (lone (b.atR a₁ [.code body]) (c :: cs) w₂) :=
   .one (fenced_calm (fr:=b.atR a₁ [.beginRound,.code body]) hF' hr' rfl) (stepR_beginRound rfl hbr)
  obtain ⟨e₂,a₂,w₃,hq₂,harr₂⟩:=hbody b [] (c :: cs) rfl hF' hr'
  cases e₂ with
  | normal =>
   obtain ⟨v,w₄,hend,hR⟩:=hq₂
   exact ⟨.returned v,w₄,hR,(StepsIn.trans harr s1).trans (StepsIn.trans harr₂ (.one (fenced_calm (fr:=b.atR a₂ []) hF' hr' rfl) (stepR_round_end rfl rfl hend)))⟩
  | panic ch =>
   obtain ⟨hd,hR⟩:=hq₂
   obtain ⟨todo,hs⟩:=harr₂
   have hl : Frame.leaving P { b.atR a₂ todo with mode:=.panicking ch } w₃ (.panicked ch):=⟨rfl,hd,fn,hfn⟩
   exact ⟨.panicked ch,w₃,hR,(StepsIn.trans harr s1).trans (StepsIn.trans hs (.one (fenced_leaving (F:=F.inRound l) hF' hr' hl) (step_leave_panicked hl)))⟩
  | ret => exact hq₂.elim
  | exit id => exact hq₂.elim
  | goto t => exact hq₂.elim
  | outgrown => exact hq₂.elim
 | exit id => exact hq.elim
 | goto t => exact hq.elim
 | ret => exact hq.elim
 | panic chain => exact hq.elim
 | outgrown => exact hq.elim
structure KeptK (keep : Nat → Prop) (A B : World) : Prop where
 size : A.heap.size ≤ B.heap.size
 block : ∀ k,keep k → B.heap[k]? = A.heap[k]?
theorem KeptK.refl (keep : Nat → Prop) (A : World) : KeptK keep A A:=⟨Nat.le_refl _,fun _ _ => rfl⟩
theorem KeptK.trans {keep : Nat → Prop} {A B D : World} (h : KeptK keep A B) (k : KeptK keep B D) : KeptK keep A D:=⟨Nat.le_trans h.size k.size,fun i hi => (k.block i hi).trans (h.block i hi)⟩
theorem KeptK.of_but {keep : Nat → Prop} {A B : World} (h : But (fun _ => False) A B) (hk : ∀ k,keep k → k < A.heap.size) : KeptK keep A B:=⟨h.size,fun k hkk => h.block k (hk k hkk) (fun h => h)⟩
def IterP {α : Type} (P : Program) (gf : Nat) (lb : Array Value) (Enc : World → α → Array Value → Prop) (keep : Nat → Prop) (xs : List α) (W : World) : Prop :=
 ∀ (l : Nat) (J : List α → World → Prop) (Jp : List PanicEntry → World → Prop),
  (∀ pre A B,J pre A → But (fun _ => False) A B → J pre B) →
  (∀ W0,But (fun _ => False) W W0 → J [] W0) →
  (∀ pre x rest W1 vs,J pre W1 → KeptK keep W W1 → xs = pre ++ x :: rest → Enc W1 x vs → YieldAt Fence.wide 0 P l vs W1 fun e W' => (e = .returned (.bool true) ∧ J (pre ++ [x]) W' ∧ KeptK keep W1 W') ∨ (∃ ch,e = .panicked ch ∧ Jp ch W')) →
  CallsIn Fence.wide 0 P gf (#[.func (.yield l) #[] #[]] ++ lb) W fun e W' => (∃ v,e = .returned v ∧ J xs W') ∨ (∃ ch,e = .panicked ch ∧ Jp ch W')
def Fix (A B : World) : Prop:=∀ (k : Nat) (o : Obj),A.heap[k]? = some o → o.isCells = false → B.heap[k]? = some o
def roundEndP {α : Type} (keep : Nat → Prop) (I : List α → World → Prop) (Ip : List PanicEntry → World → Prop) (xs : List α) (W : World) : Exit → Act → World → Prop
 | .normal,_,W' => Fix W W' ∧ KeptK keep W W' ∧ I xs W'
 | .panic ch,a,W' => Fix W W' ∧ a.defers = [] ∧ Ip ch W'
 | _,_,_ => False
theorem but_put {l : Nat} (A : World) (o : Obj) : But (fun k => k = l) A (A.putObj l o) :=
 ⟨rfl,rfl,rfl,by simp,fun k _ hk => World.putObj_heap_other hk⟩
abbrev Turn (l : Nat) (A B : World) : Prop:=But (fun k => k = l) A B ∧ ∃ o : Obj,A.heap[l]? = some o ∧ o.isCells = false
def WpH (P : Program) (f : FuncId) (c : Code) (Q : Exit → Act → World → Prop) (a : Act) (w : World) : Prop :=
 ∀ (b : Frame) (k : List Item) (cs : List Frame),b.roundOf = none → b.fn = f → ∃ e a' w',Q e a' w' ∧ ArrivesIn (Machine.fenced P Fence.wide) P (lone (b.atR a (.code c :: k)) cs w) b k cs e a' w'
theorem WpH.of {P : Program} {f : FuncId} {c : Code} {Q : Exit → Act → World → Prop} {a : Act} {w : World} (h : c.wpIn Fence.wide 0 P Q a w) : WpH P f c Q a w :=
 fun b k cs h1 _ => h b k cs h1 trivial (room_wide _)
theorem WpH.seq {P : Program} {f : FuncId} {x y : Code} {Q : Exit → Act → World → Prop} {a : Act} {w : World} (h : WpH P f x (Exit.then (fun a w => WpH P f y Q a w) Q) a w) : WpH P f (.seq x y) Q a w:=by
 intro b k cs h1 h2
 have s0 : StepsIn (Machine.fenced P Fence.wide) P (lone (b.atR a (.code (.seq x y) :: k)) cs w) (lone (b.atR a (.code x :: .code y :: k)) cs w):=.one (fenced_wide _ _) stepR_seq
 obtain ⟨e,a₁,w₁,hq,harr⟩:=h b (.code y :: k) cs h1 h2
 by_cases he : e = .normal
 ·subst he
  obtain ⟨e₂,a₂,w₂,hq₂,harr₂⟩:=hq b k cs h1 h2
  exact ⟨e₂,a₂,w₂,hq₂,.of_steps (s0.trans harr) harr₂⟩
 ·exact ⟨e,a₁,w₁,by cases e <;> first | exact absurd rfl he | exact hq,.of_steps s0 (.pass (x:=.code y) rfl (fun _ _ => .inl he) harr)⟩
theorem WpH.range {P : Program} {f : FuncId} {g : Operand} {ps : Array Tmp} {assign body : Code} {Q : Exit → Act → World → Prop} {a : Act} {w : World} {l : Nat} {mark : List Deferred} {w₁ : World} {d : Deferred} {w₁' : World} {gf : FuncId} {args : Array Value} {w₂ : World}
  (he : (Instr.enterLoop f a.tmps ps assign body none).run P w = .ok (l,mark) w₁) (hres : (resolve a.eval (rangeCall g l) 0).run P w₁ = .ok d w₁') (hinv : (invoke d.target d.args).run P w₁' = .ok (.enter gf args) w₂)
  (hcall : CallsIn Fence.wide 0 P gf args w₂ (rangePost Fence.wide 0 P l Q { a with defers:=mark ++ a.defers })) : WpH P f (.rangeFunc g ps assign body) Q a w:=by
 intro b k cs hro hb
 have hin : step P (lone (b.atR a (.code (.rangeFunc g ps assign body) :: k)) cs w) = .next (lone (Frame.enter P gf args .normal) (b.atR { a with defers:=mark ++ a.defers } (.inRangeFunc l :: k) :: cs) w₂) :=
  stepR_rangeFunc (by rw [hb,hro]; exact he) hres hinv
 obtain ⟨e,w₃,fr,hR,hs,-,hl⟩:=hcall.2 (b.atR { a with defers:=mark ++ a.defers } (.inRangeFunc l :: k) :: cs) (room_wide _)
 have go : ∀ {m'},(∃ m,StepsIn (Machine.fenced P Fence.wide) P (lone (Frame.enter P gf args .normal) (b.atR { a with defers:=mark ++ a.defers } (.inRangeFunc l :: k) :: cs) w₂) m ∧ step P m = .next m') → StepsIn (Machine.fenced P Fence.wide) P (lone (b.atR a (.code (.rangeFunc g ps assign body) :: k)) cs w) m' :=
  fun ⟨m,h1,h2⟩ => .head (fenced_wide _ _) hin (h1.trans (.one (fenced_wide _ _) h2))
 match e,hR,hs,hl with
 | .outgrown,⟨a₀,w₀,hq⟩,hs,_ => exact ⟨.outgrown,a₀,w₀,hq,.inr (Outgrown.of_steps (.one hin) hs)⟩
 | .panicked chain,hR,hs,hl => exact ⟨.panic chain,_,w₃,hR,.inRangeFunc l :: k,by rw [← Frame.raise_atR]; exact go ⟨_,hs,step_leave_panicked hl⟩⟩
 | .returned v,⟨jump,w₄,hend,hj⟩,hs,hl =>
  have back:=(go ⟨_,hs,step_leave_returned hl⟩).trans (by rw [finish_atR_inRangeFunc]; exact .one (fenced_wide _ _) (stepR_endRangeFunc hend))
  cases jump with
  | none => exact ⟨.normal,_,w₄,hj,back⟩
  | some c =>
   obtain ⟨e',a'',w₅,hq,harr⟩:=hj b k cs hro trivial (room_wide _)
   exact ⟨e',a'',w₅,hq,.of_steps back harr⟩
theorem calls_of_WpH {P : Program} {f : FuncId} {fn : Func} {c : Code} {args : Array Value} {w : World} {R : Ending → World → Prop} (hf : P.funcs[f]? = some fn) (hb : fn.body = some c)
  (h : WpH P f c (bodyPostM Fence.wide 0 P fn R) { tmps:=args ++ Array.replicate (fn.ntmps - args.size) undef,defers:=[] } w) : CallsIn Fence.wide 0 P f args w R:=by
 refine ⟨trivial,fun cs hr => ?_⟩
 let b : Frame:={ (default : Frame) with fn:=f,kind:=.normal,roundOf:=none }
 have hen : Frame.enter P f args .normal = b.atR { tmps:=args ++ Array.replicate (fn.ntmps - args.size) undef,defers:=[] } [.code c]:=by
  simp [Frame.enter,Frame.atR,hf,hb,b]
 obtain ⟨e,a',w',hq,harr⟩:=h b [] cs rfl rfl
 rw [← hen] at harr
 match e,hq,harr with
 | .normal,hq,harr =>
  obtain ⟨e',w'',fr',hR,hs,hfn,hl⟩:=leaves_stepsInM a'.defers .returning w' { b.atR a' [] with mode:=.returning } cs rfl rfl rfl hf rfl trivial hr hq
  exact ⟨e',w'',fr',hR,ComesIn.of_steps (StepsIn.trans harr (.one (fenced_wide _ _) (stepR_end rfl))) hs,hfn,hl⟩
 | .ret,hq,harr =>
  obtain ⟨todo,hs₀⟩:=harr.1 rfl
  obtain ⟨e',w'',fr',hR,hs,hfn,hl⟩:=leaves_stepsInM a'.defers .returning w' { b.atR a' todo with mode:=.returning } cs rfl rfl rfl hf rfl trivial hr hq
  exact ⟨e',w'',fr',hR,ComesIn.of_steps hs₀ hs,hfn,hl⟩
 | .panic chain,hq,⟨todo,hs₀⟩ =>
  obtain ⟨e',w'',fr',hR,hs,hfn,hl⟩:=leaves_stepsInM a'.defers (.panicking chain) w' { b.atR a' todo with mode:=.panicking chain } cs rfl rfl rfl hf rfl trivial hr hq
  exact ⟨e',w'',fr',hR,ComesIn.of_steps hs₀ hs,hfn,hl⟩
 | .exit id,hq,_ => exact hq.elim
 | .goto l,hq,_ => exact hq.elim
 | .outgrown,hq,harr => exact ⟨.outgrown,w',b,hq,harr.resolve_left (by simp [b]),rfl,trivial⟩
theorem range_law_p {α : Type} {P : Program} {g : Operand} {ps : Array Tmp} {assign body : Code} {Q : Exit → Act → World → Prop} {a : Act} {w : World} {gf : Nat} {lb : Array Value}
  {f : FuncId} {fnF : Func} (hfnF : P.funcs[f]? = some fnF)
  (hg : a.eval g = .func (.func gf) #[] lb) (eg : ∀ args w,(callFunc gf args).run P w = .ok (.enter gf args) w)
  {Enc : World → α → Array Value → Prop} {keep : Nat → Prop} {xs : List α} (hit : ∀ W,W.heap.size = w.heap.size + 2 → But (fun _ => False) w W → IterP P gf lb Enc keep xs W) (hps : ∀ W x vs,Enc W x vs → vs.size = ps.size)
  (hkeep : ∀ k,keep k → k < w.heap.size)
  (henc : ∀ W W' x vs,(∀ k,keep k → W'.heap[k]? = W.heap[k]?) → Enc W x vs → Enc W' x vs)
  (I : List α → World → Prop) (Ip : List PanicEntry → World → Prop)
  (hI : ∀ pre A B,I pre A → (But (fun _ => False) A B ∨ Turn (w.heap.size + 1) A B) → I pre B)
  (h0 : ∀ W0,But (fun _ => False) w W0 → I [] W0)
  (hround : ∀ (l : Nat) (pre : List α) (x : α) (rest : List α) (vs : Array Value) (Wv : World),xs = pre ++ x :: rest → Enc Wv x vs → ∀ (W : World) (K : Act → World → Prop),
   (∀ a₁ W',But (fun _ => False) W W' → (∀ W2,I pre W2 → Enc W2 x vs → w.heap.size + 2 ≤ W.heap.size → W2.heap.size = W'.heap.size → (∀ k,k < W'.heap.size → k ≠ w.heap.size + 1 → W2.heap[k]? = W'.heap[k]?) → body.wpIn (Fence.wide.inRound l) 0 P (roundEndP keep I Ip (pre ++ [x]) W2) a₁ W2) → K a₁ W') →
   assign.wpIn (Fence.wide.inRound l) 0 P (Exit.then K (fun _ _ _ => False)) { tmps:=(ps.zip vs).foldl (fun t (p,v) => t.setIfInBounds p v) a.tmps,defers:=[] } W)
  (hdone : ∀ (D : Nat) (W : World),I xs W → D = w.heap.size → W.heap[D]? = some (.deferred (some [])) → Q .normal { a with defers:={ target:=.collected D,args:=#[] } :: a.defers } W)
  (hpanic : ∀ (D : Nat) (ch : List PanicEntry) (W : World),Ip ch W → D = w.heap.size → W.heap[D]? = some (.deferred (some [])) → Q (.panic ch) { a with defers:={ target:=.collected D,args:=#[] } :: a.defers } W) :
  WpH P f (Code.rangeFunc g ps assign body) Q a w:=by
 obtain ⟨rec,hrec⟩ : ∃ rec : LoopState → Option Code → Loop,rec = fun st pe => { state:=st,pending:=pe,fn:=f,tmps:=a.tmps,params:=ps,assign,body,defers:=w.heap.size }:=⟨_,rfl⟩
 obtain ⟨W1,hW1⟩ : ∃ W1,(w.alloc (.deferred (some []))).alloc (.loop (rec .ready none)) = W1:=⟨_,rfl⟩
 have hs1 : W1.heap.size = w.heap.size + 2:=by rw [← hW1]; simp
 have hL1 : W1.heap[w.heap.size + 1]? = some (.loop (rec .ready none)):=by
  rw [← hW1]
  have:=World.alloc_heap_new (w.alloc (.deferred (some []))) (.loop (rec .ready none))
  rwa [World.size_alloc] at this
 have hK1 : W1.heap[w.heap.size]? = some (.deferred (some [])):=by
  rw [← hW1]; exact (Below.heap_alloc _ _ _ (by simp)).trans (World.alloc_heap_new w _)
 have hb1 : But (fun _ => False) w W1:=by rw [← hW1]; exact ((But.refl _ w).alloc _).alloc _
 refine WpH.range (l:=w.heap.size + 1) (mark:=[{ target:=.collected w.heap.size,args:=#[] }]) (w₁:=W1) (d:={ target:=.fn (.func gf) lb,args:=#[.func (.yield (w.heap.size + 1)) #[] #[]] }) (w₁':=W1) (gf:=gf)
  (args:=#[.func (.yield (w.heap.size + 1)) #[] #[]] ++ lb) (w₂:=W1) ?_ ?_ ?_ ?_
 ·rw [← hW1,hrec]; exact run_enterLoop_outer _ _ _ _ _
 ·simp only [resolve,hg]
  simp [go_sem]
 ·simp [invoke,go_sem,eg]
 ·refine (hit W1 hs1 hb1 (w.heap.size + 1)
   (fun pre W => I pre W ∧ W.heap[w.heap.size + 1]? = some (.loop (rec .ready none)) ∧ W.heap[w.heap.size]? = some (.deferred (some [])))
   (fun ch W => Ip ch W ∧ W.heap[w.heap.size]? = some (.deferred (some []))) ?_ ?_ ?_).mono ?_
  ·rintro pre A B ⟨hi,hl,hk⟩ hb
   exact ⟨hI pre A B hi (.inl hb),(hb.block _ (Array.getElem?_eq_some_iff.1 hl).1 (fun h => h)).trans hl,(hb.block _ (Array.getElem?_eq_some_iff.1 hk).1 (fun h => h)).trans hk⟩
  ·intro W0 hb
   have hsz:=hb.size
   exact ⟨h0 W0 (hb1.trans hb),(hb.block _ (by omega) (fun h => h)).trans hL1,(hb.block _ (by omega) (fun h => h)).trans hK1⟩
  ·rintro pre x rest W vs ⟨hi,hl,hk⟩ hkw hx hev
   have hlt : w.heap.size + 1 < W.heap.size:=(Array.getElem?_eq_some_iff.1 hl).1
   have hsv:=hps _ _ _ hev
   have hy:=run_yield (P:=P) (args:=vs) hl (by rw [hrec]; exact hsv)
   rw [hrec] at hy
   refine ⟨f,_,assign,body,hy,roundIn_of_wpIn_p trivial hfnF (hround _ pre x rest vs W hx hev W _ (fun a₁ W' hWW hb3 => ⟨_,run_beginRound ((hWW.block _ hlt (fun h => h)).trans hl) (by rw [hrec]),?_⟩))⟩
   have hWWs:=hWW.size
   have hi0:=hI pre W W' hi (.inl hWW)
   have hl0:=(hWW.block _ hlt (fun h => h)).trans hl
   have hk0:=(hWW.block w.heap.size (by omega) (fun h => h)).trans hk
   obtain ⟨W2,hW2⟩ : ∃ W2,W'.putObj (w.heap.size + 1) (.loop { rec .ready none with state:=.busy }) = W2:=⟨_,rfl⟩
   have hput2 : But (fun k => k = w.heap.size + 1) W' W2:=by rw [← hW2]; exact but_put _ _
   have hl2 : W2.heap[w.heap.size + 1]? = some (.loop { rec .ready none with state:=.busy }):=by rw [← hW2]; exact World.putObj_heap_same (by omega)
   have hk2 : W2.heap[w.heap.size]? = some (.deferred (some [])):=(hput2.block _ (Array.getElem?_eq_some_iff.1 hk0).1 (by omega)).trans hk0
   have hi2 : I pre W2:=hI pre _ _ hi0 (.inr ⟨hput2,_,hl0,rfl⟩)
   have hsz2 : W2.heap.size = W'.heap.size:=by rw [← hW2]; simp
   have hev2 : Enc W2 x vs:=henc W W2 x vs (fun k hkk => by
    have h1:=hkeep k hkk
    rw [hput2.block k (by omega) (by omega)]
    exact hWW.block k (by omega) (fun h => h)) hev
   have hkp2 : KeptK keep W W2:=⟨by omega,fun k hkk => by
    have h1:=hkeep k hkk
    rw [hput2.block k (by omega) (by omega)]
    exact hWW.block k (by omega) (fun h => h)⟩
   rw [hW2]
   refine wpIn_mono (hb3 W2 hi2 hev2 (by omega) hsz2 (fun k hk1 hk3 => hput2.block k hk1 hk3)) ?_
   intro e a3 W3 hp
   cases e with
   | normal =>
    obtain ⟨hk3,hkp3,hi3⟩:=hp
    have hl3:=hk3 _ _ hl2 rfl
    have hr3:=run_endRound (P:=P) none hl3
    have hput3 : But (fun k => k = w.heap.size + 1) W3 (W3.putObj (w.heap.size + 1) (.loop (rec .ready none))):=but_put _ _
    have hk3d:=hk3 _ _ hk2 rfl
    rw [hrec] at hr3
    refine ⟨_,_,hr3,.inl ⟨rfl,⟨?_,?_,?_⟩,?_⟩⟩
    ·have:=hI _ _ _ hi3 (.inr ⟨hput3,_,hl3,rfl⟩)
     rw [hrec] at this; exact this
    ·rw [hrec]; exact World.putObj_heap_same (Array.getElem?_eq_some_iff.1 hl3).1
    ·exact (World.putObj_heap_other (by omega)).trans hk3d
    ·refine hkp2.trans (hkp3.trans ⟨by simp,fun k hkk => World.putObj_heap_other (by have:=hkeep k hkk; omega)⟩)
   | panic ch =>
    obtain ⟨hk3,hd,hi3⟩:=hp
    exact ⟨hd,.inr ⟨ch,rfl,hi3,hk3 _ _ hk2 rfl⟩⟩
   | ret => exact hp.elim
   | exit id => exact hp.elim
   | goto t => exact hp.elim
   | outgrown => exact hp.elim
  ·rintro e W2 (⟨v,rfl,hi,hl,hk⟩ | ⟨ch,rfl,hi,hk⟩)
   ·refine ⟨none,_,by have:=run_endLoop (P:=P) hl (by rw [hrec]; simp); rw [hrec] at this; exact this,?_⟩
    exact hdone _ _ (hI _ _ _ hi (.inr ⟨but_put _ _,_,hl,rfl⟩)) rfl ((World.putObj_heap_other (by omega)).trans hk)
   ·exact hpanic _ ch W2 hi rfl hk
end Go.Proofs.YtkigpbkkhgabeaaGreatDoor
namespace Go.Proofs.YtkigpbkkhgabeaaGreatDoor
open Go.RowKit Go.Lib
abbrev pgO (p v : Value) (room st o : Nat) (F : Value) : Obj:=.cells #[p,v,.int .i64 (room : Int),.int .i64 (st : Int),.int .i64 (o : Int),F] 61
abbrev pgP (b : Nat) : Value:=.pointer (some ⟨b,0,none⟩)
structure Soft (B pb : Nat) (w w' : World) : Prop where
 os : w'.os = w.os
 tape : w'.tape = w.tape
 output : w'.output = w.output
 size : w.heap.size ≤ w'.heap.size
 block : ∀ k,k < w.heap.size → k ≠ pb → (k < B ∨ ∀ vs fr,w.heap[k]? ≠ some (.cells vs 5 fr)) → w'.heap[k]? = w.heap[k]?
theorem Soft.refl (B pb : Nat) (w : World) : Soft B pb w w:=⟨rfl,rfl,rfl,Nat.le_refl _,fun _ _ _ _ => rfl⟩
theorem Soft.trans {B pb : Nat} {a b c : World} (h : Soft B pb a b) (k : Soft B pb b c) : Soft B pb a c :=
 ⟨k.os.trans h.os,k.tape.trans h.tape,k.output.trans h.output,Nat.le_trans h.size k.size,fun i hi hp hc => by
  have e:=h.block i hi hp hc
  rw [k.block i (Nat.lt_of_lt_of_le hi h.size) hp (by rw [e]; exact hc),e]⟩
theorem Soft.of {B pb : Nat} {w w' : World} (h : But (fun k => k = pb) w w') : Soft B pb w w':=⟨h.os,h.tape,h.output,h.size,fun k hk hp _ => h.block k hk hp⟩
theorem Soft.of0 {B pb : Nat} {w w' : World} (h : But (fun _ => False) w w') : Soft B pb w w':=⟨h.os,h.tape,h.output,h.size,fun k hk _ _ => h.block k hk (fun h => h)⟩
theorem Soft.ofB {B pb : Nat} {w w' : World} (h : Below w.heap.size w w') : Soft B pb w w':=Soft.of0 (But.of h)
theorem Soft.below {B pb : Nat} {w w' : World} (h : Soft B pb w w') (hB : B ≤ w.heap.size) (hp : B ≤ pb) : Below B w w' :=
 ⟨h.os,h.tape,h.output,h.size,fun k hk => h.block k (Nat.lt_of_lt_of_le hk hB) (by omega) (.inl hk)⟩
theorem Soft.fix {B pb : Nat} {w w' : World} (h : Soft B pb w w') (hp : ∃ vs t fr,w.heap[pb]? = some (.cells vs t fr)) : Fix w w':=fun k o hk ho => by
 obtain ⟨vs,t,fr,hv⟩:=hp
 rw [h.block k (Array.getElem?_eq_some_iff.1 hk).1 (by rintro rfl; rw [hv] at hk; injection hk with hk; subst hk; cases ho) (.inr fun vs fr e => by rw [hk] at e; injection e with e; subst e; cases ho),hk]
theorem Soft.keep {B pb k : Nat} {w w' : World} (h : Soft B pb w w') {vs : Array Value} {t : TypeId} {fr : Nat × Nat} (hk : w.heap[k]? = some (.cells vs t fr)) (hp : k ≠ pb) (ht : t ≠ 5) : w'.heap[k]? = some (.cells vs t fr):=by
 rw [h.block k (Array.getElem?_eq_some_iff.1 hk).1 hp (.inr fun vs2 fr2 e => by rw [hk] at e; injection e with e; injection e with _ e2 _; exact ht e2),hk]
theorem Soft.low {B pb : Nat} {w w' : World} (h : Soft B pb w w') (hp : B ≤ pb) (hB : B ≤ w.heap.size) {p : Addr} (hk : p.block < B) : w'.cell? p = w.cell? p:=(h.below hB hp).cell (p:=p) hk
structure Pg (B pb : Nat) (bs : List UInt8) (room st o : Nat) (F : Value) (w : World) : Prop where
 base : B ≤ pb
 box : ∃ p v,(p = .pointer none ∨ p = .pointer (some ⟨pb,0,none⟩)) ∧ w.heap[pb]? = some (pgO p v room st o F) ∧ w.ownsRow B 5 1 v bs.length (byteCells bs)
 top : room ≤ 9223372036854775807
theorem Pg.lt {B pb : Nat} {bs : List UInt8} {room st o : Nat} {F : Value} {w : World} (h : Pg B pb bs room st o F w) : pb < w.heap.size:=by
 obtain ⟨p,v,_,hb,_⟩:=h.box
 exact (Array.getElem?_eq_some_iff.1 hb).1
theorem Pg.isc {B pb : Nat} {bs : List UInt8} {room st o : Nat} {F : Value} {w : World} (h : Pg B pb bs room st o F w) : ∃ vs t fr,w.heap[pb]? = some (.cells vs t fr):=by
 obtain ⟨p,v,_,hb,_⟩:=h.box
 exact ⟨_,_,_,hb⟩
theorem Pg.cells {B pb : Nat} {bs : List UInt8} {room st o : Nat} {F : Value} {w : World} (h : Pg B pb bs room st o F w) :
  w.cell? ⟨pb,2,none⟩ = some (.int .i64 (room : Int)) ∧ w.cell? ⟨pb,3,none⟩ = some (.int .i64 (st : Int)) ∧ w.cell? ⟨pb,4,none⟩ = some (.int .i64 (o : Int)) ∧ w.cell? ⟨pb,5,none⟩ = some F:=by
 obtain ⟨p,v,_,hb,_⟩:=h.box
 exact ⟨cell_at3 hb rfl,cell_at3 hb rfl,cell_at3 hb rfl,cell_at3 hb rfl⟩
theorem Pg.frozen {B pb : Nat} {bs : List UInt8} {room st o : Nat} {F : Value} {w : World} (h : Pg B pb bs room st o F w) (i : Nat) : w.frozen? ⟨pb,i,none⟩ = false:=by
 obtain ⟨p,v,_,hb,_⟩:=h.box
 simp [World.frozen?,hb]
theorem row_stay {B e n k : Nat} {v : Value} {xs : List Value} {w w' : World} (h : w.ownsRow B e 1 v n xs) (hb : ∀ g vs,w.heap[g]? = some (.cells vs e) → B ≤ g → w'.heap[g]? = w.heap[g]?) (hk : k = k) : w'.ownsRow B e 1 v n xs:=by
 refine ⟨h.1,?_⟩
 rcases h.2 with h2 | ⟨g,cap,cur,e1,e2,e3,e4⟩
 ·exact .inl h2
 ·exact .inr ⟨g,cap,cur,e1,e2,(hb g cur e3 e2).trans e3,e4⟩
theorem Pg.stay {B pb : Nat} {bs : List UInt8} {room st o : Nat} {F : Value} {w w' : World} {C : Nat → Prop} (h : Pg B pb bs room st o F w) (hb : But C w w') (hC : ∀ k,C k → ∀ vs t fr,w.heap[k]? = some (.cells vs t fr) → t ≠ 5 ∧ t ≠ 61) : Pg B pb bs room st o F w':=by
 obtain ⟨p,v,hp,hx,hown⟩:=h.box
 refine ⟨h.base,⟨p,v,hp,(hb.block _ h.lt (fun hc => (hC _ hc _ _ _ hx).2 rfl)).trans hx,?_⟩,h.top⟩
 exact row_stay (k:=0) hown (fun g vs hg _ => hb.block g (Array.getElem?_eq_some_iff.1 hg).1 (fun hc => (hC _ hc _ _ _ hg).1 rfl)) rfl
theorem Pg.stay0 {B pb : Nat} {bs : List UInt8} {room st o : Nat} {F : Value} {w w' : World} (h : Pg B pb bs room st o F w) (hb : But (fun _ => False) w w') : Pg B pb bs room st o F w':=h.stay hb (fun _ hc => hc.elim)
theorem Pg.turn {B pb l : Nat} {bs : List UInt8} {room st o : Nat} {F : Value} {w w' : World} (h : Pg B pb bs room st o F w) (ht : Turn l w w') : Pg B pb bs room st o F w':=h.stay ht.1 (fun k hc vs t fr hv => by
 obtain ⟨ob,h1,h2⟩:=ht.2
 subst hc
 rw [h1] at hv; injection hv with hv; subst hv; cases h2)
theorem set_page {w : World} {pb i : Nat} {vs : Array Value} {t : TypeId} (u : Value) (h : w.heap[pb]? = some (.cells vs t)) : (w.setCell ⟨pb,i,none⟩ u).heap[pb]? = some (.cells (vs.set! i u) t):=by
 have hlt:=(Array.getElem?_eq_some_iff.1 h).1
 rw [Array.getElem?_eq_getElem hlt] at h
 injection h with h
 show (w.heap.modify pb _)[pb]? = _
 rw [Array.getElem?_modify,if_pos rfl,Array.getElem?_eq_getElem hlt,h]
 rfl
theorem row_ne {B pb g : Nat} {w : World} {p v : Value} {room st o : Nat} {F : Value} {vs : Array Value} (hb : w.heap[pb]? = some (pgO p v room st o F)) (hg : w.heap[g]? = some (.cells vs 5)) : g ≠ pb:=by
 rintro rfl
 rw [hb] at hg; injection hg with hg; injection hg with _ h2 _; exact absurd h2 (by decide)
theorem row_set {B pb : Nat} {w : World} {p v v2 : Value} {room st o : Nat} {F : Value} {n : Nat} {xs : List Value} (i : Nat) (u : Value) (hb : w.heap[pb]? = some (pgO p v room st o F)) (h : w.ownsRow B 5 1 v2 n xs) : (w.setCell ⟨pb,i,none⟩ u).ownsRow B 5 1 v2 n xs :=
 row_stay (k:=0) h (fun g vs hg _ => Below.heap_setCell _ _ _ _ (row_ne (B:=B) hb hg)) rfl
theorem Pg.room {B pb : Nat} {bs : List UInt8} {room st o : Nat} {F : Value} {w : World} (h : Pg B pb bs room st o F w) {r : Nat} (hr : r ≤ 9223372036854775807) : Pg B pb bs r st o F (w.setCell ⟨pb,2,none⟩ (.int .i64 (r : Int))):=by
 obtain ⟨p,v,hp,hx,hown⟩:=h.box
 exact ⟨h.base,⟨p,v,hp,by simpa using set_page (i:=2) (.int .i64 (r : Int)) hx,row_set 2 _ hx hown⟩,hr⟩
theorem Pg.opn {B pb : Nat} {bs : List UInt8} {room st o : Nat} {F : Value} {w : World} (h : Pg B pb bs room st o F w) (r : Nat) : Pg B pb bs room st r F (w.setCell ⟨pb,4,none⟩ (.int .i64 (r : Int))):=by
 obtain ⟨p,v,hp,hx,hown⟩:=h.box
 exact ⟨h.base,⟨p,v,hp,by simpa using set_page (i:=4) (.int .i64 (r : Int)) hx,row_set 4 _ hx hown⟩,h.top⟩
theorem Soft.set {B pb : Nat} (w : World) (i : Nat) (u : Value) : Soft B pb w (w.setCell ⟨pb,i,none⟩ u):=Soft.of (But.setCell (C:=fun k => k = pb) (p:=⟨pb,i,none⟩) (But.refl _ _) (.inl rfl) _)
abbrev Flt5 : Ending:=.panicked [{ v:=.iface 83 (.agg #[.int .i64 5]),recovered:=false }]
def Wr (B pb : Nat) (bs : List UInt8) (room st o : Nat) (F : Value) (w : World) (out : List UInt8) (e : Ending) (w' : World) : Prop :=
 (out.length ≤ room ∧ e = .returned (.tuple #[]) ∧ Pg B pb (bs ++ out) (room - out.length) st o F w' ∧ Soft B pb w w') ∨ (room < out.length ∧ e = Flt5 ∧ Soft B pb w w')
theorem Wr.step {B pb : Nat} {bs : List UInt8} {room st o : Nat} {F : Value} {w w1 w' : World} {o1 o2 : List UInt8} {e : Ending} (h1 : o1.length ≤ room) (hs : Soft B pb w w1) (h : Wr B pb (bs ++ o1) (room - o1.length) st o F w1 o2 e w') : Wr B pb bs room st o F w (o1 ++ o2) e w':=by
 rcases h with ⟨h2,rfl,hP,hS⟩ | ⟨h2,rfl,hS⟩
 ·refine .inl ⟨by rw [List.length_append]; omega,rfl,?_,hs.trans hS⟩
  rw [← List.append_assoc,List.length_append,← Nat.sub_sub]; exact hP
 ·exact .inr ⟨by rw [List.length_append]; omega,rfl,hs.trans hS⟩
theorem Wr.fail {B pb : Nat} {bs : List UInt8} {room st o : Nat} {F : Value} {w w1 : World} {o1 : List UInt8} (o2 : List UInt8) (h : room < o1.length) (hs : Soft B pb w w1) : Wr B pb bs room st o F w (o1 ++ o2) Flt5 w1:=.inr ⟨by rw [List.length_append]; omega,rfl,hs⟩
theorem Wr.done {B pb : Nat} {bs : List UInt8} {room st o : Nat} {F : Value} {w w1 : World} {out : List UInt8} (h : out.length ≤ room) (hP : Pg B pb (bs ++ out) (room - out.length) st o F w1) (hs : Soft B pb w w1) : Wr B pb bs room st o F w out (.returned (.tuple #[])) w1:=.inl ⟨h,rfl,hP,hs⟩
theorem Wr.no {B pb : Nat} {bs : List UInt8} {room st o : Nat} {F : Value} {w w1 : World} {out : List UInt8} (h : room < out.length) (hs : Soft B pb w w1) : Wr B pb bs room st o F w out Flt5 w1:=.inr ⟨h,rfl,hs⟩
theorem infoU8 : (Tryz.prog.info? 5).map (fun i => (i.zero,i.size,i.bytes)) = some (some (.int .u8 0),1,1):=by kernel_rfl
theorem infoBld : (Tryz.prog.info? 56).map (·.size) = some 2:=by kernel_rfl
theorem liesBld : liesAt Tryz.prog Tryz.prog.depth 61 (6 / Tryz.prog.cellsOf 61) 0 56 1 = true:=by kernel_rfl
set_option maxHeartbeats 1000000 in
set_option maxRecDepth 100000 in
theorem copyCheck_c {pb : Nat} {p v : Value} {room st o : Nat} {F : Value} (w : World) (hb : w.heap[pb]? = some (pgO p v room st o F)) (hp : p = .pointer none ∨ p = .pointer (some ⟨pb,0,none⟩)) :
  Calls Tryz.prog 58 #[pgP pb] w fun e w' => e = .returned (.tuple #[]) ∧ (w' = w ∧ p = .pointer (some ⟨pb,0,none⟩) ∨ w' = w.setCell ⟨pb,0,none⟩ (.pointer (some ⟨pb,0,none⟩))):=by
 obtain ⟨j,hj,hjs⟩:=Option.map_eq_some_iff.1 infoBld
 have h0 : w.cell? ⟨pb,0,none⟩ = some p:=cell_at3 hb rfl
 have hsh : w.shape? pb = some (61,6):=by simp [World.shape?,hb]
 have hfz : w.frozen? ⟨pb,0,none⟩ = false:=by simp [World.frozen?,hb]
 have HB:=Lib.hid hb
 clear hb
 rcases hp with rfl | rfl
 ·go_enter Tryz.func58,Tryz.ntmps58
  go_wp2
  rw [Lib.run_to_unsafe w ⟨pb,0,none⟩ Tryz.underlying54 Tryz.underlying130 hj (by rw [hjs]; decide) hsh (Nat.zero_lt_succ 5)]
  simp only [Result.andThen]
  rw [Oper.upon_value]
  go_wp2
  rw [run_callFunc_extern Tryz.func90 (by kernel_rfl) (by kernel_rfl) (by kernel_rfl) (e:=Extern.AbiNoEscape.same) (by kernel_rfl)]
  rw [Lib.run_noEscape]
  simp only [Result.andThen]
  rw [Oper.upon_value]
  go_wp2
  rw [Lib.run_from_unsafe w ⟨pb,0,none⟩ Tryz.underlying130 Tryz.underlying54 hj hsh liesBld]
  simp only [Result.andThen]
  rw [Oper.upon_value]
  go_wp2
  go_end0
  exact ⟨rfl,.inr rfl⟩
 ·go_enter Tryz.func58,Tryz.ntmps58
  go_wp2
  rw [Lib.run_neq_ptr_same w _ Tryz.underlying54 hj]
  go_wp2
  go_end0
  first | exact ⟨rfl,.inl ⟨rfl,rfl⟩⟩ | exact ⟨rfl,.inl ⟨rfl,trivial⟩⟩
end Go.Proofs.YtkigpbkkhgabeaaGreatDoor
