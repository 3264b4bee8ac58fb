import Derived.Test.YtkigpbkkhgabeaaGreatDoorYNlimb
import Derived.Outline
import Derived.Maps.AppendAt
import Derived.RangeFuncBox
import Derived.RangeFuncNested
import Derived.RangeFuncBound
import Derived.RangeFuncCalls
import Derived.RangeFuncLeaves
import Derived.Shelf.Abstract
import Derived.WalkKit
import Derived.OwnWalkIn
import Derived.TacticsInMore
import Derived.LoopNIn
import Derived.LoopIn
import Derived.Deep.QuietTactic
import Derived.BigQuiet
import Derived.Sort.QuietTacIn
import Derived.Shelf.RegionOpen
import Derived.Lib.MinMax
import Derived.Sort.LoopGhostIn
set_option linter.unusedVariables false
set_option linter.unusedSimpArgs false
namespace Go.Proofs.YtkigpbkkhgabeaaGreatDoor
open Go.RowKit
theorem Res.lit (w : World) (zs : List Nat) (n : Nat) (hn : zs.length = n) (hl : L32 zs) (hm : n ≤ 1099511627776) : Res (w.alloc (.cells (u32s zs).toArray 93)) w.heap.size (some ⟨w.heap.size,0,none⟩) n n zs:=by
 refine ⟨hn,hl,?_⟩
 have h:=World.ownsRow_lit (base:=w.heap.size) (e:=93) (size:=1) w (u32s zs).toArray n (Nat.le_refl _) (by unfold maxLen; omega) (by simp [u32s_length,hn])
 simpa using h
end Go.Proofs.YtkigpbkkhgabeaaGreatDoor
namespace Go.Proofs.YtkigpbkkhgabeaaGreatDoor
open Go.RowKit
theorem Rd.cellsAt {w : World} {S : Nat → Prop} {n : Nat} {ad : Addr} {xs : List Nat} (h : Rd w S (some ad) n xs) : ∀ j u,(u32s xs)[j]? = some u → w.cell? (ad.add j) = some u:=by
 intro j u hu
 have hj : j < n:=by
  have:=(List.getElem?_eq_some_iff.1 hu).1
  rw [u32s_length,h.len] at this; exact this
 obtain ⟨b,off,e,_,hc⟩:=h.cells (by omega)
 injection e with e
 subst e
 rw [Addr.add_lit,hc j hj]
 rw [u32s_get (by rw [h.len]; exact hj)] at hu
 exact hu
theorem u32s_one (xs : List Nat) : ∀ u ∈ u32s xs,u.oneCell' = true:=by
 intro u hu
 obtain ⟨x,_,rfl⟩:=List.mem_map.1 hu
 rfl
theorem Res.of_row {w : World} {base n : Nat} {v : Value} {xs : List Nat} (hl : xs.length = n) (h32 : L32 xs) (h : w.ownsRow base 93 1 v n (u32s xs)) : ∃ A c,v = .slice A n c ∧ Res w base A n c xs:=by
 rcases h.2 with ⟨e,h0⟩ | ⟨g,cap,cur,e,_⟩
 ·subst h0
  exact ⟨none,0,e,hl,h32,e ▸ h⟩
 ·exact ⟨_,cap,e,hl,h32,e ▸ h⟩
set_option maxRecDepth 100000 in
theorem Clone_c {S : Nat → Prop} {n c : Nat} {A : Option Addr} {xs : List Nat} (w : World) (ha : Rd w S A n xs) (hS : ∀ b,S b → b < w.heap.size) (hn : n ≤ 1099511627776) :
  Calls Tryz.prog 131 #[.slice A n c] w fun e w' => ∃ A' c',e = .returned (.slice A' n c') ∧ Res w' w.heap.size A' n c' xs ∧ Below w.heap.size w w' ∧ ∀ g,A' = some ⟨g,0,none⟩ → g < w'.heap.size:=by
 have q : ∀ (w : World) (a : Option Addr) (n c n' c' : Nat),(binOp .eql 22 (.slice a n c) (.slice none n' c')).run Tryz.prog w = .ok (.bool a.isNone) w:=fun w a n c n' c' => Lib.run_eql_slice_nil w _ _ a n c n' c' Tryz.underlying22
 cases A with
 | none =>
  obtain rfl : n = 0:=by
   rcases Nat.eq_zero_or_pos n with h | h
   ·exact h
   ·obtain ⟨b,off,e,_⟩:=ha.cells h; cases e
  obtain rfl : xs = []:=List.eq_nil_of_length_eq_zero ha.len
  go_enter Tryz.func131,Tryz.ntmps131
  go_wp2
  go_ret
  exact ⟨none,0,rfl,Res.nil _ _,Below.refl _ _,fun g e => by cases e⟩
 | some ad =>
  obtain ⟨i0,hi,hz0,hz1,hz2⟩:=info_parts info32
  have hl:=Lib.hid ha.len
  have hro : (w.alloc (.cells #[] 93)).ownsRow w.heap.size 93 1 (.slice (some ⟨w.heap.size,0,none⟩) 0 0) 0 []:=World.ownsRow_made (e:=93) (size:=1) w #[] 0 (Nat.le_refl _) (by unfold maxLen; omega) rfl
  have ha2 : Rd (w.alloc (.cells #[] 93)) S (some ad) n xs:=ha.below (B:=w.heap.size) ((Below.refl _ _).alloc (Nat.le_refl _) _) hS
  go_enter Tryz.func131,Tryz.ntmps131
  go_wp2_with (at_builtin; refine wpList_append_own _ rfl (.tmp 5) (.tmp 6) _ rfl w.heap.size 93 i0 (.int .u32 0) 1 4 Tryz.underlying22 hi hz0 hz1 hz2 rfl (by decide) (.slice (some ⟨w.heap.size,0,none⟩) 0 0) 0 [] rfl hro ad n c (u32s xs) rfl (by rw [u32s_length,hl.out,Nat.mul_one]) ha2.cellsAt (u32s_one xs) (by unfold maxLen; omega) (by omega) (by simp) ?_; intro v' w1 hown1 hg1 _)
  go_ret
  rw [Nat.zero_add,List.nil_append] at hown1
  obtain ⟨A',c',e,hr⟩:=Res.of_row hl.out ha.l32 hown1
  subst e
  refine ⟨A',c',rfl,hr,((Below.refl _ w).alloc (Nat.le_refl _) _).grown hg1 (by simp) (by intro k hk; simp [Value.ownBlock] at hk; omega),fun g e => ?_⟩
  rcases hr.form with ⟨h,_⟩ | ⟨g',h,_,hlt⟩
  ·rw [h] at e; cases e
  ·rw [h] at e; injection e with e; injection e with e; omega
theorem reduce_step {zs qs : List Nat} {k r d t : Nat} (hd : 0 < d) (hv : val (zs.drop (k + 1)) = val qs * d + r) (ht : t = r * 4294967296 + nth zs k) :
  val (zs.drop k) = val (t / d :: qs) * d + t % d:=by
 rw [val_drop,hv,val_cons,Nat.add_mul]
 have e:=Nat.div_add_mod t d
 have e2 : 4294967296 * (val qs * d + r) = 4294967296 * val qs * d + r * 4294967296:=by rw [Nat.mul_add,Nat.mul_assoc,Nat.mul_comm r]
 have e3 : t / d * d = d * (t / d):=Nat.mul_comm _ _
 omega
set_option maxRecDepth 100000 in
theorem reduce_c {base n c : Nat} {A : Option Addr} {zs : List Nat} (d : Nat) (w : World) (hown : Res w base A n c zs) (hd : d < 4294967296) (hd1 : 1 ≤ d) (hn : n ≤ 1048576) :
  Calls Tryz.prog 132 #[.slice A n c,.int .u32 d] w fun e w' =>
   ∃ n' qs r,e = .returned (.tuple #[.slice A n' c,.int .u32 ((r : Nat) : Int)]) ∧ Res w' base A n' c qs ∧ Can qs ∧ val zs = val qs * d + r ∧ r < d ∧ n' ≤ n ∧ w.grownBy w' (Value.slice A n c).ownBlock:=by
 have HZ:=Lib.hid hown.len
 go_enter Tryz.func132,Tryz.ntmps132
 go_wp2
 go_loopw [6,7] (fun rs i wr => ∃ (k r : Nat) (qs : List Nat),k ≤ n ∧ i = .int .i64 ((k : Int) - 1) ∧ rs = .int .u64 (r : Int) ∧ r < d ∧ L32 qs ∧ Hid (qs.length = n - k) ∧
   Hid (val (zs.drop k) = val qs * d + r) ∧ Res wr base A n c (zs.take k ++ qs) ∧ w.grownBy wr (Value.slice A n c).ownBlock) (fun _ i _ => (RowKit.intOf i + 1).toNat)
 case atStart => exact ⟨n,0,[],Nat.le_refl _,rfl,rfl,by omega,L32.nil,by show _ = _; simp,by show _ = _; rw [List.drop_of_length_le (by rw [HZ.out]; omega)]; simp [val],by rw [List.append_nil,List.take_of_length_le (by rw [HZ.out]; omega)]; exact hown,World.grownBy.refl w _⟩
 case round =>
  obtain ⟨k,r,qs,hk,rfl,rfl,hr,hqs,hlen,hval,hres,hg⟩:=hrel
  by_cases h0 : k = 0
  ·subst h0
   rw [List.take_zero,List.nil_append] at hres
   have hv:=Lib.hid hval.out
   rw [List.drop_zero] at hv
   clear hval
   have hf:=trim_c wr hres.rd (by omega) hres.n_le.1
   have HF:=Lib.hid hf
   clear hf
   go_wp2_with fail
   refine HF.out.mono ?_
   rintro e w' ⟨rfl,rfl⟩
   go_wp2
   go_ret2
   have ht:=hres.take (tl_le qs n)
   have hl:=hres.len
   refine ⟨_,trimmed qs,r,?_,?_,trimmed_can hqs,?_,hr,tl_le qs n,hg⟩
   ·exact congrArg Ending.returned (congrArg (fun z => Value.tuple #[Value.slice A (tl qs n) c,Value.int .u32 z]) (by omega))
   ·unfold trimmed; rw [hl]; exact ht
   ·rw [trimmed_val]; exact hv.out
  ·obtain ⟨j,rfl⟩ : ∃ j,k = j + 1:=⟨k - 1,by omega⟩
   obtain ⟨g,hA⟩ : ∃ g,A = some ⟨g,0,none⟩:=by
    rcases hown.form with ⟨_,h,_⟩ | ⟨g,h,_⟩
    ·omega
    ·exact ⟨g,h⟩
   subst hA
   have hpl : (zs.take j).length = j:=by rw [List.length_take,HZ.out]; omega
   have hcell : wr.cell? ⟨g,j,none⟩ = some (.int .u32 (nth zs j : Int)):=by
    rw [hres.cell (by omega),take_succ_nth (by rw [HZ.out]; omega),List.append_assoc,List.singleton_append,nth_snoc _ _ _ hpl.symm]
   have hfr : wr.frozen? ⟨g,j,none⟩ = false:=hres.frozen _
   have hx1 : nth zs j < 4294967296:=nth_lt hown.l32 j
   have HP:=Lib.hid hpl
   clear hpl
   obtain ⟨t,ht⟩ : ∃ t,t = r * 4294967296 + nth zs j:=⟨_,rfl⟩
   have hbit:=or_shl (show r < 4294967296 by omega) hx1
   rw [← ht] at hbit
   have htb : t < 18446744073709551616:=by omega
   have htd : t / d < 4294967296:=by
    rw [Nat.div_lt_iff_lt_mul hd1]
    have : (r + 1) * 4294967296 ≤ d * 4294967296:=Nat.mul_le_mul_right _ (by omega)
    rw [Nat.mul_comm 4294967296]
    omega
   have hmd:=Nat.mod_lt t hd1
   have HT:=Lib.hid ht
   clear ht
   go_wp2
   rw [quo_limb htd,rem_limb]
   refine ⟨⟨j,t % d,t / d :: qs,by omega,rfl,rfl,hmd,L32.cons.2 ⟨htd,hqs⟩,?_,reduce_step hd1 hval.out HT.out,?_,only_set hg _ _⟩,by simp [RowKit.intOf]⟩
   ·show _ = _
    rw [List.length_cons,hlen.out]; omega
   ·have h:=hres.set (j:=j) (x:=t / d) htd
    rw [take_succ_nth (by rw [HZ.out]; omega),List.append_assoc,List.singleton_append,set_snoc _ _ _ _ HP.out.symm,List.append_assoc,List.singleton_append] at h
    exact h
end Go.Proofs.YtkigpbkkhgabeaaGreatDoor
namespace Go.Proofs.YtkigpbkkhgabeaaGreatDoor
open Go.RowKit
structure Kept (keep : Nat → Prop) (r : Option Nat) (A B : World) : Prop where
 size : A.heap.size ≤ B.heap.size
 block : ∀ k,(keep k ∨ r = some k) → B.heap[k]? = A.heap[k]?
theorem Kept.refl (keep : Nat → Prop) (r : Option Nat) (A : World) : Kept keep r A A:=⟨Nat.le_refl _,fun _ _ => rfl⟩
theorem Kept.trans {keep : Nat → Prop} {r : Option Nat} {A B C : World} (h : Kept keep r A B) (k : Kept keep r B C) : Kept keep r A C :=
 ⟨Nat.le_trans h.size k.size,fun i hi => (k.block i hi).trans (h.block i hi)⟩
def Iter {α : Type} (P : Program) (gf : Nat) (lb : Array Value) (encs : α → Array Value) (keep : Nat → Prop) (xs : List α) (W : World) : Prop :=
 ∀ (l : Nat) (J : Option Nat → List α → World → Prop),
  (∀ r pre A B,J r pre A → A.grownBy B r → J r pre B) →
  (∀ r W0,Below W.heap.size W W0 → (∀ k,r = some k → W.heap.size ≤ k ∧ k < W0.heap.size) → J r [] W0) →
  (∀ r pre x rest W1,J r pre W1 → xs = pre ++ x :: rest → YieldAt Fence.wide 0 P l (encs x) W1 fun e W' => e = .returned (.bool true) ∧ J r (pre ++ [x]) W' ∧ Kept keep r W1 W') →
  CallsIn Fence.wide 0 P gf (#[.func (.yield l) #[] #[]] ++ lb) W fun e W' => (∃ v,e = .returned v) ∧ ∃ r,J r xs W'
def roundEnd {α : Type} (keep : Nat → Prop) (I : Option Nat → List α → World → Prop) (r : Option Nat) (xs : List α) (W : World) : Exit → Act → World → Prop
 | .normal,_,W' => KeepsOthers W W' ∧ Kept keep r W W' ∧ I r xs W'
 | _,_,_ => False
theorem only_putObj (W : World) (l : Nat) (o : Obj) : W.grownBy (W.putObj l o) (some l) :=
 ⟨rfl,rfl,rfl,by simp,fun k _ hk => World.putObj_heap_other (fun e => hk (by rw [e]))⟩
theorem range_law {α : Type} {P : Program} {g : Operand} {ps : Array Tmp} {assign body : Code} {Q : Exit → Act → World → Prop} {a : Act} {w : World} {gf : Nat} {lb : Array Value}
  (hg : a.eval g = .func (.func gf) #[] lb) (eg : ∀ args w,(callFunc gf args).run P w = .ok (.enter gf args) w)
  {encs : α → Array Value} {keep : Nat → Prop} {xs : List α} (hit : ∀ W,Below w.heap.size w W → Iter P gf lb encs keep xs W) (hps : ∀ x,(encs x).size = ps.size) (hkeep : ∀ k,keep k → k < w.heap.size)
  (I : Option Nat → List α → World → Prop)
  (hI : ∀ r pre A B row,I r pre A → A.grownBy B row → (∀ k,row = some k → w.heap.size ≤ k ∧ (r = some k ∨ ∃ o : Obj,A.heap[k]? = some o ∧ o.isCells = false)) → I r pre B)
  (h0 : ∀ r W0,Below w.heap.size w W0 → (∀ k,r = some k → w.heap.size ≤ k ∧ k < W0.heap.size) → I r [] W0)
  (hround : ∀ (l : Nat) (r : Option Nat) (pre : List α) (x : α) (rest : List α),xs = pre ++ x :: rest → ∀ (W : World) (K : Act → World → Prop),
   (∀ a₁,(∀ W2,I r pre W2 → w.heap.size + 2 ≤ W2.heap.size → (∀ k,r = some k → w.heap.size + 2 ≤ k ∧ k < W2.heap.size) → body.wpIn (Fence.wide.inRound l) 0 P (roundEnd keep I r (pre ++ [x]) W2) a₁ W2) → K a₁ W) →
   assign.wpIn (Fence.wide.inRound l) 0 P (Exit.then K (fun _ _ _ => False)) { tmps:=(ps.zip (encs x)).foldl (fun t (p,v) => t.setIfInBounds p v) a.tmps,defers:=[] } W)
  (hdone : ∀ (D : Nat) (r : Option Nat) (W : World),I r xs W → w.heap.size ≤ D → W.heap[D]? = some (.deferred (some [])) → Q .normal { a with defers:={ target:=.collected D,args:=#[] } :: a.defers } W) :
  (Code.rangeFunc g ps assign body).wpIn Fence.wide 0 P Q a w:=by
 refine wpIn_rangeFunc fun fn _ => ?_
 obtain ⟨rec,hrec⟩ : ∃ rec : LoopState → Option Code → Loop,rec = fun st pe => { state:=st,pending:=pe,fn,tmps:=a.tmps,params:=ps,assign,body,defers:=w.heap.size }:=⟨_,rfl⟩
 obtain ⟨W1,hW1⟩ : ∃ W1,(w.alloc (.deferred (some []))).alloc (.loop (rec .ready none)) = W1:=⟨_,rfl⟩
 have hs1 : W1.heap.size = w.heap.size + 2:=by rw [← hW1]; simp
 have hL1 : W1.heap[w.heap.size + 1]? = some (.loop (rec .ready none)):=by
  rw [← hW1]
  have:=World.alloc_heap_new (w.alloc (.deferred (some []))) (.loop (rec .ready none))
  rwa [World.size_alloc] at this
 have hK1 : W1.heap[w.heap.size]? = some (.deferred (some [])):=by
  rw [← hW1]; exact (Below.heap_alloc _ _ _ (by simp)).trans (World.alloc_heap_new w _)
 have hb1 : Below w.heap.size w W1:=by rw [← hW1]; exact ((Below.refl _ w).alloc (Nat.le_refl _) _).alloc (by simp) _
 refine ⟨w.heap.size + 1,[{ target:=.collected w.heap.size,args:=#[] }],W1,{ target:=.fn (.func gf) lb,args:=#[.func (.yield (w.heap.size + 1)) #[] #[]] },W1,gf,
  #[.func (.yield (w.heap.size + 1)) #[] #[]] ++ lb,W1,?_,?_,(fun _ _ => trivial),?_,(fun h => absurd h (by decide)),?_⟩
 ·rw [← hW1,hrec]; exact run_enterLoop_outer _ _ _ _ _
 ·simp only [resolve,hg]
  simp [go_sem]
 ·simp [invoke,go_sem,eg]
 ·refine (hit W1 hb1 (w.heap.size + 1)
   (fun r pre W => I r pre W ∧ (∀ k,r = some k → w.heap.size + 2 ≤ k ∧ k < W.heap.size) ∧ W.heap[w.heap.size + 1]? = some (.loop (rec .ready none)) ∧ W.heap[w.heap.size]? = some (.deferred (some []))) ?_ ?_ ?_).mono ?_
  ·rintro r pre A B ⟨hi,hr,hl,hk⟩ hgr
   refine ⟨hI r pre A B r hi hgr (fun k e => ⟨by have:=hr k e; omega,.inl e⟩),(fun k e => by have:=hr k e; have:=hgr.size; omega),(hgr.block _ (Array.getElem?_eq_some_iff.1 hl).1 (fun e => ?_)).trans hl,(hgr.block _ (Array.getElem?_eq_some_iff.1 hk).1 (fun e => ?_)).trans hk⟩
   ·have:=hr _ e.symm; omega
   ·have:=hr _ e.symm; omega
  ·intro r W0 hb hr
   have hsz:=hb.size
   refine ⟨h0 r W0 (hb1.trans (hb.mono (by omega))) (fun k e => by have:=hr k e; omega),fun k e => by have:=hr k e; omega,(hb.block _ (by omega)).trans hL1,(hb.block _ (by omega)).trans hK1⟩
  ·rintro r pre x rest W ⟨hi,hr,hl,hk⟩ hx
   have hlt : w.heap.size + 1 < W.heap.size:=(Array.getElem?_eq_some_iff.1 hl).1
   have hy:=run_yield (P:=P) (args:=encs x) hl (by rw [hrec]; exact hps x)
   rw [hrec] at hy
   refine ⟨fn,_,assign,body,hy,roundIn_of_wpIn trivial (hround _ r pre x rest hx W _ (fun a₁ hb3 => ⟨_,run_beginRound hl (by rw [hrec]),?_⟩))⟩
   obtain ⟨W2,hW2⟩ : ∃ W2,W.putObj (w.heap.size + 1) (.loop { rec .ready none with state:=.busy }) = W2:=⟨_,rfl⟩
   have hl2 : W2.heap[w.heap.size + 1]? = some (.loop { rec .ready none with state:=.busy }):=by rw [← hW2]; exact World.putObj_heap_same hlt
   have hk2 : W2.heap[w.heap.size]? = some (.deferred (some [])):=by rw [← hW2]; exact (World.putObj_heap_other (by omega)).trans hk
   have hi2 : I r pre W2:=by rw [← hW2]; exact hI r pre _ _ _ hi (only_putObj _ _ _) (fun k e => by injection e with e; subst e; exact ⟨by omega,.inr ⟨_,hl,rfl⟩⟩)
   have hkp : ∀ (A : World) (o : Obj),Kept keep r A (A.putObj (w.heap.size + 1) o):=fun A o =>
    ⟨by simp,fun k hkk => World.putObj_heap_other (by
     rintro rfl
     rcases hkk with h | h
     ·have:=hkeep _ h; omega
     ·have:=hr _ h; omega)⟩
   rw [hW2]
   refine wpIn_mono (hb3 W2 hi2 (by have:=(Array.getElem?_eq_some_iff.1 hl2).1; omega) (fun k e => by have:=hr k e; rw [← hW2]; simpa using this)) ?_
   intro e a3 W3 hp
   cases e with
   | normal =>
    obtain ⟨hk3,hkp3,hi3⟩:=hp
    have hl3:=hk3.same _ _ hl2 rfl
    have hr3:=run_endRound (P:=P) none hl3
    refine ⟨_,_,hr3,rfl,⟨hI r _ _ _ _ hi3 (only_putObj _ _ _) (fun k e => by injection e with e; subst e; exact ⟨by omega,.inr ⟨_,hl3,rfl⟩⟩),(fun k e => by have h5:=hr k e; have h6:=hk3.size; rw [← hW2] at h6; simp at h6 ⊢; omega),?_,(World.putObj_heap_other (by omega)).trans (hk3.same _ _ hk2 rfl)⟩,?_⟩
    ·rw [World.putObj_heap_same (Array.getElem?_eq_some_iff.1 hl3).1]; simp [hrec]
    ·exact ((by rw [← hW2]; exact hkp W _ : Kept keep r W W2).trans hkp3).trans (hkp W3 _)
   | ret => exact hp.elim
   | exit id => exact hp.elim
   | goto t => exact hp.elim
   | panic ch => exact hp.elim
   | outgrown => exact hp.elim
  ·rintro e W2 ⟨⟨v,rfl⟩,r,hi,hr,hl,hk⟩
   refine ⟨none,_,by have:=run_endLoop (P:=P) hl (by rw [hrec]; simp); rw [hrec] at this; exact this,?_⟩
   exact hdone _ r _ (hI r _ _ _ _ hi (only_putObj _ _ _) (fun k e => by injection e with e; subst e; exact ⟨by omega,.inr ⟨_,hl,rfl⟩⟩)) (Nat.le_refl _) ((World.putObj_heap_other (by omega)).trans hk)
end Go.Proofs.YtkigpbkkhgabeaaGreatDoor
namespace Go.Proofs.YtkigpbkkhgabeaaGreatDoor
open Go.RowKit
attribute [local go_sem] Oper.semAt_some
def encu (x : Nat) : Array Value:=#[.int .u32 (x : Int)]
def gOf : Nat → Nat → List Nat
 | 0,_ => []
 | f + 1,v => if v = 0 then [] else v % 1000000000 :: gOf f (v / 1000000000)
theorem gOf_more : ∀ (f v : Nat),v ≤ f → gOf f v = gOf v v
 | 0,v,h => by
  have e : v = 0:=by omega
  rw [e]
 | f + 1,v,h => by
  by_cases h0 : v = 0
  ·subst h0; simp [gOf]
  ·obtain ⟨u,rfl⟩ : ∃ u,v = u + 1:=⟨v - 1,by omega⟩
   have e1:=gOf_more f ((u + 1) / 1000000000) (by omega)
   have e2:=gOf_more u ((u + 1) / 1000000000) (by omega)
   simp only [gOf,h0,if_false]
   rw [e1,e2]
termination_by f => f
def gL (v : Nat) : List Nat:=gOf v v
theorem gL_zero : gL 0 = []:=rfl
theorem gL_pos {v : Nat} (h : 0 < v) : gL v = v % 1000000000 :: gL (v / 1000000000):=by
 unfold gL
 obtain ⟨u,rfl⟩ : ∃ u,v = u + 1:=⟨v - 1,by omega⟩
 have e2:=gOf_more u ((u + 1) / 1000000000) (by omega)
 simp only [gOf,show ¬ (u + 1 = 0) by omega,if_false]
 rw [e2]
set_option maxRecDepth 100000 in
theorem groups1_iter {S : Nat → Prop} {n c B1 : Nat} {A : Option Addr} {xs : List Nat} (W : World) (h1 : W.cell? ⟨B1,0,none⟩ = some (.slice A n c)) (ha : Rd W S A n xs) (hS : ∀ b,S b → b < W.heap.size) (hcan : Can xs) (hn : n ≤ 1048576) :
  Iter Tryz.prog 130 #[.pointer (some ⟨B1,0,none⟩)] encu (fun _ => False) (gL (val xs)) W:=by
 intro l J hJ h0 hY
 refine callsIn_of_wp Tryz.func130 rfl trivial ?_ rfl
 simp only [Tryz.ntmps130,List.size_toArray,List.length_cons,List.length_nil,Nat.reduceAdd,Nat.reduceSub,Array.replicate_succ,Array.replicate_zero,List.push_toArray,List.append_toArray,List.nil_append,List.cons_append]
 have HY:=Lib.hid hY
 have HJ:=Lib.hid hJ
 have H0:=Lib.hid h0
 clear hY hJ h0
 gi_wp2_with (refine ⟨trivial,rfl,?_⟩; gi_at_call 131; refine (callsIn_wide.2 (Clone_c W ha hS (by omega))).mono ?_; rintro e W0 ⟨A0,c0,rfl,hres,hbel,hblk⟩)
 gi_loopg [3] (val xs) (fun k left wr => ∃ (n' : Nat) (qs : List Nat) (pre : List Nat),left = .slice A0 n' c0 ∧ n' ≤ n ∧ Res wr W.heap.size A0 n' c0 qs ∧ Can qs ∧ Hid (val qs = k) ∧ Hid (gL (val xs) = pre ++ gL (val qs)) ∧ J (A0.map (·.block)) pre wr)
 case atStart => exact ⟨n,xs,[],rfl,Nat.le_refl _,hres,hcan,rfl,rfl,H0.out _ _ hbel (fun k e => by
  rcases hres.form with ⟨h,_⟩ | ⟨g,h,hb,hlt⟩
  ·rw [h] at e; cases e
  ·rw [h] at e; simp at e; omega)⟩
 case round =>
  obtain ⟨n',qs,pre,rfl,hn',hr,hc,hk,hsp,hJk⟩:=hrel
  by_cases h0 : n' = 0
  ·subst h0
   have hq : qs = []:=List.eq_nil_of_length_eq_zero hr.len
   have hs:=hsp.out
   rw [hq,val_nil,gL_zero,List.append_nil] at hs
   have HS:=Lib.hid hs
   clear hs hq
   gi_wp2
   go_end0
   exact ⟨⟨_,rfl⟩,_,by rw [HS.out]; exact hJk⟩
  ·have hpos : 0 < val qs:=by
    rcases Nat.eq_zero_or_pos (val qs) with h | h
    ·have:=hc.val_zero h
     have hl:=hr.len
     rw [this] at hl
     exact absurd hl.symm h0
    ·exact h
   have hlt : 0 < n':=by omega
   have hs:=hsp.out
   rw [gL_pos hpos] at hs
   have HS:=Lib.hid hs
   clear hs hsp
   have hred:=reduce_c (c:=c0) 1000000000 wr hr (by omega) (by omega) (by omega)
   have HR:=Lib.hid hred
   clear hred
   obtain ⟨g,hA⟩ : ∃ g,A0 = some ⟨g,0,none⟩:=by
    rcases hr.form with ⟨_,h,_⟩ | ⟨g,h,_⟩
    ·omega
    ·exact ⟨g,h⟩
   subst hA
   gi_wp2_with (fail)
   refine ⟨trivial,rfl,?_⟩
   refine (callsIn_wide.2 HR.out).mono ?_
   rintro e w1 ⟨n2,qs2,gr,rfl,hr2,hc2,hv2,hgr,hn2,hg2⟩
   have hJ1:=HJ.out _ _ _ _ hJk hg2
   have hd : val qs / 1000000000 = val qs2 ∧ val qs % 1000000000 = gr:=by omega
   have hs2:=HS.out
   rw [hd.1,hd.2] at hs2
   obtain ⟨fn,tmps,assign,body,hy,hR⟩:=HY.out _ pre gr (gL (val qs2)) w1 hJ1 hs2
   dsimp only [encu] at hy
   have HD:=Lib.hid hd
   have HS2:=Lib.hid hs2
   have HV:=Lib.hid hv2
   clear hd hs2 hv2
   gi_wp2_with (refine ⟨rfl,?_⟩; refine hR.mono ?_; rintro e W' ⟨rfl,hJ',hk'⟩)
   gi_roundg (val qs2)
   case measure => have h5:=hk.out; have h6:=HV.out; omega
   case rel =>
    refine ⟨n2,qs2,pre ++ [gr],rfl,by omega,hr2.keep (fun g' e => ?_),hc2,rfl,?_,hJ'⟩
    ·injection e with e
     injection e with e
     subst e
     exact hk'.block g (.inr rfl)
    ·show _ = _
     rw [HS2.out]; simp
end Go.Proofs.YtkigpbkkhgabeaaGreatDoor
namespace Go.Proofs.YtkigpbkkhgabeaaGreatDoor
open Go.RowKit
attribute [local go_sem] Oper.semAt_some
theorem Can.len_le {zs : List Nat} {k : Nat} (h : Can zs) (hv : val zs < bp k) : zs.length ≤ k:=by
 by_cases hne : zs = []
 ·rw [hne]; simp
 ·have h1:=h.ge hne
  rcases Nat.lt_or_ge k zs.length with h2 | h2
  ·have:=bp_mono (show k ≤ zs.length - 1 by omega); omega
  ·exact h2
end Go.Proofs.YtkigpbkkhgabeaaGreatDoor
