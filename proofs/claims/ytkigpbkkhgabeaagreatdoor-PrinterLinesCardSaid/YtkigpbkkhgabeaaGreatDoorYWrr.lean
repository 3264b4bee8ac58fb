import Derived.Test.YtkigpbkkhgabeaaGreatDoorYWpr
import Derived.OrdersIn
import Derived.OrdersHeld
set_option linter.unusedVariables false
set_option linter.unusedSimpArgs false
namespace Go.Proofs.YtkigpbkkhgabeaaGreatDoor
open Go.RowKit
theorem op_roundW {P : Program} {l : Nat} {o : Oper} {a : Act} {w : World} {K : Act → World → Prop} {Q : Exit → Act → World → Prop} (hnd : ∀ c,o.op ≠ .defer c) (h : o.wp P a w K Q) :
  o.wpIn (Fence.wide.inRound l) 0 P a w K Q:=by
 refine ⟨fun _ _ => trivial,?_⟩
 have hs : o.semAt (Fence.wide.inRound l).round a.eval = execOp a.eval o:=Oper.semAt_some l _ _ hnd
 rw [hs]
 unfold Oper.wp at h
 generalize (execOp a.eval o).run P w = r at h ⊢
 cases r with
 | ok nx w' =>
  cases nx with
  | value v => exact h
  | skip => exact h
  | defer d => exact h
  | enter f args => exact ⟨(fun h => absurd h (by simp [Fence.inRound,Fence.wide])),CallsIn.inRound l (callsIn_wide.2 h)⟩
  | row row args =>
   refine ⟨(fun h => absurd h (by simp [Fence.inRound,Fence.wide])),fun c cs _ => ?_⟩
   obtain ⟨v,w2,hr,hst⟩:=h c cs
   exact ⟨v,w2,hr,stepsIn_wide.2 hst⟩
  | _ => exact h.elim
 | halt x w' => cases x <;> exact h
theorem any_roundW {P : Program} {l : Nat} {md : Region.Mode} {ops : Array Oper} {Q : Exit → Act → World → Prop} (hnd : ∀ (i : Nat) (o : Oper),ops[i]? = some o → ∀ c,o.op ≠ .defer c) (hq : ¬ LetsOut Q) :
  ∀ (fuel : Nat) (listed : Array Bool) (a : Act) (w : World),wpAny P md ops Q fuel listed a w → wpAnyIn (Fence.wide.inRound l) 0 P md ops Q fuel listed a w
 | 0,_,_,_,h => h
 | fuel + 1,listed,a,w,h => by
  refine ⟨h.1,fun i hi => ?_⟩
  have h2:=h.2 i hi
  unfold wpOp at h2
  unfold wpOpIn
  cases ho : ops[i]? with
  | none =>
   simp only [ho] at h2 ⊢
   exact any_roundW hnd hq fuel _ _ _ h2
  | some o =>
   simp only [ho] at h2 ⊢
   by_cases hw : Region.wanted o (yielded ops a.tmps) = true
   ·rw [if_pos hw] at h2 ⊢
    rcases h2 with h2 | h2
    ·exact Oper.wpIn_mono (fun a' w' h3 => any_roundW hnd hq fuel _ _ _ h3) (op_roundW (hnd i o ho) h2)
    ·exact absurd h2.2 hq
   ·rw [if_neg hw] at h2 ⊢
    exact ⟨fun _ _ => trivial,any_roundW hnd hq fuel _ _ _ h2⟩
theorem region_held_roundW {P : Program} {l id : Nat} {Q : Exit → Act → World → Prop} {a : Act} {w : World} {ops : List Oper} {S : World → Prop} (hm : P.follows .mixedOrders = true)
  (hnd : ops.all (fun o => match o.op with | .defer _ => false | _ => true) = true) (hq : ¬ LetsOut Q) (hS : S w.drew)
  (h : S w.drew → wpAnyH P .any ops.toArray Q S ops.toArray.size (Array.replicate ops.toArray.size false) a w.drew) : (Code.region id ops.toArray true).wpIn (Fence.wide.inRound l) 0 P Q a w:=by
 refine wpIn_region_any hm (any_roundW (fun i o ho c e => ?_) hq _ _ _ _ (wpAny_of_held _ _ _ _ (h hS)))
 rw [List.all_eq_true] at hnd
 have hmem : o ∈ ops:=by
  rw [List.getElem?_toArray] at ho
  exact List.mem_of_getElem? ho
 have:=hnd o hmem
 rw [e] at this
 cases this
end Go.Proofs.YtkigpbkkhgabeaaGreatDoor
