/-
  A region that draws its order, inside a fence, walked with a condition on the worlds that every operation keeps until one is done (a store, at the end): what yields one value in every such world, and must be done ahead of that one, may be taken first. Over any program.
-/
import Derived.Test.YtpmdcahomkdfmaaGreatDoorProg
import Derived.Deep.RegionHeld
import Derived.Deep.RegionWith
import Derived.OrdersIn
import Derived.WalkKit
import Derived.OwnWalkIn
import Derived.TacticsInMore
import Derived.LoopIn
set_option linter.unusedVariables false
set_option linter.unusedSimpArgs false
namespace Go.Proofs.YtpmdcahomkdfmaaGreatDoor
open Go.RowKit

section
variable {F : Fence} {n : Nat} {P : Program} {ops : Array Oper} {Q : Exit → Act → World → Prop} {md : Region.Mode} {S : World → Prop}
/-- An operation does at one activation what it does at another one that it cannot tell from it. -/
theorem wpOpIn_atU {j : Nat} {oj : Oper} {a b : Act} {w : World} {K K' : Act → World → Prop} (hro : F.round = none) (hj : ops[j]? = some oj) (he : execOp b.eval oj = execOp a.eval oj)
    (hwt : Region.wanted oj (yielded ops b.tmps) = Region.wanted oj (yielded ops a.tmps)) (hab : oj.about P w b.eval = oj.about P w a.eval)
    (hK : ∀ u w, K (b.put oj.dst u) w → K' (a.put oj.dst u) w) (hKd : ∀ d w, K ({ b with defers := d :: b.defers }.put oj.dst undef) w → K' ({ a with defers := d :: a.defers }.put oj.dst undef) w)
    (hQ : ∀ c w, Q (.panic c) b w → Q (.panic c) a w) (h : wpOpIn F n P ops Q j K b w) : wpOpIn F n P ops Q j K' a w := by
  unfold wpOpIn at *
  simp only [hj] at *
  rw [hwt, hab] at h
  split
  · rename_i hw
    simp only [hw, if_true] at h
    unfold Oper.wpIn at *
    rw [hab, hro, Oper.semAt_none, he] at h
    rw [hro, Oper.semAt_none]
    refine ⟨h.1, ?_⟩
    have h := h.2
    generalize (execOp a.eval oj).run P w = r at *
    cases r with
    | ok x w' =>
      cases x <;> simp only [Oper.uponIn] at h ⊢
      case value u => exact hK _ _ h
      case skip => exact hK _ _ h
      case defer d => exact hKd _ _ h
      case enter f args => exact ⟨h.1, CallsIn.mono h.2 fun e w2 he2 => by cases e <;> first | exact hK _ _ he2 | exact hQ _ _ he2 | exact he2⟩
      case row row args => exact ⟨h.1, RowsIn.mono h.2 fun u w2 he2 => hK _ _ he2⟩
      case round l f tmps assign body => exact ⟨h.1, RoundIn.mono h.2 fun e w2 he2 => by cases e <;> first | exact hK _ _ he2 | exact hQ _ _ he2 | exact he2⟩
    | halt x w' =>
      cases x <;> simp only [Oper.uponIn] at h ⊢
      case panic u => exact hQ _ _ h
  · rename_i hw
    simp only [hw] at h
    exact ⟨h.1, hK _ _ h.2⟩
/-- It yields v in every world of S. -/
def YldU (P : Program) (ops : Array Oper) (S : World → Prop) (o : Oper) (v : Value) (a : Act) : Prop :=
  Region.wanted o (yielded ops a.tmps) = true ∧ ∀ w, S w → (execOp a.eval o).run P w = .ok (.value v) w ∧ o.about P w a.eval = none
/-- Whatever order is picked; S holds behind every operation ahead of number k. -/
def wpAnyU (F : Fence) (n : Nat) (P : Program) (md : Region.Mode) (ops : Array Oper) (Q : Exit → Act → World → Prop) (S : World → Prop) (k : Nat) : Nat → Array Bool → Act → World → Prop
  | 0, listed, a, w => Region.ready md ops listed = [] ∧ Q .normal a w
  | fuel + 1, listed, a, w => (Region.ready md ops listed = [] → Q .normal a w) ∧
    ∀ i ∈ Region.ready md ops listed, wpOpIn F n P ops Q i (fun a' w' => ((listed.setIfInBounds i true).getD k false = true ∨ S w') ∧ wpAnyU F n P md ops Q S k fuel (listed.setIfInBounds i true) a' w') a w
variable {k : Nat}
theorem wpAnyIn_of_U : ∀ (fuel : Nat) (listed : Array Bool) (a : Act) (w : World), wpAnyU F n P md ops Q S k fuel listed a w → wpAnyIn F n P md ops Q fuel listed a w
  | 0, _, _, _, h => h
  | fuel + 1, _, _, _, h => ⟨h.1, fun i hi => wpOpIn_mono (fun a' w' h' => wpAnyIn_of_U fuel _ a' w' h'.2) (h.2 i hi)⟩
theorem wpAnyU_first {i : Nat} {oi ok : Oper} {v : Value} (hro : F.round = none) (hi : ops[i]? = some oi) (hok : ops[k]? = some ok) (hki : k ≠ i) (hdep : ∃ e ∈ ok.after, Region.binds md e = true ∧ e.on = i) (hsel : ∀ (j : Nat) (o : Oper) cs b, ops[j]? = some o → o.op ≠ .select cs b)
    (hQ : ∀ c a w, Q (.panic c) (a.put oi.dst v) w → Q (.panic c) a w) : ∀ (fuel : Nat) (listed : Array Bool) (a : Act) (w : World),
      (∀ j oj, ops[j]? = some oj → j ≠ i → listed.getD j true = false → (∀ e ∈ oj.after, Region.binds md e = true → e.on ≠ i) → oi.apart ops oj = true) →
      i ∈ Region.ready md ops listed → listed.getD k false = false → YldU P ops S oi v a → S w →
      wpAnyU F n P md ops Q S k fuel (listed.setIfInBounds i true) (a.put oi.dst v) w → wpAnyU F n P md ops Q S k (fuel + 1) listed a w := by
  have own : ∀ (a : Act) (w : World) (K : Act → World → Prop), YldU P ops S oi v a → S w → K (a.put oi.dst v) w → wpOpIn F n P ops Q i K a w := by
    intro a w K hy hS hK
    unfold wpOpIn
    simp only [hi, hy.1, if_true]
    obtain ⟨h1, h2⟩ := hy.2 w hS
    refine ⟨fun f hf => (by rw [h2] at hf; cases hf), ?_⟩
    rw [hro, Oper.semAt_none, h1]
    exact hK
  intro fuel
  induction fuel with
  | zero =>
    intro listed a w _ hr _ hy hS H
    refine ⟨fun h => (by rw [h] at hr; cases hr), fun j hj => ?_⟩
    by_cases hji : j = i
    · subst hji; exact own _ _ _ hy hS ⟨.inr hS, H⟩
    · have := ready_mono hj hji
      rw [H.1] at this
      cases this
  | succ fuel ih =>
    intro listed a w hfree hr hlk hy hS H
    refine ⟨fun h => (by rw [h] at hr; cases hr), fun j hj => ?_⟩
    by_cases hji : j = i
    · subst hji; exact own _ _ _ hy hS ⟨.inr hS, H⟩
    · have h1 := H.2 j (ready_mono hj hji)
      obtain ⟨hjun, oj, hoj, hall⟩ := mem_ready.1 hj
      have h0 := (mem_ready.1 hr).1
      have hnot : ∀ e ∈ oj.after, Region.binds md e = true → e.on ≠ i := fun e he hb heq => by
        have h1 := hall e he hb
        rw [heq] at h1
        rcases Nat.lt_or_ge i listed.size with h' | h'
        · simp [h'] at h0 h1; rw [h0] at h1; cases h1
        · simp [Array.getElem?_eq_none h'] at h1
      have hjk : j ≠ k := fun e => by
        subst e
        obtain ⟨e, he, hb, heq⟩ := hdep
        rw [hok] at hoj
        injection hoj with hoj
        subst hoj
        exact hnot e he hb heq
      have hk2 : ((listed.setIfInBounds i true).setIfInBounds j true).getD k false = false := by
        rw [getD_set_ne false hjk, getD_set_ne false (Ne.symm hki)]; exact hlk
      have hk3 : (listed.setIfInBounds j true).getD k false = false := by rw [getD_set_ne false hjk]; exact hlk
      obtain ⟨p1, p2, p3⟩ := Oper.apart_spec (hfree j oj hoj hji hjun hnot)
      have hy2 : ∀ (b : Act), YldU P ops S oi v b → ∀ u, YldU P ops S oi v (b.put oj.dst u) := fun b hb u => by
        refine ⟨?_, fun W hW => ?_⟩
        · rw [wanted_put oi b oj.dst u p3]; exact hb.1
        · rw [execOp_put oi (fun cs c => hsel i oi cs c hi) b oj.dst u p3, about_put oi W b oj.dst u p3]; exact hb.2 W hW
      have go : ∀ (b : Act) (W : World), YldU P ops S oi v b → (((listed.setIfInBounds i true).setIfInBounds j true).getD k false = true ∨ S W) ∧ wpAnyU F n P md ops Q S k fuel ((listed.setIfInBounds i true).setIfInBounds j true) (b.put oi.dst v) W → ((listed.setIfInBounds j true).getD k false = true ∨ S W) ∧ wpAnyU F n P md ops Q S k (fuel + 1) (listed.setIfInBounds j true) b W := fun b W hb h3 => by
        have hSW : S W := by
          rcases h3.1 with h | h
          · rw [hk2] at h; cases h
          · exact h
        refine ⟨.inr hSW, ih _ b W (fun q oq hq hqi hun hno => ?_) (ready_mono hr (Ne.symm hji)) hk3 hb hSW ?_⟩
        · refine hfree q oq hq hqi ?_ hno
          by_cases hjq : j = q
          · subst hjq; exact hjun
          · rw [getD_set_ne true hjq] at hun; exact hun
        · rw [Array.setIfInBounds_comm _ _ hji]; exact h3.2
      refine wpOpIn_atU hro hoj (execOp_put oj (fun cs c => hsel j oj cs c hoj) a oi.dst v p1) (wanted_put oj a oi.dst v p1) (about_put oj w a oi.dst v p1) (fun u W h3 => go _ _ (hy2 a hy u) ?_) (fun d W h3 => go _ _ (hy2 { a with defers := d :: a.defers } ⟨hy.1, hy.2⟩ undef) ?_) (fun c W h3 => hQ _ _ _ h3) h1
      · rw [← Act.put_comm a v u p2]; exact h3
      · rw [← Act.put_comm _ v undef p2, ← Act.put_defers]; exact h3
theorem wpAnyU_take {i : Nat} {oi ok : Oper} {v : Value} {fuel : Nat} {listed : Array Bool} {a : Act} {w : World} (hro : F.round = none) (hi : ops[i]? = some oi) (hok : ops[k]? = some ok) (hki : k ≠ i) (hdep : (ok.after.any fun e => Region.binds md e && (e.on == i)) = true)
    (hs : Region.noSelect ops = true) (hf : Region.free md ops listed i = true) (hr : (Region.ready md ops listed).contains i = true) (hlk : listed.getD k false = false)
    (hQ : ∀ c a w, Q (.panic c) (a.put oi.dst v) w → Q (.panic c) a w) (hy : YldU P ops S oi v a) (hS : S w)
    (h : wpAnyU F n P md ops Q S k fuel (listed.setIfInBounds i true) (a.put oi.dst v) w) : wpAnyU F n P md ops Q S k (fuel + 1) listed a w := by
  refine wpAnyU_first hro hi hok hki ?_ (Region.noSelect_spec hs) hQ fuel listed a w (Region.free_spec hi hf) (by simpa using hr) hlk hy hS h
  rw [Array.any_eq_true] at hdep
  obtain ⟨q, hq, h2⟩ := hdep
  rw [Bool.and_eq_true, beq_iff_eq] at h2
  exact ⟨_, Array.getElem_mem hq, h2.1, h2.2⟩
theorem wpAnyU_done {listed : Array Bool} {a : Act} {w : World} (hr : Region.ready md ops listed = []) (h : Q .normal a w) : ∀ fuel, wpAnyU F n P md ops Q S k fuel listed a w
  | 0 => ⟨hr, h⟩
  | _ + 1 => ⟨fun _ => h, by rw [hr]; simp⟩
/-- One of those that may come up is walked. -/
def StepU (F : Fence) (n : Nat) (P : Program) (md : Region.Mode) (ops : Array Oper) (Q : Exit → Act → World → Prop) (S : World → Prop) (k fuel : Nat) (listed : Array Bool) (a : Act) (w : World) (i : Nat) : Prop :=
  wpOpIn F n P ops Q i (fun a' w' => ((listed.setIfInBounds i true).getD k false = true ∨ S w') ∧ wpAnyU F n P md ops Q S k fuel (listed.setIfInBounds i true) a' w') a w
theorem StepU.of {i : Nat} {o : Oper} {fuel : Nat} {listed : Array Bool} {a : Act} {w : World} (ho : ops[i]? = some o) (hw : Region.wanted o (yielded ops a.tmps) = true)
    (h : ∀ K : Act → World → Prop, (∀ a w, ((listed.setIfInBounds i true).getD k false = true ∨ S w) → wpAnyU F n P md ops Q S k fuel (listed.setIfInBounds i true) a w → K a w) → Oper.wpIn F n P o a w K Q) : StepU F n P md ops Q S k fuel listed a w i := by
  unfold StepU wpOpIn
  simp only [ho, hw, if_true]
  exact h _ (fun a w h1 h2 => ⟨h1, h2⟩)
theorem wpAnyU_one {i : Nat} {fuel : Nat} {listed : Array Bool} {a : Act} {w : World} (hr : Region.ready md ops listed = [i]) (h : StepU F n P md ops Q S k fuel listed a w i) : wpAnyU F n P md ops Q S k (fuel + 1) listed a w :=
  ⟨fun h0 => (by rw [h0] at hr; cases hr), fun j hj => by
    rw [hr] at hj
    obtain rfl : j = i := by simpa using hj
    exact h⟩
theorem wpAnyU_two {i j : Nat} {fuel : Nat} {listed : Array Bool} {a : Act} {w : World} (hr : Region.ready md ops listed = [i, j]) (h : StepU F n P md ops Q S k fuel listed a w i) (h2 : StepU F n P md ops Q S k fuel listed a w j) : wpAnyU F n P md ops Q S k (fuel + 1) listed a w :=
  ⟨fun h0 => (by rw [h0] at hr; cases hr), fun q hq => by
    rw [hr] at hq
    rcases List.mem_cons.1 hq with rfl | hq
    · exact h
    · obtain rfl : q = j := by simpa using hq
      exact h2⟩
theorem region_U {id : Nat} {a : Act} {w : World} (hm : P.follows .mixedOrders = true) (S : World → Prop) (k : Nat)
    (h : wpAnyU F n P .any ops Q S k ops.size (Array.replicate ops.size false) a w.drew) : (Code.region id ops true).wpIn F n P Q a w := wpIn_region_any hm (wpAnyIn_of_U _ _ _ _ h)
end
end Go.Proofs.YtpmdcahomkdfmaaGreatDoor
