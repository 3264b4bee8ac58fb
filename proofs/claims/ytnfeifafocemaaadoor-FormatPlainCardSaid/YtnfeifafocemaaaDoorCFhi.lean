/-
  A region that draws its order, inside a fence, walked with a condition on the worlds that every operation keeps: what yields one value in every such world may be taken first. Over any program.
-/
import Derived.Test.YtnfeifafocemaaaDoorCFsh
import Derived.Deep.RegionHeld
set_option linter.unusedVariables false
set_option linter.unusedSimpArgs false
namespace Go.Proofs.YtnfeifafocemaaaDoor
open Go.RowKit Go.Lib

section
variable {F : Fence} {n : Nat} {P : Program} {ops : Array Oper} {Q : Exit → Act → World → Prop} {md : Region.Mode} {S : World → Prop}
/-- An operation does at one activation what it does at another one that it cannot tell from it. -/
theorem wpOpIn_at {j : Nat} {oj : Oper} {a b : Act} {w : World} {K K' : Act → World → Prop} (hro : F.round = none) (hj : ops[j]? = some oj) (he : execOp b.eval oj = execOp a.eval oj)
    (hwt : Region.wanted oj (yielded ops b.tmps) = Region.wanted oj (yielded ops a.tmps)) (hab : oj.about P w b.eval = oj.about P w a.eval)
    (hK : ∀ u w, K (b.put oj.dst u) w → K' (a.put oj.dst u) w) (hKd : ∀ d w, K ({ b with defers := d :: b.defers }.put oj.dst undef) w → K' ({ a with defers := d :: a.defers }.put oj.dst undef) w)
    (hQ : ∀ c w, Q (.panic c) b w → Q (.panic c) a w) (h : wpOpIn F n P ops Q j K b w) : wpOpIn F n P ops Q j K' a w := by
  unfold wpOpIn at *
  simp only [hj] at *
  rw [hwt, hab] at h
  split
  · rename_i hw
    simp only [hw, if_true] at h
    unfold Oper.wpIn at *
    rw [hab, hro, Oper.semAt_none, he] at h
    rw [hro, Oper.semAt_none]
    refine ⟨h.1, ?_⟩
    have h := h.2
    generalize (execOp a.eval oj).run P w = r at *
    cases r with
    | ok x w' =>
      cases x <;> simp only [Oper.uponIn] at h ⊢
      case value u => exact hK _ _ h
      case skip => exact hK _ _ h
      case defer d => exact hKd _ _ h
      case enter f args => exact ⟨h.1, CallsIn.mono h.2 fun e w2 he2 => by cases e <;> first | exact hK _ _ he2 | exact hQ _ _ he2 | exact he2⟩
      case row row args => exact ⟨h.1, RowsIn.mono h.2 fun u w2 he2 => hK _ _ he2⟩
      case round l f tmps assign body => exact ⟨h.1, RoundIn.mono h.2 fun e w2 he2 => by cases e <;> first | exact hK _ _ he2 | exact hQ _ _ he2 | exact he2⟩
    | halt x w' =>
      cases x <;> simp only [Oper.uponIn] at h ⊢
      case panic u => exact hQ _ _ h
  · rename_i hw
    simp only [hw] at h
    exact ⟨h.1, hK _ _ h.2⟩
/-- It yields v in every world of S. -/
def YldS (P : Program) (ops : Array Oper) (S : World → Prop) (o : Oper) (v : Value) (a : Act) : Prop :=
  Region.wanted o (yielded ops a.tmps) = true ∧ ∀ w, S w → (execOp a.eval o).run P w = .ok (.value v) w ∧ o.about P w a.eval = none
/-- Whatever order is picked; S holds behind every operation. -/
def wpAnyS (F : Fence) (n : Nat) (P : Program) (md : Region.Mode) (ops : Array Oper) (Q : Exit → Act → World → Prop) (S : World → Prop) : Nat → Array Bool → Act → World → Prop
  | 0, listed, a, w => Region.ready md ops listed = [] ∧ Q .normal a w
  | fuel + 1, listed, a, w => (Region.ready md ops listed = [] → Q .normal a w) ∧
    ∀ i ∈ Region.ready md ops listed, wpOpIn F n P ops Q i (fun a' w' => S w' ∧ wpAnyS F n P md ops Q S fuel (listed.setIfInBounds i true) a' w') a w
theorem wpAnyIn_of_S : ∀ (fuel : Nat) (listed : Array Bool) (a : Act) (w : World), wpAnyS F n P md ops Q S fuel listed a w → wpAnyIn F n P md ops Q fuel listed a w
  | 0, _, _, _, h => h
  | fuel + 1, _, _, _, h => ⟨h.1, fun i hi => wpOpIn_mono (fun a' w' h' => wpAnyIn_of_S fuel _ a' w' h'.2) (h.2 i hi)⟩
theorem wpAnyS_first {i : Nat} {oi : Oper} {v : Value} (hro : F.round = none) (hi : ops[i]? = some oi) (hsel : ∀ (j : Nat) (o : Oper) cs b, ops[j]? = some o → o.op ≠ .select cs b)
    (hQ : ∀ c a w, Q (.panic c) (a.put oi.dst v) w → Q (.panic c) a w) : ∀ (fuel : Nat) (listed : Array Bool) (a : Act) (w : World),
      (∀ j oj, ops[j]? = some oj → j ≠ i → listed.getD j true = false → (∀ e ∈ oj.after, Region.binds md e = true → e.on ≠ i) → oi.apart ops oj = true) →
      i ∈ Region.ready md ops listed → YldS P ops S oi v a → S w →
      wpAnyS F n P md ops Q S fuel (listed.setIfInBounds i true) (a.put oi.dst v) w → wpAnyS F n P md ops Q S (fuel + 1) listed a w := by
  have own : ∀ (a : Act) (w : World) (K : Act → World → Prop), YldS P ops S oi v a → S w → K (a.put oi.dst v) w → wpOpIn F n P ops Q i K a w := by
    intro a w K hy hS hK
    unfold wpOpIn
    simp only [hi, hy.1, if_true]
    obtain ⟨h1, h2⟩ := hy.2 w hS
    refine ⟨fun f hf => (by rw [h2] at hf; cases hf), ?_⟩
    rw [hro, Oper.semAt_none, h1]
    exact hK
  intro fuel
  induction fuel with
  | zero =>
    intro listed a w _ hr hy hS H
    refine ⟨fun h => (by rw [h] at hr; cases hr), fun j hj => ?_⟩
    by_cases hji : j = i
    · subst hji; exact own _ _ _ hy hS ⟨hS, H⟩
    · have := ready_mono hj hji
      rw [H.1] at this
      cases this
  | succ fuel ih =>
    intro listed a w hfree hr hy hS H
    refine ⟨fun h => (by rw [h] at hr; cases hr), fun j hj => ?_⟩
    by_cases hji : j = i
    · subst hji; exact own _ _ _ hy hS ⟨hS, H⟩
    · have h1 := H.2 j (ready_mono hj hji)
      obtain ⟨hjun, oj, hoj, hall⟩ := mem_ready.1 hj
      have hnot : ∀ e ∈ oj.after, Region.binds md e = true → e.on ≠ i := fun e he hb heq => by
        have h1 := hall e he hb
        have h0 := (mem_ready.1 hr).1
        rw [heq] at h1
        rcases Nat.lt_or_ge i listed.size with h' | h'
        · simp [h'] at h0 h1; rw [h0] at h1; cases h1
        · simp [Array.getElem?_eq_none h'] at h1
      obtain ⟨p1, p2, p3⟩ := Oper.apart_spec (hfree j oj hoj hji hjun hnot)
      have hy2 : ∀ (b : Act), YldS P ops S oi v b → ∀ u, YldS P ops S oi v (b.put oj.dst u) := fun b hb u => by
        refine ⟨?_, fun W hW => ?_⟩
        · rw [wanted_put oi b oj.dst u p3]; exact hb.1
        · rw [execOp_put oi (fun cs c => hsel i oi cs c hi) b oj.dst u p3, about_put oi W b oj.dst u p3]; exact hb.2 W hW
      have go : ∀ (b : Act) (W : World), YldS P ops S oi v b → S W ∧ wpAnyS F n P md ops Q S fuel ((listed.setIfInBounds i true).setIfInBounds j true) (b.put oi.dst v) W → S W ∧ wpAnyS F n P md ops Q S (fuel + 1) (listed.setIfInBounds j true) b W := fun b W hb h3 => by
        refine ⟨h3.1, ih _ b W (fun k ok hk hki hun hno => ?_) (ready_mono hr (Ne.symm hji)) hb h3.1 ?_⟩
        · refine hfree k ok hk hki ?_ hno
          by_cases hjk : j = k
          · subst hjk; exact hjun
          · rw [getD_set_ne true hjk] at hun; exact hun
        · rw [Array.setIfInBounds_comm _ _ hji]; exact h3.2
      refine wpOpIn_at hro hoj (execOp_put oj (fun cs c => hsel j oj cs c hoj) a oi.dst v p1) (wanted_put oj a oi.dst v p1) (about_put oj w a oi.dst v p1) (fun u W h3 => go _ _ (hy2 a hy u) ?_) (fun d W h3 => go _ _ (hy2 { a with defers := d :: a.defers } ⟨hy.1, hy.2⟩ undef) ?_) (fun c W h3 => hQ _ _ _ h3) h1
      · rw [← Act.put_comm a v u p2]; exact h3
      · rw [← Act.put_comm _ v undef p2, ← Act.put_defers]; exact h3
theorem wpAnyS_take {i : Nat} {oi : Oper} {v : Value} {fuel : Nat} {listed : Array Bool} {a : Act} {w : World} (hro : F.round = none) (hi : ops[i]? = some oi)
    (hs : Region.noSelect ops = true) (hf : Region.free md ops listed i = true) (hr : (Region.ready md ops listed).contains i = true)
    (hQ : ∀ c a w, Q (.panic c) (a.put oi.dst v) w → Q (.panic c) a w) (hy : YldS P ops S oi v a) (hS : S w)
    (h : wpAnyS F n P md ops Q S fuel (listed.setIfInBounds i true) (a.put oi.dst v) w) : wpAnyS F n P md ops Q S (fuel + 1) listed a w :=
  wpAnyS_first hro hi (Region.noSelect_spec hs) hQ fuel listed a w (Region.free_spec hi hf) (by simpa using hr) hy hS h
theorem wpAnyS_done {listed : Array Bool} {a : Act} {w : World} (hr : Region.ready md ops listed = []) (h : Q .normal a w) : ∀ fuel, wpAnyS F n P md ops Q S fuel listed a w
  | 0 => ⟨hr, h⟩
  | _ + 1 => ⟨fun _ => h, by rw [hr]; simp⟩
/-- Where one alone may come up: it is walked. -/
theorem wpAnyS_one {i : Nat} {o : Oper} {fuel : Nat} {listed : Array Bool} {a : Act} {w : World} (hr : Region.ready md ops listed = [i]) (ho : ops[i]? = some o) (hw : Region.wanted o (yielded ops a.tmps) = true)
    (h : ∀ K : Act → World → Prop, (∀ a w, S w → wpAnyS F n P md ops Q S fuel (listed.setIfInBounds i true) a w → K a w) → Oper.wpIn F n P o a w K Q) : wpAnyS F n P md ops Q S (fuel + 1) listed a w :=
  ⟨fun h0 => (by rw [h0] at hr; cases hr), fun j hj => by
    rw [hr] at hj
    obtain rfl : j = i := by simpa using hj
    unfold wpOpIn
    simp only [ho, hw, if_true]
    exact h _ (fun a w h1 h2 => ⟨h1, h2⟩)⟩
theorem region_S {id : Nat} {a : Act} {w : World} (hm : P.follows .mixedOrders = true) (S : World → Prop)
    (h : wpAnyS F n P .any ops Q S ops.size (Array.replicate ops.size false) a w.drew) : (Code.region id ops true).wpIn F n P Q a w := wpIn_region_any hm (wpAnyIn_of_S _ _ _ _ h)
end
end Go.Proofs.YtnfeifafocemaaaDoor
