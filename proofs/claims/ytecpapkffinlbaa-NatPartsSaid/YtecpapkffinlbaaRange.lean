/-
  A law for 'for x := range f' over a function whose rounds never leave early: the iterator's contract may name one block of its own that it turns between the rounds; the caller's invariant abides that. Over any program, no condition beyond what the law names.
-/
import Derived.RangeFuncNested
import Derived.RangeFuncBound
import Derived.RangeFuncCalls
import Derived.RangeFuncLeaves
import Derived.RangeFuncBox
import Derived.Shelf.Abstract
import Derived.WalkKit
import Derived.OwnWalkIn
import Derived.TacticsInMore
import Derived.LoopNIn
import Derived.LoopIn
set_option linter.unusedVariables false
set_option linter.unusedSimpArgs false
namespace Go.Proofs.Ytecpapkffinlbaa
open Go.RowKit

/-- What a round keeps: the blocks that the iterator reads, and its own. -/
structure Kept (keep : Nat → Prop) (r : Option Nat) (A B : World) : Prop where
  size : A.heap.size ≤ B.heap.size
  block : ∀ k, (keep k ∨ r = some k) → B.heap[k]? = A.heap[k]?
theorem Kept.refl (keep : Nat → Prop) (r : Option Nat) (A : World) : Kept keep r A A := ⟨Nat.le_refl _, fun _ _ => rfl⟩
theorem Kept.trans {keep : Nat → Prop} {r : Option Nat} {A B C : World} (h : Kept keep r A B) (k : Kept keep r B C) : Kept keep r A C :=
  ⟨Nat.le_trans h.size k.size, fun i hi => (k.block i hi).trans (h.block i hi)⟩

/-- The contract of an iterator value at a world W: it hands out xs, one behind the other. -/
def Iter {α : Type} (P : Program) (gf : Nat) (lb : Array Value) (encs : α → Array Value) (keep : Nat → Prop) (xs : List α) (W : World) : Prop :=
  ∀ (l : Nat) (J : Option Nat → List α → World → Prop),
    (∀ r pre A B, J r pre A → A.grownBy B r → J r pre B) →
    (∀ r W0, Below W.heap.size W W0 → (∀ k, r = some k → W.heap.size ≤ k ∧ k < W0.heap.size) → J r [] W0) →
    (∀ r pre x rest W1, J r pre W1 → xs = pre ++ x :: rest → YieldAt Fence.wide 0 P l (encs x) W1 fun e W' => e = .returned (.bool true) ∧ J r (pre ++ [x]) W' ∧ Kept keep r W1 W') →
    CallsIn Fence.wide 0 P gf (#[.func (.yield l) #[] #[]] ++ lb) W fun e W' => (∃ v, e = .returned v) ∧ ∃ r, J r xs W'

/-- How the body of a round is left. -/
def roundEnd {α : Type} (keep : Nat → Prop) (I : Option Nat → List α → World → Prop) (r : Option Nat) (xs : List α) (W : World) : Exit → Act → World → Prop
  | .normal, _, W' => KeepsOthers W W' ∧ Kept keep r W W' ∧ I r xs W'
  | _, _, _ => False

theorem only_putObj (W : World) (l : Nat) (o : Obj) : W.grownBy (W.putObj l o) (some l) :=
  ⟨rfl, rfl, rfl, by simp, fun k _ hk => World.putObj_heap_other (fun e => hk (by rw [e]))⟩

theorem range_law {α : Type} {P : Program} {g : Operand} {ps : Array Tmp} {assign body : Code} {Q : Exit → Act → World → Prop} {a : Act} {w : World} {gf : Nat} {lb : Array Value}
    (hg : a.eval g = .func (.func gf) #[] lb) (eg : ∀ args w, (callFunc gf args).run P w = .ok (.enter gf args) w)
    {encs : α → Array Value} {keep : Nat → Prop} {xs : List α} (hit : ∀ W, Below w.heap.size w W → Iter P gf lb encs keep xs W) (hps : ∀ x, (encs x).size = ps.size) (hkeep : ∀ k, keep k → k < w.heap.size)
    (I : Option Nat → List α → World → Prop)
    (hI : ∀ r pre A B row, I r pre A → A.grownBy B row → (∀ k, row = some k → w.heap.size ≤ k ∧ (r = some k ∨ ∃ o : Obj, A.heap[k]? = some o ∧ o.isCells = false)) → I r pre B)
    (h0 : ∀ r W0, Below w.heap.size w W0 → (∀ k, r = some k → w.heap.size ≤ k ∧ k < W0.heap.size) → I r [] W0)
    (hround : ∀ (l : Nat) (r : Option Nat) (pre : List α) (x : α) (rest : List α), xs = pre ++ x :: rest → ∀ (W : World) (K : Act → World → Prop),
      (∀ a₁, (∀ W2, I r pre W2 → w.heap.size + 2 ≤ W2.heap.size → (∀ k, r = some k → w.heap.size + 2 ≤ k ∧ k < W2.heap.size) → body.wpIn (Fence.wide.inRound l) 0 P (roundEnd keep I r (pre ++ [x]) W2) a₁ W2) → K a₁ W) →
      assign.wpIn (Fence.wide.inRound l) 0 P (Exit.then K (fun _ _ _ => False)) { tmps := (ps.zip (encs x)).foldl (fun t (p, v) => t.setIfInBounds p v) a.tmps, defers := [] } W)
    (hdone : ∀ (D : Nat) (r : Option Nat) (W : World), I r xs W → w.heap.size ≤ D → W.heap[D]? = some (.deferred (some [])) → Q .normal { a with defers := { target := .collected D, args := #[] } :: a.defers } W) :
    (Code.rangeFunc g ps assign body).wpIn Fence.wide 0 P Q a w := by
  refine wpIn_rangeFunc fun fn _ => ?_
  obtain ⟨rec, hrec⟩ : ∃ rec : LoopState → Option Code → Loop, rec = fun st pe => { state := st, pending := pe, fn, tmps := a.tmps, params := ps, assign, body, defers := w.heap.size } := ⟨_, rfl⟩
  obtain ⟨W1, hW1⟩ : ∃ W1, (w.alloc (.deferred (some []))).alloc (.loop (rec .ready none)) = W1 := ⟨_, rfl⟩
  have hs1 : W1.heap.size = w.heap.size + 2 := by rw [← hW1]; simp
  have hL1 : W1.heap[w.heap.size + 1]? = some (.loop (rec .ready none)) := by
    rw [← hW1]
    have := World.alloc_heap_new (w.alloc (.deferred (some []))) (.loop (rec .ready none))
    rwa [World.size_alloc] at this
  have hK1 : W1.heap[w.heap.size]? = some (.deferred (some [])) := by
    rw [← hW1]; exact (Below.heap_alloc _ _ _ (by simp)).trans (World.alloc_heap_new w _)
  have hb1 : Below w.heap.size w W1 := by rw [← hW1]; exact ((Below.refl _ w).alloc (Nat.le_refl _) _).alloc (by simp) _
  refine ⟨w.heap.size + 1, [{ target := .collected w.heap.size, args := #[] }], W1, { target := .fn (.func gf) lb, args := #[.func (.yield (w.heap.size + 1)) #[] #[]] }, W1, gf,
    #[.func (.yield (w.heap.size + 1)) #[] #[]] ++ lb, W1, ?_, ?_, (fun _ _ => trivial), ?_, (fun h => absurd h (by decide)), ?_⟩
  · rw [← hW1, hrec]; exact run_enterLoop_outer _ _ _ _ _
  · simp only [resolve, hg]
    simp [go_sem]
  · simp [invoke, go_sem, eg]
  · refine (hit W1 hb1 (w.heap.size + 1)
      (fun r pre W => I r pre W ∧ (∀ k, r = some k → w.heap.size + 2 ≤ k ∧ k < W.heap.size) ∧ W.heap[w.heap.size + 1]? = some (.loop (rec .ready none)) ∧ W.heap[w.heap.size]? = some (.deferred (some []))) ?_ ?_ ?_).mono ?_
    · rintro r pre A B ⟨hi, hr, hl, hk⟩ hgr
      refine ⟨hI r pre A B r hi hgr (fun k e => ⟨by have := hr k e; omega, .inl e⟩), (fun k e => by have := hr k e; have := hgr.size; omega), (hgr.block _ (Array.getElem?_eq_some_iff.1 hl).1 (fun e => ?_)).trans hl, (hgr.block _ (Array.getElem?_eq_some_iff.1 hk).1 (fun e => ?_)).trans hk⟩
      · have := hr _ e.symm; omega
      · have := hr _ e.symm; omega
    · intro r W0 hb hr
      have hsz := hb.size
      refine ⟨h0 r W0 (hb1.trans (hb.mono (by omega))) (fun k e => by have := hr k e; omega), fun k e => by have := hr k e; omega, (hb.block _ (by omega)).trans hL1, (hb.block _ (by omega)).trans hK1⟩
    · rintro r pre x rest W ⟨hi, hr, hl, hk⟩ hx
      have hlt : w.heap.size + 1 < W.heap.size := (Array.getElem?_eq_some_iff.1 hl).1
      have hy := run_yield (P := P) (args := encs x) hl (by rw [hrec]; exact hps x)
      rw [hrec] at hy
      refine ⟨fn, _, assign, body, hy, roundIn_of_wpIn trivial (hround _ r pre x rest hx W _ (fun a₁ hb3 => ⟨_, run_beginRound hl (by rw [hrec]), ?_⟩))⟩
      obtain ⟨W2, hW2⟩ : ∃ W2, W.putObj (w.heap.size + 1) (.loop { rec .ready none with state := .busy }) = W2 := ⟨_, rfl⟩
      have hl2 : W2.heap[w.heap.size + 1]? = some (.loop { rec .ready none with state := .busy }) := by rw [← hW2]; exact World.putObj_heap_same hlt
      have hk2 : W2.heap[w.heap.size]? = some (.deferred (some [])) := by rw [← hW2]; exact (World.putObj_heap_other (by omega)).trans hk
      have hi2 : I r pre W2 := by rw [← hW2]; exact hI r pre _ _ _ hi (only_putObj _ _ _) (fun k e => by injection e with e; subst e; exact ⟨by omega, .inr ⟨_, hl, rfl⟩⟩)
      have hkp : ∀ (A : World) (o : Obj), Kept keep r A (A.putObj (w.heap.size + 1) o) := fun A o =>
        ⟨by simp, fun k hkk => World.putObj_heap_other (by
          rintro rfl
          rcases hkk with h | h
          · have := hkeep _ h; omega
          · have := hr _ h; omega)⟩
      rw [hW2]
      refine wpIn_mono (hb3 W2 hi2 (by have := (Array.getElem?_eq_some_iff.1 hl2).1; omega) (fun k e => by have := hr k e; rw [← hW2]; simpa using this)) ?_
      intro e a3 W3 hp
      cases e with
      | normal =>
        obtain ⟨hk3, hkp3, hi3⟩ := hp
        have hl3 := hk3.same _ _ hl2 rfl
        have hr3 := run_endRound (P := P) none hl3
        refine ⟨_, _, hr3, rfl, ⟨hI r _ _ _ _ hi3 (only_putObj _ _ _) (fun k e => by injection e with e; subst e; exact ⟨by omega, .inr ⟨_, hl3, rfl⟩⟩), (fun k e => by have h5 := hr k e; have h6 := hk3.size; rw [← hW2] at h6; simp at h6 ⊢; omega), ?_, (World.putObj_heap_other (by omega)).trans (hk3.same _ _ hk2 rfl)⟩, ?_⟩
        · rw [World.putObj_heap_same (Array.getElem?_eq_some_iff.1 hl3).1]; simp [hrec]
        · exact ((by rw [← hW2]; exact hkp W _ : Kept keep r W W2).trans hkp3).trans (hkp W3 _)
      | ret => exact hp.elim
      | exit id => exact hp.elim
      | goto t => exact hp.elim
      | panic ch => exact hp.elim
      | outgrown => exact hp.elim
    · rintro e W2 ⟨⟨v, rfl⟩, r, hi, hr, hl, hk⟩
      refine ⟨none, _, by have := run_endLoop (P := P) hl (by rw [hrec]; simp); rw [hrec] at this; exact this, ?_⟩
      exact hdone _ r _ (hI r _ _ _ _ hi (only_putObj _ _ _) (fun k e => by injection e with e; subst e; exact ⟨by omega, .inr ⟨_, hl, rfl⟩⟩)) (Nat.le_refl _) ((World.putObj_heap_other (by omega)).trans hk)
end Go.Proofs.Ytecpapkffinlbaa
