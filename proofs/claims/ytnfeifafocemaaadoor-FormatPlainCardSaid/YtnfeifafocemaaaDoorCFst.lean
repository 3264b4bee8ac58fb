/-
  The law of a range over a function whose rounds may leave early, where what the iterator reads stays also when they leave. Over any program.
-/
import Derived.Test.YtnfeifafocemaaaDoorCFsh
set_option linter.unusedVariables false
set_option linter.unusedSimpArgs false
namespace Go.Proofs.YtnfeifafocemaaaDoor
open Go.RowKit

/-- The contract of an iterator value at a world W: it hands out xs, one behind the other, till a round leaves. -/
def IterK {α : Type} (P : Program) (gf : Nat) (lb : Array Value) (encs : α → Array Value) (keep : Nat → Prop) (RP : (Nat → Prop) → Prop) (xs : List α) (W : World) : Prop :=
  ∀ (l : Nat) (J Jx : (Nat → Prop) → List α → World → Prop),
    (∀ R pre A B, J R pre A → Below A.heap.size A B → J R pre B) →
    (∀ R pre A B, Jx R pre A → Below A.heap.size A B → Jx R pre B) →
    (∀ R W0, RP R → Below W.heap.size W W0 → (∀ k, R k → W.heap.size ≤ k ∧ k < W0.heap.size) → J R [] W0) →
    (∀ R pre x rest W1, J R pre W1 → xs = pre ++ x :: rest → YieldAt Fence.wide 0 P l (encs x) W1 fun e W' => (e = .returned (.bool true) ∧ J R (pre ++ [x]) W' ∧ KeptS keep R W1 W') ∨ (e = .returned (.bool false) ∧ Jx R (pre ++ [x]) W' ∧ KeptS keep R W1 W')) →
    CallsIn Fence.wide 0 P gf (#[.func (.yield l) #[] #[]] ++ lb) W fun e W' => (∃ v, e = .returned v) ∧ ∃ R, J R xs W' ∨ ∃ pre, Jx R pre W'

/-- How the body of a round is left. -/
def roundEndK {α : Type} (keep : Nat → Prop) (I : (Nat → Prop) → List α → World → Prop) (Ix : Code → (Nat → Prop) → List α → World → Prop) (R : Nat → Prop) (xs : List α) (W : World) : Exit → Act → World → Prop
  | .normal, _, W' => KeepsOthers W W' ∧ KeptS keep R W W' ∧ I R xs W'
  | .ret, _, W' => KeepsOthers W W' ∧ KeptS keep R W W' ∧ Ix .ret R xs W'
  | .exit id, _, W' => KeepsOthers W W' ∧ KeptS keep R W W' ∧ Ix (.exit id) R xs W'
  | .goto t, _, W' => KeepsOthers W W' ∧ KeptS keep R W W' ∧ Ix (.goto t) R xs W'
  | .panic _, _, _ => False
  | .outgrown, _, _ => False

theorem range_law_k {α : Type} {P : Program} {g : Operand} {ps : Array Tmp} {assign body : Code} {Q : Exit → Act → World → Prop} {a : Act} {w : World} {gf : Nat} {lb : Array Value}
    (hg : a.eval g = .func (.func gf) #[] lb) (eg : ∀ args w, (callFunc gf args).run P w = .ok (.enter gf args) w)
    {encs : α → Array Value} {keep : Nat → Prop} {RP : (Nat → Prop) → Prop} {xs : List α} (hit : ∀ W, Below w.heap.size w W → IterK P gf lb encs keep RP xs W) (hps : ∀ x, (encs x).size = ps.size) (hkeep : ∀ k, keep k → k < w.heap.size)
    (I : (Nat → Prop) → List α → World → Prop) (Ix : Code → (Nat → Prop) → List α → World → Prop)
    (hI : ∀ R pre A B row, I R pre A → A.grownBy B row → (∀ k, row = some k → w.heap.size ≤ k ∧ ∃ o : Obj, A.heap[k]? = some o ∧ o.isCells = false) → I R pre B)
    (hIx : ∀ c R pre A B row, Ix c R pre A → A.grownBy B row → (∀ k, row = some k → w.heap.size ≤ k ∧ ∃ o : Obj, A.heap[k]? = some o ∧ o.isCells = false) → Ix c R pre B)
    (h0 : ∀ R W0, RP R → Below w.heap.size w W0 → (∀ k, R k → w.heap.size ≤ k ∧ k < W0.heap.size) → I R [] W0)
    (hround : ∀ (l : Nat) (R : Nat → Prop) (pre : List α) (x : α) (rest : List α), xs = pre ++ x :: rest → ∀ (W : World) (K : Act → World → Prop),
      (∀ a₁, (∀ W2, I R pre W2 → w.heap.size + 2 ≤ W2.heap.size → (∀ k, R k → w.heap.size + 2 ≤ k ∧ k < W2.heap.size) → body.wpIn (Fence.wide.inRound l) 0 P (roundEndK keep I Ix R (pre ++ [x]) W2) a₁ W2) → K a₁ W) →
      assign.wpIn (Fence.wide.inRound l) 0 P (Exit.then K (fun _ _ _ => False)) { tmps := (ps.zip (encs x)).foldl (fun t (p, v) => t.setIfInBounds p v) a.tmps, defers := [] } W)
    (hdone : ∀ (D : Nat) (R : Nat → Prop) (W : World), I R xs W → w.heap.size ≤ D → W.heap[D]? = some (.deferred (some [])) → Q .normal { a with defers := { target := .collected D, args := #[] } :: a.defers } W)
    (hstop : ∀ (D : Nat) (c : Code) (R : Nat → Prop) (pre : List α) (W : World), Ix c R pre W → w.heap.size ≤ D → W.heap[D]? = some (.deferred (some [])) → c.wpIn Fence.wide 0 P Q { a with defers := { target := .collected D, args := #[] } :: a.defers } W) :
    (Code.rangeFunc g ps assign body).wpIn Fence.wide 0 P Q a w := by
  refine wpIn_rangeFunc fun fn _ => ?_
  obtain ⟨rec, hrec⟩ : ∃ rec : LoopState → Option Code → Loop, rec = fun st pe => { state := st, pending := pe, fn, tmps := a.tmps, params := ps, assign, body, defers := w.heap.size } := ⟨_, rfl⟩
  obtain ⟨W1, hW1⟩ : ∃ W1, (w.alloc (.deferred (some []))).alloc (.loop (rec .ready none)) = W1 := ⟨_, rfl⟩
  have hs1 : W1.heap.size = w.heap.size + 2 := by rw [← hW1]; simp
  have hL1 : W1.heap[w.heap.size + 1]? = some (.loop (rec .ready none)) := by
    rw [← hW1]
    have := World.alloc_heap_new (w.alloc (.deferred (some []))) (.loop (rec .ready none))
    rwa [World.size_alloc] at this
  have hK1 : W1.heap[w.heap.size]? = some (.deferred (some [])) := by
    rw [← hW1]; exact (Below.heap_alloc _ _ _ (by simp)).trans (World.alloc_heap_new w _)
  have hb1 : Below w.heap.size w W1 := by rw [← hW1]; exact ((Below.refl _ w).alloc (Nat.le_refl _) _).alloc (by simp) _
  refine ⟨w.heap.size + 1, [{ target := .collected w.heap.size, args := #[] }], W1, { target := .fn (.func gf) lb, args := #[.func (.yield (w.heap.size + 1)) #[] #[]] }, W1, gf,
    #[.func (.yield (w.heap.size + 1)) #[] #[]] ++ lb, W1, ?_, ?_, (fun _ _ => trivial), ?_, (fun h => absurd h (by decide)), ?_⟩
  · rw [← hW1, hrec]; exact run_enterLoop_outer _ _ _ _ _
  · simp only [resolve, hg]
    simp [go_sem]
  · simp [invoke, go_sem, eg]
  · have nocells : ∀ (A : World) (k : Nat) (o : Obj), A.heap[k]? = some o → o.isCells = false → w.heap.size ≤ k → ∀ j, some k = some j → w.heap.size ≤ j ∧ ∃ o : Obj, A.heap[j]? = some o ∧ o.isCells = false := fun A k o h1 h2 h3 j e => by injection e with e; subst e; exact ⟨h3, o, h1, h2⟩
    refine (hit W1 hb1 (w.heap.size + 1)
      (fun R pre W => I R pre W ∧ (∀ k, R k → w.heap.size + 2 ≤ k ∧ k < W.heap.size) ∧ W.heap[w.heap.size + 1]? = some (.loop (rec .ready none)) ∧ W.heap[w.heap.size]? = some (.deferred (some [])))
      (fun R pre W => ∃ c, Ix c R pre W ∧ W.heap[w.heap.size + 1]? = some (.loop (rec .done (some c))) ∧ W.heap[w.heap.size]? = some (.deferred (some []))) ?_ ?_ ?_ ?_).mono ?_
    · rintro R pre A B ⟨hi, hr, hl, hk⟩ hb
      refine ⟨hI R pre A B none hi (below_grew hb) (fun k e => by cases e), (fun k e => by have := hr k e; have := hb.size; omega), (hb.block _ (Array.getElem?_eq_some_iff.1 hl).1).trans hl, (hb.block _ (Array.getElem?_eq_some_iff.1 hk).1).trans hk⟩
    · rintro R pre A B ⟨c, hi, hl, hk⟩ hb
      exact ⟨c, hIx c R pre A B none hi (below_grew hb) (fun k e => by cases e), (hb.block _ (Array.getElem?_eq_some_iff.1 hl).1).trans hl, (hb.block _ (Array.getElem?_eq_some_iff.1 hk).1).trans hk⟩
    · intro R W0 hrp hb hr
      have hsz := hb.size
      refine ⟨h0 R W0 hrp (hb1.trans (hb.mono (by omega))) (fun k e => by have := hr k e; omega), fun k e => by have := hr k e; omega, (hb.block _ (by omega)).trans hL1, (hb.block _ (by omega)).trans hK1⟩
    · rintro R pre x rest W ⟨hi, hr, hl, hk⟩ hx
      have hlt : w.heap.size + 1 < W.heap.size := (Array.getElem?_eq_some_iff.1 hl).1
      have hy := run_yield (P := P) (args := encs x) hl (by rw [hrec]; exact hps x)
      rw [hrec] at hy
      refine ⟨fn, _, assign, body, hy, roundIn_of_wpIn trivial (hround _ R pre x rest hx W _ (fun a₁ hb3 => ⟨_, run_beginRound hl (by rw [hrec]), ?_⟩))⟩
      obtain ⟨W2, hW2⟩ : ∃ W2, W.putObj (w.heap.size + 1) (.loop { rec .ready none with state := .busy }) = W2 := ⟨_, rfl⟩
      have hl2 : W2.heap[w.heap.size + 1]? = some (.loop { rec .ready none with state := .busy }) := by rw [← hW2]; exact World.putObj_heap_same hlt
      have hk2 : W2.heap[w.heap.size]? = some (.deferred (some [])) := by rw [← hW2]; exact (World.putObj_heap_other (by omega)).trans hk
      have hi2 : I R pre W2 := by rw [← hW2]; exact hI R pre _ _ _ hi (only_putS _ _ _) (nocells _ _ _ hl rfl (by omega))
      have hkp : ∀ (A : World) (o : Obj), KeptS keep R A (A.putObj (w.heap.size + 1) o) := fun A o =>
        ⟨by simp, fun k hkk => World.putObj_heap_other (by
          rintro rfl
          rcases hkk with h | h
          · have := hkeep _ h; omega
          · have := hr _ h; omega)⟩
      have hsz2 : W2.heap.size = W.heap.size := by rw [← hW2]; simp
      rw [hW2]
      refine wpIn_mono (hb3 W2 hi2 (by have := (Array.getElem?_eq_some_iff.1 hl2).1; omega) (fun k e => by have := hr k e; omega)) ?_
      have fin : ∀ (jump : Option Code) (W3 : World), KeepsOthers W2 W3 →
          (Instr.endRound (w.heap.size + 1) jump).run P W3 = .ok (.bool jump.isNone) (W3.putObj (w.heap.size + 1) (.loop (rec (if jump.isNone then .ready else .done) jump))) ∧
          W3.heap[w.heap.size + 1]? = some (.loop { rec .ready none with state := .busy }) ∧
          (W3.putObj (w.heap.size + 1) (.loop (rec (if jump.isNone then .ready else .done) jump))).heap[w.heap.size + 1]? = some (.loop (rec (if jump.isNone then .ready else .done) jump)) ∧
          (W3.putObj (w.heap.size + 1) (.loop (rec (if jump.isNone then .ready else .done) jump))).heap[w.heap.size]? = some (.deferred (some [])) := fun jump W3 hk3 => by
        have hl3 := hk3.same _ _ hl2 rfl
        have := run_endRound (P := P) jump hl3
        rw [hrec] at this ⊢
        exact ⟨this, by rw [hrec] at hl3; exact hl3, World.putObj_heap_same (Array.getElem?_eq_some_iff.1 hl3).1, (World.putObj_heap_other (by omega)).trans (hk3.same _ _ hk2 rfl)⟩
      intro e a3 W3 hp
      cases e with
      | normal =>
        obtain ⟨hk3, hkp3, hi3⟩ := hp
        obtain ⟨hr3, hl3, hl4, hk4⟩ := fin none W3 hk3
        refine ⟨_, _, hr3, .inl ⟨rfl, ⟨hI R _ _ _ _ hi3 (only_putS _ _ _) (nocells _ _ _ hl3 rfl (by omega)), (fun k e => by have h5 := hr k e; have h6 := hk3.size; simp; omega), hl4, hk4⟩, ?_⟩⟩
        exact ((by rw [← hW2]; exact hkp W _ : KeptS keep R W W2).trans hkp3).trans (hkp W3 _)
      | ret =>
        obtain ⟨hk3, hkp3, hi3⟩ := hp
        obtain ⟨hr3, hl3, hl4, hk4⟩ := fin (some .ret) W3 hk3
        exact ⟨_, _, hr3, .inr ⟨rfl, ⟨.ret, hIx _ R _ _ _ _ hi3 (only_putS _ _ _) (nocells _ _ _ hl3 rfl (by omega)), hl4, hk4⟩, ((by rw [← hW2]; exact hkp W _ : KeptS keep R W W2).trans hkp3).trans (hkp W3 _)⟩⟩
      | exit id =>
        obtain ⟨hk3, hkp3, hi3⟩ := hp
        obtain ⟨hr3, hl3, hl4, hk4⟩ := fin (some (.exit id)) W3 hk3
        exact ⟨_, _, hr3, .inr ⟨rfl, ⟨.exit id, hIx _ R _ _ _ _ hi3 (only_putS _ _ _) (nocells _ _ _ hl3 rfl (by omega)), hl4, hk4⟩, ((by rw [← hW2]; exact hkp W _ : KeptS keep R W W2).trans hkp3).trans (hkp W3 _)⟩⟩
      | goto t =>
        obtain ⟨hk3, hkp3, hi3⟩ := hp
        obtain ⟨hr3, hl3, hl4, hk4⟩ := fin (some (.goto t)) W3 hk3
        exact ⟨_, _, hr3, .inr ⟨rfl, ⟨.goto t, hIx _ R _ _ _ _ hi3 (only_putS _ _ _) (nocells _ _ _ hl3 rfl (by omega)), hl4, hk4⟩, ((by rw [← hW2]; exact hkp W _ : KeptS keep R W W2).trans hkp3).trans (hkp W3 _)⟩⟩
      | panic ch => exact hp.elim
      | outgrown => exact hp.elim
    · rintro e W2 ⟨⟨v, rfl⟩, R, ⟨hi, hr, hl, hk⟩ | ⟨pre, c, hi, hl, hk⟩⟩
      · refine ⟨none, _, by have := run_endLoop (P := P) hl (by rw [hrec]; simp); rw [hrec] at this; exact this, ?_⟩
        exact hdone _ R _ (hI R _ _ _ _ hi (only_putS _ _ _) (nocells _ _ _ hl rfl (by omega))) (Nat.le_refl _) ((World.putObj_heap_other (by omega)).trans hk)
      · refine ⟨some c, _, by have := run_endLoop (P := P) hl (by rw [hrec]; simp); rw [hrec] at this; exact this, ?_⟩
        exact hstop _ c R pre _ (hIx c R _ _ _ _ hi (only_putS _ _ _) (nocells _ _ _ hl rfl (by omega))) (Nat.le_refl _) ((World.putObj_heap_other (by omega)).trans hk)
end Go.Proofs.YtnfeifafocemaaaDoor
