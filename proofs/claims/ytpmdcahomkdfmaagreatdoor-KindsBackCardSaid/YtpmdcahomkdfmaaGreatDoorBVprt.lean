/-
  What the functions of value say of trees: the parts of a value one behind the other, which value may be, and how two stand to each other. Pure, no program.
  A law for 'for x := range f' over a function whose rounds may leave early: a round keeps all blocks but a set that the caller names, so the iterator may make blocks as it goes; how an element is handed over is a relation. Over any program, no condition beyond what the law names.
  Contract of value.parts: the iterator that it hands back hands out a value and all its parts, each ahead of its own, with its level.
  Contracts of value's size and deep: how many parts a value has, and how deep they stand, counted up to a number.
  Contract of value's deep: how deep a value's lists and objects stand, counted up to a number.
-/
import Derived.Test.YtpmdcahomkdfmaaGreatDoorBVbas
import Derived.Test.YtpmdcahomkdfmaaGreatDoorBDa
import Derived.Test.YtpmdcahomkdfmaaGreatDoorBUsync
import Derived.RangeFuncNested
import Derived.RangeFuncBound
import Derived.RangeFuncCalls
import Derived.RangeFuncLeaves
import Derived.RangeFuncBox
import Derived.Shelf.Abstract
import Derived.WalkKit
import Derived.OwnWalkIn
import Derived.TacticsInMore
import Derived.LoopNIn
import Derived.LoopIn
import Derived.Test.YtpmdcahomkdfmaaGreatDoorProg
import Derived.Sort.QuietTacIn
import Derived.Shelf.RegionOpen
import Derived.Outline
import Derived.Sort.LoopGhostIn
import Derived.Sort.CutIn
import Derived.Maps.OwnIn
import Derived.Maps.AppendAt
import Derived.Laws.AppendOwnNone
import Derived.Deep.Cut
set_option linter.unusedVariables false
set_option linter.unusedSimpArgs false
namespace Go.Proofs.YtpmdcahomkdfmaaGreatDoor
open Go.RowKit Go.Deep

namespace VT
def kind : VT → Int | mk k _ _ _ _ _ _ => k
def neg : VT → Bool | mk _ n _ _ _ _ _ => n
def num : VT → List Nat | mk _ _ x _ _ _ _ => x
def exp : VT → Int | mk _ _ _ e _ _ _ => e
def text : VT → ByteArray | mk _ _ _ _ t _ _ => t
def list : VT → List VT | mk _ _ _ _ _ l _ => l
def keys : VT → List ByteArray | mk _ _ _ _ _ _ k => k
/-- What a value holds. -/
def inner (x : VT) : List VT := if hold x.kind then x.list else []
end VT

theorem inner_mk (k : Int) (n : Bool) (x : List Nat) (e : Int) (t : ByteArray) (l : List VT) (ks : List ByteArray) : (VT.mk k n x e t l ks).inner = if hold k then l else [] := rfl

mutual
/-- A value and all its parts, each ahead of its own, with its level. -/
def pre (lv : Nat) : VT → List (Nat × VT)
  | .mk k n x e t l ks => (lv, .mk k n x e t l ks) :: (if hold k then preL (lv + 1) l else [])
def preL (lv : Nat) : List VT → List (Nat × VT)
  | [] => []
  | v :: r => pre lv v ++ preL lv r
end
theorem pre_eq (lv : Nat) (x : VT) : pre lv x = (lv, x) :: preL (lv + 1) x.inner := by
  cases x with
  | mk k n x e t l ks =>
    rw [inner_mk]
    unfold pre
    by_cases h : hold k = true
    · rw [if_pos h, if_pos h]
    · rw [if_neg h, if_neg h]; simp [preL]
/-- What is left of a stack of rows, the highest one first. -/
def remR : List (List VT) → List (Nat × VT)
  | [] => []
  | f :: q => preL q.length f ++ remR q
theorem remR_nil (q : List (List VT)) : remR ([] :: q) = remR q := by simp [remR, preL]
theorem remR_cons (x : VT) (r : List VT) (q : List (List VT)) : remR ((x :: r) :: q) = (q.length, x) :: remR (x.inner :: r :: q) := by
  simp [remR, preL, pre_eq]
theorem remR_one (x : VT) : remR [[x]] = pre 0 x := by simp [remR, preL]
/-- As many parts as are gone through. -/
def mostP : Nat := 21474836
def seen (x : VT) : List (Nat × VT) := (pre 0 x).take mostP

/-- How deep what is seen goes. -/
def deepL : List (Nat × VT) → Nat
  | [] => 0
  | p :: r => max (if hold p.2.kind then p.1 + 1 else 0) (deepL r)
theorem deepL_append (a b : List (Nat × VT)) : deepL (a ++ b) = max (deepL a) (deepL b) := by
  induction a with
  | nil => simp [deepL]
  | cons p a ih => simp only [List.cons_append, deepL, ih]; omega

/-- The texts that a value uses itself. -/
def ownT (x : VT) : List ByteArray := if x.kind = 4 then [x.text] else if x.kind = 6 then x.keys else []
/-- Whether number and keys are what the kind asks for, and the rest is zero. -/
def fitV (x : VT) : Bool :=
  if x.kind = 3 then okB x.neg x.num x.exp && decide (x.text.size + x.list.length + x.keys.length = 0)
  else if x.kind = 4 then decide (x.num.length + x.list.length + x.keys.length = 0) && !x.neg && decide (x.exp = 0)
  else if x.kind = 5 then decide (x.num.length + x.text.size + x.keys.length = 0) && !x.neg && decide (x.exp = 0)
  else if x.kind = 6 then decide (x.keys.length = x.list.length) && rises x.keys && decide (x.num.length + x.text.size = 0) && !x.neg && decide (x.exp = 0)
  else decide (x.num.length + x.text.size + x.list.length + x.keys.length = 0) && !x.neg && decide (x.exp = 0)
theorem fitV_mk (k : Int) (n : Bool) (x : List Nat) (e : Int) (t : ByteArray) (l : List VT) (ks : List ByteArray) : fitV (.mk k n x e t l ks) =
    if k = 3 then okB n x e && decide (t.size + l.length + ks.length = 0)
    else if k = 4 then decide (x.length + l.length + ks.length = 0) && !n && decide (e = 0)
    else if k = 5 then decide (x.length + t.size + ks.length = 0) && !n && decide (e = 0)
    else if k = 6 then decide (ks.length = l.length) && rises ks && decide (x.length + t.size = 0) && !n && decide (e = 0)
    else decide (x.length + t.size + l.length + ks.length = 0) && !n && decide (e = 0) := rfl
/-- The error of a value, but of its parts. -/
def alone (x : VT) : Nat :=
  if x.kind < 0 ∨ 6 < x.kind then 23
  else if (ownT x).any (fun s => !isT s.data.toList) then 61
  else if (ownT x).any (fun s => decide (16384 < s.size)) then 5
  else if 4096 < (ownT x).length ∨ 4096 < x.inner.length then 5
  else if fitV x then 0 else 9
/-- The first error of the parts. -/
def firstBad : List (Nat × VT) → Nat
  | [] => 0
  | p :: r => if alone p.2 = 0 then firstBad r else alone p.2
theorem firstBad_append {a b : List (Nat × VT)} (h : firstBad a = 0) : firstBad (a ++ b) = firstBad b := by
  induction a with
  | nil => rfl
  | cons p a ih =>
    unfold firstBad at h
    show (if alone p.2 = 0 then firstBad (a ++ b) else alone p.2) = _
    split at h
    · rename_i h0; rw [if_pos h0]; exact ih h
    · exact absurd h (by assumption)
/-- The error of a value. -/
def errV (x : VT) : Nat := if 64 < deepL (seen x) then 42 else if 16384 < (seen x).length then 3 else firstBad (seen x)
def okV (x : VT) : Prop := errV x = 0

mutual
theorem pre_snd (a b : Nat) : ∀ x, (pre a x).map (·.2) = (pre b x).map (·.2)
  | .mk k n x e t l ks => by
    have h := preL_snd (a + 1) (b + 1) l
    unfold pre
    split <;> simp [h]
theorem preL_snd (a b : Nat) : ∀ l, (preL a l).map (·.2) = (preL b l).map (·.2)
  | [] => by simp [preL]
  | v :: r => by simp [preL, pre_snd a b v, preL_snd a b r]
end
/-- A value and all its parts. -/
def partsV (x : VT) : List VT := (pre 0 x).map (·.2)
theorem mem_pre {x y : VT} {lv : Nat} : (∃ k, (k, y) ∈ pre lv x) ↔ y ∈ partsV x := by
  unfold partsV
  rw [pre_snd 0 lv x]
  simp
theorem mem_preL {y : VT} {lv : Nat} : ∀ l, (∃ k, (k, y) ∈ preL lv l) ↔ ∃ x ∈ l, y ∈ partsV x
  | [] => by simp [preL]
  | v :: r => by
    have h1 := mem_preL (y := y) (lv := lv) r
    have h2 := mem_pre (x := v) (y := y) (lv := lv)
    simp only [preL, List.mem_append, exists_or, h1, h2, List.mem_cons, exists_eq_or_imp]
theorem mem_parts {x y : VT} : y ∈ partsV x ↔ y = x ∨ ∃ z ∈ x.inner, y ∈ partsV z := by
  rw [← mem_pre (lv := 0), pre_eq, ← mem_preL (lv := 1)]
  simp only [List.mem_cons, exists_or, Prod.mk.injEq, Nat.zero_add]
  simp
theorem firstBad_zero {l : List (Nat × VT)} : firstBad l = 0 ↔ ∀ p ∈ l, alone p.2 = 0 := by
  induction l with
  | nil => simp [firstBad]
  | cons p r ih =>
    simp only [firstBad, List.mem_cons, forall_eq_or_imp]
    split
    · rename_i h; rw [ih]; simp [h]
    · rename_i h; simp [h]
theorem okV_parts {x : VT} (h : okV x) : (∀ y ∈ partsV x, alone y = 0) ∧ (partsV x).length ≤ 16384 ∧ deepL (pre 0 x) ≤ 64 := by
  unfold okV errV at h
  split at h
  · exact absurd h (by decide)
  · rename_i h1
    split at h
    · exact absurd h (by decide)
    · rename_i h2
      have hs : seen x = pre 0 x := by
        unfold seen at h2 ⊢
        rw [List.length_take] at h2
        exact List.take_of_length_le (by unfold mostP at *; omega)
      rw [hs] at h h1 h2
      refine ⟨fun y hy => ?_, by unfold partsV; rw [List.length_map]; omega, by omega⟩
      obtain ⟨k, hk⟩ := mem_pre (lv := 0).2 hy
      exact firstBad_zero.1 h _ hk
end Go.Proofs.YtpmdcahomkdfmaaGreatDoor

namespace Go.Proofs.YtpmdcahomkdfmaaGreatDoor
open Go.RowKit

/-- What a round keeps: all blocks but those of C. -/
structure KeptC (C : Nat → Prop) (A B : World) : Prop where
  size : A.heap.size ≤ B.heap.size
  block : ∀ k, k < A.heap.size → ¬ C k → B.heap[k]? = A.heap[k]?
theorem KeptC.refl (C : Nat → Prop) (A : World) : KeptC C A A := ⟨Nat.le_refl _, fun _ _ _ => rfl⟩
theorem KeptC.trans {C : Nat → Prop} {A B D : World} (h : KeptC C A B) (k : KeptC C B D) : KeptC C A D :=
  ⟨Nat.le_trans h.size k.size, fun i hi hc => (k.block i (Nat.lt_of_lt_of_le hi h.size) hc).trans (h.block i hi hc)⟩
theorem KeptC.of_below {C : Nat → Prop} {A B : World} (h : Below A.heap.size A B) : KeptC C A B := ⟨h.size, fun k hk _ => h.block k hk⟩
theorem KeptC.cell {C : Nat → Prop} {A B : World} (h : KeptC C A B) {p : Addr} (hp : p.block < A.heap.size) (hc : ¬ C p.block) : B.cell? p = A.cell? p := World.cell?_of_block (h.block _ hp hc)

/-- The contract of an iterator value at a world W: it hands out xs, one behind the other, each as Enc tells, till a round leaves. -/
def IterC {α : Type} (P : Program) (gf : Nat) (lb : Array Value) (Enc : World → α → Array Value → Prop) (C : Nat → Prop) (xs : List α) (W : World) : Prop :=
  ∀ (l : Nat) (J Jx : List α → World → Prop),
    (∀ pre A B, J pre A → Below W.heap.size A B → J pre B) →
    (∀ pre A B, Jx pre A → Below W.heap.size A B → Jx pre B) →
    (∀ W0, Below W.heap.size W W0 → J [] W0) →
    (∀ pre x rest W1 vs, J pre W1 → KeptC C W W1 → xs = pre ++ x :: rest → Enc W1 x vs → YieldAt Fence.wide 0 P l vs W1 fun e W' => (e = .returned (.bool true) ∧ J (pre ++ [x]) W' ∧ KeptC C W1 W') ∨ (e = .returned (.bool false) ∧ Jx (pre ++ [x]) W')) →
    CallsIn Fence.wide 0 P gf (#[.func (.yield l) #[] #[]] ++ lb) W fun e W' => (∃ v, e = .returned v) ∧ (J xs W' ∨ ∃ pre, Jx pre W')

/-- How the body of a round is left. -/
def roundEndC {α : Type} (C : Nat → Prop) (I : List α → World → Prop) (Ix : Code → List α → World → Prop) (xs : List α) (W : World) : Exit → Act → World → Prop
  | .normal, _, W' => KeepsOthers W W' ∧ KeptC C W W' ∧ I xs W'
  | .ret, _, W' => KeepsOthers W W' ∧ Ix .ret xs W'
  | .exit id, _, W' => KeepsOthers W W' ∧ Ix (.exit id) xs W'
  | .goto t, _, W' => KeepsOthers W W' ∧ Ix (.goto t) xs W'
  | .panic _, _, _ => False
  | .outgrown, _, _ => False

theorem below_putC {B l : Nat} (W : World) (o : Obj) (h : B ≤ l) : Below B W (W.putObj l o) :=
  ⟨rfl, rfl, rfl, by simp, fun k hk => World.putObj_heap_other (by omega)⟩

theorem range_law_c {α : Type} {P : Program} {g : Operand} {ps : Array Tmp} {assign body : Code} {Q : Exit → Act → World → Prop} {a : Act} {w : World} {gf : Nat} {lb : Array Value}
    (hg : a.eval g = .func (.func gf) #[] lb) (eg : ∀ args w, (callFunc gf args).run P w = .ok (.enter gf args) w)
    {Enc : World → α → Array Value → Prop} {C : Nat → Prop} {xs : List α} (hit : ∀ W (C' : Nat → Prop), Below w.heap.size w W → (∀ k, k < w.heap.size → C' k → C k) → (∀ k, C' k → k < W.heap.size) → IterC P gf lb Enc C' xs W) (hps : ∀ W x vs, Enc W x vs → vs.size = ps.size)
    (henc : ∀ W W' x vs, w.heap.size + 2 ≤ W.heap.size → (∀ k, k < W.heap.size → k ≠ w.heap.size + 1 → W'.heap[k]? = W.heap[k]?) → Enc W x vs → Enc W' x vs)
    (hC : ∀ k, C k → k < w.heap.size)
    (I : List α → World → Prop) (Ix : Code → List α → World → Prop)
    (hI : ∀ pre A B, I pre A → Below w.heap.size A B → I pre B)
    (hIx : ∀ c pre A B, Ix c pre A → Below w.heap.size A B → Ix c pre B)
    (h0 : ∀ W0, Below w.heap.size w W0 → I [] W0)
    (hround : ∀ (l : Nat) (pre : List α) (x : α) (rest : List α) (vs : Array Value) (Wv : World), xs = pre ++ x :: rest → Enc Wv x vs → ∀ (W : World) (K : Act → World → Prop),
      (∀ a₁ W', Below W.heap.size W W' → (∀ W2, I pre W2 → Enc W2 x vs → KeptC C w W2 → w.heap.size + 2 ≤ W.heap.size → W2.heap.size = W'.heap.size → (∀ k, k < W'.heap.size → k ≠ w.heap.size + 1 → W2.heap[k]? = W'.heap[k]?) → body.wpIn (Fence.wide.inRound l) 0 P (roundEndC C I Ix (pre ++ [x]) W2) a₁ W2) → K a₁ W') →
      assign.wpIn (Fence.wide.inRound l) 0 P (Exit.then K (fun _ _ _ => False)) { tmps := (ps.zip vs).foldl (fun t (p, v) => t.setIfInBounds p v) a.tmps, defers := [] } W)
    (hdone : ∀ (D : Nat) (W : World), I xs W → w.heap.size ≤ D → W.heap[D]? = some (.deferred (some [])) → Q .normal { a with defers := { target := .collected D, args := #[] } :: a.defers } W)
    (hstop : ∀ (D : Nat) (c : Code) (pre : List α) (W : World), Ix c pre W → w.heap.size ≤ D → W.heap[D]? = some (.deferred (some [])) → c.wpIn Fence.wide 0 P Q { a with defers := { target := .collected D, args := #[] } :: a.defers } W) :
    (Code.rangeFunc g ps assign body).wpIn Fence.wide 0 P Q a w := by
  refine wpIn_rangeFunc fun fn _ => ?_
  obtain ⟨rec, hrec⟩ : ∃ rec : LoopState → Option Code → Loop, rec = fun st pe => { state := st, pending := pe, fn, tmps := a.tmps, params := ps, assign, body, defers := w.heap.size } := ⟨_, rfl⟩
  obtain ⟨W1, hW1⟩ : ∃ W1, (w.alloc (.deferred (some []))).alloc (.loop (rec .ready none)) = W1 := ⟨_, rfl⟩
  have hs1 : W1.heap.size = w.heap.size + 2 := by rw [← hW1]; simp
  have hL1 : W1.heap[w.heap.size + 1]? = some (.loop (rec .ready none)) := by
    rw [← hW1]
    have := World.alloc_heap_new (w.alloc (.deferred (some []))) (.loop (rec .ready none))
    rwa [World.size_alloc] at this
  have hK1 : W1.heap[w.heap.size]? = some (.deferred (some [])) := by
    rw [← hW1]; exact (Below.heap_alloc _ _ _ (by simp)).trans (World.alloc_heap_new w _)
  have hb1 : Below w.heap.size w W1 := by rw [← hW1]; exact ((Below.refl _ w).alloc (Nat.le_refl _) _).alloc (by simp) _
  refine ⟨w.heap.size + 1, [{ target := .collected w.heap.size, args := #[] }], W1, { target := .fn (.func gf) lb, args := #[.func (.yield (w.heap.size + 1)) #[] #[]] }, W1, gf,
    #[.func (.yield (w.heap.size + 1)) #[] #[]] ++ lb, W1, ?_, ?_, (fun _ _ => trivial), ?_, (fun h => absurd h (by decide)), ?_⟩
  · rw [← hW1, hrec]; exact run_enterLoop_outer _ _ _ _ _
  · simp only [resolve, hg]
    simp [go_sem]
  · simp [invoke, go_sem, eg]
  · have hput : ∀ (A : World) (o : Obj), Below w.heap.size A (A.putObj (w.heap.size + 1) o) := fun A o => below_putC A o (by omega)
    refine (hit W1 (fun k => C k ∨ k = w.heap.size + 1) hb1 (fun k hk hc => hc.elim id (fun e => absurd e (by omega))) (fun k hk => hk.elim (fun h => by have := hC k h; omega) (fun e => by omega)) (w.heap.size + 1)
      (fun pre W => I pre W ∧ W.heap[w.heap.size + 1]? = some (.loop (rec .ready none)) ∧ W.heap[w.heap.size]? = some (.deferred (some [])))
      (fun pre W => ∃ c, Ix c pre W ∧ W.heap[w.heap.size + 1]? = some (.loop (rec .done (some c))) ∧ W.heap[w.heap.size]? = some (.deferred (some []))) ?_ ?_ ?_ ?_).mono ?_
    · rintro pre A B ⟨hi, hl, hk⟩ hb
      exact ⟨hI pre A B hi (hb.mono (by omega)), (hb.block _ (by omega)).trans hl, (hb.block _ (by omega)).trans hk⟩
    · rintro pre A B ⟨c, hi, hl, hk⟩ hb
      exact ⟨c, hIx c pre A B hi (hb.mono (by omega)), (hb.block _ (by omega)).trans hl, (hb.block _ (by omega)).trans hk⟩
    · intro W0 hb
      have hsz := hb.size
      refine ⟨h0 W0 (hb1.trans (hb.mono (by omega))), (hb.block _ (by omega)).trans hL1, (hb.block _ (by omega)).trans hK1⟩
    · rintro pre x rest W vs ⟨hi, hl, hk⟩ hkw hx hev
      have hlt : w.heap.size + 1 < W.heap.size := (Array.getElem?_eq_some_iff.1 hl).1
      have hsv := hps _ _ _ hev
      have hy := run_yield (P := P) (args := vs) hl (by rw [hrec]; exact hsv)
      rw [hrec] at hy
      refine ⟨fn, _, assign, body, hy, roundIn_of_wpIn trivial (hround _ pre x rest vs W hx hev W _ (fun a₁ W' hWW hb3 => ⟨_, run_beginRound ((hWW.block _ hlt).trans hl) (by rw [hrec]), ?_⟩))⟩
      have hsW : w.heap.size + 2 ≤ W.heap.size := by omega
      have hev0 := henc W W' x vs hsW (fun k hk1 _ => hWW.block k hk1) hev
      have hi0 := hI pre W W' hi (hWW.mono (by omega))
      have hl0 := (hWW.block _ hlt).trans hl
      have hk0 := (hWW.block w.heap.size (by omega)).trans hk
      have hkw0 : KeptC (fun k => C k ∨ k = w.heap.size + 1) W1 W' := hkw.trans (KeptC.of_below hWW)
      have hWWs := hWW.size
      have hkWW : KeptC (fun k => C k ∨ k = w.heap.size + 1) W W' := KeptC.of_below hWW
      clear hi hl hk hkw hev hy hWW
      have hi := hi0
      have hl := hl0
      have hk := hk0
      have hkw := hkw0
      have hev := hev0
      clear hi0 hl0 hk0 hkw0 hev0
      obtain ⟨W2, hW2⟩ : ∃ W2, W'.putObj (w.heap.size + 1) (.loop { rec .ready none with state := .busy }) = W2 := ⟨_, rfl⟩
      have hl2 : W2.heap[w.heap.size + 1]? = some (.loop { rec .ready none with state := .busy }) := by rw [← hW2]; exact World.putObj_heap_same (by omega)
      have hk2 : W2.heap[w.heap.size]? = some (.deferred (some [])) := by rw [← hW2]; exact (World.putObj_heap_other (by omega)).trans hk
      have hi2 : I pre W2 := by rw [← hW2]; exact hI pre _ _ hi (hput _ _)
      have hkp : ∀ (A : World) (o : Obj), KeptC (fun k => C k ∨ k = w.heap.size + 1) A (A.putObj (w.heap.size + 1) o) := fun A o =>
        ⟨by simp, fun k hkk hc => World.putObj_heap_other (fun e => hc (.inr e))⟩
      have hsz2 : W2.heap.size = W'.heap.size := by rw [← hW2]; simp
      have hkw2 : KeptC C w W2 := by
        refine ⟨by omega, fun k hk1 hc => ?_⟩
        rw [← hW2, World.putObj_heap_other (by omega), hkw.block k (by omega) (fun h => h.elim hc (fun e => by omega)), hb1.block k hk1]
      have hev2 : Enc W2 x vs := by
        refine henc W' W2 x vs (by omega) (fun k hk1 hk3 => ?_) hev
        rw [← hW2]; exact World.putObj_heap_other hk3
      rw [hW2]
      refine wpIn_mono (hb3 W2 hi2 hev2 hkw2 hsW hsz2 (fun k hk1 hk3 => by rw [← hW2]; exact World.putObj_heap_other hk3)) ?_
      have fin : ∀ (jump : Option Code) (W3 : World), KeepsOthers W2 W3 →
          (Instr.endRound (w.heap.size + 1) jump).run P W3 = .ok (.bool jump.isNone) (W3.putObj (w.heap.size + 1) (.loop (rec (if jump.isNone then .ready else .done) jump))) ∧
          W3.heap[w.heap.size + 1]? = some (.loop { rec .ready none with state := .busy }) ∧
          (W3.putObj (w.heap.size + 1) (.loop (rec (if jump.isNone then .ready else .done) jump))).heap[w.heap.size + 1]? = some (.loop (rec (if jump.isNone then .ready else .done) jump)) ∧
          (W3.putObj (w.heap.size + 1) (.loop (rec (if jump.isNone then .ready else .done) jump))).heap[w.heap.size]? = some (.deferred (some [])) := fun jump W3 hk3 => by
        have hl3 := hk3.same _ _ hl2 rfl
        have := run_endRound (P := P) jump hl3
        rw [hrec] at this ⊢
        exact ⟨this, by rw [hrec] at hl3; exact hl3, World.putObj_heap_same (Array.getElem?_eq_some_iff.1 hl3).1, (World.putObj_heap_other (by omega)).trans (hk3.same _ _ hk2 rfl)⟩
      intro e a3 W3 hp
      cases e with
      | normal =>
        obtain ⟨hk3, hkp3, hi3⟩ := hp
        obtain ⟨hr3, hl3, hl4, hk4⟩ := fin none W3 hk3
        refine ⟨_, _, hr3, .inl ⟨rfl, ⟨hI _ _ _ hi3 (hput _ _), hl4, hk4⟩, ?_⟩⟩
        have hmid : KeptC (fun k => C k ∨ k = w.heap.size + 1) W2 W3 := ⟨hkp3.size, fun k h1 h2 => hkp3.block k h1 (fun h => h2 (.inl h))⟩
        exact ((hkWW.trans (by rw [← hW2]; exact hkp W' _ : KeptC (fun k => C k ∨ k = w.heap.size + 1) W' W2)).trans hmid).trans (hkp W3 _)
      | ret =>
        obtain ⟨hk3, hi3⟩ := hp
        obtain ⟨hr3, hl3, hl4, hk4⟩ := fin (some .ret) W3 hk3
        exact ⟨_, _, hr3, .inr ⟨rfl, .ret, hIx _ _ _ _ hi3 (hput _ _), hl4, hk4⟩⟩
      | exit id =>
        obtain ⟨hk3, hi3⟩ := hp
        obtain ⟨hr3, hl3, hl4, hk4⟩ := fin (some (.exit id)) W3 hk3
        exact ⟨_, _, hr3, .inr ⟨rfl, .exit id, hIx _ _ _ _ hi3 (hput _ _), hl4, hk4⟩⟩
      | goto t =>
        obtain ⟨hk3, hi3⟩ := hp
        obtain ⟨hr3, hl3, hl4, hk4⟩ := fin (some (.goto t)) W3 hk3
        exact ⟨_, _, hr3, .inr ⟨rfl, .goto t, hIx _ _ _ _ hi3 (hput _ _), hl4, hk4⟩⟩
      | panic ch => exact hp.elim
      | outgrown => exact hp.elim
    · rintro e W2 ⟨⟨v, rfl⟩, ⟨hi, hl, hk⟩ | ⟨pre, c, hi, hl, hk⟩⟩
      · refine ⟨none, _, by have := run_endLoop (P := P) hl (by rw [hrec]; simp); rw [hrec] at this; exact this, ?_⟩
        exact hdone _ _ (hI _ _ _ hi (hput _ _)) (Nat.le_refl _) ((World.putObj_heap_other (by omega)).trans hk)
      · refine ⟨some c, _, by have := run_endLoop (P := P) hl (by rw [hrec]; simp); rw [hrec] at this; exact this, ?_⟩
        exact hstop _ c pre _ (hIx c _ _ _ hi (hput _ _)) (Nat.le_refl _) ((World.putObj_heap_other (by omega)).trans hk)
end Go.Proofs.YtpmdcahomkdfmaaGreatDoor

namespace Go.Proofs.YtpmdcahomkdfmaaGreatDoor
open Go.RowKit Go.Lib
attribute [local go_sem] Oper.semAt_some

/-- A row of values whose cells lie in a block of R, and whose values lie in blocks of S. -/
def RowL (w : World) (R S : Nat → Prop) (A : Option Addr) (n c : Nat) (l : List VT) : Prop :=
  l.length = n ∧ n ≤ c ∧ n ≤ 140737488355328 ∧ ∃ cs : Nat → List Value, (0 < n → ∃ b off, A = some ⟨b, off, none⟩ ∧ R b ∧ ∀ i, i < n → (cs i).length = 7 ∧ ∀ j, j < 7 → w.cell? ⟨b, off + (i * 7 + j), none⟩ = (cs i)[j]?) ∧ ∀ i x, l[i]? = some x → VIn w S x (cs i)
theorem RowL.keep {w w' : World} {R S : Nat → Prop} {A : Option Addr} {n c : Nat} {l : List VT} (h : RowL w R S A n c l) (hk : ∀ p : Addr, (R p.block ∨ S p.block) → w'.cell? p = w.cell? p) : RowL w' R S A n c l := by
  obtain ⟨h1, h2, h3, cs, h4, h5⟩ := h
  refine ⟨h1, h2, h3, cs, fun h0 => ?_, fun i x hi => (h5 i x hi).keep fun p hp => hk p (.inr hp)⟩
  obtain ⟨b, off, e, hR, h6⟩ := h4 h0
  exact ⟨b, off, e, hR, fun i hi => ⟨(h6 i hi).1, fun j hj => (hk ⟨b, off + (i * 7 + j), none⟩ (.inl hR)).trans ((h6 i hi).2 j hj)⟩⟩
theorem RowL.of {w : World} {R S : Nat → Prop} {A : Option Addr} {n c : Nat} {l : List VT} (h : RdL w S A n l) (hc : n ≤ c) (hR : ∀ b, S b → R b) : RowL w R S A n c l := by
  obtain ⟨h1, h2, cs, h3, h4⟩ := h
  refine ⟨h1, hc, h2, cs, fun h0 => ?_, h4⟩
  obtain ⟨b, off, e, hS, h5⟩ := h3 h0
  exact ⟨b, off, e, hR b hS, h5⟩
theorem RowL.nil (w : World) (R S : Nat → Prop) (A : Option Addr) (c : Nat) : RowL w R S A 0 c [] := ⟨rfl, by omega, by omega, fun _ => [], fun h0 => absurd h0 (by omega), fun i x hi => by simp at hi⟩
/-- The first value, and what stands behind it. -/
theorem RowL.cons {w : World} {R S : Nat → Prop} {A : Option Addr} {n c : Nat} {x : VT} {r : List VT} (h : RowL w R S A n c (x :: r)) :
    ∃ b off m cs, A = some ⟨b, off, none⟩ ∧ R b ∧ n = m + 1 ∧ cs.length = 7 ∧ (∀ j, j < 7 → w.cell? ⟨b, off + j, none⟩ = cs[j]?) ∧ VIn w S x cs ∧ RowL w R S (some ⟨b, off + 7, none⟩) m (c - 1) r := by
  obtain ⟨h1, h2, h3, cs, h4, h5⟩ := h
  rw [List.length_cons] at h1
  obtain ⟨b, off, e, hR, h6⟩ := h4 (by omega)
  refine ⟨b, off, r.length, cs 0, e, hR, h1.symm, (h6 0 (by omega)).1, fun j hj => ?_, h5 0 x rfl, rfl, by omega, by omega, fun i => cs (i + 1), fun h0 => ⟨b, off + 7, rfl, hR, fun i hi => ⟨(h6 (i + 1) (by omega)).1, fun j hj => ?_⟩⟩, fun i y hi => h5 (i + 1) y (by simpa using hi)⟩
  · have := (h6 0 (by omega)).2 j hj
    rwa [Nat.zero_mul, Nat.zero_add] at this
  · have := (h6 (i + 1) (by omega)).2 j hj
    rwa [show off + ((i + 1) * 7 + j) = off + 7 + (i * 7 + j) by omega] at this

/-- The stack: the slices of the levels, and what is left of each, the highest first. -/
inductive Stk (w : World) (R S : Nat → Prop) : List Value → List (List VT) → Prop where
  | nil : Stk w R S [] []
  | snoc {lvs : List Value} {q : List (List VT)} {A : Option Addr} {n c : Nat} {f : List VT} : Stk w R S lvs q → RowL w R S A n c f → Stk w R S (lvs ++ [.slice A n c]) (f :: q)
theorem Stk.keep {w w' : World} {R S : Nat → Prop} {lvs : List Value} {q : List (List VT)} (h : Stk w R S lvs q) (hk : ∀ p : Addr, (R p.block ∨ S p.block) → w'.cell? p = w.cell? p) : Stk w' R S lvs q := by
  induction h with
  | nil => exact .nil
  | snoc _ hr ih => exact .snoc ih (hr.keep hk)
theorem Stk.len {w : World} {R S : Nat → Prop} {lvs : List Value} {q : List (List VT)} (h : Stk w R S lvs q) : lvs.length = q.length := by
  induction h with
  | nil => rfl
  | snoc _ _ ih => simp [ih]
theorem Stk.top {w : World} {R S : Nat → Prop} {lvs : List Value} {q : List (List VT)} (h : Stk w R S lvs q) (h0 : 0 < lvs.length) :
    ∃ ls A n c f p, lvs = ls ++ [.slice A n c] ∧ q = f :: p ∧ Stk w R S ls p ∧ RowL w R S A n c f := by
  cases h with
  | nil => exact absurd h0 (by simp)
  | snoc h hr => exact ⟨_, _, _, _, _, _, rfl, rfl, h, hr⟩

theorem cell_lt2 {w : World} {b o : Nat} {v : Value} (h : w.cell? ⟨b, o, none⟩ = some v) : b < w.heap.size := by
  rcases Nat.lt_or_ge b w.heap.size with h1 | h1
  · exact h1
  · exfalso
    unfold World.cell? at h
    simp [Array.getElem?_eq_none h1] at h

theorem infoSV : (Tryz.prog.info? 25).map (fun i => (i.zero, i.size, i.bytes)) = some (some (.slice none 0 0), 1, 24) := by kernel_rfl
/-- A row of the call's own stays where its blocks stay. -/
theorem own_keep {w w' : World} {base : Nat} {e : TypeId} {size : Nat} {v : Value} {n : Nat} {xs : List Value} (h : w.ownsRow base e size v n xs) (hk : ∀ k, base ≤ k → k < w.heap.size → w'.heap[k]? = w.heap[k]?) : w'.ownsRow base e size v n xs := by
  obtain ⟨h1, h2⟩ := h
  refine ⟨h1, h2.imp id ?_⟩
  rintro ⟨g, cap, cur, e1, e2, e3, e4⟩
  exact ⟨g, cap, cur, e1, e2, (hk g e2 (Array.getElem?_eq_some_iff.1 e3).1).trans e3, e4⟩

/-- How a part is handed over. -/
def EncV (S : Nat → Prop) (W : World) (p : Nat × VT) (vs : Array Value) : Prop := ∃ cs : List Value, vs = #[.int .i64 (p.1 : Int), .agg cs.toArray] ∧ VIn W S p.2 cs

set_option maxRecDepth 100000 in
theorem vparts_c (cs : Array Value) (w : World) : Calls Tryz.prog 66 #[.agg cs] w fun e w' => e = .returned (.func (.func 91) #[] #[.pointer (some ⟨w.heap.size, 0, none⟩)]) ∧ w' = w.alloc (.cells cs 28) := by
  go_enter Tryz.func66, Tryz.ntmps66
  go_wp2
  go_ret
  exact ⟨rfl, rfl⟩

set_option maxRecDepth 100000 in
set_option maxHeartbeats 2000000 in
theorem vparts1_iter {B : Nat} {S C : Nat → Prop} {x : VT} {cs : List Value} (W : World) (hbox : W.heap[B]? = some (.cells cs.toArray 28)) (hx : VIn W S x cs) (hS : ∀ b, S b → b < W.heap.size ∧ ¬ C b) (hC : ∀ k, C k → k < W.heap.size) :
    IterC Tryz.prog 91 #[.pointer (some ⟨B, 0, none⟩)] (EncV S) C (seen x) W := by
  intro l J Jx hJ hJx h0 hY
  refine callsIn_of_wp Tryz.func91 rfl trivial ?_ rfl
  simp only [Tryz.ntmps91, List.size_toArray, List.length_cons, List.length_nil, Nat.reduceAdd, Nat.reduceSub, Array.replicate_succ, Array.replicate_zero, List.push_toArray, List.append_toArray, List.nil_append, List.cons_append]
  have HJ := Lib.hid hJ
  have HJX := Lib.hid hJx
  have H0 := Lib.hid h0
  have HY := Lib.hid hY
  have HX := Lib.hid hx
  clear hJ hJx h0 hY
  obtain ⟨k, neg, xs, e, t, li, ks, hxk⟩ : ∃ k neg xs e t li ks, x = VT.mk k neg xs e t li ks := by cases x; exact ⟨_, _, _, _, _, _, _, rfl⟩
  rw [hxk] at hx
  obtain ⟨A, n, c, LA, ln, lc, KA, kn, kc, rfl, -⟩ := hx.parts
  obtain ⟨x0, x1, x2, x3, x4, x5, x6⟩ := box7_of hbox
  clear hx hxk
  gi_wp2_with fail
  have hW0 : Below W.heap.size W ((W.alloc (.cells #[.int .i64 k, .bool neg, .slice A n c, .int .i64 e, .string t, .slice LA ln lc, .slice KA kn kc] 28)).alloc (.cells #[.slice (some ⟨W.heap.size, 0, none⟩) 1 1] 25)) := ((Below.refl _ W).alloc (Nat.le_refl _) _).alloc (by simp) _
  have hstk : Stk ((W.alloc (.cells #[.int .i64 k, .bool neg, .slice A n c, .int .i64 e, .string t, .slice LA ln lc, .slice KA kn kc] 28)).alloc (.cells #[.slice (some ⟨W.heap.size, 0, none⟩) 1 1] 25)) (fun b => S b ∨ b = W.heap.size) S [.slice (some ⟨W.heap.size, 0, none⟩) 1 1] [[x]] := by
    refine Stk.snoc (lvs := []) .nil ⟨rfl, Nat.le_refl _, by omega, fun _ => [.int .i64 k, .bool neg, .slice A n c, .int .i64 e, .string t, .slice LA ln lc, .slice KA kn kc], fun _ => ⟨_, 0, rfl, .inr rfl, fun i hi => ⟨rfl, fun j hj => ?_⟩⟩, fun i y hi => ?_⟩
    · have hi0 : i = 0 := by omega
      subst hi0
      have hb : ((W.alloc (.cells #[.int .i64 k, .bool neg, .slice A n c, .int .i64 e, .string t, .slice LA ln lc, .slice KA kn kc] 28)).alloc (.cells #[.slice (some ⟨W.heap.size, 0, none⟩) 1 1] 25)).heap[W.heap.size]? = some (.cells #[.int .i64 k, .bool neg, .slice A n c, .int .i64 e, .string t, .slice LA ln lc, .slice KA kn kc] 28) := (Below.heap_alloc _ _ _ (by simp)).trans (World.alloc_heap_new W _)
      obtain ⟨y0, y1, y2, y3, y4, y5, y6⟩ := box7_of hb
      rw [Nat.zero_mul, Nat.zero_add, Nat.zero_add]
      match j, hj with
      | 0, _ => exact y0
      | 1, _ => exact y1
      | 2, _ => exact y2
      | 3, _ => exact y3
      | 4, _ => exact y4
      | 5, _ => exact y5
      | 6, _ => exact y6
    · have : i = 0 ∧ x = y := by
        cases i with
        | zero => exact ⟨rfl, by simpa using hi⟩
        | succ i => simp at hi
      obtain ⟨rfl, rfl⟩ := this
      exact HX.out.keep fun p hp => hW0.cell (hS _ hp).1
  have hown0 : ((W.alloc (.cells #[.int .i64 k, .bool neg, .slice A n c, .int .i64 e, .string t, .slice LA ln lc, .slice KA kn kc] 28)).alloc (.cells #[.slice (some ⟨W.heap.size, 0, none⟩) 1 1] 25)).ownsRow (W.heap.size + 1) 25 1 (.slice (some ⟨W.heap.size + 1, 0, none⟩) 1 1) 1 [.slice (some ⟨W.heap.size, 0, none⟩) 1 1] := by
    have := World.ownsRow_lit (base := W.heap.size + 1) (e := 25) (size := 1) (W.alloc (.cells #[.int .i64 k, .bool neg, .slice A n c, .int .i64 e, .string t, .slice LA ln lc, .slice KA kn kc] 28)) #[.slice (some ⟨W.heap.size, 0, none⟩) 1 1] 1 (by simp) (by unfold maxLen; omega) rfl
    simpa using this
  have HOWN0 := Lib.hid hown0
  have HSTK0 := Lib.hid hstk
  have HW0 := Lib.hid hW0
  have HHS := Lib.hid hS
  have HHC := Lib.hid hC
  clear hown0 hstk hW0 x0 x1 x2 x3 x4 x5 x6 hS hC
  gi_loopw [3, 4] (fun lvv mv wr => ∃ (m : Nat) (lvs : List Value) (q : List (List VT)) (done : List (Nat × VT)), mv = .int .i64 (done.length : Int) ∧ lvv ≠ .slice none 0 0 ∧ wr.ownsRow (W.heap.size + 1) 25 1 lvv m lvs ∧ Stk wr (fun b => S b ∨ b = W.heap.size) S lvs q ∧ Hid (pre 0 x = done ++ remR q) ∧ Hid (done.length ≤ mostP) ∧ J done wr ∧ KeptC C W wr ∧ m ≤ done.length + 1)
    (fun lvv mv _ => 2 * (21474836 - (RowKit.intOf mv).toNat) + lenOf lvv)
  case atStart => exact ⟨1, _, _, [], rfl, by simp, HOWN0.out, HSTK0.out, by show _ = _; rw [remR_one]; rfl, Nat.zero_le _, H0.out _ HW0.out, KeptC.of_below HW0.out, by simp⟩
  case round =>
    obtain ⟨m, lvs, q, done, rfl, hnn, hown, hst, hpre, hdl, hJk, hkc, hmd⟩ := hrel
    rcases hown.2 with ⟨hz, _⟩ | ⟨g, cap, cur, rfl, hbg, hgh, hmc, hcm, hcs, htk⟩
    · exact absurd hz hnn
    have HBG := Lib.hid hbg
    clear hbg
    have HPRE := Lib.hid hpre.out
    have HDL := Lib.hid hdl.out
    have HST := Lib.hid hst
    have HJK := Lib.hid hJk
    have HKC := Lib.hid hkc
    have HOWN := Lib.hid hown
    clear hpre hdl hst hJk hkc hnn hown hgh hcs htk
    by_cases hlt : done.length < 21474836
    · have hlt2 : (done.length : Int) < 21474836 := by omega
      by_cases hm : m = 0
      · subst hm
        have hdone : Hid (done = seen x) := by
          have h2 := HST.out.len
          have h3 := HOWN.out.1
          have hq : q = [] := List.eq_nil_of_length_eq_zero (by omega)
          have h4 := HPRE.out
          rw [hq] at h4
          show _ = _
          unfold seen
          rw [h4]
          simp only [remR, List.append_nil]
          exact (List.take_of_length_le HDL.out).symm
        gi_wp2
        go_end0
        refine ⟨⟨_, rfl⟩, .inl ?_⟩
        rw [← hdone.out]; exact HJK.out
      · obtain ⟨j, rfl⟩ : ∃ j, m = j + 1 := ⟨m - 1, by omega⟩
        obtain ⟨ls, A1, n1, c1, f, p, hlvs, hq, hst1, hrow⟩ := HST.out.top (by have h3 := HOWN.out.1; omega)
        subst hlvs hq
        have hlj : ls.length = j := by have h3 := HOWN.out.1; simp at h3; exact h3
        have hcell : wr.cell? ⟨g, j, none⟩ = some (.slice A1 n1 c1) := by
          have := HOWN.out.cells (g := g) rfl j (.slice A1 n1 c1) (by rw [← hlj]; simp)
          rwa [Addr.add_lit, Nat.zero_add] at this
        have hfrz := HOWN.out.frozenAt j
        have hj1 : ((j : Int) + 1) - 1 = (j : Int) := by omega
        have hwj : IntKind.i64.wrap (j : Int) = (j : Int) := IntWalk.i64_in _ (by have := HDL.out; unfold mostP at this; omega)
        have hjt : (j : Int) < (j : Int) + 1 := by omega
        have hpos : (0 : Int) < (j : Int) + 1 := by omega
        have hjc : j ≤ cap := by omega
        have hjc2 : (j : Int) ≤ (cap : Int) := by omega
        have hj0 : (0 : Int) ≤ (j : Int) := by omega
        have hjn : ((j : Int)).toNat = j := by omega
        cases f with
        | nil =>
          have hn1 : n1 = 0 := hrow.1.symm
          subst hn1
          have hown2 := Lib.hid (ownsRow_pop (last := [.slice A1 0 c1]) (by rw [hlj, Nat.mul_one]) HOWN.out)
          gi_wp2_with fail
          exact ⟨⟨j, ls, p, done, rfl, by simp, hown2.out, hst1, by show _ = _; rw [HPRE.out, remR_nil], HDL.out, HJK.out, HKC.out, by omega⟩, by simp [lenOf]⟩
        | cons y r =>
          obtain ⟨b, off, m1, cs, rfl, hRb, rfl, hcl, hcc, hvy, htail⟩ := hrow.cons
          have HC1 := hrow.2.1
          obtain ⟨k2, neg2, xs2, e2, t2, li2, ks2, hy⟩ : ∃ k2 neg2 xs2 e2 t2 li2 ks2, y = VT.mk k2 neg2 xs2 e2 t2 li2 ks2 := by cases y; exact ⟨_, _, _, _, _, _, _, rfl⟩
          have hvy2 := hvy
          rw [hy] at hvy2
          obtain ⟨A2, n2, c2, LA2, ln2, lc2, KA2, kn2, kc2, rfl, _, _, _, hl2, _, _, hlc2⟩ := hvy2.parts
          have HY2 := Lib.hid hy
          have HL2 := Lib.hid hl2
          clear hvy2 hy hl2
          have d0 : wr.cell? ⟨b, off, none⟩ = some (.int .i64 k2) := hcc 0 (by omega)
          have d1 : wr.cell? ⟨b, off + 1, none⟩ = some (.bool neg2) := hcc 1 (by omega)
          have d2 : wr.cell? ⟨b, off + 2, none⟩ = some (.slice A2 n2 c2) := hcc 2 (by omega)
          have d3 : wr.cell? ⟨b, off + 3, none⟩ = some (.int .i64 e2) := hcc 3 (by omega)
          have d4 : wr.cell? ⟨b, off + 4, none⟩ = some (.string t2) := hcc 4 (by omega)
          have d5 : wr.cell? ⟨b, off + 5, none⟩ = some (.slice LA2 ln2 lc2) := hcc 5 (by omega)
          have d6 : wr.cell? ⟨b, off + 6, none⟩ = some (.slice KA2 kn2 kc2) := hcc 6 (by omega)
          have HVY := Lib.hid hvy
          have HTAIL := Lib.hid htail
          have HST1 := Lib.hid hst1
          have HJB : Hid (j < 21474836) := by show _ < _; omega
          have HMD := Lib.hid hmd
          clear hcc hvy htail hst1 hcl hrow hmd
          have hm1 : (1 : Int) ≤ (m1 : Int) + 1 := by omega
          have hm0 : ((m1 : Int) + 1 == 0) = false := by rw [beq_eq_false_iff_ne]; omega
          have hm2 : (0 : Int) < (m1 : Int) + 1 := by omega
          have hm3 : 1 ≤ m1 + 1 := by omega
          have hc1 : (m1 : Int) + 1 ≤ (c1 : Int) := by omega
          have hmt : ((m1 : Int) + 1).toNat = m1 + 1 := by omega
          have hms : m1 + 1 - 1 = m1 := by omega
          gi_upto_region 7 with fail
          have hW1 : Below wr.heap.size wr (wr.alloc (.cells #[.int .i64 k2, .bool neg2, .slice A2 n2 c2, .int .i64 e2, .string t2, .slice LA2 ln2 lc2, .slice KA2 kn2 kc2] 28)) := (Below.refl _ wr).alloc (Nat.le_refl _) _
          have hB1 := World.alloc_heap_new wr (.cells #[.int .i64 k2, .bool neg2, .slice A2 n2 c2, .int .i64 e2, .string t2, .slice LA2 ln2 lc2, .slice KA2 kn2 kc2] 28)
          have hz1 : (wr.alloc (.cells #[.int .i64 k2, .bool neg2, .slice A2 n2 c2, .int .i64 e2, .string t2, .slice LA2 ln2 lc2, .slice KA2 kn2 kc2] 28)).heap.size = wr.heap.size + 1 := by simp
          have HO1 := Lib.hid (HOWN.out.alloc (.cells #[.int .i64 k2, .bool neg2, .slice A2 n2 c2, .int .i64 e2, .string t2, .slice LA2 ln2 lc2, .slice KA2 kn2 kc2] 28))
          generalize (wr.alloc (.cells #[.int .i64 k2, .bool neg2, .slice A2 n2 c2, .int .i64 e2, .string t2, .slice LA2 ln2 lc2, .slice KA2 kn2 kc2] 28)) = W1 at *
          have hgl : g < wr.heap.size := cell_lt2 hcell
          have hcell1 : W1.cell? ⟨g, j, none⟩ = some (.slice (some ⟨b, off, none⟩) (m1 + 1) c1) := (hW1.cell hgl).trans hcell
          have hfrz1 : W1.frozen? ⟨g, j, none⟩ = false := (hW1.frozen hgl).trans hfrz
          gi_upto_region 8 with fail
          generalize hNA : (if c1 = 1 then some (⟨b, off, none⟩ : Addr) else some ⟨b, off + 7, none⟩) = NA
          have hB12 : Below (W.heap.size + 1) wr (W1.setCell ⟨g, j, none⟩ (.slice NA m1 (c1 - 1))) := (hW1.mono (by have := HBG.out; have := hgl; omega)).setCell HBG.out _
          have hwle : W.heap.size + 1 ≤ wr.heap.size := by have := HBG.out; omega
          have HO2 := Lib.hid (HO1.out.stored j (.slice NA m1 (c1 - 1))).1
          have hp2 : (W1.setCell ⟨g, j, none⟩ (.slice NA m1 (c1 - 1))).heap[wr.heap.size]? = some (.cells #[.int .i64 k2, .bool neg2, .slice A2 n2 c2, .int .i64 e2, .string t2, .slice LA2 ln2 lc2, .slice KA2 kn2 kc2] 28) := by
            rw [Below.heap_setCell _ _ _ _ (by show wr.heap.size ≠ g; omega)]; exact hB1
          have hz2 : (W1.setCell ⟨g, j, none⟩ (.slice NA m1 (c1 - 1))).heap.size = wr.heap.size + 1 := by simp [World.setCell, hz1]
          generalize (W1.setCell ⟨g, j, none⟩ (.slice NA m1 (c1 - 1))) = W2 at *
          clear hcell hfrz hcell1 hfrz1 hW1 hz1 hB1
          have hold2 : ∀ p : Addr, ((S p.block ∨ p.block = W.heap.size) ∨ S p.block) → W2.cell? p = wr.cell? p := fun p hp => hB12.cell (by
            rcases hp with (h | h) | h
            · have := (HHS.out _ h).1; omega
            · omega
            · have := (HHS.out _ h).1; omega)
          have hrow2 : RowL W2 (fun b => S b ∨ b = W.heap.size) S NA m1 (c1 - 1) r := by
            by_cases hc : c1 = 1
            · have h1 := HTAIL.out.1
              have h2 : m1 = 0 := by omega
              subst h2
              have h3 : r = [] := List.eq_nil_of_length_eq_zero h1
              subst h3
              exact RowL.nil _ _ _ _ _
            · rw [if_neg hc] at hNA
              subst hNA
              exact HTAIL.out.keep hold2
          have hst2 := HST1.out.keep hold2
          have hvy3 : VIn W2 S y _ := HVY.out.keep fun p hp => hold2 p (.inr hp)
          have hkc2 : KeptC C W W2 := ⟨Nat.le_trans HKC.out.size hB12.size, fun i hi hci => (hB12.block i (by omega)).trans (HKC.out.block i hi hci)⟩
          have hpl : p.length = j := by rw [← hst2.len, hlj]
          have hxs : ∃ rest, seen x = done ++ (j, y) :: rest := by
            refine ⟨(remR (y.inner :: r :: p)).take (mostP - done.length - 1), ?_⟩
            unfold seen
            rw [HPRE.out, remR_cons, hpl, List.take_append, List.take_of_length_le HDL.out]
            obtain ⟨q, hq⟩ : ∃ q, mostP - done.length = q + 1 := ⟨mostP - done.length - 1, by unfold mostP; omega⟩
            rw [hq]; rfl
          obtain ⟨rest, hxs⟩ := hxs
          obtain ⟨fn, tmps, assign, body, hy, hR⟩ := HY.out done (j, y) rest W2 #[.int .i64 (j : Int), .agg #[.int .i64 k2, .bool neg2, .slice A2 n2 c2, .int .i64 e2, .string t2, .slice LA2 ln2 lc2, .slice KA2 kn2 kc2]] (HJ.out _ _ _ HJK.out (hB12.mono (by omega))) hkc2 hxs ⟨_, rfl, hvy3⟩
          have HPL := Lib.hid hpl
          have HXS := Lib.hid hxs
          have HST2 := Lib.hid hst2
          have HROW2 := Lib.hid hrow2
          have HVY3 := Lib.hid hvy3
          have HKC2 := Lib.hid hkc2
          have HZ2 := Lib.hid hz2
          have HB12 := Lib.hid hB12
          have HP2 := Lib.hid hp2
          have HIN := Lib.hid (fun V => inside_c k2 neg2 A2 n2 c2 e2 t2 LA2 ln2 lc2 KA2 kn2 kc2 V)
          clear hpl hxs hst2 hrow2 hvy3 hkc2 hold2 hNA hz2 hB12 d0 d1 d2 d3 d4 d5 d6
          obtain ⟨x0, x1, x2, x3, x4, x5, x6⟩ := box7_of hp2
          clear hp2
          gi_upto_region 9 with (refine ⟨rfl, ?_⟩; refine hR.mono ?_; rintro e W3 (⟨rfl, hJ3, hk3⟩ | ⟨rfl, hJx3⟩))
          · clear hR hy x0 x1 x2 x3 x4 x5 x6
            have hnC : ∀ k, W.heap.size ≤ k → ¬ C k := fun k hk hc => absurd (HHC.out k hc) (by omega)
            have hp3 : W3.heap[wr.heap.size]? = some (.cells #[.int .i64 k2, .bool neg2, .slice A2 n2 c2, .int .i64 e2, .string t2, .slice LA2 ln2 lc2, .slice KA2 kn2 kc2] 28) := (hk3.block _ (by rw [HZ2.out]; omega) (hnC _ (by omega))).trans HP2.out
            have hO3 : W3.ownsRow (W.heap.size + 1) 25 1 (.slice (some ⟨g, 0, none⟩) (j + 1) cap) (j + 1) (ls ++ [.slice NA m1 (c1 - 1)]) := by
              have h1 := HO2.out
              rw [show (ls ++ [Value.slice (some ⟨b, off, none⟩) (m1 + 1) c1]).set j (.slice NA m1 (c1 - 1)) = ls ++ [.slice NA m1 (c1 - 1)] by rw [← hlj]; simp] at h1
              exact own_keep h1 fun k h2 h3 => hk3.block k h3 (hnC k (by omega))
            have hold3 : ∀ q : Addr, ((S q.block ∨ q.block = W.heap.size) ∨ S q.block) → W3.cell? q = W2.cell? q := fun q hq => by
              have h1 : q.block < W2.heap.size ∧ ¬ C q.block := by
                have h2 := HZ2.out
                rcases hq with (h | h) | h
                · have := HHS.out _ h; exact ⟨by omega, this.2⟩
                · exact ⟨by omega, hnC _ (by omega)⟩
                · have := HHS.out _ h; exact ⟨by omega, this.2⟩
              exact hk3.cell h1.1 h1.2
            have hst3 : Stk W3 (fun b => S b ∨ b = W.heap.size) S (ls ++ [.slice NA m1 (c1 - 1)]) (r :: p) := (Stk.snoc HST2.out HROW2.out).keep hold3
            obtain ⟨iA, iN, iC, hIV, hIR⟩ : ∃ iA iN iC, (if hold k2 then Value.slice LA2 ln2 lc2 else .slice none 0 0) = .slice iA iN iC ∧ RowL W3 (fun b => S b ∨ b = W.heap.size) S iA iN iC y.inner := by
              rw [HY2.out, inner_mk]
              by_cases hh : hold k2 = true
              · rw [if_pos hh, if_pos hh]
                have h1 := HVY3.out
                rw [HY2.out] at h1
                obtain ⟨A', n', c', LA', ln', lc', KA', kn', kc', he, _, _, _, h2, _, _, h3⟩ := h1.parts
                simp only [List.cons.injEq, Value.slice.injEq] at he
                obtain ⟨_, _, _, _, _, ⟨rfl, rfl, rfl⟩, _⟩ := he
                exact ⟨_, _, _, rfl, (RowL.of h2 h3 (fun b hb => .inl hb)).keep hold3⟩
              · rw [if_neg hh, if_neg hh]
                exact ⟨_, _, _, rfl, RowL.nil _ _ _ _ _⟩
            have HIN3 := HIN.out W3
            rw [hIV] at HIN3
            have HIR := Lib.hid hIR
            have HST3 := Lib.hid hst3
            have HO3 := Lib.hid hO3
            have HK3 := Lib.hid hk3
            have HNC := Lib.hid hnC
            have HJ3 := Lib.hid hJ3
            clear hold3 hst3 hIR hIV hO3 hk3 hnC hJ3
            obtain ⟨x0, x1, x2, x3, x4, x5, x6⟩ := box7_of hp3
            clear hp3
            obtain ⟨i0, hi, hq0, hq1, hq2⟩ := info_parts infoSV
            have hsz3 : W.heap.size + 1 ≤ W3.heap.size := by have h1 := HZ2.out; have h2 := HK3.out.size; omega
            have hjb := HJB.out
            gi_upto_region 10 with (first | (refine ⟨trivial, rfl, ?_⟩; refine (callsIn_wide.2 HIN3).mono ?_; rintro e W4 ⟨rfl, hb4⟩; have hro : ∀ o, (W4.alloc o).ownsRow (W.heap.size + 1) 25 1 (.slice (some ⟨g, 0, none⟩) (j + 1) cap) (j + 1) (ls ++ [.slice NA m1 (c1 - 1)]) := fun o => (own_keep HO3.out fun k _ h3 => hb4.block k h3).alloc o; have hsz4 : W.heap.size + 1 ≤ W4.heap.size := Nat.le_trans hsz3 hb4.size) | (gi_at_builtin; refine wpListIn_append_own_at _ rfl (.tmp 48) (.tmp 51) _ rfl (W.heap.size + 1) 25 i0 (.slice none 0 0) 1 24 Tryz.underlying131 hi hq0 hq1 hq2 rfl (by decide) (.slice (some ⟨g, 0, none⟩) (j + 1) cap) (j + 1) (ls ++ [.slice NA m1 (c1 - 1)]) rfl (hro _) ⟨W4.heap.size, 0, none⟩ 1 1 [.slice iA iN iC] rfl rfl (cell_new1 _ _ _ _ (by simp)) (by simp [Value.oneCell']) (by unfold maxLen; omega) (by omega) (by simp; omega) ?_; intro v' W5 hown5 hg5 _ hat5))
            obtain ⟨g', cap', rfl⟩ := ownsRow_succ hown5
            have h54 : ∀ k, k < W.heap.size + 1 → W5.heap[k]? = W3.heap[k]? := fun k hk =>
              ((hg5.block k (by simp; omega) (by have := HBG.out; simp [Value.ownBlock]; omega)).trans (Below.heap_alloc _ _ _ (by omega))).trans (hb4.block k (by omega))
            have hbel5 : Below W.heap.size W3 W5 := (((hb4.mono (by omega)).alloc (by omega) _).grown hg5 (by simp; omega) (fun k e => by have := HBG.out; simp [Value.ownBlock] at e; omega))
            have hold5 : ∀ q : Addr, ((S q.block ∨ q.block = W.heap.size) ∨ S q.block) → W5.cell? q = W3.cell? q := fun q hq => World.cell?_of_block (h54 _ (by
              rcases hq with (h | h) | h
              · have := (HHS.out _ h).1; omega
              · omega
              · have := (HHS.out _ h).1; omega))
            have hst5 : Stk W5 (fun b => S b ∨ b = W.heap.size) S ((ls ++ [.slice NA m1 (c1 - 1)]) ++ [.slice iA iN iC]) (y.inner :: r :: p) := (Stk.snoc HST3.out HIR.out).keep hold5
            have hkc5 : KeptC C W W5 := ⟨Nat.le_trans HKC2.out.size (Nat.le_trans HK3.out.size hbel5.size), fun i hi hci => by
              rw [h54 i (by omega), HK3.out.block i (by have := HKC2.out.size; omega) hci, HKC2.out.block i hi hci]⟩
            have hpre5 : Hid (pre 0 x = (done ++ [(j, y)]) ++ remR (y.inner :: r :: p)) := by
              show _ = _
              rw [HPRE.out, remR_cons, HPL.out, List.append_assoc]; rfl
            have hlen5 : (done ++ [(j, y)]).length = done.length + 1 := by simp
            have hj5 := HJ.out _ _ _ HJ3.out hbel5
            have HST5 := Lib.hid hst5
            have HKC5 := Lib.hid hkc5
            have HJ5 := Lib.hid hj5
            have HLEN5 := Lib.hid hlen5
            have HOWN5 := Lib.hid hown5
            clear hst5 hkc5 hj5 hlen5 hown5 h54 hbel5 hold5 hg5 hat5 hro hb4 x0 x1 x2 x3 x4 x5 x6
            have hd1 : IntKind.i64.wrap ((done.length : Int) + 1) = (done.length : Int) + 1 := IntWalk.i64_in _ (by omega)
            gi_wp2_with fail
            refine ⟨⟨j + 1 + 1, _, _, done ++ [(j, y)], by rw [HLEN5.out]; rfl, by simp, HOWN5.out, HST5.out, hpre5, by show _ ≤ _; rw [HLEN5.out]; unfold mostP; omega, HJ5.out, HKC5.out, by rw [HLEN5.out]; have := HMD.out; omega⟩, ?_⟩
            have := HMD.out
            simp [RowKit.intOf, lenOf]
            omega
          · ((try simp only [Exit.inBlock, Exit.then]); refine bodyPost_ret (results_none rfl _ _ _) rfl ?_)
            exact ⟨⟨_, rfl⟩, .inr ⟨_, hJx3⟩⟩
    · have hlt2 : ¬ (done.length : Int) < 21474836 := by omega
      have hdone : Hid (done = seen x) := by
        have h4 := HPRE.out
        have h5 := HDL.out
        show _ = _
        unfold seen
        rw [h4]
        have h6 : done.length = mostP := by unfold mostP at *; omega
        rw [← h6, List.take_left]
      gi_wp2
      go_end0
      refine ⟨⟨_, rfl⟩, .inl ?_⟩
      rw [← hdone.out]; exact HJK.out
end Go.Proofs.YtpmdcahomkdfmaaGreatDoor

namespace Go.Proofs.YtpmdcahomkdfmaaGreatDoor
open Go.RowKit Go.Lib
attribute [local go_sem] Oper.semAt_some

theorem keeps_below {A B : World} (h : Below A.heap.size A B) : KeepsOthers A B :=
  ⟨h.size, fun k o hk _ => (h.block k (Array.getElem?_eq_some_iff.1 hk).1).trans hk⟩
theorem kept_setC {C : Nat → Prop} (A : World) {b : Nat} (u : Value) (h : C b) : KeptC C A (A.setCell ⟨b, 0, none⟩ u) :=
  ⟨by simp [World.setCell], fun k _ hk => Below.heap_setCell _ _ _ _ (fun e => hk (by rw [e]; exact h))⟩
theorem boxed_ne2 {W : World} {B C i : Nat} {t : TypeId} {v : Value} (h : Boxed W B t v) (hne : B ≠ C) (u : Value) : Boxed (W.setCell ⟨C, i, none⟩ u) B t v := by
  show (W.setCell ⟨C, i, none⟩ u).heap[B]? = _
  rw [Below.heap_setCell _ _ _ _ hne]
  exact h
theorem encV_keep {S : Nat → Prop} {B : Nat} (hS : ∀ b, S b → b < B) : ∀ (W W' : World) (x : Nat × VT) (vs : Array Value), B + 2 ≤ W.heap.size → (∀ k, k < W.heap.size → k ≠ B + 1 → W'.heap[k]? = W.heap[k]?) → EncV S W x vs → EncV S W' x vs := by
  rintro W W' x vs h1 h2 ⟨cs, rfl, hv⟩
  exact ⟨cs, rfl, hv.keep fun p hp => World.cell?_of_block (h2 _ (by have := hS _ hp; omega) (by have := hS _ hp; omega))⟩

set_option maxRecDepth 100000 in
set_option maxHeartbeats 2000000 in
theorem size_c {S : Nat → Prop} {x : VT} {cs : List Value} (M : Nat) (w : World) (hx : VIn w S x cs) (hS : ∀ b, S b → b < w.heap.size) (hM1 : 1 ≤ M) (hM2 : M ≤ 2147483648) :
    Calls Tryz.prog 65 #[.agg cs.toArray, .int .i64 (M : Int)] w fun e w' => e = .returned (.int .i64 ((min M (seen x).length : Nat) : Int)) ∧ Below w.heap.size w w' := by
  have HX := Lib.hid hx
  obtain ⟨k, neg, xs, e, t, li, ks, hxk⟩ : ∃ k neg xs e t li ks, x = VT.mk k neg xs e t li ks := by cases x; exact ⟨_, _, _, _, _, _, _, rfl⟩
  rw [hxk] at hx
  obtain ⟨A, n, c, LA, ln, lc, KA, kn, kc, rfl, -⟩ := hx.parts
  clear hx hxk
  have HS := Lib.hid hS
  clear hS
  refine (callsIn_wide (n := 0)).1 ?_
  refine callsIn_of_wp_marks Tryz.func65 rfl trivial ?_ rfl
  simp only [Tryz.ntmps65, List.size_toArray, List.length_cons, List.length_nil, Nat.reduceAdd, Nat.reduceSub, Array.replicate_succ, Array.replicate_zero, List.push_toArray, List.append_toArray, List.nil_append, List.cons_append]
  gi_wp2_with fail
  have hb1 : Below w.heap.size w (((w.alloc (.cells #[.int .i64 k, .bool neg, .slice A n c, .int .i64 e, .string t, .slice LA ln lc, .slice KA kn kc] 28)).alloc (.cells #[.int .i64 (M : Int)] 3)).alloc (.cells #[.int .i64 0] 3)) := (((Below.refl _ w).alloc (Nat.le_refl _) _).alloc (by simp) _).alloc (by simp; omega) _
  have hz1 : (((w.alloc (.cells #[.int .i64 k, .bool neg, .slice A n c, .int .i64 e, .string t, .slice LA ln lc, .slice KA kn kc] 28)).alloc (.cells #[.int .i64 (M : Int)] 3)).alloc (.cells #[.int .i64 0] 3)).heap.size = w.heap.size + 3 := by simp
  have c1 : Boxed (((w.alloc (.cells #[.int .i64 k, .bool neg, .slice A n c, .int .i64 e, .string t, .slice LA ln lc, .slice KA kn kc] 28)).alloc (.cells #[.int .i64 (M : Int)] 3)).alloc (.cells #[.int .i64 0] 3)) (w.heap.size + 1) 3 (.int .i64 (M : Int)) := by
    have := (Boxed.new (w.alloc (.cells #[.int .i64 k, .bool neg, .slice A n c, .int .i64 e, .string t, .slice LA ln lc, .slice KA kn kc] 28)) 3 (.int .i64 (M : Int))).alloc (.cells #[.int .i64 0] 3)
    rwa [World.size_alloc] at this
  have c2 : Boxed (((w.alloc (.cells #[.int .i64 k, .bool neg, .slice A n c, .int .i64 e, .string t, .slice LA ln lc, .slice KA kn kc] 28)).alloc (.cells #[.int .i64 (M : Int)] 3)).alloc (.cells #[.int .i64 0] 3)) (w.heap.size + 1 + 1) 3 (.int .i64 0) := by
    have := Boxed.new ((w.alloc (.cells #[.int .i64 k, .bool neg, .slice A n c, .int .i64 e, .string t, .slice LA ln lc, .slice KA kn kc] 28)).alloc (.cells #[.int .i64 (M : Int)] 3)) 3 (.int .i64 0)
    rwa [World.size_alloc, World.size_alloc] at this
  generalize (((w.alloc (.cells #[.int .i64 k, .bool neg, .slice A n c, .int .i64 e, .string t, .slice LA ln lc, .slice KA kn kc] 28)).alloc (.cells #[.int .i64 (M : Int)] 3)).alloc (.cells #[.int .i64 0] 3)) = W1 at *
  refine ⟨trivial, rfl, ?_⟩
  refine (callsIn_wide.2 (vparts_c _ W1)).mono ?_
  rintro e' W2 ⟨rfl, hW2⟩
  rw [hz1]
  have hb2 : Below W1.heap.size W1 W2 := by rw [hW2]; exact (Below.refl _ _).alloc (Nat.le_refl _) _
  have hz2 : W2.heap.size = w.heap.size + 4 := by rw [hW2]; simp [hz1]
  have hbox : W2.heap[w.heap.size + 3]? = some (.cells #[.int .i64 k, .bool neg, .slice A n c, .int .i64 e, .string t, .slice LA ln lc, .slice KA kn kc] 28) := by rw [hW2, ← hz1]; exact World.alloc_heap_new _ _
  have d1 : Boxed W2 (w.heap.size + 1) 3 (.int .i64 (M : Int)) := (hb2.block _ (by omega)).trans c1
  have d2 : Boxed W2 (w.heap.size + 1 + 1) 3 (.int .i64 0) := (hb2.block _ (by omega)).trans c2
  have hw2 : Below w.heap.size w W2 := hb1.trans (hb2.mono (by omega))
  clear hW2 c1 c2 hb1 hb2
  gi_wp2_with fail
  refine range_law_c (gf := 91) (lb := #[.pointer (some ⟨w.heap.size + 3, 0, none⟩)]) rfl (enters_of Tryz.func91 (by kernel_rfl) rfl) (Enc := EncV S) (C := fun k => k = w.heap.size + 1 + 1) (xs := seen x)
    (fun W C' hW h1 h2 => vparts1_iter W ((hW.block _ (by omega)).trans hbox) (HX.out.keep fun p hp => (hw2.trans (hW.mono (by omega))).cell (HS.out _ hp)) (fun b hb => by
      have h3 := HS.out b hb
      exact ⟨by have := hW.size; omega, fun h4 => by have := h1 b (by omega) h4; omega⟩) h2)
    (fun W p vs ⟨cs, h, _⟩ => by rw [h]; rfl)
    (encV_keep fun b hb => by have := HS.out b hb; omega) (fun k hk => by omega)
    (fun pre W => pre.length < M ∧ Boxed W (w.heap.size + 1) 3 (.int .i64 (M : Int)) ∧ Boxed W (w.heap.size + 1 + 1) 3 (.int .i64 (pre.length : Int)) ∧ Below w.heap.size w W)
    (fun c pre W => c = .exit 0 ∧ Hid (M ≤ (seen x).length) ∧ Boxed W (w.heap.size + 1 + 1) 3 (.int .i64 (M : Int)) ∧ Below w.heap.size w W)
    ?_ ?_ ?_ ?_ ?_ ?_
  · rintro pre X Y ⟨h1, h2, h3, h4⟩ hb
    exact ⟨h1, (hb.block _ (by omega)).trans h2, (hb.block _ (by omega)).trans h3, h4.trans (hb.mono (by omega))⟩
  · rintro c pre X Y ⟨h0, h1, h3, h4⟩ hb
    exact ⟨h0, h1, (hb.block _ (by omega)).trans h3, h4.trans (hb.mono (by omega))⟩
  · intro W hW
    exact ⟨by simp; omega, (hW.block _ (by omega)).trans d1, (hW.block _ (by omega)).trans d2, hw2.trans (hW.mono (by omega))⟩
  · rintro l pre ⟨lv, y⟩ rest vs Wv hx ⟨cs2, rfl, hv2⟩ W K hK
    have HK := Lib.hid hK
    have HPX := Lib.hid hx
    clear hK hx hv2
    gi_wp2
    refine HK.out _ _ (Below.refl _ _) ?_
    rintro W3 ⟨h1, h2, h3, h4⟩ hev hkc hsz3 hsz4 hof
    clear hsz4 hof
    have HKC := Lib.hid hkc
    clear hkc hev
    have hc2 := h2.cell
    have hc3 := h3.cell
    have hf3 := h3.frozen
    have hw1 : IntKind.i64.wrap ((pre.length : Int) + 1) = (pre.length : Int) + 1 := IntWalk.i64_in _ (by omega)
    have hlen : (pre ++ [(lv, y)]).length = pre.length + 1 := by simp
    have hset := h3.set (.int .i64 ((pre.length : Int) + 1))
    have hc2' : (W3.setCell ⟨w.heap.size + 1 + 1, 0, none⟩ (.int .i64 ((pre.length : Int) + 1))).cell? ⟨w.heap.size + 1, 0, none⟩ = some (.int .i64 (M : Int)) := (boxed_ne2 h2 (by omega) _).cell
    have hc3' := hset.cell
    have hb3 : Below w.heap.size w (W3.setCell ⟨w.heap.size + 1 + 1, 0, none⟩ (.int .i64 ((pre.length : Int) + 1))) := h4.setCell (by show w.heap.size ≤ w.heap.size + 1 + 1; omega) _
    have HLEN := Lib.hid hlen
    clear hlen
    by_cases hM : pre.length + 1 = M
    · have hM' : (M : Int) ≤ (pre.length : Int) + 1 := by omega
      gi_wp2
      refine ⟨KeepsOthers.setCell _ _ _, rfl, by show _ ≤ _; rw [HPX.out]; simp; omega, ?_, hb3⟩
      rw [show (M : Int) = (pre.length : Int) + 1 by omega]; exact hset
    · have hM' : ¬ (M : Int) ≤ (pre.length : Int) + 1 := by omega
      gi_wp2
      refine ⟨KeepsOthers.setCell _ _ _, kept_setC _ _ rfl, by rw [HLEN.out]; omega, boxed_ne2 h2 (by omega) _, ?_, hb3⟩
      rw [HLEN.out]; exact hset
  · rintro D W ⟨h1, h2, h3, h4⟩ hD hK
    have hc3 := h3.cell
    have hmin : Hid (min M (seen x).length = (seen x).length) := by show _ = _; omega
    gi_wp2
    refine ⟨by simp, .inl ⟨_, _, rfl, run_takeDeferred hK, ?_⟩⟩
    exact ⟨.int .i64 ((seen x).length : Int), by simp [results, Tryz.results65, go_sem], by rw [hmin.out], h4.trans (below_putC W _ (by omega))⟩
  · rintro D c pre W ⟨rfl, hpx, h3, h4⟩ hD hK
    have hc3 := h3.cell
    have hle : Hid (min M (seen x).length = M) := by
      show _ = _
      have := hpx.out
      omega
    gi_wp2
    refine ⟨by simp, .inl ⟨_, _, rfl, run_takeDeferred hK, ?_⟩⟩
    exact ⟨.int .i64 (M : Int), by simp [results, Tryz.results65, go_sem], by rw [hle.out], h4.trans (below_putC W _ (by omega))⟩
end Go.Proofs.YtpmdcahomkdfmaaGreatDoor

namespace Go.Proofs.YtpmdcahomkdfmaaGreatDoor
open Go.RowKit Go.Lib
attribute [local go_sem] Oper.semAt_some

mutual
theorem pre_lvl (lv : Nat) : ∀ (x : VT) (i : Nat) (p : Nat × VT), (pre lv x)[i]? = some p → p.1 ≤ lv + i
  | .mk k n x e t l ks, i, p, h => by
    unfold pre at h
    cases i with
    | zero =>
      have h2 : (lv, VT.mk k n x e t l ks) = p := by simpa using h
      rw [← h2]; exact Nat.le_refl _
    | succ i =>
      rw [List.getElem?_cons_succ] at h
      split at h
      · have := preL_lvl (lv + 1) l i p h; omega
      · simp at h
theorem preL_lvl (lv : Nat) : ∀ (l : List VT) (i : Nat) (p : Nat × VT), (preL lv l)[i]? = some p → p.1 ≤ lv + i
  | [], i, p, h => by simp [preL] at h
  | v :: r, i, p, h => by
    unfold preL at h
    rw [List.getElem?_append] at h
    split at h
    · exact pre_lvl lv v i p h
    · have := preL_lvl lv r _ p h; omega
end
theorem seen_lvl {x y : VT} {lv : Nat} {a r : List (Nat × VT)} (h : seen x = a ++ (lv, y) :: r) : lv < 21474836 := by
  have h1 : (seen x)[a.length]? = some (lv, y) := by rw [h]; simp
  have h2 : a.length < mostP := by
    have := congrArg List.length h
    unfold seen at this
    rw [List.length_take, List.length_append, List.length_cons] at this
    omega
  unfold seen at h1
  rw [List.getElem?_take, if_pos h2] at h1
  have := pre_lvl 0 x _ _ h1
  unfold mostP at h2
  simp at this
  omega

set_option maxRecDepth 100000 in
set_option maxHeartbeats 2000000 in
theorem deep_c {S : Nat → Prop} {x : VT} {cs : List Value} (M : Nat) (w : World) (hx : VIn w S x cs) (hS : ∀ b, S b → b < w.heap.size) (hM1 : 1 ≤ M) (hM2 : M ≤ 2147483648) :
    Calls Tryz.prog 64 #[.agg cs.toArray, .int .i64 (M : Int)] w fun e w' => ∃ o : Nat, e = .returned (.int .i64 (o : Int)) ∧ (M ≤ o ↔ M ≤ deepL (seen x)) ∧ Below w.heap.size w w' := by
  have HX := Lib.hid hx
  obtain ⟨k, neg, xs, e, t, li, ks, hxk⟩ : ∃ k neg xs e t li ks, x = VT.mk k neg xs e t li ks := by cases x; exact ⟨_, _, _, _, _, _, _, rfl⟩
  rw [hxk] at hx
  obtain ⟨A, n, c, LA, ln, lc, KA, kn, kc, rfl, -⟩ := hx.parts
  clear hx hxk
  have HS := Lib.hid hS
  clear hS
  refine (callsIn_wide (n := 0)).1 ?_
  refine callsIn_of_wp_marks Tryz.func64 rfl trivial ?_ rfl
  simp only [Tryz.ntmps64, List.size_toArray, List.length_cons, List.length_nil, Nat.reduceAdd, Nat.reduceSub, Array.replicate_succ, Array.replicate_zero, List.push_toArray, List.append_toArray, List.nil_append, List.cons_append]
  gi_wp2_with fail
  have hb1 : Below w.heap.size w (((w.alloc (.cells #[.int .i64 k, .bool neg, .slice A n c, .int .i64 e, .string t, .slice LA ln lc, .slice KA kn kc] 28)).alloc (.cells #[.int .i64 (M : Int)] 3)).alloc (.cells #[.int .i64 0] 3)) := (((Below.refl _ w).alloc (Nat.le_refl _) _).alloc (by simp) _).alloc (by simp; omega) _
  have hz1 : (((w.alloc (.cells #[.int .i64 k, .bool neg, .slice A n c, .int .i64 e, .string t, .slice LA ln lc, .slice KA kn kc] 28)).alloc (.cells #[.int .i64 (M : Int)] 3)).alloc (.cells #[.int .i64 0] 3)).heap.size = w.heap.size + 3 := by simp
  have c1 : Boxed (((w.alloc (.cells #[.int .i64 k, .bool neg, .slice A n c, .int .i64 e, .string t, .slice LA ln lc, .slice KA kn kc] 28)).alloc (.cells #[.int .i64 (M : Int)] 3)).alloc (.cells #[.int .i64 0] 3)) (w.heap.size + 1) 3 (.int .i64 (M : Int)) := by
    have := (Boxed.new (w.alloc (.cells #[.int .i64 k, .bool neg, .slice A n c, .int .i64 e, .string t, .slice LA ln lc, .slice KA kn kc] 28)) 3 (.int .i64 (M : Int))).alloc (.cells #[.int .i64 0] 3)
    rwa [World.size_alloc] at this
  have c2 : Boxed (((w.alloc (.cells #[.int .i64 k, .bool neg, .slice A n c, .int .i64 e, .string t, .slice LA ln lc, .slice KA kn kc] 28)).alloc (.cells #[.int .i64 (M : Int)] 3)).alloc (.cells #[.int .i64 0] 3)) (w.heap.size + 1 + 1) 3 (.int .i64 0) := by
    have := Boxed.new ((w.alloc (.cells #[.int .i64 k, .bool neg, .slice A n c, .int .i64 e, .string t, .slice LA ln lc, .slice KA kn kc] 28)).alloc (.cells #[.int .i64 (M : Int)] 3)) 3 (.int .i64 0)
    rwa [World.size_alloc, World.size_alloc] at this
  generalize (((w.alloc (.cells #[.int .i64 k, .bool neg, .slice A n c, .int .i64 e, .string t, .slice LA ln lc, .slice KA kn kc] 28)).alloc (.cells #[.int .i64 (M : Int)] 3)).alloc (.cells #[.int .i64 0] 3)) = W1 at *
  refine ⟨trivial, rfl, ?_⟩
  refine (callsIn_wide.2 (vparts_c _ W1)).mono ?_
  rintro e' W2 ⟨rfl, hW2⟩
  rw [hz1]
  have hb2 : Below W1.heap.size W1 W2 := by rw [hW2]; exact (Below.refl _ _).alloc (Nat.le_refl _) _
  have hz2 : W2.heap.size = w.heap.size + 4 := by rw [hW2]; simp [hz1]
  have hbox : W2.heap[w.heap.size + 3]? = some (.cells #[.int .i64 k, .bool neg, .slice A n c, .int .i64 e, .string t, .slice LA ln lc, .slice KA kn kc] 28) := by rw [hW2, ← hz1]; exact World.alloc_heap_new _ _
  have d1 : Boxed W2 (w.heap.size + 1) 3 (.int .i64 (M : Int)) := (hb2.block _ (by omega)).trans c1
  have d2 : Boxed W2 (w.heap.size + 1 + 1) 3 (.int .i64 0) := (hb2.block _ (by omega)).trans c2
  have hw2 : Below w.heap.size w W2 := hb1.trans (hb2.mono (by omega))
  clear hW2 c1 c2 hb1 hb2
  gi_wp2_with fail
  refine range_law_c (gf := 91) (lb := #[.pointer (some ⟨w.heap.size + 3, 0, none⟩)]) rfl (enters_of Tryz.func91 (by kernel_rfl) rfl) (Enc := EncV S) (C := fun k => k = w.heap.size + 1 + 1) (xs := seen x)
    (fun W C' hW h1 h2 => vparts1_iter W ((hW.block _ (by omega)).trans hbox) (HX.out.keep fun p hp => (hw2.trans (hW.mono (by omega))).cell (HS.out _ hp)) (fun b hb => by
      have h3 := HS.out b hb
      exact ⟨by have := hW.size; omega, fun h4 => by have := h1 b (by omega) h4; omega⟩) h2)
    (fun W p vs ⟨cs, h, _⟩ => by rw [h]; rfl)
    (encV_keep fun b hb => by have := HS.out b hb; omega) (fun k hk => by omega)
    (fun pre W => deepL pre < M ∧ Boxed W (w.heap.size + 1) 3 (.int .i64 (M : Int)) ∧ Boxed W (w.heap.size + 1 + 1) 3 (.int .i64 (deepL pre : Int)) ∧ Below w.heap.size w W)
    (fun c pre W => c = .exit 0 ∧ ∃ o : Nat, Hid (M ≤ deepL (seen x)) ∧ M ≤ o ∧ Boxed W (w.heap.size + 1 + 1) 3 (.int .i64 (o : Int)) ∧ Below w.heap.size w W)
    ?_ ?_ ?_ ?_ ?_ ?_
  · rintro pre X Y ⟨h1, h2, h3, h4⟩ hb
    exact ⟨h1, (hb.block _ (by omega)).trans h2, (hb.block _ (by omega)).trans h3, h4.trans (hb.mono (by omega))⟩
  · rintro c pre X Y ⟨h0, o, h1, h2, h3, h4⟩ hb
    exact ⟨h0, o, h1, h2, (hb.block _ (by omega)).trans h3, h4.trans (hb.mono (by omega))⟩
  · intro W hW
    exact ⟨by simp [deepL]; omega, (hW.block _ (by omega)).trans d1, (hW.block _ (by omega)).trans d2, hw2.trans (hW.mono (by omega))⟩
  · rintro l pre ⟨lv, y⟩ rest vs Wv hx ⟨cs2, rfl, hv2⟩ W K hK
    have HK := Lib.hid hK
    have HPX := Lib.hid hx
    obtain ⟨k2, neg2, xs2, e2, t2, li2, ks2, hy⟩ : ∃ k2 neg2 xs2 e2 t2 li2 ks2, y = VT.mk k2 neg2 xs2 e2 t2 li2 ks2 := by cases y; exact ⟨_, _, _, _, _, _, _, rfl⟩
    rw [hy] at hv2
    obtain ⟨A2, n2, c2, LA2, ln2, lc2, KA2, kn2, kc2, rfl, -⟩ := hv2.parts
    have HY := Lib.hid hy
    clear hK hx hv2 hy
    have hW1 : Below W.heap.size W (W.alloc (.cells #[.int .i64 k2, .bool neg2, .slice A2 n2 c2, .int .i64 e2, .string t2, .slice LA2 ln2 lc2, .slice KA2 kn2 kc2] 28)) := (Below.refl _ _).alloc (Nat.le_refl _) _
    have hm1 := World.alloc_heap_new W (.cells #[.int .i64 k2, .bool neg2, .slice A2 n2 c2, .int .i64 e2, .string t2, .slice LA2 ln2 lc2, .slice KA2 kn2 kc2] 28)
    have hz1 : (W.alloc (.cells #[.int .i64 k2, .bool neg2, .slice A2 n2 c2, .int .i64 e2, .string t2, .slice LA2 ln2 lc2, .slice KA2 kn2 kc2] 28)).heap.size = W.heap.size + 1 := by simp
    gi_wp2
    refine HK.out _ _ hW1 ?_
    rintro W3 ⟨h1, h2, h3, h4⟩ hev hkc hsz3 hsz4 hof
    have hm3 := (hof _ (by rw [hz1]; omega) (by omega)).trans hm1
    clear hsz4 hof hev hkc hW1 hm1 hz1
    obtain ⟨x0, x1, x2, x3, x4, x5, x6⟩ := box7_of hm3
    have hlv := seen_lvl HPX.out
    have hdl : deepL (pre ++ [(lv, y)]) = max (deepL pre) (if hold k2 then lv + 1 else 0) := by
      rw [deepL_append, HY.out]
      exact congrArg (max (deepL pre)) (Nat.max_zero _)
    have HDL := Lib.hid hdl
    have HGE : Hid (deepL (pre ++ [(lv, y)]) ≤ deepL (seen x)) := by
      show _ ≤ _
      have h5 := deepL_append (pre ++ [(lv, y)]) rest
      rw [List.append_assoc] at h5
      have h6 := HPX.out
      rw [h6]
      simp only [List.singleton_append] at h5
      omega
    clear hdl
    gi_wp2_with fail
    refine ⟨trivial, rfl, ?_⟩
    refine CallsIn.inRound l ?_
    refine (callsIn_wide.2 (holds_c k2 neg2 A2 n2 c2 e2 t2 LA2 ln2 lc2 KA2 kn2 kc2 W3)).mono ?_
    rintro e' W4 ⟨rfl, hb4⟩
    have g2 : Boxed W4 (w.heap.size + 1) 3 (.int .i64 (M : Int)) := (hb4.block _ h2.lt).trans h2
    have g3 : Boxed W4 (w.heap.size + 1 + 1) 3 (.int .i64 (deepL pre : Int)) := (hb4.block _ h3.lt).trans h3
    have g4 := h4.trans (hb4.mono h4.size)
    have HK4 := Lib.hid (keeps_below hb4)
    have HC4 := Lib.hid (KeptC.of_below (C := fun k => k = w.heap.size + 1 + 1) hb4)
    have hc2 := Boxed.cell g2
    have hc3 := Boxed.cell g3
    have hf3 := Boxed.frozen g3
    clear x0 x1 x2 x3 x4 x5 x6 hm3 hb4
    have G2 := Lib.hid g2
    have G3 := Lib.hid g3
    have G4 := Lib.hid g4
    have H1 := Lib.hid h1
    clear g2 g3 g4 h1 h2 h3 h4
    obtain ⟨HK, hHK⟩ : ∃ b, hold k2 = b := ⟨_, rfl⟩
    rw [hHK] at HDL ⊢
    clear hHK
    have hw1 : IntKind.i64.wrap ((lv : Int) + 1) = (lv : Int) + 1 := IntWalk.i64_in _ (by omega)
    cases HK
    · have hd2 : deepL (pre ++ [(lv, y)]) = deepL pre := by have := HDL.out; simpa using this
      have hM' : ¬ (M : Int) ≤ (deepL pre : Int) := by have := H1.out; omega
      have HD2 := Lib.hid hd2
      clear hd2
      gi_wp2_with fail
      exact ⟨HK4.out, HC4.out, by rw [HD2.out]; exact H1.out, G2.out, by rw [HD2.out]; exact G3.out, G4.out⟩
    · have hd2 : deepL (pre ++ [(lv, y)]) = max (deepL pre) (lv + 1) := by have := HDL.out; simpa using this
      have HD2 := Lib.hid hd2
      clear hd2
      have hset := G3.out.set (.int .i64 (max (deepL pre : Int) ((lv : Int) + 1)))
      have hmx : max (deepL pre : Int) ((lv : Int) + 1) = ((deepL (pre ++ [(lv, y)]) : Nat) : Int) := by rw [HD2.out]; omega
      have HMX := Lib.hid hmx
      have HSET := Lib.hid hset
      have hc2' := (boxed_ne2 (i := 0) G2.out (show w.heap.size + 1 ≠ w.heap.size + 1 + 1 by omega) (.int .i64 (max (deepL pre : Int) ((lv : Int) + 1)))).cell
      have hc3' := hset.cell
      clear hmx hset
      gi_wp2_with fail
      · refine ⟨HK4.out.trans (KeepsOthers.setCell _ _ _), rfl, deepL (pre ++ [(lv, y)]), ?_, ?_, ?_, G4.out.setCell (by show w.heap.size ≤ w.heap.size + 1 + 1; omega) _⟩
        · show _ ≤ _
          have h5 := HMX.out
          have h6 := HGE.out
          omega
        · have h5 := HMX.out
          omega
        · rw [← HMX.out]; exact HSET.out
      · refine ⟨HK4.out.trans (KeepsOthers.setCell _ _ _), HC4.out.trans (kept_setC _ _ rfl), ?_, boxed_ne2 G2.out (by omega) _, ?_, G4.out.setCell (by show w.heap.size ≤ w.heap.size + 1 + 1; omega) _⟩
        · have h5 := HMX.out
          omega
        · rw [← HMX.out]; exact HSET.out
  · rintro D W ⟨h1, h2, h3, h4⟩ hD hK
    have hc3 := h3.cell
    gi_wp2
    refine ⟨by simp, .inl ⟨_, _, rfl, run_takeDeferred hK, ?_⟩⟩
    exact ⟨.int .i64 (deepL (seen x) : Int), by simp [results, Tryz.results64, go_sem], _, rfl, Iff.rfl, h4.trans (below_putC W _ (by omega))⟩
  · rintro D c pre W ⟨rfl, o, h1, h2, h3, h4⟩ hD hK
    have hc3 := h3.cell
    gi_wp2
    refine ⟨by simp, .inl ⟨_, _, rfl, run_takeDeferred hK, ?_⟩⟩
    exact ⟨.int .i64 (o : Int), by simp [results, Tryz.results64, go_sem], _, rfl, ⟨fun _ => h1.out, fun _ => h2⟩, h4.trans (below_putC W _ (by omega))⟩
end Go.Proofs.YtpmdcahomkdfmaaGreatDoor
