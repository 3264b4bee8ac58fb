/-
  A law for 'for x := range f' over a function whose rounds may leave early: the iterator's contract may name blocks of its own that stay as they are between the rounds; the caller's invariant abides new blocks. Over any program, no condition beyond what the law names.
  What the package utf takes of Go's library, at this program: a character decoded, and the two tables that this reads; a copy of a text. What each asks stands in its premises.
  Arguments that are values; the tables of the library as a row lists them.
  Contracts of nat's small functions (sign, limbAt, Check). Each says what the call returns; the world is as it was.
-/
import Derived.RangeFuncNested
import Derived.RangeFuncBound
import Derived.RangeFuncCalls
import Derived.RangeFuncLeaves
import Derived.RangeFuncBox
import Derived.Shelf.Abstract
import Derived.WalkKit
import Derived.OwnWalkIn
import Derived.TacticsInMore
import Derived.LoopNIn
import Derived.LoopIn
import Derived.Test.YtpmdcahomkdfmaaGreatDoorProg
import Derived.Sort.QuietTacIn
import Derived.Shelf.RegionOpen
import Derived.Outline
import Derived.Sort.LoopGhostIn
import Derived.Test.YtpmdcahomkdfmaaGreatDoorBUsync
import Derived.Test.YtpmdcahomkdfmaaGreatDoorShelf
import Derived.Shelf.Pu.Clone
import Derived.Test.YtpmdcahomkdfmaaGreatDoorRows
import Derived.Test.YtpmdcahomkdfmaaGreatDoorBVbas
import Derived.ProofKit
import Derived.OpenShut
import Derived.SizedLaws
import Derived.Lib.LaidU8
import Derived.PinnedBridge
import Derived.MakeChecks
import Derived.Test.YtpmdcahomkdfmaaGreatDoorBNmem
set_option linter.unusedVariables false
set_option linter.unusedSimpArgs false
namespace Go.Proofs.YtpmdcahomkdfmaaGreatDoor
open Go.RowKit

/-- What a round keeps: the blocks that the iterator reads, and its own. -/
structure KeptS (keep : Nat → Prop) (R : Nat → Prop) (A B : World) : Prop where
  size : A.heap.size ≤ B.heap.size
  block : ∀ k, (keep k ∨ R k) → B.heap[k]? = A.heap[k]?
theorem KeptS.refl (keep R : Nat → Prop) (A : World) : KeptS keep R A A := ⟨Nat.le_refl _, fun _ _ => rfl⟩
theorem KeptS.trans {keep R : Nat → Prop} {A B C : World} (h : KeptS keep R A B) (k : KeptS keep R B C) : KeptS keep R A C :=
  ⟨Nat.le_trans h.size k.size, fun i hi => (k.block i hi).trans (h.block i hi)⟩

/-- The contract of an iterator value at a world W: it hands out xs, one behind the other, till a round leaves. -/
def IterS {α : Type} (P : Program) (gf : Nat) (lb : Array Value) (encs : α → Array Value) (keep : Nat → Prop) (RP : (Nat → Prop) → Prop) (xs : List α) (W : World) : Prop :=
  ∀ (l : Nat) (J Jx : (Nat → Prop) → List α → World → Prop),
    (∀ R pre A B, J R pre A → Below A.heap.size A B → J R pre B) →
    (∀ R pre A B, Jx R pre A → Below A.heap.size A B → Jx R pre B) →
    (∀ R W0, RP R → Below W.heap.size W W0 → (∀ k, R k → W.heap.size ≤ k ∧ k < W0.heap.size) → J R [] W0) →
    (∀ R pre x rest W1, J R pre W1 → xs = pre ++ x :: rest → YieldAt Fence.wide 0 P l (encs x) W1 fun e W' => (e = .returned (.bool true) ∧ J R (pre ++ [x]) W' ∧ KeptS keep R W1 W') ∨ (e = .returned (.bool false) ∧ Jx R (pre ++ [x]) W')) →
    CallsIn Fence.wide 0 P gf (#[.func (.yield l) #[] #[]] ++ lb) W fun e W' => (∃ v, e = .returned v) ∧ ∃ R, J R xs W' ∨ ∃ pre, Jx R pre W'

/-- How the body of a round is left. -/
def roundEndS {α : Type} (keep : Nat → Prop) (I : (Nat → Prop) → List α → World → Prop) (Ix : Code → (Nat → Prop) → List α → World → Prop) (R : Nat → Prop) (xs : List α) (W : World) : Exit → Act → World → Prop
  | .normal, _, W' => KeepsOthers W W' ∧ KeptS keep R W W' ∧ I R xs W'
  | .ret, _, W' => KeepsOthers W W' ∧ Ix .ret R xs W'
  | .exit id, _, W' => KeepsOthers W W' ∧ Ix (.exit id) R xs W'
  | .goto t, _, W' => KeepsOthers W W' ∧ Ix (.goto t) R xs W'
  | .panic _, _, _ => False
  | .outgrown, _, _ => False

theorem only_putS (W : World) (l : Nat) (o : Obj) : W.grownBy (W.putObj l o) (some l) :=
  ⟨rfl, rfl, rfl, by simp, fun k _ hk => World.putObj_heap_other (fun e => hk (by rw [e]))⟩
theorem below_grew {A B : World} (h : Below A.heap.size A B) : A.grownBy B none := ⟨h.os, h.tape, h.output, h.size, fun k hk _ => h.block k hk⟩

theorem range_law_s {α : Type} {P : Program} {g : Operand} {ps : Array Tmp} {assign body : Code} {Q : Exit → Act → World → Prop} {a : Act} {w : World} {gf : Nat} {lb : Array Value}
    (hg : a.eval g = .func (.func gf) #[] lb) (eg : ∀ args w, (callFunc gf args).run P w = .ok (.enter gf args) w)
    {encs : α → Array Value} {keep : Nat → Prop} {RP : (Nat → Prop) → Prop} {xs : List α} (hit : ∀ W, Below w.heap.size w W → IterS P gf lb encs keep RP xs W) (hps : ∀ x, (encs x).size = ps.size) (hkeep : ∀ k, keep k → k < w.heap.size)
    (I : (Nat → Prop) → List α → World → Prop) (Ix : Code → (Nat → Prop) → List α → World → Prop)
    (hI : ∀ R pre A B row, I R pre A → A.grownBy B row → (∀ k, row = some k → w.heap.size ≤ k ∧ ∃ o : Obj, A.heap[k]? = some o ∧ o.isCells = false) → I R pre B)
    (hIx : ∀ c R pre A B row, Ix c R pre A → A.grownBy B row → (∀ k, row = some k → w.heap.size ≤ k ∧ ∃ o : Obj, A.heap[k]? = some o ∧ o.isCells = false) → Ix c R pre B)
    (h0 : ∀ R W0, RP R → Below w.heap.size w W0 → (∀ k, R k → w.heap.size ≤ k ∧ k < W0.heap.size) → I R [] W0)
    (hround : ∀ (l : Nat) (R : Nat → Prop) (pre : List α) (x : α) (rest : List α), xs = pre ++ x :: rest → ∀ (W : World) (K : Act → World → Prop),
      (∀ a₁, (∀ W2, I R pre W2 → w.heap.size + 2 ≤ W2.heap.size → (∀ k, R k → w.heap.size + 2 ≤ k ∧ k < W2.heap.size) → body.wpIn (Fence.wide.inRound l) 0 P (roundEndS keep I Ix R (pre ++ [x]) W2) a₁ W2) → K a₁ W) →
      assign.wpIn (Fence.wide.inRound l) 0 P (Exit.then K (fun _ _ _ => False)) { tmps := (ps.zip (encs x)).foldl (fun t (p, v) => t.setIfInBounds p v) a.tmps, defers := [] } W)
    (hdone : ∀ (D : Nat) (R : Nat → Prop) (W : World), I R xs W → w.heap.size ≤ D → W.heap[D]? = some (.deferred (some [])) → Q .normal { a with defers := { target := .collected D, args := #[] } :: a.defers } W)
    (hstop : ∀ (D : Nat) (c : Code) (R : Nat → Prop) (pre : List α) (W : World), Ix c R pre W → w.heap.size ≤ D → W.heap[D]? = some (.deferred (some [])) → c.wpIn Fence.wide 0 P Q { a with defers := { target := .collected D, args := #[] } :: a.defers } W) :
    (Code.rangeFunc g ps assign body).wpIn Fence.wide 0 P Q a w := by
  refine wpIn_rangeFunc fun fn _ => ?_
  obtain ⟨rec, hrec⟩ : ∃ rec : LoopState → Option Code → Loop, rec = fun st pe => { state := st, pending := pe, fn, tmps := a.tmps, params := ps, assign, body, defers := w.heap.size } := ⟨_, rfl⟩
  obtain ⟨W1, hW1⟩ : ∃ W1, (w.alloc (.deferred (some []))).alloc (.loop (rec .ready none)) = W1 := ⟨_, rfl⟩
  have hs1 : W1.heap.size = w.heap.size + 2 := by rw [← hW1]; simp
  have hL1 : W1.heap[w.heap.size + 1]? = some (.loop (rec .ready none)) := by
    rw [← hW1]
    have := World.alloc_heap_new (w.alloc (.deferred (some []))) (.loop (rec .ready none))
    rwa [World.size_alloc] at this
  have hK1 : W1.heap[w.heap.size]? = some (.deferred (some [])) := by
    rw [← hW1]; exact (Below.heap_alloc _ _ _ (by simp)).trans (World.alloc_heap_new w _)
  have hb1 : Below w.heap.size w W1 := by rw [← hW1]; exact ((Below.refl _ w).alloc (Nat.le_refl _) _).alloc (by simp) _
  refine ⟨w.heap.size + 1, [{ target := .collected w.heap.size, args := #[] }], W1, { target := .fn (.func gf) lb, args := #[.func (.yield (w.heap.size + 1)) #[] #[]] }, W1, gf,
    #[.func (.yield (w.heap.size + 1)) #[] #[]] ++ lb, W1, ?_, ?_, (fun _ _ => trivial), ?_, (fun h => absurd h (by decide)), ?_⟩
  · rw [← hW1, hrec]; exact run_enterLoop_outer _ _ _ _ _
  · simp only [resolve, hg]
    simp [go_sem]
  · simp [invoke, go_sem, eg]
  · have nocells : ∀ (A : World) (k : Nat) (o : Obj), A.heap[k]? = some o → o.isCells = false → w.heap.size ≤ k → ∀ j, some k = some j → w.heap.size ≤ j ∧ ∃ o : Obj, A.heap[j]? = some o ∧ o.isCells = false := fun A k o h1 h2 h3 j e => by injection e with e; subst e; exact ⟨h3, o, h1, h2⟩
    refine (hit W1 hb1 (w.heap.size + 1)
      (fun R pre W => I R pre W ∧ (∀ k, R k → w.heap.size + 2 ≤ k ∧ k < W.heap.size) ∧ W.heap[w.heap.size + 1]? = some (.loop (rec .ready none)) ∧ W.heap[w.heap.size]? = some (.deferred (some [])))
      (fun R pre W => ∃ c, Ix c R pre W ∧ W.heap[w.heap.size + 1]? = some (.loop (rec .done (some c))) ∧ W.heap[w.heap.size]? = some (.deferred (some []))) ?_ ?_ ?_ ?_).mono ?_
    · rintro R pre A B ⟨hi, hr, hl, hk⟩ hb
      refine ⟨hI R pre A B none hi (below_grew hb) (fun k e => by cases e), (fun k e => by have := hr k e; have := hb.size; omega), (hb.block _ (Array.getElem?_eq_some_iff.1 hl).1).trans hl, (hb.block _ (Array.getElem?_eq_some_iff.1 hk).1).trans hk⟩
    · rintro R pre A B ⟨c, hi, hl, hk⟩ hb
      exact ⟨c, hIx c R pre A B none hi (below_grew hb) (fun k e => by cases e), (hb.block _ (Array.getElem?_eq_some_iff.1 hl).1).trans hl, (hb.block _ (Array.getElem?_eq_some_iff.1 hk).1).trans hk⟩
    · intro R W0 hrp hb hr
      have hsz := hb.size
      refine ⟨h0 R W0 hrp (hb1.trans (hb.mono (by omega))) (fun k e => by have := hr k e; omega), fun k e => by have := hr k e; omega, (hb.block _ (by omega)).trans hL1, (hb.block _ (by omega)).trans hK1⟩
    · rintro R pre x rest W ⟨hi, hr, hl, hk⟩ hx
      have hlt : w.heap.size + 1 < W.heap.size := (Array.getElem?_eq_some_iff.1 hl).1
      have hy := run_yield (P := P) (args := encs x) hl (by rw [hrec]; exact hps x)
      rw [hrec] at hy
      refine ⟨fn, _, assign, body, hy, roundIn_of_wpIn trivial (hround _ R pre x rest hx W _ (fun a₁ hb3 => ⟨_, run_beginRound hl (by rw [hrec]), ?_⟩))⟩
      obtain ⟨W2, hW2⟩ : ∃ W2, W.putObj (w.heap.size + 1) (.loop { rec .ready none with state := .busy }) = W2 := ⟨_, rfl⟩
      have hl2 : W2.heap[w.heap.size + 1]? = some (.loop { rec .ready none with state := .busy }) := by rw [← hW2]; exact World.putObj_heap_same hlt
      have hk2 : W2.heap[w.heap.size]? = some (.deferred (some [])) := by rw [← hW2]; exact (World.putObj_heap_other (by omega)).trans hk
      have hi2 : I R pre W2 := by rw [← hW2]; exact hI R pre _ _ _ hi (only_putS _ _ _) (nocells _ _ _ hl rfl (by omega))
      have hkp : ∀ (A : World) (o : Obj), KeptS keep R A (A.putObj (w.heap.size + 1) o) := fun A o =>
        ⟨by simp, fun k hkk => World.putObj_heap_other (by
          rintro rfl
          rcases hkk with h | h
          · have := hkeep _ h; omega
          · have := hr _ h; omega)⟩
      have hsz2 : W2.heap.size = W.heap.size := by rw [← hW2]; simp
      rw [hW2]
      refine wpIn_mono (hb3 W2 hi2 (by have := (Array.getElem?_eq_some_iff.1 hl2).1; omega) (fun k e => by have := hr k e; omega)) ?_
      have fin : ∀ (jump : Option Code) (W3 : World), KeepsOthers W2 W3 →
          (Instr.endRound (w.heap.size + 1) jump).run P W3 = .ok (.bool jump.isNone) (W3.putObj (w.heap.size + 1) (.loop (rec (if jump.isNone then .ready else .done) jump))) ∧
          W3.heap[w.heap.size + 1]? = some (.loop { rec .ready none with state := .busy }) ∧
          (W3.putObj (w.heap.size + 1) (.loop (rec (if jump.isNone then .ready else .done) jump))).heap[w.heap.size + 1]? = some (.loop (rec (if jump.isNone then .ready else .done) jump)) ∧
          (W3.putObj (w.heap.size + 1) (.loop (rec (if jump.isNone then .ready else .done) jump))).heap[w.heap.size]? = some (.deferred (some [])) := fun jump W3 hk3 => by
        have hl3 := hk3.same _ _ hl2 rfl
        have := run_endRound (P := P) jump hl3
        rw [hrec] at this ⊢
        exact ⟨this, by rw [hrec] at hl3; exact hl3, World.putObj_heap_same (Array.getElem?_eq_some_iff.1 hl3).1, (World.putObj_heap_other (by omega)).trans (hk3.same _ _ hk2 rfl)⟩
      intro e a3 W3 hp
      cases e with
      | normal =>
        obtain ⟨hk3, hkp3, hi3⟩ := hp
        obtain ⟨hr3, hl3, hl4, hk4⟩ := fin none W3 hk3
        refine ⟨_, _, hr3, .inl ⟨rfl, ⟨hI R _ _ _ _ hi3 (only_putS _ _ _) (nocells _ _ _ hl3 rfl (by omega)), (fun k e => by have h5 := hr k e; have h6 := hk3.size; simp; omega), hl4, hk4⟩, ?_⟩⟩
        exact ((by rw [← hW2]; exact hkp W _ : KeptS keep R W W2).trans hkp3).trans (hkp W3 _)
      | ret =>
        obtain ⟨hk3, hi3⟩ := hp
        obtain ⟨hr3, hl3, hl4, hk4⟩ := fin (some .ret) W3 hk3
        exact ⟨_, _, hr3, .inr ⟨rfl, .ret, hIx _ R _ _ _ _ hi3 (only_putS _ _ _) (nocells _ _ _ hl3 rfl (by omega)), hl4, hk4⟩⟩
      | exit id =>
        obtain ⟨hk3, hi3⟩ := hp
        obtain ⟨hr3, hl3, hl4, hk4⟩ := fin (some (.exit id)) W3 hk3
        exact ⟨_, _, hr3, .inr ⟨rfl, .exit id, hIx _ R _ _ _ _ hi3 (only_putS _ _ _) (nocells _ _ _ hl3 rfl (by omega)), hl4, hk4⟩⟩
      | goto t =>
        obtain ⟨hk3, hi3⟩ := hp
        obtain ⟨hr3, hl3, hl4, hk4⟩ := fin (some (.goto t)) W3 hk3
        exact ⟨_, _, hr3, .inr ⟨rfl, .goto t, hIx _ R _ _ _ _ hi3 (only_putS _ _ _) (nocells _ _ _ hl3 rfl (by omega)), hl4, hk4⟩⟩
      | panic ch => exact hp.elim
      | outgrown => exact hp.elim
    · rintro e W2 ⟨⟨v, rfl⟩, R, ⟨hi, hr, hl, hk⟩ | ⟨pre, c, hi, hl, hk⟩⟩
      · refine ⟨none, _, by have := run_endLoop (P := P) hl (by rw [hrec]; simp); rw [hrec] at this; exact this, ?_⟩
        exact hdone _ R _ (hI R _ _ _ _ hi (only_putS _ _ _) (nocells _ _ _ hl rfl (by omega))) (Nat.le_refl _) ((World.putObj_heap_other (by omega)).trans hk)
      · refine ⟨some c, _, by have := run_endLoop (P := P) hl (by rw [hrec]; simp); rw [hrec] at this; exact this, ?_⟩
        exact hstop _ c R pre _ (hIx c R _ _ _ _ hi (only_putS _ _ _) (nocells _ _ _ hl rfl (by omega))) (Nat.le_refl _) ((World.putObj_heap_other (by omega)).trans hk)
end Go.Proofs.YtpmdcahomkdfmaaGreatDoor

namespace Go.Proofs.YtpmdcahomkdfmaaGreatDoor
open Go.RowKit Go.Lib

/-- The two tables of the library as its text lays them. -/
def Tabs (w : World) : Prop := Lib.Utf8Tabs 0 1 w
theorem Tabs.same {w w' : World} (h : Tabs w) (h1 : w'.heap[(0 : Nat)]? = w.heap[(0 : Nat)]?) (h2 : w'.heap[(1 : Nat)]? = w.heap[(1 : Nat)]?) : Tabs w' :=
  ⟨fun c hc => (World.cell?_of_block h1).trans (h.1 c hc), fun i hi => ⟨(World.cell?_of_block h2).trans (h.2 i hi).1, (World.cell?_of_block h2).trans (h.2 i hi).2⟩⟩
theorem cell_lt {w : World} {b o : Nat} {v : Value} (h : w.cell? ⟨b, o, none⟩ = some v) : b < w.heap.size := by
  rcases Nat.lt_or_ge b w.heap.size with h1 | h1
  · exact h1
  · exfalso
    unfold World.cell? at h
    simp [Array.getElem?_eq_none h1] at h
theorem Tabs.lt0 {w : World} (h : Tabs w) : 0 < w.heap.size := cell_lt (h.1 0 (by omega))
theorem Tabs.lt1 {w : World} (h : Tabs w) : 1 < w.heap.size := cell_lt (h.2 0 (by omega)).1
theorem Tabs.below {w w' : World} (h : Tabs w) (hb : Below w.heap.size w w') : Tabs w' := h.same (hb.block _ h.lt0) (hb.block _ h.lt1)

theorem decodeGo_L (s : ByteArray) (h : s.data.toList ≠ []) : decodeGo s = decodeL s.data.toList := by
  unfold decodeGo decodeL
  have : s.size ≠ 0 := by
    intro e
    apply h
    exact List.eq_nil_of_length_eq_zero (by rw [Array.length_toList]; exact e)
  rw [if_neg this]
theorem decode_c (s : ByteArray) (w : World) (hT : Tabs w) (hs : s.data.toList ≠ []) :
    Calls Tryz.prog 70 #[.string s] w fun e w' => e = .returned (.tuple #[.int .i32 ((decodeL s.data.toList).1 : Int), .int .i64 (wid s.data.toList : Int)]) ∧ Below w.heap.size w w' := by
  have := Tryz.utf8_DecodeRuneInString s w hT
  rw [decodeGo_L s hs] at this
  exact this

def cloneRen : Go.Shelf.Ren := ⟨fun | 25 => 58 | n => n, fun | 0 => 0 | 3 => 3 | 4 => 4 | 5 => 5 | 9 => 9 | 37 => 78 | 47 => 114 | n => n, fun | n => n⟩
theorem cloneLaid : Go.Proofs.LaysPu.n25 Tryz.prog cloneRen := {
  mixed := by kernel_rfl
  f25 := Tryz.func58.trans (congrArg some (by kernel_rfl))
  t0 := Tryz.underlying0
  a0 := Tryz.isAgg0
  z0 := Tryz.sizeOf0
  v0 := Tryz.zeroValue0
  i0 := by kernel_rfl
  t3 := Tryz.underlying3
  a3 := Tryz.isAgg3
  z3 := Tryz.sizeOf3
  v3 := Tryz.zeroValue3
  i3 := by kernel_rfl
  t4 := Tryz.underlying4
  a4 := Tryz.isAgg4
  z4 := Tryz.sizeOf4
  v4 := Tryz.zeroValue4
  i4 := by kernel_rfl
  t5 := Tryz.underlying5
  a5 := Tryz.isAgg5
  z5 := Tryz.sizeOf5
  v5 := Tryz.zeroValue5
  i5 := by kernel_rfl
  t9 := Tryz.underlying9
  a9 := Tryz.isAgg9
  z9 := Tryz.sizeOf9
  v9 := Tryz.zeroValue9
  i9 := by kernel_rfl
  t37 := Tryz.underlying78
  a37 := Tryz.isAgg78
  z37 := Tryz.sizeOf78
  v37 := Tryz.zeroValue78
  i37 := by kernel_rfl
  t47 := Tryz.underlying114
  a47 := Tryz.isAgg114
  z47 := Tryz.sizeOf114
  v47 := Tryz.zeroValue114
  i47 := by kernel_rfl }
theorem clone_c (s : ByteArray) (w : World) (hlim : s.size ≤ 281474976710656) :
    Calls Tryz.prog 35 #[.string s] w fun e w' => e = .returned (.string s) ∧ Below w.heap.size w w' := by
  have h1 := AnyPu.stringslite_Clone cloneLaid s w hlim
  go_enter Tryz.func35, Tryz.ntmps35
  go_wp2_with fail
  refine h1.mono ?_
  rintro e w' ⟨rfl, hb⟩
  go_wp2
  go_ret
  exact ⟨rfl, hb⟩
end Go.Proofs.YtpmdcahomkdfmaaGreatDoor

namespace Go.Proofs.YtpmdcahomkdfmaaGreatDoor
open Go.ChangeShapes Go.WideShapes Go.ChangeAt Go.RowKit

theorem tabs_of {W : World} {laid : List (String × DataW Unit)} (hL : laidMetH Tryz.prog laid W) (h0 : (laid.all fun x => x.2.handleName?.isNone) = true) (h1 : ("unicode/utf8.first", Rows.laid_unicode_utf8_first) ∈ laid) (h2 : ("unicode/utf8.acceptRanges", Rows.laid_unicode_utf8_acceptRanges) ∈ laid) : Tabs W := by
  rw [MakeChecks.laidMetH_plain _ _ _ h0] at hL
  have r1 := Lib.laidMet.reads hL h1
  have r2 := Lib.laidMet.reads hL h2
  have e1 : Rows.laid_unicode_utf8_first = Lib.firstData := Pinned.utf8First_eq
  have e2 : Rows.laid_unicode_utf8_acceptRanges = Lib.acceptData := by kernel_rfl
  rw [e1] at r1
  rw [e2] at r2
  exact utf8Tabs_of_reads (ρ := Tryz.lays197_ren) { Tryz.lays197 with } ⟨by kernel_rfl, by kernel_rfl, by kernel_rfl, by kernel_rfl, by kernel_rfl, by kernel_rfl, by kernel_rfl⟩ r1 r2
theorem fits_of {H : Type} {ts : List TypeId} {ds : List (DataW H)} (h : (DataW.weightsEach Tryz.prog ts ds).all (· ≤ reachBytes) = true) {j : Nat} {t : TypeId} {d : DataW H} (ht : ts[j]? = some t) (hd : ds[j]? = some d) : Fits t d :=
  fun m hm => by simpa using List.all_eq_true.1 h m (DataW.weights_mem_each (j := j) (t := t) ht hd m hm)
end Go.Proofs.YtpmdcahomkdfmaaGreatDoor

namespace Go.Proofs.YtpmdcahomkdfmaaGreatDoor
open Go.RowKit

/-- What Check answers. -/
def chk (xs : List Nat) : Nat := if 256 < xs.length then 5 else if 0 < xs.length ∧ nth xs (xs.length - 1) = 0 then 9 else 0

theorem Check_c {S : Nat → Prop} {n c : Nat} {A : Option Addr} {xs : List Nat} (w : World) (h : Rd w S A n xs) (_hn : n ≤ 9223372036854775807) :
    Calls Tryz.prog 101 #[.slice A n c] w fun e w' => e = .returned (.int .i64 (chk xs : Int)) ∧ w = w' := by
  have hl := h.len
  subst hl
  unfold chk
  by_cases h1 : 256 < xs.length
  · rw [if_pos h1]
    go_enter Tryz.func101, Tryz.ntmps101
    go_wp2
    go_ret
    exact ⟨rfl, rfl⟩
  · rw [if_neg h1]
    by_cases h0 : 0 < xs.length
    · obtain ⟨b, off, rfl, _, hc⟩ := h.at_ (k := xs.length - 1) (by omega)
      by_cases hz : nth xs (xs.length - 1) = 0
      · rw [if_pos ⟨h0, hz⟩]
        rw [hz] at hc
        clear hz
        go_enter Tryz.func101, Tryz.ntmps101
        go_wp2
        go_ret
        exact ⟨rfl, rfl⟩
      · rw [if_neg (fun hh => hz hh.2)]
        have hb : (((nth xs (xs.length - 1) : Nat) : Int) == 0) = false := by rw [beq_eq_false_iff_ne]; omega
        clear hz
        go_enter Tryz.func101, Tryz.ntmps101
        go_wp2
        go_ret
        exact ⟨rfl, rfl⟩
    · rw [if_neg (fun hh => h0 hh.1)]
      go_enter Tryz.func101, Tryz.ntmps101
      go_wp2
      go_ret
      exact ⟨rfl, rfl⟩

theorem trim_c {S : Nat → Prop} {n c : Nat} {A : Option Addr} {xs : List Nat} (w : World) (h : Rd w S A n xs) (_hn : n ≤ 9223372036854775807) (_hc : n ≤ c) :
    Calls Tryz.prog 99 #[.slice A n c] w fun e w' => e = .returned (.slice A (tl xs n) c) ∧ w = w' := by
  go_enter Tryz.func99, Tryz.ntmps99
  go_wp2
  go_loop [3] (fun i => ∃ k : Nat, k ≤ n ∧ Hid (tl xs k = tl xs n) ∧ i = .int .i64 k) (fun i => (RowKit.intOf i).toNat)
  case atStart => exact ⟨n, Nat.le_refl _, rfl, rfl⟩
  case round =>
    obtain ⟨k, hk, ht, rfl⟩ := hrel
    by_cases h0 : k = 0
    · subst h0
      have he : Hid (tl xs n = 0) := ht.out.symm
      clear ht
      go_wp2
      go_ret
      rw [he.out]
      exact ⟨rfl, rfl⟩
    · obtain ⟨j, rfl⟩ : ∃ j, k = j + 1 := ⟨k - 1, by omega⟩
      obtain ⟨b, off, rfl, _, hcell⟩ := h.at_ (k := j) (by omega)
      by_cases hz : nth xs j = 0
      · have hs : Hid (tl xs j = tl xs n) := (tl_step hz).symm.trans ht.out
        rw [hz] at hcell
        clear hz ht
        go_wp2
        go_round
        case rel => exact ⟨j, by omega, hs, by go_num⟩
        case measure => simp [RowKit.intOf]
      · have he : Hid (tl xs n = j + 1) := ht.out.symm.trans (tl_stop hz)
        have hb : (((nth xs j : Nat) : Int) == 0) = false := by rw [beq_eq_false_iff_ne]; omega
        clear hz ht
        go_wp2
        go_ret
        rw [he.out]
        exact ⟨rfl, rfl⟩
end Go.Proofs.YtpmdcahomkdfmaaGreatDoor
