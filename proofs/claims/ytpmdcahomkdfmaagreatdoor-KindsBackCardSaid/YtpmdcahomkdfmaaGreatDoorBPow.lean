/-
  A law for 'for x := range f' over a function whose rounds never leave early: the iterator's contract may name one block of its own that it turns between the rounds; the caller's invariant abides that. Over any program, no condition beyond what the law names.
  The contracts of nat's three iterators (pairs, groupSizes, groups): what each hands out, round by round.
  The contracts of nat's iterators groupSizes and groups: what each hands out, round by round.
  Contracts of nat.groupSizes and nat.Pow: ten to the n for n from 0 to 2400; else the error for a range.
-/
import Derived.RangeFuncNested
import Derived.RangeFuncBound
import Derived.RangeFuncCalls
import Derived.RangeFuncLeaves
import Derived.RangeFuncBox
import Derived.Shelf.Abstract
import Derived.WalkKit
import Derived.OwnWalkIn
import Derived.TacticsInMore
import Derived.LoopNIn
import Derived.LoopIn
import Derived.Test.YtpmdcahomkdfmaaGreatDoorBNlimb
import Derived.Deep.QuietTactic
import Derived.BigQuiet
import Derived.Outline
import Derived.Test.YtpmdcahomkdfmaaGreatDoorBNaddm
import Derived.Sort.QuietTacIn
import Derived.Shelf.RegionOpen
import Derived.Lib.MinMax
import Derived.Sort.LoopGhostIn
set_option linter.unusedVariables false
set_option linter.unusedSimpArgs false
namespace Go.Proofs.YtpmdcahomkdfmaaGreatDoor
open Go.RowKit

/-- What a round keeps: the blocks that the iterator reads, and its own. -/
structure Kept (keep : Nat → Prop) (r : Option Nat) (A B : World) : Prop where
  size : A.heap.size ≤ B.heap.size
  block : ∀ k, (keep k ∨ r = some k) → B.heap[k]? = A.heap[k]?
theorem Kept.refl (keep : Nat → Prop) (r : Option Nat) (A : World) : Kept keep r A A := ⟨Nat.le_refl _, fun _ _ => rfl⟩
theorem Kept.trans {keep : Nat → Prop} {r : Option Nat} {A B C : World} (h : Kept keep r A B) (k : Kept keep r B C) : Kept keep r A C :=
  ⟨Nat.le_trans h.size k.size, fun i hi => (k.block i hi).trans (h.block i hi)⟩

/-- The contract of an iterator value at a world W: it hands out xs, one behind the other. -/
def Iter {α : Type} (P : Program) (gf : Nat) (lb : Array Value) (encs : α → Array Value) (keep : Nat → Prop) (xs : List α) (W : World) : Prop :=
  ∀ (l : Nat) (J : Option Nat → List α → World → Prop),
    (∀ r pre A B, J r pre A → A.grownBy B r → J r pre B) →
    (∀ r W0, Below W.heap.size W W0 → (∀ k, r = some k → W.heap.size ≤ k ∧ k < W0.heap.size) → J r [] W0) →
    (∀ r pre x rest W1, J r pre W1 → xs = pre ++ x :: rest → YieldAt Fence.wide 0 P l (encs x) W1 fun e W' => e = .returned (.bool true) ∧ J r (pre ++ [x]) W' ∧ Kept keep r W1 W') →
    CallsIn Fence.wide 0 P gf (#[.func (.yield l) #[] #[]] ++ lb) W fun e W' => (∃ v, e = .returned v) ∧ ∃ r, J r xs W'

/-- How the body of a round is left. -/
def roundEnd {α : Type} (keep : Nat → Prop) (I : Option Nat → List α → World → Prop) (r : Option Nat) (xs : List α) (W : World) : Exit → Act → World → Prop
  | .normal, _, W' => KeepsOthers W W' ∧ Kept keep r W W' ∧ I r xs W'
  | _, _, _ => False

theorem only_putObj (W : World) (l : Nat) (o : Obj) : W.grownBy (W.putObj l o) (some l) :=
  ⟨rfl, rfl, rfl, by simp, fun k _ hk => World.putObj_heap_other (fun e => hk (by rw [e]))⟩

theorem range_law {α : Type} {P : Program} {g : Operand} {ps : Array Tmp} {assign body : Code} {Q : Exit → Act → World → Prop} {a : Act} {w : World} {gf : Nat} {lb : Array Value}
    (hg : a.eval g = .func (.func gf) #[] lb) (eg : ∀ args w, (callFunc gf args).run P w = .ok (.enter gf args) w)
    {encs : α → Array Value} {keep : Nat → Prop} {xs : List α} (hit : ∀ W, Below w.heap.size w W → Iter P gf lb encs keep xs W) (hps : ∀ x, (encs x).size = ps.size) (hkeep : ∀ k, keep k → k < w.heap.size)
    (I : Option Nat → List α → World → Prop)
    (hI : ∀ r pre A B row, I r pre A → A.grownBy B row → (∀ k, row = some k → w.heap.size ≤ k ∧ (r = some k ∨ ∃ o : Obj, A.heap[k]? = some o ∧ o.isCells = false)) → I r pre B)
    (h0 : ∀ r W0, Below w.heap.size w W0 → (∀ k, r = some k → w.heap.size ≤ k ∧ k < W0.heap.size) → I r [] W0)
    (hround : ∀ (l : Nat) (r : Option Nat) (pre : List α) (x : α) (rest : List α), xs = pre ++ x :: rest → ∀ (W : World) (K : Act → World → Prop),
      (∀ a₁, (∀ W2, I r pre W2 → w.heap.size + 2 ≤ W2.heap.size → (∀ k, r = some k → w.heap.size + 2 ≤ k ∧ k < W2.heap.size) → body.wpIn (Fence.wide.inRound l) 0 P (roundEnd keep I r (pre ++ [x]) W2) a₁ W2) → K a₁ W) →
      assign.wpIn (Fence.wide.inRound l) 0 P (Exit.then K (fun _ _ _ => False)) { tmps := (ps.zip (encs x)).foldl (fun t (p, v) => t.setIfInBounds p v) a.tmps, defers := [] } W)
    (hdone : ∀ (D : Nat) (r : Option Nat) (W : World), I r xs W → w.heap.size ≤ D → W.heap[D]? = some (.deferred (some [])) → Q .normal { a with defers := { target := .collected D, args := #[] } :: a.defers } W) :
    (Code.rangeFunc g ps assign body).wpIn Fence.wide 0 P Q a w := by
  refine wpIn_rangeFunc fun fn _ => ?_
  obtain ⟨rec, hrec⟩ : ∃ rec : LoopState → Option Code → Loop, rec = fun st pe => { state := st, pending := pe, fn, tmps := a.tmps, params := ps, assign, body, defers := w.heap.size } := ⟨_, rfl⟩
  obtain ⟨W1, hW1⟩ : ∃ W1, (w.alloc (.deferred (some []))).alloc (.loop (rec .ready none)) = W1 := ⟨_, rfl⟩
  have hs1 : W1.heap.size = w.heap.size + 2 := by rw [← hW1]; simp
  have hL1 : W1.heap[w.heap.size + 1]? = some (.loop (rec .ready none)) := by
    rw [← hW1]
    have := World.alloc_heap_new (w.alloc (.deferred (some []))) (.loop (rec .ready none))
    rwa [World.size_alloc] at this
  have hK1 : W1.heap[w.heap.size]? = some (.deferred (some [])) := by
    rw [← hW1]; exact (Below.heap_alloc _ _ _ (by simp)).trans (World.alloc_heap_new w _)
  have hb1 : Below w.heap.size w W1 := by rw [← hW1]; exact ((Below.refl _ w).alloc (Nat.le_refl _) _).alloc (by simp) _
  refine ⟨w.heap.size + 1, [{ target := .collected w.heap.size, args := #[] }], W1, { target := .fn (.func gf) lb, args := #[.func (.yield (w.heap.size + 1)) #[] #[]] }, W1, gf,
    #[.func (.yield (w.heap.size + 1)) #[] #[]] ++ lb, W1, ?_, ?_, (fun _ _ => trivial), ?_, (fun h => absurd h (by decide)), ?_⟩
  · rw [← hW1, hrec]; exact run_enterLoop_outer _ _ _ _ _
  · simp only [resolve, hg]
    simp [go_sem]
  · simp [invoke, go_sem, eg]
  · refine (hit W1 hb1 (w.heap.size + 1)
      (fun r pre W => I r pre W ∧ (∀ k, r = some k → w.heap.size + 2 ≤ k ∧ k < W.heap.size) ∧ W.heap[w.heap.size + 1]? = some (.loop (rec .ready none)) ∧ W.heap[w.heap.size]? = some (.deferred (some []))) ?_ ?_ ?_).mono ?_
    · rintro r pre A B ⟨hi, hr, hl, hk⟩ hgr
      refine ⟨hI r pre A B r hi hgr (fun k e => ⟨by have := hr k e; omega, .inl e⟩), (fun k e => by have := hr k e; have := hgr.size; omega), (hgr.block _ (Array.getElem?_eq_some_iff.1 hl).1 (fun e => ?_)).trans hl, (hgr.block _ (Array.getElem?_eq_some_iff.1 hk).1 (fun e => ?_)).trans hk⟩
      · have := hr _ e.symm; omega
      · have := hr _ e.symm; omega
    · intro r W0 hb hr
      have hsz := hb.size
      refine ⟨h0 r W0 (hb1.trans (hb.mono (by omega))) (fun k e => by have := hr k e; omega), fun k e => by have := hr k e; omega, (hb.block _ (by omega)).trans hL1, (hb.block _ (by omega)).trans hK1⟩
    · rintro r pre x rest W ⟨hi, hr, hl, hk⟩ hx
      have hlt : w.heap.size + 1 < W.heap.size := (Array.getElem?_eq_some_iff.1 hl).1
      have hy := run_yield (P := P) (args := encs x) hl (by rw [hrec]; exact hps x)
      rw [hrec] at hy
      refine ⟨fn, _, assign, body, hy, roundIn_of_wpIn trivial (hround _ r pre x rest hx W _ (fun a₁ hb3 => ⟨_, run_beginRound hl (by rw [hrec]), ?_⟩))⟩
      obtain ⟨W2, hW2⟩ : ∃ W2, W.putObj (w.heap.size + 1) (.loop { rec .ready none with state := .busy }) = W2 := ⟨_, rfl⟩
      have hl2 : W2.heap[w.heap.size + 1]? = some (.loop { rec .ready none with state := .busy }) := by rw [← hW2]; exact World.putObj_heap_same hlt
      have hk2 : W2.heap[w.heap.size]? = some (.deferred (some [])) := by rw [← hW2]; exact (World.putObj_heap_other (by omega)).trans hk
      have hi2 : I r pre W2 := by rw [← hW2]; exact hI r pre _ _ _ hi (only_putObj _ _ _) (fun k e => by injection e with e; subst e; exact ⟨by omega, .inr ⟨_, hl, rfl⟩⟩)
      have hkp : ∀ (A : World) (o : Obj), Kept keep r A (A.putObj (w.heap.size + 1) o) := fun A o =>
        ⟨by simp, fun k hkk => World.putObj_heap_other (by
          rintro rfl
          rcases hkk with h | h
          · have := hkeep _ h; omega
          · have := hr _ h; omega)⟩
      rw [hW2]
      refine wpIn_mono (hb3 W2 hi2 (by have := (Array.getElem?_eq_some_iff.1 hl2).1; omega) (fun k e => by have := hr k e; rw [← hW2]; simpa using this)) ?_
      intro e a3 W3 hp
      cases e with
      | normal =>
        obtain ⟨hk3, hkp3, hi3⟩ := hp
        have hl3 := hk3.same _ _ hl2 rfl
        have hr3 := run_endRound (P := P) none hl3
        refine ⟨_, _, hr3, rfl, ⟨hI r _ _ _ _ hi3 (only_putObj _ _ _) (fun k e => by injection e with e; subst e; exact ⟨by omega, .inr ⟨_, hl3, rfl⟩⟩), (fun k e => by have h5 := hr k e; have h6 := hk3.size; rw [← hW2] at h6; simp at h6 ⊢; omega), ?_, (World.putObj_heap_other (by omega)).trans (hk3.same _ _ hk2 rfl)⟩, ?_⟩
        · rw [World.putObj_heap_same (Array.getElem?_eq_some_iff.1 hl3).1]; simp [hrec]
        · exact ((by rw [← hW2]; exact hkp W _ : Kept keep r W W2).trans hkp3).trans (hkp W3 _)
      | ret => exact hp.elim
      | exit id => exact hp.elim
      | goto t => exact hp.elim
      | panic ch => exact hp.elim
      | outgrown => exact hp.elim
    · rintro e W2 ⟨⟨v, rfl⟩, r, hi, hr, hl, hk⟩
      refine ⟨none, _, by have := run_endLoop (P := P) hl (by rw [hrec]; simp); rw [hrec] at this; exact this, ?_⟩
      exact hdone _ r _ (hI r _ _ _ _ hi (only_putObj _ _ _) (fun k e => by injection e with e; subst e; exact ⟨by omega, .inr ⟨_, hl, rfl⟩⟩)) (Nat.le_refl _) ((World.putObj_heap_other (by omega)).trans hk)
end Go.Proofs.YtpmdcahomkdfmaaGreatDoor


namespace Go.Proofs.YtpmdcahomkdfmaaGreatDoor
open Go.RowKit
attribute [local go_sem] Oper.semAt_some

/-- The sizes of the groups that n digits fall into, of the first k. -/
def sizesK (n k : Nat) : List Nat := (List.range k).map fun i => min (n - 9 * i) 9
def sizesL (n : Nat) : List Nat := sizesK n ((n + 8) / 9)
theorem sizesK_succ (n k : Nat) : sizesK n (k + 1) = sizesK n k ++ [min (n - 9 * k) 9] := by simp [sizesK, List.range_succ]
theorem sizesK_split (n : Nat) {k m : Nat} (h : k < m) : ∃ rest, sizesK n m = sizesK n k ++ min (n - 9 * k) 9 :: rest := by
  refine ⟨(List.range' (k + 1) (m - (k + 1))).map fun i => min (n - 9 * i) 9, ?_⟩
  have : List.range m = List.range k ++ k :: List.range' (k + 1) (m - (k + 1)) := by
    obtain ⟨j, rfl⟩ : ∃ j, m = k + (1 + j) := ⟨m - (k + 1), by omega⟩
    rw [List.range_eq_range', List.range_eq_range', show k + (1 + j) - (k + 1) = j by omega, ← List.range'_append_1, Nat.zero_add, ← List.range'_append_1]
    simp
  unfold sizesK
  rw [this]; simp
def enc1 (x : Nat) : Array Value := #[.int .i64 (x : Int)]
def encu (x : Nat) : Array Value := #[.int .u32 (x : Int)]

set_option maxRecDepth 100000 in
theorem groupSizes1_iter {n B1 : Nat} (W : World) (h1 : W.cell? ⟨B1, 0, none⟩ = some (.int .i64 (n : Int))) (hn : n ≤ 1099511627776) :
    Iter Tryz.prog 160 #[.pointer (some ⟨B1, 0, none⟩)] enc1 (fun _ => False) (sizesL n) W := by
  intro l J hJ h0 hY
  refine callsIn_of_wp Tryz.func160 rfl trivial ?_ rfl
  simp only [Tryz.ntmps160, List.size_toArray, List.length_cons, List.length_nil, Nat.reduceAdd, Nat.reduceSub, Array.replicate_succ, Array.replicate_zero, List.push_toArray, List.append_toArray, List.nil_append, List.cons_append]
  have HY := Lib.hid hY
  have HJ := Lib.hid hJ
  have H0 := Lib.hid h0
  clear hY hJ h0
  gi_wp2
  gi_loopw [3] (fun i wr => ∃ k : Nat, k ≤ (n + 8) / 9 ∧ i = .int .i64 ((n : Int) - 9 * (k : Int)) ∧ J none (sizesK n k) wr) (fun i _ => (RowKit.intOf i + 9).toNat)
  case atStart => exact ⟨0, Nat.zero_le _, by go_num, H0.out none W (Below.refl _ _) (fun k e => by cases e)⟩
  case round =>
    obtain ⟨k, hk, rfl, hJk⟩ := hrel
    by_cases hlt : k < (n + 8) / 9
    · have hpos : (0 : Int) < (n : Int) - 9 * (k : Int) := by omega
      obtain ⟨rest, hsp⟩ := sizesK_split n hlt
      obtain ⟨x, hx⟩ : ∃ x, x = min (n - 9 * k) 9 := ⟨_, rfl⟩
      have hmn : min ((n : Int) - 9 * (k : Int)) 9 = ((x : Nat) : Int) := by omega
      rw [← hx] at hsp
      obtain ⟨fn, tmps, assign, body, hy, hR⟩ := HY.out none _ _ rest wr hJk hsp
      dsimp only [enc1] at hy
      have HX := Lib.hid hx
      clear hsp hx
      gi_wp2_with (refine ⟨rfl, ?_⟩; refine hR.mono ?_; rintro e W' ⟨rfl, hJ', hk'⟩)
      exact ⟨⟨k + 1, by omega, by go_num, by rw [sizesK_succ, ← HX.out]; exact hJ'⟩, by simp [RowKit.intOf]; omega⟩
    · have hneg : (n : Int) - 9 * (k : Int) ≤ 0 := by omega
      have hke : k = (n + 8) / 9 := by omega
      have HK := Lib.hid hke
      clear hke
      gi_wp2
      go_end0
      refine ⟨⟨_, rfl⟩, none, ?_⟩
      unfold sizesL
      rw [← HK.out]; exact hJk

/-- The digits of a number in groups of nine, the lowest first. -/
def gOf : Nat → Nat → List Nat
  | 0, _ => []
  | f + 1, v => if v = 0 then [] else v % 1000000000 :: gOf f (v / 1000000000)
theorem gOf_more : ∀ (f v : Nat), v ≤ f → gOf f v = gOf v v
  | 0, v, h => by
    have e : v = 0 := by omega
    rw [e]
  | f + 1, v, h => by
    by_cases h0 : v = 0
    · subst h0; simp [gOf]
    · obtain ⟨u, rfl⟩ : ∃ u, v = u + 1 := ⟨v - 1, by omega⟩
      have e1 := gOf_more f ((u + 1) / 1000000000) (by omega)
      have e2 := gOf_more u ((u + 1) / 1000000000) (by omega)
      simp only [gOf, h0, if_false]
      rw [e1, e2]
termination_by f => f
/-- The groups of a number. -/
def gL (v : Nat) : List Nat := gOf v v
theorem gL_zero : gL 0 = [] := rfl
theorem gL_pos {v : Nat} (h : 0 < v) : gL v = v % 1000000000 :: gL (v / 1000000000) := by
  unfold gL
  obtain ⟨u, rfl⟩ : ∃ u, v = u + 1 := ⟨v - 1, by omega⟩
  have e2 := gOf_more u ((u + 1) / 1000000000) (by omega)
  simp only [gOf, show ¬ (u + 1 = 0) by omega, if_false]
  rw [e2]

set_option maxRecDepth 100000 in
theorem groups1_iter {S : Nat → Prop} {n c B1 : Nat} {A : Option Addr} {xs : List Nat} (W : World) (h1 : W.cell? ⟨B1, 0, none⟩ = some (.slice A n c)) (ha : Rd W S A n xs) (hS : ∀ b, S b → b < W.heap.size) (hcan : Can xs) (hn : n ≤ 1048576) :
    Iter Tryz.prog 128 #[.pointer (some ⟨B1, 0, none⟩)] encu (fun _ => False) (gL (val xs)) W := by
  intro l J hJ h0 hY
  refine callsIn_of_wp Tryz.func128 rfl trivial ?_ rfl
  simp only [Tryz.ntmps128, List.size_toArray, List.length_cons, List.length_nil, Nat.reduceAdd, Nat.reduceSub, Array.replicate_succ, Array.replicate_zero, List.push_toArray, List.append_toArray, List.nil_append, List.cons_append]
  have HY := Lib.hid hY
  have HJ := Lib.hid hJ
  have H0 := Lib.hid h0
  clear hY hJ h0
  gi_wp2_with (refine ⟨trivial, rfl, ?_⟩; gi_at_call 129; refine (callsIn_wide.2 (Clone_c W ha hS (by omega))).mono ?_; rintro e W0 ⟨A0, c0, rfl, hres, hbel, hblk⟩)
  gi_loopg [3] (val xs) (fun k left wr => ∃ (n' : Nat) (qs : List Nat) (pre : List Nat), left = .slice A0 n' c0 ∧ n' ≤ n ∧ Res wr W.heap.size A0 n' c0 qs ∧ Can qs ∧ Hid (val qs = k) ∧ Hid (gL (val xs) = pre ++ gL (val qs)) ∧ J (A0.map (·.block)) pre wr)
  case atStart => exact ⟨n, xs, [], rfl, Nat.le_refl _, hres, hcan, rfl, rfl, H0.out _ _ hbel (fun k e => by
    rcases hres.form with ⟨h, _⟩ | ⟨g, h, hb, hlt⟩
    · rw [h] at e; cases e
    · rw [h] at e; simp at e; omega)⟩
  case round =>
    obtain ⟨n', qs, pre, rfl, hn', hr, hc, hk, hsp, hJk⟩ := hrel
    by_cases h0 : n' = 0
    · subst h0
      have hq : qs = [] := List.eq_nil_of_length_eq_zero hr.len
      have hs := hsp.out
      rw [hq, val_nil, gL_zero, List.append_nil] at hs
      have HS := Lib.hid hs
      clear hs hq
      gi_wp2
      go_end0
      exact ⟨⟨_, rfl⟩, _, by rw [HS.out]; exact hJk⟩
    · have hpos : 0 < val qs := by
        rcases Nat.eq_zero_or_pos (val qs) with h | h
        · have := hc.val_zero h
          have hl := hr.len
          rw [this] at hl
          exact absurd hl.symm h0
        · exact h
      have hlt : 0 < n' := by omega
      have hs := hsp.out
      rw [gL_pos hpos] at hs
      have HS := Lib.hid hs
      clear hs hsp
      have hred := reduce_c (c := c0) 1000000000 wr hr (by omega) (by omega) (by omega)
      have HR := Lib.hid hred
      clear hred
      obtain ⟨g, hA⟩ : ∃ g, A0 = some ⟨g, 0, none⟩ := by
        rcases hr.form with ⟨_, h, _⟩ | ⟨g, h, _⟩
        · omega
        · exact ⟨g, h⟩
      subst hA
      gi_wp2_with (fail)
      refine ⟨trivial, rfl, ?_⟩
      refine (callsIn_wide.2 HR.out).mono ?_
      rintro e w1 ⟨n2, qs2, gr, rfl, hr2, hc2, hv2, hgr, hn2, hg2⟩
      have hJ1 := HJ.out _ _ _ _ hJk hg2
      have hd : val qs / 1000000000 = val qs2 ∧ val qs % 1000000000 = gr := by omega
      have hs2 := HS.out
      rw [hd.1, hd.2] at hs2
      obtain ⟨fn, tmps, assign, body, hy, hR⟩ := HY.out _ pre gr (gL (val qs2)) w1 hJ1 hs2
      dsimp only [encu] at hy
      have HD := Lib.hid hd
      have HS2 := Lib.hid hs2
      have HV := Lib.hid hv2
      clear hd hs2 hv2
      gi_wp2_with (refine ⟨rfl, ?_⟩; refine hR.mono ?_; rintro e W' ⟨rfl, hJ', hk'⟩)
      gi_roundg (val qs2)
      case measure => have h5 := hk.out; have h6 := HV.out; omega
      case rel =>
        refine ⟨n2, qs2, pre ++ [gr], rfl, by omega, hr2.keep (fun g' e => ?_), hc2, rfl, ?_, hJ'⟩
        · injection e with e
          injection e with e
          subst e
          exact hk'.block g (.inr rfl)
        · show _ = _
          rw [HS2.out]; simp
end Go.Proofs.YtpmdcahomkdfmaaGreatDoor

namespace Go.Proofs.YtpmdcahomkdfmaaGreatDoor
open Go.RowKit
attribute [local go_sem] Oper.semAt_some

theorem groupSizes_c (z : Int) (w : World) :
    Calls Tryz.prog 139 #[.int .i64 z] w fun e w' => e = .returned (.func (.func 160) #[] #[.pointer (some ⟨w.heap.size, 0, none⟩)]) ∧ w.alloc (.cells #[.int .i64 z] 3) = w' := by
  have hmf : ∀ (fn : Fn) (first cap : Array Value) (w : World), (Instr.makeFunc fn first cap).run Tryz.prog w = .ok (.func fn first cap) w := fun _ _ _ _ => rfl
  go_enter Tryz.func139, Tryz.ntmps139
  go_wp2
  go_ret
  exact ⟨rfl, rfl⟩

theorem sizesL_sum (n : Nat) : (sizesL n).sum = n := by
  have h : ∀ k, (sizesK n k).sum = min (9 * k) n := by
    intro k
    induction k with
    | zero => simp [sizesK]
    | succ k ih => rw [sizesK_succ, List.sum_append, ih]; simp; omega
  unfold sizesL
  rw [h]; omega
theorem sizesL_le {n x : Nat} {pre rest : List Nat} (h : sizesL n = pre ++ x :: rest) : x ≤ 9 ∧ pre.length < (n + 8) / 9 := by
  have hm : x ∈ sizesL n := by rw [h]; simp
  obtain ⟨i, _, hi⟩ := List.mem_map.1 hm
  have hl := congrArg List.length h
  simp [sizesL, sizesK] at hl
  omega

theorem smallPower_p (n p : Nat) (w : World) (hn : n ≤ 9) (hp : p = 10 ^ n) :
    Calls Tryz.prog 141 #[.int .i64 n] w fun e w' => e = .returned (.int .u32 (p : Int)) ∧ w = w' := by
  subst hp
  exact smallPower_c n w hn
theorem Can.len_le {zs : List Nat} {k : Nat} (h : Can zs) (hv : val zs < bp k) : zs.length ≤ k := by
  by_cases hne : zs = []
  · rw [hne]; simp
  · have h1 := h.ge hne
    rcases Nat.lt_or_ge k zs.length with h2 | h2
    · have := bp_mono (show k ≤ zs.length - 1 by omega); omega
    · exact h2
theorem pow_lt_of {n k m b : Nat} (h : n ≤ k * m) (hb : 10 ^ k < b) (hm : m ≠ 0) : 10 ^ n < b ^ m := by
  have h1 : 10 ^ n ≤ 10 ^ (k * m) := Nat.pow_le_pow_right (by omega) h
  rw [Nat.pow_mul] at h1
  exact Nat.lt_of_le_of_lt h1 (Nat.pow_lt_pow_left hb hm)
theorem bp_mul (j k : Nat) : bp (j * k) = bp j ^ k := by unfold bp; rw [Nat.pow_mul]
theorem pow10_lt {n : Nat} (h : n ≤ 2400) : 10 ^ n < bp 250 := by
  have h5 : 10 ^ 48 < bp 5 := by unfold bp; decide
  have h1 := pow_lt_of (n := n) (k := 48) (m := 50) (by omega) h5 (by omega)
  rw [← bp_mul] at h1
  exact h1
theorem sum_le_of_split {n x : Nat} {pre rest : List Nat} (h : sizesL n = pre ++ x :: rest) : pre.sum + x ≤ n := by
  have := congrArg List.sum h
  rw [sizesL_sum, List.sum_append, List.sum_cons] at this
  omega

end Go.Proofs.YtpmdcahomkdfmaaGreatDoor
