/-
  Contract of nat.addMultiple: over a window of a row of one's own, it adds a multiple in place, and answers the carry.
  Contracts of nat.From, slices.Clone of limbs, bolterplain.CopyLimbs, nat.smallPower, nat.scale: what they make, in memory of the call's own or in place.
  Contracts of slices.Clone of limbs, bolterplain.CopyLimbs, nat.reduce.
  A law for 'for x := range f' over a function whose rounds never leave early: the iterator's contract may name one block of its own that it turns between the rounds; the caller's invariant abides that. Over any program, no condition beyond what the law names.
  The contracts of nat's three iterators (pairs, groupSizes, groups): what each hands out, round by round.
  The contracts of nat's iterators groupSizes and groups: what each hands out, round by round.
  Contracts of nat.groupSizes and nat.Pow: ten to the n for n from 0 to 2400; else the error for a range.
-/
import Derived.Test.YtpjllcengnolkaaGreatDoorPNlimb
import Derived.Outline
import Derived.Maps.AppendAt
import Derived.RangeFuncBox
import Derived.RangeFuncNested
import Derived.RangeFuncBound
import Derived.RangeFuncCalls
import Derived.RangeFuncLeaves
import Derived.Shelf.Abstract
import Derived.WalkKit
import Derived.OwnWalkIn
import Derived.TacticsInMore
import Derived.LoopNIn
import Derived.LoopIn
import Derived.Deep.QuietTactic
import Derived.BigQuiet
import Derived.Sort.QuietTacIn
import Derived.Shelf.RegionOpen
import Derived.Lib.MinMax
import Derived.Sort.LoopGhostIn
set_option linter.unusedVariables false
set_option linter.unusedSimpArgs false
namespace Go.Proofs.YtpjllcengnolkaaGreatDoor
open Go.RowKit

theorem mul_le_u32 {f y : Nat} (hf : f < 4294967296) (hy : y < 4294967296) : f * y ≤ 4294967295 * 4294967295 := Nat.mul_le_mul (by omega) (by omega)

theorem mul_int {f y : Nat} (hf : f < 4294967296) (hy : y < 4294967296) : 0 ≤ (f : Int) * (y : Int) ∧ (f : Int) * (y : Int) ≤ 18446744065119617025 := by
  have h := mul_le_u32 hf hy
  have h1 : (f : Int) * (y : Int) = ((f * y : Nat) : Int) := by rw [Int.natCast_mul]
  rw [h1]; omega

end Go.Proofs.YtpjllcengnolkaaGreatDoor

namespace Go.Proofs.YtpjllcengnolkaaGreatDoor
open Go.RowKit

/-- A row of limbs just laid. -/
theorem Res.lit (w : World) (zs : List Nat) (n : Nat) (hn : zs.length = n) (hl : L32 zs) (hm : n ≤ 1099511627776) : Res (w.alloc (.cells (u32s zs).toArray 63)) w.heap.size (some ⟨w.heap.size, 0, none⟩) n n zs := by
  refine ⟨hn, hl, ?_⟩
  have h := World.ownsRow_lit (base := w.heap.size) (e := 63) (size := 1) w (u32s zs).toArray n (Nat.le_refl _) (by unfold maxLen; omega) (by simp [u32s_length, hn])
  simpa using h

theorem smallPower_c (n : Nat) (w : World) (hn : n ≤ 9) :
    Calls Tryz.prog 132 #[.int .i64 n] w fun e w' => e = .returned (.int .u32 ((10 ^ n : Nat) : Int)) ∧ w = w' := by
  go_enter Tryz.func132, Tryz.ntmps132
  go_wp2
  go_loop [3, 5] (fun p i => ∃ k q : Nat, k ≤ n ∧ i = .int .i64 (k : Int) ∧ p = .int .u32 (q : Int) ∧ Hid (q = 10 ^ k) ∧ (k < 9 → q ≤ 100000000)) (fun _ i => n - (intOf i).toNat)
  case atStart => exact ⟨0, 1, Nat.zero_le _, rfl, rfl, rfl, by omega⟩
  case round =>
    obtain ⟨k, q, hk, rfl, rfl, hq, hb⟩ := hrel
    by_cases h0 : k = n
    · subst h0
      clear hb
      go_wp2
      go_ret
      rw [hq.out]
      exact ⟨rfl, rfl⟩
    · have hb' := hb (by omega)
      clear hb
      go_wp2
      go_round
      case rel =>
        refine ⟨k + 1, q * 10, by omega, by go_num, by go_num, ?_, fun h9 => ?_⟩
        · show _ = _
          rw [hq.out, Nat.pow_succ]
        · have h1 : 10 ^ (k + 1) ≤ 10 ^ 8 := Nat.pow_le_pow_right (by omega) (by omega)
          rw [hq.out, ← Nat.pow_succ]
          omega
      case measure => simp [intOf]; omega

/-- One step of the multiple, in numbers. -/
theorem scale_step {new zs : List Nat} {k carry f t more : Nat} (hl : new.length = k) (hv : val new + bp k * carry = val (zs.take k) * f + more) (ht : t = carry + nth zs k * f) :
    val (new ++ [t % 4294967296]) + bp (k + 1) * (t / 4294967296) = val (zs.take (k + 1)) * f + more := by
  have e := cut_place k t
  rw [val_snoc, hl, val_take_succ, Nat.add_mul]
  have e2 : bp k * t = bp k * carry + bp k * nth zs k * f := by rw [ht, Nat.mul_add, Nat.mul_assoc]
  omega

set_option maxRecDepth 100000 in
theorem scale_c {base n c : Nat} {A : Option Addr} {zs : List Nat} (f more : Nat) (w : World) (hown : Res w base A n c zs) (hcan : Can zs) (hf : f < 4294967296) (hf1 : 1 ≤ f) (hmore : more < 4294967296) (hn : n ≤ 1048576) (hbase : base ≤ w.heap.size) :
    Calls Tryz.prog 131 #[.slice A n c, .int .u32 f, .int .u32 more] w fun e w' =>
      ∃ A' n' c' zs', e = .returned (.slice A' n' c') ∧ Res w' base A' n' c' zs' ∧ Can zs' ∧ val zs' = val zs * f + more ∧ n' ≤ n + 1 ∧ w.grownBy w' (Value.slice A n c).ownBlock ∧ (A' = A ∨ ∃ g, A' = some ⟨g, 0, none⟩ ∧ w.heap.size ≤ g) := by
  have HZ := Lib.hid hown.len
  go_enter Tryz.func131, Tryz.ntmps131
  go_wp2
  go_loopw [7, 14] (fun cr i wr => ∃ (k carry : Nat) (new : List Nat), k ≤ n ∧ i = .int .i64 (k : Int) ∧ cr = .int .u64 (carry : Int) ∧ carry < 4294967296 ∧ L32 new ∧ Hid (new.length = k) ∧
      Hid (val new + bp k * carry = val (zs.take k) * f + more) ∧ Res wr base A n c (new ++ zs.drop k) ∧ w.grownBy wr (Value.slice A n c).ownBlock) (fun _ i _ => n - (intOf i).toNat)
  case atStart => exact ⟨0, more, [], Nat.zero_le _, rfl, by go_num, hmore, L32.nil, rfl, by show _ = _; simp [val, bp], hown, World.grownBy.refl w _⟩
  case round =>
    obtain ⟨k, carry, new, hk, rfl, rfl, hcar, hnew, hlen, hval, hres, hg⟩ := hrel
    by_cases h0 : k = n
    · subst h0
      have e1 : zs.take k = zs := List.take_of_length_le (by rw [HZ.out]; omega)
      have e2 : zs.drop k = [] := List.drop_of_length_le (by rw [HZ.out]; omega)
      have HV := Lib.hid hval.out
      rw [e1] at HV
      rw [e2, List.append_nil] at hres
      clear hval e1 e2
      have hge : zs = [] ∨ bp (k - 1) ≤ val zs := by
        by_cases hne : zs = []
        · exact .inl hne
        · right; rw [← HZ.out]; exact hcan.ge hne
      by_cases hc0 : carry = 0
      · subst hc0
        go_wp2
        go_ret
        have hv := HV.out
        rw [Nat.mul_zero, Nat.add_zero] at hv
        refine ⟨_, _, _, new, rfl, hres, can_of_ge hnew ?_, hv, by omega, hg, .inl rfl⟩
        rcases hge with h | h
        · left
          apply List.eq_nil_of_length_eq_zero
          rw [hlen.out, ← HZ.out, h]; rfl
        · right
          rw [hlen.out, hv]
          have : val zs * 1 ≤ val zs * f := Nat.mul_le_mul_left _ hf1
          omega
      · have hpos : (0 : Int) < (carry : Int) := by omega
        clear hc0
        obtain ⟨i0, hi, hz0, hz1, hz2⟩ := info_parts info32
        have hlr := Lib.hid hlen.out
        have hro : ∀ o, (wr.alloc o).ownsRow base 63 1 (.slice A k c) k (u32s new) := fun o => hres.own.alloc o
        go_wp2_with (at_builtin; refine wpList_append_own_at _ rfl (.tmp 36) (.tmp 39) _ rfl base 63 i0 (.int .u32 0) 1 4 Tryz.underlying29 hi hz0 hz1 hz2 rfl (by decide) (.slice A k c) k (u32s new) rfl (hro _) ⟨wr.heap.size, 0, none⟩ 1 1 [.int .u32 (carry : Int)] rfl rfl (cell_new1 _ _ _ _ rfl) (by simp [Value.oneCell']) (by unfold maxLen; omega) (by omega) (by simp; have := hg.size; omega) ?_; intro v' w1 hown1 hg1 _ hat1)
        go_ret
        have hv := HV.out
        obtain ⟨g', cap', hv'⟩ := ownsRow_succ hown1
        subst hv'
        refine ⟨_, _, _, new ++ [carry], rfl, ⟨by rw [List.length_append, hlr.out]; rfl, hnew.snoc hcar, by rw [u32s_append]; exact hown1⟩, ⟨hnew.snoc hcar, .inr ?_⟩, ?_, by omega, only_trans hg (only_trans (World.grownBy_alloc _ _ _) hg1), ?_⟩
        · rw [List.length_append, hlr.out, nth_snoc new [] carry (by rw [hlr.out]; rfl)]
          omega
        · rw [val_snoc, hlr.out]
          exact hv
        · rcases hat1 with h | h
          · left
            rcases hres.form with ⟨h1, _⟩ | ⟨g1, h1, _⟩
            · subst h1; simp [Value.ownBlock] at h
            · subst h1; simp [Value.ownBlock] at h; rw [h]
          · right
            refine ⟨g', rfl, ?_⟩
            simp [Value.ownBlock] at h
            have := hg.size
            omega
    · have hlt : k < n := by omega
      obtain ⟨g, hA⟩ : ∃ g, A = some ⟨g, 0, none⟩ := by
        rcases hown.form with ⟨_, h, _⟩ | ⟨g, h, _⟩
        · omega
        · exact ⟨g, h⟩
      subst hA
      have hod : zs.drop k = nth zs k :: zs.drop (k + 1) := drop_eq_nth (by rw [HZ.out]; exact hlt)
      have hcell : wr.cell? ⟨g, k, none⟩ = some (.int .u32 (nth zs k : Int)) := by
        rw [hres.cell hlt, hod, nth_snoc _ _ _ hlen.out.symm]
      have hfr : wr.frozen? ⟨g, k, none⟩ = false := hres.frozen _
      have hx1 : nth zs k < 4294967296 := nth_lt hcan.l32 k
      have HD := Lib.hid hod
      obtain ⟨hm0, hm1⟩ := mul_int hx1 hf
      clear hod
      go_wp2
      obtain ⟨t, ht⟩ : ∃ t, t = carry + nth zs k * f := ⟨_, rfl⟩
      have htb : t < 18446744073709551616 := by have := mul_le_u32 hx1 hf; omega
      have hw : (carry : Int) + ((nth zs k : Int) * (f : Int)) = ((t : Nat) : Int) := by rw [ht]; simp
      rw [hw, div_cast, rem_cast]
      refine ⟨⟨k + 1, t / 4294967296, new ++ [t % 4294967296], by omega, by go_num, rfl, by omega, hnew.snoc (by omega), ?_, scale_step hlen.out hval.out ht, ?_, only_set hg _ _⟩, by simp [intOf]; omega⟩
      · show _ = _
        rw [List.length_append, hlen.out]; rfl
      · have := hres.set (j := k) (x := t % 4294967296) (by omega)
        rwa [HD.out, set_snoc _ _ _ _ hlen.out.symm] at this
end Go.Proofs.YtpjllcengnolkaaGreatDoor

namespace Go.Proofs.YtpjllcengnolkaaGreatDoor
open Go.RowKit

/-- The cells of a slice that reads as limbs, as append asks for them. -/
theorem Rd.cellsAt {w : World} {S : Nat → Prop} {n : Nat} {ad : Addr} {xs : List Nat} (h : Rd w S (some ad) n xs) : ∀ j u, (u32s xs)[j]? = some u → w.cell? (ad.add j) = some u := by
  intro j u hu
  have hj : j < n := by
    have := (List.getElem?_eq_some_iff.1 hu).1
    rw [u32s_length, h.len] at this; exact this
  obtain ⟨b, off, e, _, hc⟩ := h.cells (by omega)
  injection e with e
  subst e
  rw [Addr.add_lit, hc j hj]
  rw [u32s_get (by rw [h.len]; exact hj)] at hu
  exact hu
/-- A row by its value. -/
theorem Res.of_row {w : World} {base n : Nat} {v : Value} {xs : List Nat} (hl : xs.length = n) (h32 : L32 xs) (h : w.ownsRow base 63 1 v n (u32s xs)) : ∃ A c, v = .slice A n c ∧ Res w base A n c xs := by
  rcases h.2 with ⟨e, h0⟩ | ⟨g, cap, cur, e, _⟩
  · subst h0
    exact ⟨none, 0, e, hl, h32, e ▸ h⟩
  · exact ⟨_, cap, e, hl, h32, e ▸ h⟩

end Go.Proofs.YtpjllcengnolkaaGreatDoor

namespace Go.Proofs.YtpjllcengnolkaaGreatDoor
open Go.RowKit

/-- What a round keeps: the blocks that the iterator reads, and its own. -/
structure Kept (keep : Nat → Prop) (r : Option Nat) (A B : World) : Prop where
  size : A.heap.size ≤ B.heap.size
  block : ∀ k, (keep k ∨ r = some k) → B.heap[k]? = A.heap[k]?
theorem Kept.refl (keep : Nat → Prop) (r : Option Nat) (A : World) : Kept keep r A A := ⟨Nat.le_refl _, fun _ _ => rfl⟩
theorem Kept.trans {keep : Nat → Prop} {r : Option Nat} {A B C : World} (h : Kept keep r A B) (k : Kept keep r B C) : Kept keep r A C :=
  ⟨Nat.le_trans h.size k.size, fun i hi => (k.block i hi).trans (h.block i hi)⟩

/-- The contract of an iterator value at a world W: it hands out xs, one behind the other. -/
def Iter {α : Type} (P : Program) (gf : Nat) (lb : Array Value) (encs : α → Array Value) (keep : Nat → Prop) (xs : List α) (W : World) : Prop :=
  ∀ (l : Nat) (J : Option Nat → List α → World → Prop),
    (∀ r pre A B, J r pre A → A.grownBy B r → J r pre B) →
    (∀ r W0, Below W.heap.size W W0 → (∀ k, r = some k → W.heap.size ≤ k ∧ k < W0.heap.size) → J r [] W0) →
    (∀ r pre x rest W1, J r pre W1 → xs = pre ++ x :: rest → YieldAt Fence.wide 0 P l (encs x) W1 fun e W' => e = .returned (.bool true) ∧ J r (pre ++ [x]) W' ∧ Kept keep r W1 W') →
    CallsIn Fence.wide 0 P gf (#[.func (.yield l) #[] #[]] ++ lb) W fun e W' => (∃ v, e = .returned v) ∧ ∃ r, J r xs W'

/-- How the body of a round is left. -/
def roundEnd {α : Type} (keep : Nat → Prop) (I : Option Nat → List α → World → Prop) (r : Option Nat) (xs : List α) (W : World) : Exit → Act → World → Prop
  | .normal, _, W' => KeepsOthers W W' ∧ Kept keep r W W' ∧ I r xs W'
  | _, _, _ => False

theorem only_putObj (W : World) (l : Nat) (o : Obj) : W.grownBy (W.putObj l o) (some l) :=
  ⟨rfl, rfl, rfl, by simp, fun k _ hk => World.putObj_heap_other (fun e => hk (by rw [e]))⟩

theorem range_law {α : Type} {P : Program} {g : Operand} {ps : Array Tmp} {assign body : Code} {Q : Exit → Act → World → Prop} {a : Act} {w : World} {gf : Nat} {lb : Array Value}
    (hg : a.eval g = .func (.func gf) #[] lb) (eg : ∀ args w, (callFunc gf args).run P w = .ok (.enter gf args) w)
    {encs : α → Array Value} {keep : Nat → Prop} {xs : List α} (hit : ∀ W, Below w.heap.size w W → Iter P gf lb encs keep xs W) (hps : ∀ x, (encs x).size = ps.size) (hkeep : ∀ k, keep k → k < w.heap.size)
    (I : Option Nat → List α → World → Prop)
    (hI : ∀ r pre A B row, I r pre A → A.grownBy B row → (∀ k, row = some k → w.heap.size ≤ k ∧ (r = some k ∨ ∃ o : Obj, A.heap[k]? = some o ∧ o.isCells = false)) → I r pre B)
    (h0 : ∀ r W0, Below w.heap.size w W0 → (∀ k, r = some k → w.heap.size ≤ k ∧ k < W0.heap.size) → I r [] W0)
    (hround : ∀ (l : Nat) (r : Option Nat) (pre : List α) (x : α) (rest : List α), xs = pre ++ x :: rest → ∀ (W : World) (K : Act → World → Prop),
      (∀ a₁, (∀ W2, I r pre W2 → w.heap.size + 2 ≤ W2.heap.size → (∀ k, r = some k → w.heap.size + 2 ≤ k ∧ k < W2.heap.size) → body.wpIn (Fence.wide.inRound l) 0 P (roundEnd keep I r (pre ++ [x]) W2) a₁ W2) → K a₁ W) →
      assign.wpIn (Fence.wide.inRound l) 0 P (Exit.then K (fun _ _ _ => False)) { tmps := (ps.zip (encs x)).foldl (fun t (p, v) => t.setIfInBounds p v) a.tmps, defers := [] } W)
    (hdone : ∀ (D : Nat) (r : Option Nat) (W : World), I r xs W → w.heap.size ≤ D → W.heap[D]? = some (.deferred (some [])) → Q .normal { a with defers := { target := .collected D, args := #[] } :: a.defers } W) :
    (Code.rangeFunc g ps assign body).wpIn Fence.wide 0 P Q a w := by
  refine wpIn_rangeFunc fun fn _ => ?_
  obtain ⟨rec, hrec⟩ : ∃ rec : LoopState → Option Code → Loop, rec = fun st pe => { state := st, pending := pe, fn, tmps := a.tmps, params := ps, assign, body, defers := w.heap.size } := ⟨_, rfl⟩
  obtain ⟨W1, hW1⟩ : ∃ W1, (w.alloc (.deferred (some []))).alloc (.loop (rec .ready none)) = W1 := ⟨_, rfl⟩
  have hs1 : W1.heap.size = w.heap.size + 2 := by rw [← hW1]; simp
  have hL1 : W1.heap[w.heap.size + 1]? = some (.loop (rec .ready none)) := by
    rw [← hW1]
    have := World.alloc_heap_new (w.alloc (.deferred (some []))) (.loop (rec .ready none))
    rwa [World.size_alloc] at this
  have hK1 : W1.heap[w.heap.size]? = some (.deferred (some [])) := by
    rw [← hW1]; exact (Below.heap_alloc _ _ _ (by simp)).trans (World.alloc_heap_new w _)
  have hb1 : Below w.heap.size w W1 := by rw [← hW1]; exact ((Below.refl _ w).alloc (Nat.le_refl _) _).alloc (by simp) _
  refine ⟨w.heap.size + 1, [{ target := .collected w.heap.size, args := #[] }], W1, { target := .fn (.func gf) lb, args := #[.func (.yield (w.heap.size + 1)) #[] #[]] }, W1, gf,
    #[.func (.yield (w.heap.size + 1)) #[] #[]] ++ lb, W1, ?_, ?_, (fun _ _ => trivial), ?_, (fun h => absurd h (by decide)), ?_⟩
  · rw [← hW1, hrec]; exact run_enterLoop_outer _ _ _ _ _
  · simp only [resolve, hg]
    simp [go_sem]
  · simp [invoke, go_sem, eg]
  · refine (hit W1 hb1 (w.heap.size + 1)
      (fun r pre W => I r pre W ∧ (∀ k, r = some k → w.heap.size + 2 ≤ k ∧ k < W.heap.size) ∧ W.heap[w.heap.size + 1]? = some (.loop (rec .ready none)) ∧ W.heap[w.heap.size]? = some (.deferred (some []))) ?_ ?_ ?_).mono ?_
    · rintro r pre A B ⟨hi, hr, hl, hk⟩ hgr
      refine ⟨hI r pre A B r hi hgr (fun k e => ⟨by have := hr k e; omega, .inl e⟩), (fun k e => by have := hr k e; have := hgr.size; omega), (hgr.block _ (Array.getElem?_eq_some_iff.1 hl).1 (fun e => ?_)).trans hl, (hgr.block _ (Array.getElem?_eq_some_iff.1 hk).1 (fun e => ?_)).trans hk⟩
      · have := hr _ e.symm; omega
      · have := hr _ e.symm; omega
    · intro r W0 hb hr
      have hsz := hb.size
      refine ⟨h0 r W0 (hb1.trans (hb.mono (by omega))) (fun k e => by have := hr k e; omega), fun k e => by have := hr k e; omega, (hb.block _ (by omega)).trans hL1, (hb.block _ (by omega)).trans hK1⟩
    · rintro r pre x rest W ⟨hi, hr, hl, hk⟩ hx
      have hlt : w.heap.size + 1 < W.heap.size := (Array.getElem?_eq_some_iff.1 hl).1
      have hy := run_yield (P := P) (args := encs x) hl (by rw [hrec]; exact hps x)
      rw [hrec] at hy
      refine ⟨fn, _, assign, body, hy, roundIn_of_wpIn trivial (hround _ r pre x rest hx W _ (fun a₁ hb3 => ⟨_, run_beginRound hl (by rw [hrec]), ?_⟩))⟩
      obtain ⟨W2, hW2⟩ : ∃ W2, W.putObj (w.heap.size + 1) (.loop { rec .ready none with state := .busy }) = W2 := ⟨_, rfl⟩
      have hl2 : W2.heap[w.heap.size + 1]? = some (.loop { rec .ready none with state := .busy }) := by rw [← hW2]; exact World.putObj_heap_same hlt
      have hk2 : W2.heap[w.heap.size]? = some (.deferred (some [])) := by rw [← hW2]; exact (World.putObj_heap_other (by omega)).trans hk
      have hi2 : I r pre W2 := by rw [← hW2]; exact hI r pre _ _ _ hi (only_putObj _ _ _) (fun k e => by injection e with e; subst e; exact ⟨by omega, .inr ⟨_, hl, rfl⟩⟩)
      have hkp : ∀ (A : World) (o : Obj), Kept keep r A (A.putObj (w.heap.size + 1) o) := fun A o =>
        ⟨by simp, fun k hkk => World.putObj_heap_other (by
          rintro rfl
          rcases hkk with h | h
          · have := hkeep _ h; omega
          · have := hr _ h; omega)⟩
      rw [hW2]
      refine wpIn_mono (hb3 W2 hi2 (by have := (Array.getElem?_eq_some_iff.1 hl2).1; omega) (fun k e => by have := hr k e; rw [← hW2]; simpa using this)) ?_
      intro e a3 W3 hp
      cases e with
      | normal =>
        obtain ⟨hk3, hkp3, hi3⟩ := hp
        have hl3 := hk3.same _ _ hl2 rfl
        have hr3 := run_endRound (P := P) none hl3
        refine ⟨_, _, hr3, rfl, ⟨hI r _ _ _ _ hi3 (only_putObj _ _ _) (fun k e => by injection e with e; subst e; exact ⟨by omega, .inr ⟨_, hl3, rfl⟩⟩), (fun k e => by have h5 := hr k e; have h6 := hk3.size; rw [← hW2] at h6; simp at h6 ⊢; omega), ?_, (World.putObj_heap_other (by omega)).trans (hk3.same _ _ hk2 rfl)⟩, ?_⟩
        · rw [World.putObj_heap_same (Array.getElem?_eq_some_iff.1 hl3).1]; simp [hrec]
        · exact ((by rw [← hW2]; exact hkp W _ : Kept keep r W W2).trans hkp3).trans (hkp W3 _)
      | ret => exact hp.elim
      | exit id => exact hp.elim
      | goto t => exact hp.elim
      | panic ch => exact hp.elim
      | outgrown => exact hp.elim
    · rintro e W2 ⟨⟨v, rfl⟩, r, hi, hr, hl, hk⟩
      refine ⟨none, _, by have := run_endLoop (P := P) hl (by rw [hrec]; simp); rw [hrec] at this; exact this, ?_⟩
      exact hdone _ r _ (hI r _ _ _ _ hi (only_putObj _ _ _) (fun k e => by injection e with e; subst e; exact ⟨by omega, .inr ⟨_, hl, rfl⟩⟩)) (Nat.le_refl _) ((World.putObj_heap_other (by omega)).trans hk)
end Go.Proofs.YtpjllcengnolkaaGreatDoor

namespace Go.Proofs.YtpjllcengnolkaaGreatDoor
open Go.RowKit
attribute [local go_sem] Oper.semAt_some

/-- The sizes of the groups that n digits fall into, of the first k. -/
def sizesK (n k : Nat) : List Nat := (List.range k).map fun i => min (n - 9 * i) 9
def sizesL (n : Nat) : List Nat := sizesK n ((n + 8) / 9)
theorem sizesK_succ (n k : Nat) : sizesK n (k + 1) = sizesK n k ++ [min (n - 9 * k) 9] := by simp [sizesK, List.range_succ]
theorem sizesK_split (n : Nat) {k m : Nat} (h : k < m) : ∃ rest, sizesK n m = sizesK n k ++ min (n - 9 * k) 9 :: rest := by
  refine ⟨(List.range' (k + 1) (m - (k + 1))).map fun i => min (n - 9 * i) 9, ?_⟩
  have : List.range m = List.range k ++ k :: List.range' (k + 1) (m - (k + 1)) := by
    obtain ⟨j, rfl⟩ : ∃ j, m = k + (1 + j) := ⟨m - (k + 1), by omega⟩
    rw [List.range_eq_range', List.range_eq_range', show k + (1 + j) - (k + 1) = j by omega, ← List.range'_append_1, Nat.zero_add, ← List.range'_append_1]
    simp
  unfold sizesK
  rw [this]; simp
def enc1 (x : Nat) : Array Value := #[.int .i64 (x : Int)]
set_option maxRecDepth 100000 in
theorem groupSizes1_iter {n B1 : Nat} (W : World) (h1 : W.cell? ⟨B1, 0, none⟩ = some (.int .i64 (n : Int))) (hn : n ≤ 1099511627776) :
    Iter Tryz.prog 149 #[.pointer (some ⟨B1, 0, none⟩)] enc1 (fun _ => False) (sizesL n) W := by
  intro l J hJ h0 hY
  refine callsIn_of_wp Tryz.func149 rfl trivial ?_ rfl
  simp only [Tryz.ntmps149, List.size_toArray, List.length_cons, List.length_nil, Nat.reduceAdd, Nat.reduceSub, Array.replicate_succ, Array.replicate_zero, List.push_toArray, List.append_toArray, List.nil_append, List.cons_append]
  have HY := Lib.hid hY
  have HJ := Lib.hid hJ
  have H0 := Lib.hid h0
  clear hY hJ h0
  gi_wp2
  gi_loopw [3] (fun i wr => ∃ k : Nat, k ≤ (n + 8) / 9 ∧ i = .int .i64 ((n : Int) - 9 * (k : Int)) ∧ J none (sizesK n k) wr) (fun i _ => (intOf i + 9).toNat)
  case atStart => exact ⟨0, Nat.zero_le _, by go_num, H0.out none W (Below.refl _ _) (fun k e => by cases e)⟩
  case round =>
    obtain ⟨k, hk, rfl, hJk⟩ := hrel
    by_cases hlt : k < (n + 8) / 9
    · have hpos : (0 : Int) < (n : Int) - 9 * (k : Int) := by omega
      obtain ⟨rest, hsp⟩ := sizesK_split n hlt
      obtain ⟨x, hx⟩ : ∃ x, x = min (n - 9 * k) 9 := ⟨_, rfl⟩
      have hmn : min ((n : Int) - 9 * (k : Int)) 9 = ((x : Nat) : Int) := by omega
      rw [← hx] at hsp
      obtain ⟨fn, tmps, assign, body, hy, hR⟩ := HY.out none _ _ rest wr hJk hsp
      dsimp only [enc1] at hy
      have HX := Lib.hid hx
      clear hsp hx
      gi_wp2_with (refine ⟨rfl, ?_⟩; refine hR.mono ?_; rintro e W' ⟨rfl, hJ', hk'⟩)
      exact ⟨⟨k + 1, by omega, by go_num, by rw [sizesK_succ, ← HX.out]; exact hJ'⟩, by simp [intOf]; omega⟩
    · have hneg : (n : Int) - 9 * (k : Int) ≤ 0 := by omega
      have hke : k = (n + 8) / 9 := by omega
      have HK := Lib.hid hke
      clear hke
      gi_wp2
      go_end0
      refine ⟨⟨_, rfl⟩, none, ?_⟩
      unfold sizesL
      rw [← HK.out]; exact hJk

end Go.Proofs.YtpjllcengnolkaaGreatDoor

namespace Go.Proofs.YtpjllcengnolkaaGreatDoor
open Go.RowKit
attribute [local go_sem] Oper.semAt_some

theorem groupSizes_c (z : Int) (w : World) :
    Calls Tryz.prog 130 #[.int .i64 z] w fun e w' => e = .returned (.func (.func 149) #[] #[.pointer (some ⟨w.heap.size, 0, none⟩)]) ∧ w.alloc (.cells #[.int .i64 z] 3) = w' := by
  have hmf : ∀ (fn : Fn) (first cap : Array Value) (w : World), (Instr.makeFunc fn first cap).run Tryz.prog w = .ok (.func fn first cap) w := fun _ _ _ _ => rfl
  go_enter Tryz.func130, Tryz.ntmps130
  go_wp2
  go_ret
  exact ⟨rfl, rfl⟩

theorem sizesL_sum (n : Nat) : (sizesL n).sum = n := by
  have h : ∀ k, (sizesK n k).sum = min (9 * k) n := by
    intro k
    induction k with
    | zero => simp [sizesK]
    | succ k ih => rw [sizesK_succ, List.sum_append, ih]; simp; omega
  unfold sizesL
  rw [h]; omega
theorem sizesL_le {n x : Nat} {pre rest : List Nat} (h : sizesL n = pre ++ x :: rest) : x ≤ 9 ∧ pre.length < (n + 8) / 9 := by
  have hm : x ∈ sizesL n := by rw [h]; simp
  obtain ⟨i, _, hi⟩ := List.mem_map.1 hm
  have hl := congrArg List.length h
  simp [sizesL, sizesK] at hl
  omega

theorem smallPower_p (n p : Nat) (w : World) (hn : n ≤ 9) (hp : p = 10 ^ n) :
    Calls Tryz.prog 132 #[.int .i64 n] w fun e w' => e = .returned (.int .u32 (p : Int)) ∧ w = w' := by
  subst hp
  exact smallPower_c n w hn
theorem Can.len_le {zs : List Nat} {k : Nat} (h : Can zs) (hv : val zs < bp k) : zs.length ≤ k := by
  by_cases hne : zs = []
  · rw [hne]; simp
  · have h1 := h.ge hne
    rcases Nat.lt_or_ge k zs.length with h2 | h2
    · have := bp_mono (show k ≤ zs.length - 1 by omega); omega
    · exact h2
theorem pow_lt_of {n k m b : Nat} (h : n ≤ k * m) (hb : 10 ^ k < b) (hm : m ≠ 0) : 10 ^ n < b ^ m := by
  have h1 : 10 ^ n ≤ 10 ^ (k * m) := Nat.pow_le_pow_right (by omega) h
  rw [Nat.pow_mul] at h1
  exact Nat.lt_of_le_of_lt h1 (Nat.pow_lt_pow_left hb hm)
theorem bp_mul (j k : Nat) : bp (j * k) = bp j ^ k := by unfold bp; rw [Nat.pow_mul]
theorem pow10_lt {n : Nat} (h : n ≤ 2400) : 10 ^ n < bp 250 := by
  have h5 : 10 ^ 48 < bp 5 := by unfold bp; decide
  have h1 := pow_lt_of (n := n) (k := 48) (m := 50) (by omega) h5 (by omega)
  rw [← bp_mul] at h1
  exact h1
theorem sum_le_of_split {n x : Nat} {pre rest : List Nat} (h : sizesL n = pre ++ x :: rest) : pre.sum + x ≤ n := by
  have := congrArg List.sum h
  rw [sizesL_sum, List.sum_append, List.sum_cons] at this
  omega

end Go.Proofs.YtpjllcengnolkaaGreatDoor
