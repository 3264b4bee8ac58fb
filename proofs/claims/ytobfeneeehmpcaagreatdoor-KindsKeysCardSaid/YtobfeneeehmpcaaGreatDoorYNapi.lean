/-
  Contracts of nat.pairs, nat.sum: the sum of two numbers' limbs, without 0 at its end, in memory of its own.
  Contracts of the law's helper 'alive' (the page's example) and of nat.Compare, nat.Add, nat.Mul.
  Small lemmas that the laws' walks share: when two numbers' sum or product is told, lengths, worlds behind draws.
-/
import Derived.Test.YtobfeneeehmpcaaGreatDoorYNiter
import Derived.Test.YtobfeneeehmpcaaGreatDoorYPow
import Derived.Test.YtobfeneeehmpcaaGreatDoorYNprint
import Derived.Test.YtobfeneeehmpcaaGreatDoorYNcomp
set_option linter.unusedVariables false
set_option linter.unusedSimpArgs false
namespace Go.Proofs.YtobfeneeehmpcaaGreatDoor
open Go.RowKit
attribute [local go_sem] Oper.semAt_some

theorem pairs_c (A B : Option Addr) (n m c d : Nat) (w : World) :
    Calls Tryz.prog 145 #[.slice A n c, .slice B m d] w fun e w' => e = .returned (.func (.func 154) #[] #[.pointer (some ⟨w.heap.size, 0, none⟩), .pointer (some ⟨w.heap.size + 1, 0, none⟩)]) ∧
      (w.alloc (.cells #[.slice A n c] 22)).alloc (.cells #[.slice B m d] 22) = w' := by
  have hmf : ∀ (fn : Fn) (first cap : Array Value) (w : World), (Instr.makeFunc fn first cap).run Tryz.prog w = .ok (.func fn first cap) w := fun _ _ _ _ => rfl
  go_enter Tryz.func145, Tryz.ntmps145
  go_wp2
  go_ret
  exact ⟨rfl, rfl⟩

/-- One round of the sum, in numbers. -/
theorem sum_step {out : List Nat} {k carry x y t a b : Nat} (hl : out.length = k) (hv : val out + bp k * carry = a + b) (ht : t = carry + (x + y)) :
    val (out ++ [t % 4294967296]) + bp (k + 1) * (t / 4294967296) = (a + bp k * x) + (b + bp k * y) := by
  have e := cut_place k t
  rw [val_snoc, hl]
  have e2 : bp k * t = bp k * carry + (bp k * x + bp k * y) := by rw [ht, Nat.mul_add, Nat.mul_add]
  omega

set_option maxRecDepth 100000 in
theorem sum_c {S S' : Nat → Prop} {n m c d : Nat} {A B : Option Addr} {xs ys : List Nat} (w : World) (ha : Rd w S A n xs) (hb : Rd w S' B m ys)
    (hS : ∀ b, S b → b < w.heap.size) (hS' : ∀ b, S' b → b < w.heap.size) (hn : n ≤ 1048576) (hm : m ≤ 1048576) :
    Calls Tryz.prog 139 #[.slice A n c, .slice B m d] w fun e w' => ∃ A' n' c' zs, e = .returned (.slice A' n' c') ∧ Res w' w.heap.size A' n' c' zs ∧ Can zs ∧ val zs = val xs + val ys ∧ Below w.heap.size w w' := by
  refine (callsIn_wide (n := 0)).1 ?_
  refine callsIn_of_wp_marks Tryz.func139 rfl trivial ?_ rfl
  simp only [Tryz.ntmps139, List.size_toArray, List.length_cons, List.length_nil, Nat.reduceAdd, Nat.reduceSub, Array.replicate_succ, Array.replicate_zero, List.push_toArray, List.append_toArray, List.nil_append, List.cons_append]
  generalize hN : max n m = N
  have hN1 : n ≤ N := by omega
  have hN2 : m ≤ N := by omega
  have hN4 : N ≤ 1048576 := by omega
  have hmx : max (n : Int) (m : Int) = ((N : Nat) : Int) := by omega
  have HN := Lib.hid hN
  clear hN
  have hmk := fun W => make_room (z := (N : Int) + 1) (N + 1) (by omega) (by omega) W
  gi_wp2_with (refine ⟨trivial, rfl, ?_⟩; gi_at_call 145; refine (callsIn_wide.2 (pairs_c _ _ _ _ _ _ _)).mono ?_; rintro e w' ⟨rfl, rfl⟩)
  clear hmk hmx
  obtain ⟨b0, hb0⟩ : ∃ b0, b0 = w.heap.size := ⟨_, rfl⟩
  obtain ⟨W0, hW0⟩ : ∃ W0, ((((w.alloc (zeros32 (N + 1))).alloc (.cells #[.slice (some ⟨w.heap.size, 0, none⟩) 0 (N + 1)] 22)).alloc (.cells #[.int .u64 0] 81)).alloc (.cells #[.slice A n c] 22)).alloc (.cells #[.slice B m d] 22) = W0 := ⟨_, rfl⟩
  rw [hW0]
  have hz : W0.heap.size = w.heap.size + 5 := by rw [← hW0]; simp
  have hB0 : Below w.heap.size w W0 := by rw [← hW0]; exact (((((Below.refl _ w).alloc (Nat.le_refl _) _).alloc (by simp) _).alloc (by simp; omega) _).alloc (by simp; omega) _).alloc (by simp; omega) _
  have bO : Boxed W0 (w.heap.size + 1) 22 (.slice (some ⟨w.heap.size, 0, none⟩) 0 (N + 1)) := by
    rw [← hW0]
    have h := Boxed.new (w.alloc (zeros32 (N + 1))) 22 (.slice (some ⟨w.heap.size, 0, none⟩) 0 (N + 1))
    rw [World.size_alloc] at h
    exact ((h.alloc _).alloc _).alloc _
  have bC : Boxed W0 (w.heap.size + 2) 81 (.int .u64 (0 : Nat)) := by
    rw [← hW0]
    have h := Boxed.new ((w.alloc (zeros32 (N + 1))).alloc (.cells #[.slice (some ⟨w.heap.size, 0, none⟩) 0 (N + 1)] 22)) 81 (.int .u64 (0 : Nat))
    simp only [World.size_alloc, Nat.add_assoc, Nat.reduceAdd] at h
    exact (h.alloc _).alloc _
  have b1 : Boxed W0 (w.heap.size + 3) 22 (.slice A n c) := by
    rw [← hW0]
    have h := Boxed.new (((w.alloc (zeros32 (N + 1))).alloc (.cells #[.slice (some ⟨w.heap.size, 0, none⟩) 0 (N + 1)] 22)).alloc (.cells #[.int .u64 0] 81)) 22 (.slice A n c)
    simp only [World.size_alloc, Nat.add_assoc, Nat.reduceAdd] at h
    exact h.alloc _
  have b2 : Boxed W0 (w.heap.size + 4) 22 (.slice B m d) := by
    rw [← hW0]
    have h := Boxed.new ((((w.alloc (zeros32 (N + 1))).alloc (.cells #[.slice (some ⟨w.heap.size, 0, none⟩) 0 (N + 1)] 22)).alloc (.cells #[.int .u64 0] 81)).alloc (.cells #[.slice A n c] 22)) 22 (.slice B m d)
    simp only [World.size_alloc, Nat.add_assoc, Nat.reduceAdd] at h
    exact h
  have hR0 : Res W0 w.heap.size (some ⟨w.heap.size, 0, none⟩) 0 (N + 1) [] := by
    refine (Res.room w (N + 1) (by omega)).below (B := w.heap.size + 1) ?_ (by simp)
    rw [← hW0]
    exact ((((Below.refl _ (w.alloc (zeros32 (N + 1)))).alloc (by simp) _).alloc (by simp) _).alloc (by simp) _).alloc (by simp) _
  clear hW0
  refine range_law (gf := 154) (lb := #[.pointer (some ⟨w.heap.size + 3, 0, none⟩), .pointer (some ⟨w.heap.size + 4, 0, none⟩)]) rfl (enters_of Tryz.func154 (by kernel_rfl) rfl) (encs := enc2) (xs := pairsL xs ys N)
    (keep := fun k => k = w.heap.size + 3 ∨ k = w.heap.size + 4 ∨ S k ∨ S' k)
    (fun W hW => by
      rw [← HN.out]
      exact pairs1_iter W ((hW.cell (p := ⟨w.heap.size + 3, 0, none⟩) (by show w.heap.size + 3 < W0.heap.size; omega)).trans b1.cell) ((hW.cell (p := ⟨w.heap.size + 4, 0, none⟩) (by show w.heap.size + 4 < W0.heap.size; omega)).trans b2.cell)
        ((ha.below hB0 hS).below hW (fun b h => by have := hS b h; omega)) ((hb.below hB0 hS').below hW (fun b h => by have := hS' b h; omega)) (by omega) (by omega))
    (fun _ => rfl) (fun k hk => by rcases hk with h | h | h | h <;> first | omega | (have := hS k h; omega) | (have := hS' k h; omega))
    (fun _ pre W => ∃ out carry : _, Boxed W (w.heap.size + 1) 22 (.slice (some ⟨w.heap.size, 0, none⟩) pre.length (N + 1)) ∧ Boxed W (w.heap.size + 2) 81 (.int .u64 ((carry : Nat) : Int)) ∧
      Res W w.heap.size (some ⟨w.heap.size, 0, none⟩) pre.length (N + 1) out ∧ carry ≤ 1 ∧ Hid (val out + bp pre.length * carry = val (pre.map Prod.fst) + val (pre.map Prod.snd)) ∧ Below w.heap.size w W)
    ?_ ?_ ?_ ?_
  · rintro r pre X Y row ⟨out, carry, h1, h2, h3, h4, h5, h6⟩ hg hr
    exact ⟨out, carry, h1.kept hg (fun e => by have := (hr _ e.symm).1; omega), h2.kept hg (fun e => by have := (hr _ e.symm).1; omega),
      h3.grown hg (fun g e he => by injection e with e; injection e with e; subst e; have := (hr _ he.symm).1; omega), h4, h5, h6.grown hg h6.size (fun k e => by have := (hr k e).1; omega)⟩
  · intro r W hW _
    exact ⟨[], 0, (hW.block _ (by omega)).trans bO, (hW.block _ (by omega)).trans bC, hR0.below hW (Nat.le_refl _), by omega, by show _ = _; simp [val], hB0.trans (hW.mono (by omega))⟩
  · rintro l r pre ⟨x, y⟩ rest hx W K hK
    obtain ⟨hx1, hy1, hpl⟩ := pairsL_lt ha.l32 hb.l32 hx
    dsimp only [enc2]
    have HK := Lib.hid hK
    clear hK
    gi_wp2
    refine HK.out _ ?_
    rintro W2 ⟨out, carry, h1, h2, h3, h4, h5, h6⟩ hz2 hr2
    have hc1 := h1.cell
    have hf1 := h1.frozen
    have hc2 := h2.cell
    have hf2 := h2.frozen
    obtain ⟨i0, hi, hz0, hz1, hz2⟩ := info_parts info32
    have h3s : ∀ v o, ((W2.setCell ⟨w.heap.size + 2, 0, none⟩ v).alloc o).ownsRow w.heap.size 64 1 (.slice (some ⟨w.heap.size, 0, none⟩) pre.length (N + 1)) pre.length (u32s out) := fun v o =>
      (h3.grown (only_set (World.grownBy.refl W2 _) 0 v) (fun g e he => by injection e with e; injection e with e; injection he with he; omega)).own.alloc o
    have k1f : ∀ v o X, ((W2.setCell ⟨w.heap.size + 2, 0, none⟩ v).alloc o).grownBy X (some w.heap.size) → Boxed X (w.heap.size + 1) 22 (.slice (some ⟨w.heap.size, 0, none⟩) pre.length (N + 1)) := fun v o X hg =>
      ((h1.kept (grownBy_setCell' W2 (w.heap.size + 2) v) (by simp)).alloc o).kept hg (by simp)
    have k2f : ∀ v o X, ((W2.setCell ⟨w.heap.size + 2, 0, none⟩ v).alloc o).grownBy X (some w.heap.size) → Boxed X (w.heap.size + 2) 81 v := fun v o X hg =>
      ((h2.set v).alloc o).kept hg (by simp)
    have kg : ∀ v o X, ((W2.setCell ⟨w.heap.size + 2, 0, none⟩ v).alloc o).grownBy X (some w.heap.size) → KeepsOthers W2 X ∧ Below w.heap.size W2 X ∧ ∀ k, k ≠ w.heap.size → k ≠ w.heap.size + 2 → k < W2.heap.size → X.heap[k]? = W2.heap[k]? := fun v o X hg => by
      refine ⟨((KeepsOthers.setCell _ _ _).trans (KeepsOthers.alloc _ _)).trans (KeepsOthers.of_grownBy hg ?_), ?_, ?_⟩
      · intro j o' e ho
        injection e with e
        subst e
        obtain ⟨cur, hcur⟩ : ∃ cur, ((W2.setCell ⟨w.heap.size + 2, 0, none⟩ v).alloc o).heap[w.heap.size]? = some (.cells cur 64 (0, 0)) := by
          rcases (h3s v o).2 with ⟨e, _⟩ | ⟨g, cap, cur, e, _, hh, _⟩
          · cases e
          · injection e with e; injection e with e; injection e with e; subst e; exact ⟨cur, hh⟩
        rw [hcur] at ho
        injection ho with ho
        subst ho; rfl
      · exact ((((Below.refl _ W2).setCell (p := ⟨w.heap.size + 2, 0, none⟩) (by simp) v).alloc (by simp [World.setCell]; exact h6.size) o).trans (below_of_only hg (Nat.le_refl _) (by simp [World.setCell]; have := h6.size; omega)))
      · intro k n1 n2 hk
        rw [hg.block k (by simp [World.setCell]; omega) (by simpa using n1), Below.heap_alloc _ _ _ (by simpa [World.setCell] using hk), Below.heap_setCell _ _ _ _ n2]
    gi_wp2_with (gi_at_builtin; refine wpListIn_append_fits _ rfl (.tmp 28) (.tmp 31) _ rfl w.heap.size 64 i0 1 Tryz.underlying22 hi hz1 w.heap.size pre.length (N + 1) (u32s out) rfl (h3s _ _) ⟨W2.heap.size, 0, none⟩ 1 1 [.int .u32 (((carry : Int) + ((x : Int) + (y : Int))) % 4294967296)] rfl rfl (cell_new1 _ _ _ _ (by simp [World.setCell])) (by simp [Value.oneCell']) (by omega) ?_; intro w1 hown1 hg1; have k1 := k1f _ _ _ hg1; have k2 := k2f _ _ _ hg1; have k3 := Lib.hid (kg _ _ _ hg1); have hc3 := k1.cell; have hf3 := k1.frozen; have hc4 := k2.cell; have hf4 := k2.frozen)
    obtain ⟨t, ht⟩ : ∃ t, t = carry + (x + y) := ⟨_, rfl⟩
    have hw : (carry : Int) + ((x : Int) + (y : Int)) = ((t : Nat) : Int) := by omega
    rw [hw, rem_cast] at hown1
    rw [hw] at k2
    rw [hw, div_cast]
    obtain ⟨g1, g2, g3⟩ := k3.out
    refine ⟨(g1.trans (KeepsOthers.setCell _ _ _)).trans (KeepsOthers.setCell _ _ _), ⟨by simp [World.setCell]; exact g1.size, ?_⟩, out ++ [t % 4294967296], t / 4294967296, ?_, ?_, ?_, by omega, ?_, ?_⟩
    · intro k hk
      have hne : k ≠ w.heap.size ∧ k ≠ w.heap.size + 1 ∧ k ≠ w.heap.size + 2 ∧ k < W2.heap.size := by
        rcases hk with (h | h | h | h) | h
        · omega
        · omega
        · have := hS k h; omega
        · have := hS' k h; omega
        · have := hr2 k h; omega
      rw [Below.heap_setCell _ _ _ _ (show k ≠ w.heap.size + 2 from hne.2.2.1), Below.heap_setCell _ _ _ _ (show k ≠ w.heap.size + 1 from hne.2.1)]
      exact g3 k hne.1 hne.2.2.1 hne.2.2.2
    · rw [List.length_append]
      exact (k1.set _).kept (grownBy_setCell' _ _ _) (by simp)
    · exact ((k2.kept (grownBy_setCell' _ _ _) (by simp)).set _)
    · rw [List.length_append]
      exact ((Res.of_append h3.len h3.l32 (by omega) hown1).grown (grownBy_setCell' _ (w.heap.size + 1) _) (fun g e he => by injection e with e; injection e with e; injection he with he; omega)).grown (grownBy_setCell' _ (w.heap.size + 2) _) (fun g e he => by injection e with e; injection e with e; injection he with he; omega)
    · show _ = _
      have e1 : val ((pre ++ [(x, y)]).map Prod.fst) = val (pre.map Prod.fst) + bp pre.length * x := by rw [List.map_append, List.map_cons, List.map_nil, val_snoc, List.length_map]
      have e2 : val ((pre ++ [(x, y)]).map Prod.snd) = val (pre.map Prod.snd) + bp pre.length * y := by rw [List.map_append, List.map_cons, List.map_nil, val_snoc, List.length_map]
      rw [e1, e2, List.length_append]
      exact sum_step h3.len h5.out ht
    · exact ((h6.trans g2).setCell (p := ⟨w.heap.size + 1, 0, none⟩) (by simp) _).setCell (p := ⟨w.heap.size + 2, 0, none⟩) (by simp) _
  · intro D r W ⟨out, carry, h1, h2, h3, h4, h5, h6⟩ hD hK
    have hpl : (pairsL xs ys N).length = N := by simp [pairsL]
    rw [hpl] at h1 h3 h5
    have hv := Lib.hid h5.out
    rw [pairsL_fst, pairsL_snd, val_range_nth (by rw [ha.len]; omega), val_range_nth (by rw [hb.len]; omega)] at hv
    clear hpl h5
    have hc1 := h1.cell
    have hc2 := h2.cell
    obtain ⟨i0, hi, hz0, hz1, hz2⟩ := info_parts info32
    have h3s : ∀ o, (W.alloc o).ownsRow w.heap.size 64 1 (.slice (some ⟨w.heap.size, 0, none⟩) N (N + 1)) N (u32s out) := fun o => h3.own.alloc o
    have h3l := Lib.hid h3.len
    gi_wp2_with (first
      | (gi_at_builtin; refine wpListIn_append_fits _ rfl (.tmp 35) (.tmp 38) _ rfl w.heap.size 64 i0 1 Tryz.underlying22 hi hz1 w.heap.size N (N + 1) (u32s out) rfl (h3s _) ⟨W.heap.size, 0, none⟩ 1 1 [.int .u32 ((carry : Int))] rfl rfl (cell_new1 _ _ _ _ rfl) (by simp [Value.oneCell']) (by omega) ?_; intro w1 hown1 hg1; have hres1 := Res.of_append h3l.out h3.l32 (by omega) hown1)
      | (refine ⟨trivial, rfl, ?_⟩; gi_at_call 76; refine (callsIn_wide.2 (trim_c _ hres1.rd (by omega) (by omega))).mono ?_; rintro e w' ⟨rfl, rfl⟩))
    have hDl := (Array.getElem?_eq_some_iff.1 hK).1
    have hK' : w1.heap[D]? = some (.deferred (some [])) := (hg1.block D (by simp; omega) (fun e => by injection e with e; omega)).trans ((Below.heap_alloc _ _ _ hDl).trans hK)
    have hb1 : Below w.heap.size w w1 := (h6.alloc h6.size _).trans (below_of_only hg1 (Nat.le_refl _) (by simp; have := h6.size; omega))
    refine ⟨by simp, .inl ⟨_, _, rfl, run_takeDeferred hK', ?_⟩⟩
    refine ⟨_, results_tmp rfl _ _ _, _, _, _, trimmed (out ++ [carry]), rfl, ?_, trimmed_can hres1.l32, ?_, hb1.trans (below_of_only (only_putObj _ _ _) (by omega) hb1.size)⟩
    · have ht := hres1.take (tl_le (out ++ [carry]) (N + 1))
      unfold trimmed
      rw [hres1.len]
      exact ht.grown (only_putObj _ _ _) (fun g e he => by injection e with e; injection e with e; injection he with he; omega)
    · rw [trimmed_val, val_snoc, h3l.out]
      exact hv.out
end Go.Proofs.YtobfeneeehmpcaaGreatDoor

namespace Go.Proofs.YtobfeneeehmpcaaGreatDoor
open Go.RowKit

/-- The limbs of a number. -/
def lOf : Nat → Nat → List Nat
  | 0, _ => []
  | f + 1, v => if v = 0 then [] else v % 4294967296 :: lOf f (v / 4294967296)
def lim (v : Nat) : List Nat := lOf v v
theorem lOf_ok : ∀ (f v : Nat), v ≤ f → Can (lOf f v) ∧ val (lOf f v) = v
  | 0, v, h => by
    have e : v = 0 := by omega
    rw [e]
    exact ⟨Can.nil, rfl⟩
  | f + 1, v, h => by
    unfold lOf
    by_cases h0 : v = 0
    · rw [if_pos h0, h0]; exact ⟨Can.nil, rfl⟩
    · rw [if_neg h0]
      obtain ⟨hc, hv⟩ := lOf_ok f (v / 4294967296) (by omega)
      refine ⟨⟨L32.cons.2 ⟨by omega, hc.1⟩, .inr ?_⟩, by rw [val_cons, hv]; omega⟩
      rcases hc.2 with e | e
      · rw [e] at hv ⊢
        rw [val_nil] at hv
        simp [nth]
        omega
      · have hl : 0 < (lOf f (v / 4294967296)).length := by
          rcases Nat.eq_zero_or_pos (lOf f (v / 4294967296)).length with h1 | h1
          · rw [nth_none (by omega)] at e; exact absurd rfl e
          · exact h1
        rw [List.length_cons, show (lOf f (v / 4294967296)).length + 1 - 1 = ((lOf f (v / 4294967296)).length - 1) + 1 by omega, nth_cons_succ]
        exact e
theorem lim_can (v : Nat) : Can (lim v) := (lOf_ok v v (Nat.le_refl _)).1
theorem lim_val (v : Nat) : val (lim v) = v := (lOf_ok v v (Nat.le_refl _)).2
theorem eq_lim {zs : List Nat} (h : Can zs) : zs = lim (val zs) := h.inj (lim_can _) (lim_val _).symm

theorem can_of_chk {xs : List Nat} (hl : L32 xs) (h : chk xs = 0) : Can xs ∧ xs.length ≤ 256 := by
  unfold chk at h
  by_cases h1 : 256 < xs.length
  · rw [if_pos h1] at h; omega
  · rw [if_neg h1] at h
    refine ⟨⟨hl, ?_⟩, by omega⟩
    by_cases h2 : 0 < xs.length ∧ nth xs (xs.length - 1) = 0
    · rw [if_pos h2] at h; omega
    · by_cases h3 : xs = []
      · exact .inl h3
      · exact .inr fun e => h2 ⟨List.length_pos_iff.2 h3, e⟩
/-- The errors of two numbers, ahead of all else. -/
def chk2 (xs ys : List Nat) : Nat := if chk xs = 0 then chk ys else chk xs
theorem can_of_chk2 {xs ys : List Nat} (hx : L32 xs) (hy : L32 ys) (h : chk2 xs ys = 0) : (Can xs ∧ xs.length ≤ 256) ∧ Can ys ∧ ys.length ≤ 256 := by
  unfold chk2 at h
  by_cases h1 : chk xs = 0
  · rw [if_pos h1] at h; exact ⟨can_of_chk hx h1, can_of_chk hy h⟩
  · rw [if_neg h1] at h; exact absurd h h1
theorem long_iff {zs : List Nat} (h : Can zs) : 256 < zs.length ↔ bp 256 ≤ val zs := by
  constructor
  · intro hl
    have := h.ge (by intro e; rw [e] at hl; simp at hl)
    have := bp_mono (show 256 ≤ zs.length - 1 by omega)
    omega
  · intro hv
    rcases Nat.lt_or_ge 256 zs.length with h1 | h1
    · exact h1
    · have := val_lt h.1
      have := bp_mono h1
      omega
/-- What is answered where v has been reckoned of two numbers: the error, and the limbs. -/
def binE (xs ys : List Nat) (v : Nat) : Nat := if chk2 xs ys = 0 then (if bp 256 ≤ v then 51 else 0) else chk2 xs ys
def binZ (xs ys : List Nat) (v : Nat) : List Nat := if binE xs ys v = 0 then lim v else []
theorem binZ_err {xs ys : List Nat} {v : Nat} (h : binE xs ys v ≠ 0) : binZ xs ys v = [] := if_neg h

/-- The last step of a sum or a product: the error for too many limbs. -/
theorem bin_end {zs xs ys : List Nat} {v : Nat} (hc : Can zs) (hv : val zs = v) (h0 : chk2 xs ys = 0) :
    (256 < zs.length → binE xs ys v = 51 ∧ binZ xs ys v = []) ∧ (zs.length ≤ 256 → binE xs ys v = 0 ∧ binZ xs ys v = zs) := by
  have hl := long_iff hc
  rw [hv] at hl
  constructor
  · intro h
    have e : binE xs ys v = 51 := by unfold binE; rw [if_pos h0, if_pos (hl.1 h)]
    exact ⟨e, binZ_err (by rw [e]; omega)⟩
  · intro h
    have e : binE xs ys v = 0 := by unfold binE; rw [if_pos h0, if_neg (fun h' => by have := hl.2 h'; omega)]
    refine ⟨e, ?_⟩
    unfold binZ
    rw [if_pos e, ← hv]
    exact (eq_lim hc).symm

section
variable {S S' : Nat → Prop} {n m c d : Nat} {A B : Option Addr} {xs ys : List Nat}

theorem Add_c (w : World) (ha : Rd w S A n xs) (hb : Rd w S' B m ys) (hS : ∀ b, S b → b < w.heap.size) (hS' : ∀ b, S' b → b < w.heap.size) (hn : n ≤ 9223372036854775807) (hm : m ≤ 9223372036854775807) :
    Calls Tryz.prog 131 #[.slice A n c, .slice B m d] w fun e w' => ∃ A' n' c', e = .returned (.tuple #[.slice A' n' c', .int .i64 (binE xs ys (val xs + val ys) : Int)]) ∧ Res w' w.heap.size A' n' c' (binZ xs ys (val xs + val ys)) ∧ Below w.heap.size w w' := by
  have h1 := checkBoth_c (c := c) (d := d) w ha hb hn hm
  have e1 : (if chk xs = 0 then chk ys else chk xs) = chk2 xs ys := rfl
  rw [e1] at h1
  by_cases h0 : chk2 xs ys = 0
  · obtain ⟨⟨hcx, hlx⟩, hcy, hly⟩ := can_of_chk2 ha.l32 hb.l32 h0
    have hs := sum_c (c := c) (d := d) w ha hb hS hS' (by rw [← ha.len]; omega) (by rw [← hb.len]; omega)
    have HS := Lib.hid hs
    rw [h0] at h1
    have H0 := Lib.hid h0
    have H1 := Lib.hid h1
    clear h1 hs h0 e1
    go_enter Tryz.func131, Tryz.ntmps131
    go_wp2_with fail
    refine H1.out.mono ?_
    rintro e w' ⟨rfl, rfl⟩
    go_wp2_with fail
    refine HS.out.mono ?_
    rintro e w1 ⟨A', n', c', zs, rfl, hres, hcan, hval, hbel⟩
    have HE := Lib.hid (bin_end hcan hval H0.out)
    have hl := Lib.hid hres.len
    clear hval
    by_cases hlong : 256 < n'
    · have hn' := hres.n_le
      unfold maxLen at hn'
      go_wp2_with (go_at_call 106; refine (fit_many _ _ _ _ (by omega) hlong).mono ?_; rintro e w' ⟨rfl, rfl⟩)
      go_ret2
      obtain ⟨e1, e2⟩ := HE.out.1 (by rw [hl.out]; exact hlong)
      rw [e1, e2]
      exact ⟨none, 0, 0, rfl, Res.nil _ _, hbel⟩
    · go_wp2_with (go_at_call 106; refine (fit_ok _ _ _ _ (by omega)).mono ?_; rintro e w' ⟨rfl, rfl⟩)
      go_ret2
      obtain ⟨e1, e2⟩ := HE.out.2 (by rw [hl.out]; omega)
      rw [e1, e2]
      exact ⟨A', n', c', rfl, hres, hbel⟩
  · have e2 : binE xs ys (val xs + val ys) = chk2 xs ys := if_neg h0
    have e3 := binZ_err (xs := xs) (ys := ys) (v := val xs + val ys) (by rw [e2]; exact h0)
    rw [e2, e3]
    have hb : (((chk2 xs ys : Nat) : Int) != 0) = true := by rw [bne_iff_ne]; omega
    have H1 := Lib.hid h1
    clear h1 h0 e1 e2 e3
    go_enter Tryz.func131, Tryz.ntmps131
    go_wp2_with fail
    refine H1.out.mono ?_
    rintro e w' ⟨rfl, rfl⟩
    go_wp2
    go_ret2
    exact ⟨none, 0, 0, rfl, Res.nil _ _, Below.refl _ _⟩
theorem Mul_c (w : World) (ha : Rd w S A n xs) (hb : Rd w S' B m ys) (hS : ∀ b, S b → b < w.heap.size) (hS' : ∀ b, S' b → b < w.heap.size) (hn : n ≤ 9223372036854775807) (hm : m ≤ 9223372036854775807) :
    Calls Tryz.prog 73 #[.slice A n c, .slice B m d] w fun e w' => ∃ A' n' c', e = .returned (.tuple #[.slice A' n' c', .int .i64 (binE xs ys (val xs * val ys) : Int)]) ∧ Res w' w.heap.size A' n' c' (binZ xs ys (val xs * val ys)) ∧ Below w.heap.size w w' := by
  have h1 := checkBoth_c (c := c) (d := d) w ha hb hn hm
  have e1 : (if chk xs = 0 then chk ys else chk xs) = chk2 xs ys := rfl
  rw [e1] at h1
  by_cases h0 : chk2 xs ys = 0
  · obtain ⟨⟨hcx, hlx⟩, hcy, hly⟩ := can_of_chk2 ha.l32 hb.l32 h0
    have hs := product_c (c := c) (d := d) w ha hb hS hS' (by rw [← ha.len]; omega) (by rw [← hb.len]; omega)
    have HS := Lib.hid hs
    rw [h0] at h1
    have H0 := Lib.hid h0
    have H1 := Lib.hid h1
    clear h1 hs h0 e1
    go_enter Tryz.func73, Tryz.ntmps73
    go_wp2_with fail
    refine H1.out.mono ?_
    rintro e w' ⟨rfl, rfl⟩
    go_wp2_with fail
    refine HS.out.mono ?_
    rintro e w1 ⟨A', n', c', zs, rfl, hres, hcan, hval, hbel⟩
    have HE := Lib.hid (bin_end hcan hval H0.out)
    have hl := Lib.hid hres.len
    clear hval
    by_cases hlong : 256 < n'
    · have hn' := hres.n_le
      unfold maxLen at hn'
      go_wp2_with (go_at_call 106; refine (fit_many _ _ _ _ (by omega) hlong).mono ?_; rintro e w' ⟨rfl, rfl⟩)
      go_ret2
      obtain ⟨e1, e2⟩ := HE.out.1 (by rw [hl.out]; exact hlong)
      rw [e1, e2]
      exact ⟨none, 0, 0, rfl, Res.nil _ _, hbel⟩
    · go_wp2_with (go_at_call 106; refine (fit_ok _ _ _ _ (by omega)).mono ?_; rintro e w' ⟨rfl, rfl⟩)
      go_ret2
      obtain ⟨e1, e2⟩ := HE.out.2 (by rw [hl.out]; omega)
      rw [e1, e2]
      exact ⟨A', n', c', rfl, hres, hbel⟩
  · have e2 : binE xs ys (val xs * val ys) = chk2 xs ys := if_neg h0
    have e3 := binZ_err (xs := xs) (ys := ys) (v := val xs * val ys) (by rw [e2]; exact h0)
    rw [e2, e3]
    have hb : (((chk2 xs ys : Nat) : Int) != 0) = true := by rw [bne_iff_ne]; omega
    have H1 := Lib.hid h1
    clear h1 h0 e1 e2 e3
    go_enter Tryz.func73, Tryz.ntmps73
    go_wp2_with fail
    refine H1.out.mono ?_
    rintro e w' ⟨rfl, rfl⟩
    go_wp2
    go_ret2
    exact ⟨none, 0, 0, rfl, Res.nil _ _, Below.refl _ _⟩
theorem Compare_c (w : World) (ha : Rd w S A n xs) (hb : Rd w S' B m ys) (hn : n ≤ 9223372036854775807) (hm : m ≤ 9223372036854775807) :
    Calls Tryz.prog 52 #[.slice A n c, .slice B m d] w fun e w' => e = .returned (.tuple #[.int .i64 (if chk2 xs ys = 0 then cmp xs ys else 0), .int .i64 (chk2 xs ys : Int)]) ∧ ∃ k, w' = w.drewN k := by
  have h1 := checkBoth_c (c := c) (d := d) w ha hb hn hm
  have e1 : (if chk xs = 0 then chk ys else chk xs) = chk2 xs ys := rfl
  rw [e1] at h1
  by_cases h0 : chk2 xs ys = 0
  · rw [if_pos h0]
    have hs := compare_c (c := c) (d := d) w ha hb hn hm
    have HS := Lib.hid hs
    rw [h0] at h1 ⊢
    have H1 := Lib.hid h1
    clear h1 hs h0 e1
    go_enter Tryz.func52, Tryz.ntmps52
    go_wp2_with fail
    refine H1.out.mono ?_
    rintro e w' ⟨rfl, rfl⟩
    go_wp2_with fail
    refine HS.out.mono ?_
    rintro e w1 ⟨rfl, k, rfl⟩
    go_wp2
    go_ret2
    exact ⟨rfl, k, rfl⟩
  · rw [if_neg h0]
    have hb : (((chk2 xs ys : Nat) : Int) != 0) = true := by rw [bne_iff_ne]; omega
    have H1 := Lib.hid h1
    clear h1 h0 e1
    go_enter Tryz.func52, Tryz.ntmps52
    go_wp2_with fail
    refine H1.out.mono ?_
    rintro e w' ⟨rfl, rfl⟩
    go_wp2
    go_ret2
    exact ⟨rfl, 0, rfl⟩
end
end Go.Proofs.YtobfeneeehmpcaaGreatDoor

namespace Go.Proofs.YtobfeneeehmpcaaGreatDoor
open Go.RowKit

theorem chk2_ok {xs ys : List Nat} (hx : Can xs) (hy : Can ys) (h1 : xs.length ≤ 256) (h2 : ys.length ≤ 256) : chk2 xs ys = 0 := by
  unfold chk2
  rw [if_pos (chk_can hx h1), chk_can hy h2]
theorem binE_ok {xs ys : List Nat} {v : Nat} (hx : Can xs) (hy : Can ys) (h1 : xs.length ≤ 256) (h2 : ys.length ≤ 256) (hv : v < bp 256) : binE xs ys v = 0 := by
  unfold binE
  rw [if_pos (chk2_ok hx hy h1 h2), if_neg (by omega)]
theorem binE_zero {xs ys : List Nat} {v : Nat} (hx : L32 xs) (hy : L32 ys) (h : binE xs ys v = 0) : (Can xs ∧ xs.length ≤ 256) ∧ (Can ys ∧ ys.length ≤ 256) ∧ v < bp 256 ∧ binZ xs ys v = lim v := by
  have hz : binZ xs ys v = lim v := if_pos h
  unfold binE at h
  by_cases h0 : chk2 xs ys = 0
  · rw [if_pos h0] at h
    obtain ⟨hx2, hy2⟩ := can_of_chk2 hx hy h0
    refine ⟨hx2, hy2, ?_, hz⟩
    rcases Nat.lt_or_ge v (bp 256) with h1 | h1
    · exact h1
    · rw [if_pos h1] at h; omega
  · rw [if_neg h0] at h; exact absurd h h0
theorem lim_len {v : Nat} (h : v < bp 256) : (lim v).length ≤ 256 := by
  rcases Nat.lt_or_ge 256 (lim v).length with h1 | h1
  · have := (long_iff (lim_can v)).1 h1
    rw [lim_val] at this
    omega
  · exact h1

theorem Res.lt {w : World} {base n c : Nat} {A : Option Addr} {zs : List Nat} (h : Res w base A n c zs) : n ≤ 9223372036854775807 := by
  have := h.n_le; unfold maxLen at this; omega
theorem below_drewN {B : Nat} {a w : World} (h : Below B a w) (n : Nat) : Below B a (w.drewN n) := ⟨h.os, h.tape, h.output, h.size, h.block⟩

end Go.Proofs.YtobfeneeehmpcaaGreatDoor
