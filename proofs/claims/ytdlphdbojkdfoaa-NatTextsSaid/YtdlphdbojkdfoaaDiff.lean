/-
  Contract of nat.difference: one number taken away from another one that is not below it, without 0 at its end, in memory of its own.
-/
import Derived.Test.YtdlphdbojkdfoaaSum
import Derived.PlainAid
set_option linter.unusedVariables false
set_option linter.unusedSimpArgs false
namespace Go.Proofs.Ytdlphdbojkdfoaa
open Go.RowKit
attribute [local go_sem] Oper.semAt_some

/-- One limb less another one, less what was borrowed. -/
theorem diff_limb {x y bo : Nat} (hx : x < 4294967296) (hy : y < 4294967296) (hb : bo ≤ 1) : ∃ e d lo bo2 : Nat, IntKind.u64.wrap ((x : Int) - (y : Int)) = (e : Int) ∧ IntKind.u64.wrap ((e : Int) - (bo : Int)) = (d : Int) ∧
    (d : Int) % 4294967296 = (lo : Int) ∧ (d : Int) / 9223372036854775808 = (bo2 : Int) ∧ lo < 4294967296 ∧ bo2 ≤ 1 ∧ lo + bo + y = x + 4294967296 * bo2 := by
  by_cases h1 : y ≤ x
  · refine ⟨x - y, ?_⟩
    have e1 : IntKind.u64.wrap ((x : Int) - (y : Int)) = ((x - y : Nat) : Int) := by rw [PlainAid.u64_nonneg (by omega) (by omega)]; omega
    by_cases h2 : bo ≤ x - y
    · exact ⟨x - y - bo, x - y - bo, 0, e1, by rw [PlainAid.u64_nonneg (by omega) (by omega)]; omega, by omega, by omega, by omega, by omega, by omega⟩
    · exact ⟨18446744073709551615, 4294967295, 1, e1, by rw [PlainAid.u64_neg (by omega) (by omega)]; omega, by omega, by omega, by omega, by omega, by omega⟩
  · refine ⟨18446744073709551616 + x - y, 18446744073709551616 + x - y - bo, 4294967296 + x - y - bo, 1, ?_, ?_, by omega, by omega, by omega, by omega, by omega⟩
    · rw [PlainAid.u64_neg (by omega) (by omega)]; omega
    · rw [PlainAid.u64_nonneg (by omega) (by omega)]; omega
/-- One round of the difference, in numbers. -/
theorem diff_step {out : List Nat} {k bo bo2 x y lo a b : Nat} (hl : out.length = k) (hv : val out + b = a + bp k * bo) (ht : lo + bo + y = x + 4294967296 * bo2) :
    val (out ++ [lo]) + (b + bp k * y) = (a + bp k * x) + bp (k + 1) * bo2 := by
  rw [val_snoc, hl, bp_succ]
  have e1 : bp k * (lo + bo + y) = bp k * (x + 4294967296 * bo2) := by rw [ht]
  rw [Nat.mul_add, Nat.mul_add, Nat.mul_add] at e1
  have e2 : 4294967296 * bp k * bo2 = bp k * (4294967296 * bo2) := by rw [Nat.mul_comm 4294967296, Nat.mul_assoc]
  omega

set_option maxRecDepth 100000 in
theorem difference_c {S S' : Nat → Prop} {n m c d : Nat} {A B : Option Addr} {xs ys : List Nat} (w : World) (ha : Rd w S A n xs) (hb : Rd w S' B m ys)
    (hS : ∀ b, S b → b < w.heap.size) (hS' : ∀ b, S' b → b < w.heap.size) (hn : n ≤ 1048576) (hmn : m ≤ n) (hle : val ys ≤ val xs) :
    Calls Try.prog 40 #[.slice A n c, .slice B m d] w fun e w' => ∃ A' n' c' zs, e = .returned (.slice A' n' c') ∧ Res w' w.heap.size A' n' c' zs ∧ Can zs ∧ val zs + val ys = val xs ∧ Below w.heap.size w w' := by
  refine (callsIn_wide (n := 0)).1 ?_
  refine callsIn_of_wp_marks Try.func40 rfl trivial ?_ rfl
  simp only [Try.ntmps40, List.size_toArray, List.length_cons, List.length_nil, Nat.reduceAdd, Nat.reduceSub, Array.replicate_succ, Array.replicate_zero, List.push_toArray, List.append_toArray, List.nil_append, List.cons_append]
  have HLE := Lib.hid hle
  clear hle
  have hmx : max n m = n := by omega
  have HN := Lib.hid hmx
  clear hmx
  have hmk := fun W => make_room (z := (n : Int)) n rfl (by omega) W
  gi_wp2_with (refine ⟨trivial, rfl, ?_⟩; gi_at_call 60; refine (callsIn_wide.2 (pairs_c _ _ _ _ _ _ _)).mono ?_; rintro e w' ⟨rfl, rfl⟩)
  clear hmk
  obtain ⟨b0, hb0⟩ : ∃ b0, b0 = w.heap.size := ⟨_, rfl⟩
  obtain ⟨W0, hW0⟩ : ∃ W0, ((((w.alloc (zeros32 n)).alloc (.cells #[.slice (some ⟨w.heap.size, 0, none⟩) 0 n] 22)).alloc (.cells #[.int .u64 0] 23)).alloc (.cells #[.slice A n c] 22)).alloc (.cells #[.slice B m d] 22) = W0 := ⟨_, rfl⟩
  rw [hW0]
  have hz : W0.heap.size = w.heap.size + 5 := by rw [← hW0]; simp
  have hB0 : Below w.heap.size w W0 := by rw [← hW0]; exact (((((Below.refl _ w).alloc (Nat.le_refl _) _).alloc (by simp) _).alloc (by simp; omega) _).alloc (by simp; omega) _).alloc (by simp; omega) _
  have bO : Boxed W0 (w.heap.size + 1) 22 (.slice (some ⟨w.heap.size, 0, none⟩) 0 n) := by
    rw [← hW0]
    have h := Boxed.new (w.alloc (zeros32 n)) 22 (.slice (some ⟨w.heap.size, 0, none⟩) 0 n)
    rw [World.size_alloc] at h
    exact ((h.alloc _).alloc _).alloc _
  have bC : Boxed W0 (w.heap.size + 2) 23 (.int .u64 (0 : Nat)) := by
    rw [← hW0]
    have h := Boxed.new ((w.alloc (zeros32 n)).alloc (.cells #[.slice (some ⟨w.heap.size, 0, none⟩) 0 n] 22)) 23 (.int .u64 (0 : Nat))
    simp only [World.size_alloc, Nat.add_assoc, Nat.reduceAdd] at h
    exact (h.alloc _).alloc _
  have b1 : Boxed W0 (w.heap.size + 3) 22 (.slice A n c) := by
    rw [← hW0]
    have h := Boxed.new (((w.alloc (zeros32 n)).alloc (.cells #[.slice (some ⟨w.heap.size, 0, none⟩) 0 n] 22)).alloc (.cells #[.int .u64 0] 23)) 22 (.slice A n c)
    simp only [World.size_alloc, Nat.add_assoc, Nat.reduceAdd] at h
    exact h.alloc _
  have b2 : Boxed W0 (w.heap.size + 4) 22 (.slice B m d) := by
    rw [← hW0]
    have h := Boxed.new ((((w.alloc (zeros32 n)).alloc (.cells #[.slice (some ⟨w.heap.size, 0, none⟩) 0 n] 22)).alloc (.cells #[.int .u64 0] 23)).alloc (.cells #[.slice A n c] 22)) 22 (.slice B m d)
    simp only [World.size_alloc, Nat.add_assoc, Nat.reduceAdd] at h
    exact h
  have hR0 : Res W0 w.heap.size (some ⟨w.heap.size, 0, none⟩) 0 n [] := by
    refine (Res.room w n (by omega)).below (B := w.heap.size + 1) ?_ (by simp)
    rw [← hW0]
    exact ((((Below.refl _ (w.alloc (zeros32 n))).alloc (by simp) _).alloc (by simp) _).alloc (by simp) _).alloc (by simp) _
  clear hW0
  refine range_law (gf := 68) (lb := #[.pointer (some ⟨w.heap.size + 3, 0, none⟩), .pointer (some ⟨w.heap.size + 4, 0, none⟩)]) rfl (enters_of Try.func68 (by kernel_rfl) rfl) (encs := enc2) (xs := pairsL xs ys n)
    (keep := fun k => k = w.heap.size + 3 ∨ k = w.heap.size + 4 ∨ S k ∨ S' k)
    (fun W hW => by
      rw [show pairsL xs ys n = pairsL xs ys (max n m) by rw [HN.out]]
      exact pairs1_iter W ((hW.cell (p := ⟨w.heap.size + 3, 0, none⟩) (by show w.heap.size + 3 < W0.heap.size; omega)).trans b1.cell) ((hW.cell (p := ⟨w.heap.size + 4, 0, none⟩) (by show w.heap.size + 4 < W0.heap.size; omega)).trans b2.cell)
        ((ha.below hB0 hS).below hW (fun b h => by have := hS b h; omega)) ((hb.below hB0 hS').below hW (fun b h => by have := hS' b h; omega)) (by omega) (by omega))
    (fun _ => rfl) (fun k hk => by rcases hk with h | h | h | h <;> first | omega | (have := hS k h; omega) | (have := hS' k h; omega))
    (fun _ pre W => ∃ out bo : _, Boxed W (w.heap.size + 1) 22 (.slice (some ⟨w.heap.size, 0, none⟩) pre.length n) ∧ Boxed W (w.heap.size + 2) 23 (.int .u64 ((bo : Nat) : Int)) ∧
      Res W w.heap.size (some ⟨w.heap.size, 0, none⟩) pre.length n out ∧ bo ≤ 1 ∧ Hid (val out + val (pre.map Prod.snd) = val (pre.map Prod.fst) + bp pre.length * bo) ∧ Below w.heap.size w W)
    ?_ ?_ ?_ ?_
  · rintro r pre X Y row ⟨out, bo, h1, h2, h3, h4, h5, h6⟩ hg hr
    exact ⟨out, bo, h1.kept hg (fun e => by have := (hr _ e.symm).1; omega), h2.kept hg (fun e => by have := (hr _ e.symm).1; omega),
      h3.grown hg (fun g e he => by injection e with e; injection e with e; subst e; have := (hr _ he.symm).1; omega), h4, h5, h6.grown hg h6.size (fun k e => by have := (hr k e).1; omega)⟩
  · intro r W hW _
    exact ⟨[], 0, (hW.block _ (by omega)).trans bO, (hW.block _ (by omega)).trans bC, hR0.below hW (Nat.le_refl _), by omega, by show _ = _; simp [val], hB0.trans (hW.mono (by omega))⟩
  · rintro l r pre ⟨x, y⟩ rest hx W K hK
    obtain ⟨hx1, hy1, hpl⟩ := pairsL_lt ha.l32 hb.l32 hx
    dsimp only [enc2]
    have HK := Lib.hid hK
    clear hK
    gi_wp2
    refine HK.out _ ?_
    rintro W2 ⟨out, bo, h1, h2, h3, h4, h5, h6⟩ hz2 hr2
    have hc1 := h1.cell
    have hf1 := h1.frozen
    have hc2 := h2.cell
    have hf2 := h2.frozen
    obtain ⟨i0, hi, hz0, hz1, hz2⟩ := info_parts info32
    have h3s : ∀ o, (W2.alloc o).ownsRow w.heap.size 65 1 (.slice (some ⟨w.heap.size, 0, none⟩) pre.length n) pre.length (u32s out) := fun o => h3.own.alloc o
    have k1f : ∀ o X, (W2.alloc o).grownBy X (some w.heap.size) → Boxed X (w.heap.size + 1) 22 (.slice (some ⟨w.heap.size, 0, none⟩) pre.length n) := fun o X hg =>
      (h1.alloc o).kept hg (by simp)
    have k2f : ∀ o X, (W2.alloc o).grownBy X (some w.heap.size) → Boxed X (w.heap.size + 2) 23 (.int .u64 ((bo : Nat) : Int)) := fun o X hg =>
      (h2.alloc o).kept hg (by simp)
    have kg : ∀ o X, (W2.alloc o).grownBy X (some w.heap.size) → KeepsOthers W2 X ∧ Below w.heap.size W2 X ∧ ∀ k, k ≠ w.heap.size → k < W2.heap.size → X.heap[k]? = W2.heap[k]? := fun o X hg => by
      refine ⟨(KeepsOthers.alloc _ _).trans (KeepsOthers.of_grownBy hg ?_), ?_, ?_⟩
      · intro j o' e ho
        injection e with e
        subst e
        obtain ⟨cur, hcur⟩ : ∃ cur, (W2.alloc o).heap[w.heap.size]? = some (.cells cur 65 (0, 0)) := by
          rcases (h3s o).2 with ⟨e, _⟩ | ⟨g, cap, cur, e, _, hh, _⟩
          · cases e
          · injection e with e; injection e with e; injection e with e; subst e; exact ⟨cur, hh⟩
        rw [hcur] at ho
        injection ho with ho
        subst ho; rfl
      · exact (((Below.refl _ W2).alloc h6.size o).trans (below_of_only hg (Nat.le_refl _) (by simp; have := h6.size; omega)))
      · intro k n1 hk
        rw [hg.block k (by simp; omega) (by simpa using n1), Below.heap_alloc _ _ _ hk]
    obtain ⟨e1, d1, lo, bo2, hd1, hd2, hd3, hd4, hd5, hd6, hd7⟩ := diff_limb hx1 hy1 h4
    have HD4 := Lib.hid hd4
    have HD7 := Lib.hid hd7
    clear hd4 hd7
    gi_wp2_with (gi_at_builtin; refine wpListIn_append_fits _ rfl (.tmp 25) (.tmp 28) _ rfl w.heap.size 65 i0 1 Try.underlying22 hi hz1 w.heap.size pre.length n (u32s out) rfl (h3s _) ⟨W2.heap.size, 0, none⟩ 1 1 [.int .u32 (lo : Int)] rfl rfl (cell_new1 _ _ _ _ rfl) (by simp [Value.oneCell']) (by omega) ?_; intro w1 hown1 hg1; have k1 := k1f _ _ hg1; have k2 := k2f _ _ hg1; have k3 := Lib.hid (kg _ _ hg1); have hc3 := k1.cell; have hf3 := k1.frozen; have hc4 := k2.cell; have hf4 := k2.frozen)
    rw [HD4.out]
    obtain ⟨g1, g2, g3⟩ := k3.out
    refine ⟨(g1.trans (KeepsOthers.setCell _ _ _)).trans (KeepsOthers.setCell _ _ _), ⟨by simp [World.setCell]; exact g1.size, ?_⟩, out ++ [lo], bo2, ?_, ?_, ?_, hd6, ?_, ?_⟩
    · intro k hk
      have hne : k ≠ w.heap.size ∧ k ≠ w.heap.size + 1 ∧ k ≠ w.heap.size + 2 ∧ k < W2.heap.size := by
        rcases hk with (h | h | h | h) | h
        · omega
        · omega
        · have := hS k h; omega
        · have := hS' k h; omega
        · have := hr2 k h; omega
      rw [Below.heap_setCell _ _ _ _ (show k ≠ w.heap.size + 2 from hne.2.2.1), Below.heap_setCell _ _ _ _ (show k ≠ w.heap.size + 1 from hne.2.1)]
      exact g3 k hne.1 hne.2.2.2
    · rw [List.length_append]
      exact (k1.set _).kept (grownBy_setCell' _ _ _) (by simp)
    · exact ((k2.kept (grownBy_setCell' _ _ _) (by simp)).set _)
    · rw [List.length_append]
      exact ((Res.of_append h3.len h3.l32 hd5 hown1).grown (grownBy_setCell' _ (w.heap.size + 1) _) (fun g e he => by injection e with e; injection e with e; injection he with he; omega)).grown (grownBy_setCell' _ (w.heap.size + 2) _) (fun g e he => by injection e with e; injection e with e; injection he with he; omega)
    · show _ = _
      have e1 : val ((pre ++ [(x, y)]).map Prod.fst) = val (pre.map Prod.fst) + bp pre.length * x := by rw [List.map_append, List.map_cons, List.map_nil, val_snoc, List.length_map]
      have e2 : val ((pre ++ [(x, y)]).map Prod.snd) = val (pre.map Prod.snd) + bp pre.length * y := by rw [List.map_append, List.map_cons, List.map_nil, val_snoc, List.length_map]
      rw [e1, e2, List.length_append]
      exact diff_step h3.len h5.out HD7.out
    · exact ((h6.trans g2).setCell (p := ⟨w.heap.size + 1, 0, none⟩) (by simp) _).setCell (p := ⟨w.heap.size + 2, 0, none⟩) (by simp) _
  · intro D r W ⟨out, bo, h1, h2, h3, h4, h5, h6⟩ hD hK
    have hpl : (pairsL xs ys n).length = n := by simp [pairsL]
    rw [hpl] at h1 h3 h5
    have hv : Hid (val out + val ys = val xs) := by
      have hv := h5.out
      rw [pairsL_fst, pairsL_snd, val_range_nth (by rw [hb.len]; omega), val_range_nth (by rw [ha.len]; omega)] at hv
      have h7 := val_lt h3.l32
      rw [h3.len] at h7
      have h8 := HLE.out
      rcases Nat.eq_zero_or_pos bo with e | e
      · rw [e, Nat.mul_zero, Nat.add_zero] at hv; exact hv
      · have e1 : bo = 1 := by omega
        rw [e1, Nat.mul_one] at hv
        omega
    clear hpl h5
    have hc1 := h1.cell
    have hc2 := h2.cell
    have h3l := Lib.hid h3.len
    gi_wp2_with (refine ⟨trivial, rfl, ?_⟩; gi_at_call 45; refine (callsIn_wide.2 (trim_c _ h3.rd (by omega) (by omega))).mono ?_; rintro e w' ⟨rfl, rfl⟩)
    refine ⟨by simp, .inl ⟨_, _, rfl, run_takeDeferred hK, ?_⟩⟩
    refine ⟨_, results_tmp rfl _ _ _, _, _, _, trimmed out, rfl, ?_, trimmed_can h3.l32, ?_, h6.trans (below_of_only (only_putObj _ _ _) (by omega) h6.size)⟩
    · have ht := h3.take (tl_le out n)
      unfold trimmed
      rw [h3.len]
      exact ht.grown (only_putObj _ _ _) (fun g e he => by injection e with e; injection e with e; injection he with he; omega)
    · rw [trimmed_val]
      exact hv.out
end Go.Proofs.Ytdlphdbojkdfoaa
