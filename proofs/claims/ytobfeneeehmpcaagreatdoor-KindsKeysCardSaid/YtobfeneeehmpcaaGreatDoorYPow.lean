/-
  Contracts of nat.groupSizes and nat.Pow: ten to the n for n from 0 to 2400; else the error for a range.
-/
import Derived.Test.YtobfeneeehmpcaaGreatDoorYNiter
set_option linter.unusedVariables false
set_option linter.unusedSimpArgs false
namespace Go.Proofs.YtobfeneeehmpcaaGreatDoor
open Go.RowKit
attribute [local go_sem] Oper.semAt_some

theorem groupSizes_c (z : Int) (w : World) :
    Calls Tryz.prog 103 #[.int .i64 z] w fun e w' => e = .returned (.func (.func 132) #[] #[.pointer (some ⟨w.heap.size, 0, none⟩)]) ∧ w.alloc (.cells #[.int .i64 z] 3) = w' := by
  have hmf : ∀ (fn : Fn) (first cap : Array Value) (w : World), (Instr.makeFunc fn first cap).run Tryz.prog w = .ok (.func fn first cap) w := fun _ _ _ _ => rfl
  go_enter Tryz.func103, Tryz.ntmps103
  go_wp2
  go_ret
  exact ⟨rfl, rfl⟩

theorem sizesL_sum (n : Nat) : (sizesL n).sum = n := by
  have h : ∀ k, (sizesK n k).sum = min (9 * k) n := by
    intro k
    induction k with
    | zero => simp [sizesK]
    | succ k ih => rw [sizesK_succ, List.sum_append, ih]; simp; omega
  unfold sizesL
  rw [h]; omega
theorem sizesL_le {n x : Nat} {pre rest : List Nat} (h : sizesL n = pre ++ x :: rest) : x ≤ 9 ∧ pre.length < (n + 8) / 9 := by
  have hm : x ∈ sizesL n := by rw [h]; simp
  obtain ⟨i, _, hi⟩ := List.mem_map.1 hm
  have hl := congrArg List.length h
  simp [sizesL, sizesK] at hl
  omega

theorem smallPower_p (n p : Nat) (w : World) (hn : n ≤ 9) (hp : p = 10 ^ n) :
    Calls Tryz.prog 105 #[.int .i64 n] w fun e w' => e = .returned (.int .u32 (p : Int)) ∧ w = w' := by
  subst hp
  exact smallPower_c n w hn
theorem Can.len_le {zs : List Nat} {k : Nat} (h : Can zs) (hv : val zs < bp k) : zs.length ≤ k := by
  by_cases hne : zs = []
  · rw [hne]; simp
  · have h1 := h.ge hne
    rcases Nat.lt_or_ge k zs.length with h2 | h2
    · have := bp_mono (show k ≤ zs.length - 1 by omega); omega
    · exact h2
theorem pow_lt_of {n k m b : Nat} (h : n ≤ k * m) (hb : 10 ^ k < b) (hm : m ≠ 0) : 10 ^ n < b ^ m := by
  have h1 : 10 ^ n ≤ 10 ^ (k * m) := Nat.pow_le_pow_right (by omega) h
  rw [Nat.pow_mul] at h1
  exact Nat.lt_of_le_of_lt h1 (Nat.pow_lt_pow_left hb hm)
theorem bp_mul (j k : Nat) : bp (j * k) = bp j ^ k := by unfold bp; rw [Nat.pow_mul]
theorem pow10_lt {n : Nat} (h : n ≤ 2400) : 10 ^ n < bp 250 := by
  have h5 : 10 ^ 48 < bp 5 := by unfold bp; decide
  have h1 := pow_lt_of (n := n) (k := 48) (m := 50) (by omega) h5 (by omega)
  rw [← bp_mul] at h1
  exact h1
theorem sum_le_of_split {n x : Nat} {pre rest : List Nat} (h : sizesL n = pre ++ x :: rest) : pre.sum + x ≤ n := by
  have := congrArg List.sum h
  rw [sizesL_sum, List.sum_append, List.sum_cons] at this
  omega

set_option maxRecDepth 100000 in
theorem Pow_ok (n : Nat) (w : World) (hn : n ≤ 2400) :
    Calls Tryz.prog 72 #[.int .i64 (n : Int)] w fun e w' => ∃ A n' c zs, e = .returned (.tuple #[.slice A n' c, .int .i64 0]) ∧ Res w' w.heap.size A n' c zs ∧ Can zs ∧ val zs = 10 ^ n ∧ Below w.heap.size w w' := by
  refine (callsIn_wide (n := 0)).1 ?_
  refine callsIn_of_wp_marks Tryz.func72 rfl trivial ?_ rfl
  simp only [Tryz.ntmps72, List.size_toArray, List.length_cons, List.length_nil, Nat.reduceAdd, Nat.reduceSub, Array.replicate_succ, Array.replicate_zero, List.push_toArray, List.append_toArray, List.nil_append, List.cons_append]
  gi_wp2_with (first
    | (refine ⟨trivial, rfl, ?_⟩; gi_at_call 53; refine (callsIn_wide.2 (From_c 1 _ (by omega))).mono ?_; rintro e w1 ⟨A0, n0, c0, zs0, rfl, hres0, hcan0, hval0, hbel0⟩; have HV0 := Lib.hid hval0; clear hval0)
    | (refine ⟨trivial, rfl, ?_⟩; gi_at_call 103; refine (callsIn_wide.2 (groupSizes_c _ _)).mono ?_; rintro e w' ⟨rfl, rfl⟩))
  obtain ⟨W0, hW0⟩ : ∃ W0, (w1.alloc (.cells #[.slice A0 n0 c0] 22)).alloc (.cells #[.int .i64 (n : Int)] 3) = W0 := ⟨_, rfl⟩
  rw [hW0]
  have hz : W0.heap.size = w1.heap.size + 2 := by rw [← hW0]; simp
  have hb01 : Below w1.heap.size w1 W0 := by rw [← hW0]; exact ((Below.refl _ _).alloc (Nat.le_refl _) _).alloc (by simp) _
  have bO : Boxed W0 w1.heap.size 22 (.slice A0 n0 c0) := by
    rw [← hW0]
    exact (Boxed.new w1 22 (.slice A0 n0 c0)).alloc _
  have bN : Boxed W0 (w1.heap.size + 1) 3 (.int .i64 (n : Int)) := by
    rw [← hW0]
    have h := Boxed.new (w1.alloc (.cells #[.slice A0 n0 c0] 22)) 3 (.int .i64 (n : Int))
    rwa [World.size_alloc] at h
  have hR0 : Res W0 w.heap.size A0 n0 c0 zs0 := hres0.below hb01 (Nat.le_refl _)
  have hA0 : ∀ g, A0 = some ⟨g, 0, none⟩ → g < w1.heap.size := fun g e => by
    rcases hres0.form with ⟨h, _⟩ | ⟨g', h, _, hlt⟩
    · rw [h] at e; cases e
    · rw [h] at e; injection e with e; injection e with e; omega
  have hs1 := hbel0.size
  clear hW0
  refine range_law (gf := 132) (lb := #[.pointer (some ⟨w1.heap.size + 1, 0, none⟩)]) rfl (enters_of Tryz.func132 (by kernel_rfl) rfl) (encs := enc1) (xs := sizesL n) (keep := fun _ => False)
    (fun W hW => groupSizes1_iter W ((hW.cell (p := ⟨w1.heap.size + 1, 0, none⟩) (by show w1.heap.size + 1 < W0.heap.size; omega)).trans bN.cell) (by omega))
    (fun _ => rfl) (fun k hk => hk.elim)
    (fun r pre W => ∃ (A : Option Addr) (n' c : Nat) (zs : List Nat), Boxed W w1.heap.size 22 (.slice A n' c) ∧ Res W w.heap.size A n' c zs ∧ Can zs ∧ Hid (val zs = 10 ^ pre.sum) ∧ Below w.heap.size w W ∧ (∀ g, A = some ⟨g, 0, none⟩ → g ≠ w1.heap.size ∧ ∀ k, r = some k → g ≠ k))
    ?_ ?_ ?_ ?_
  · rintro r pre X Y row ⟨A, n', c, zs, h1, h2, h3, h4, h5, h6⟩ hg hr
    refine ⟨A, n', c, zs, h1.kept hg (fun e => by have := (hr _ e.symm).1; omega), h2.keep (fun g e => ?_), h3, h4, h5.grown hg h5.size (fun k e => by have := (hr k e).1; omega), h6⟩
    rcases h2.form with ⟨h, _⟩ | ⟨g', h, _, hlt⟩
    · rw [h] at e; cases e
    · obtain rfl : g' = g := by rw [h] at e; injection e with e; injection e
      refine hg.block g' hlt (fun e' => ?_)
      rcases (hr g' e'.symm).2 with h7 | ⟨o, ho, hc⟩
      · exact (h6 g' e).2 g' h7 rfl
      · rcases h2.own.2 with ⟨e2, _⟩ | ⟨g2, cap, cur, e2, _, hh, _⟩
        · injection e2 with e2; rw [e2] at e; cases e
        · injection e2 with e2
          rw [e] at e2
          injection e2 with e2
          injection e2 with e2
          subst e2
          rw [hh] at ho
          injection ho with ho
          subst ho
          cases hc
  · intro r W hW hr
    exact ⟨A0, n0, c0, zs0, (hW.block _ (by omega)).trans bO, hR0.below hW (Nat.le_refl _), hcan0, by show _ = _; rw [HV0.out]; rfl, (hbel0.trans (hb01.mono hs1)).trans (hW.mono (by omega)), fun g e => ⟨by have := hA0 g e; omega, fun k hk => by have := hA0 g e; have := hr k hk; omega⟩⟩
  · rintro l r pre x rest hx W K hK
    obtain ⟨hx9, _⟩ := sizesL_le hx
    have hsum := sum_le_of_split hx
    dsimp only [enc1]
    have HK := Lib.hid hK
    clear hK
    gi_wp2
    refine HK.out _ ?_
    rintro W2 ⟨A, n', c, zs, h1, h2, h3, h4, h5, h6⟩ hz2 hr2
    have hc1 := h1.cell
    have hf1 := h1.frozen
    obtain ⟨p, hp⟩ : ∃ p, p = 10 ^ x := ⟨_, rfl⟩
    have hp1 : 1 ≤ p := by rw [hp]; exact Nat.pow_pos (by omega)
    have hp2 : p < 4294967296 := by
      have : 10 ^ x ≤ 10 ^ 9 := Nat.pow_le_pow_right (by omega) hx9
      rw [hp]; omega
    have hn' : n' ≤ 250 := by
      rw [← h2.len]
      refine h3.len_le ?_
      rw [h4.out]
      exact pow10_lt (by omega)
    have HP := Lib.hid hp
    clear hp hx
    have h2d : Res W2.drew w.heap.size A n' c zs := h2.keep (fun _ _ => rfl)
    have hs5 := h5.size
    have kbf : ∀ X, W2.drew.grownBy X (Value.slice A n' c).ownBlock → Boxed X w1.heap.size 22 (.slice A n' c) := fun X hg => by
      refine Boxed.kept (W := W2.drew) h1 hg (fun e => ?_)
      rcases h2.form with ⟨h, _⟩ | ⟨g', h, _, hlt⟩
      · rw [h] at e; simp [Value.ownBlock] at e
      · rw [h] at e; simp [Value.ownBlock] at e; exact (h6 g' h).1 e.symm
    have kof : ∀ X, W2.drew.grownBy X (Value.slice A n' c).ownBlock → KeepsOthers W2 X ∧ Below w.heap.size W2 X ∧ ∀ k, r = some k → X.heap[k]? = W2.heap[k]? := fun X hg => by
      have hne : ∀ g, (Value.slice A n' c).ownBlock = some g → A = some ⟨g, 0, none⟩ := fun g e => by
        rcases h2.form with ⟨h, _⟩ | ⟨g', h, _, hlt⟩
        · rw [h] at e; simp [Value.ownBlock] at e
        · rw [h] at e ⊢; simp [Value.ownBlock] at e; rw [e]
      refine ⟨(KeepsOthers.drew W2).trans (KeepsOthers.of_grownBy hg fun j o e ho => ?_), (Below.refl _ W2).drew.grown hg hs5 (fun k e => ?_), fun k hk => (hg.block k (hr2 k hk).2 (fun e => ?_)).trans rfl⟩
      · have e2 := hne j e
        rcases h2.own.2 with ⟨e3, _⟩ | ⟨g2, cap, cur, e3, _, hh, _⟩
        · injection e3 with e3; rw [e3] at e2; cases e2
        · injection e3 with e3
          rw [e2] at e3
          injection e3 with e3
          injection e3 with e3
          subst e3
          have ho2 : W2.heap[j]? = some o := ho
          rw [hh] at ho2
          injection ho2 with ho2
          subst ho2
          rfl
      · have e2 := hne k e
        rcases h2.form with ⟨h, _⟩ | ⟨g', h, hb, hlt⟩
        · rw [h] at e2; cases e2
        · rw [h] at e2; injection e2 with e2; injection e2 with e2; omega
      · exact (h6 k (hne k e.symm)).2 k hk rfl
    have hmx : Tryz.prog.follows .mixedOrders = true := by kernel_rfl
    gi_wp2
    gi_region_with_o (first
      | (refine ⟨trivial, rfl, ?_⟩; gi_at_call 105; refine (CallsIn.inRound l (callsIn_wide.2 (smallPower_p x p _ hx9 HP.out))).mono ?_; rintro e w' ⟨rfl, rfl⟩)
      | (refine ⟨trivial, rfl, ?_⟩; gi_at_call 104; refine (CallsIn.inRound l (callsIn_wide.2 (scale_c p 0 _ h2d h3 hp2 hp1 (by omega) (by omega) hs5))).mono ?_; rintro e w2 ⟨A2, n2, c2, zs2, rfl, hr3, hc3, hv3, hn3, hg3, hat3⟩; have kb := kbf _ hg3; have hc5 := kb.cell; have hf5 := kb.frozen))
    all_goals
      gi_wp2
      obtain ⟨g1, g2, g3⟩ := kof _ hg3
      refine ⟨g1.trans (KeepsOthers.setCell _ _ _), ⟨by simp [World.setCell]; exact g1.size, fun k hk => ?_⟩, A2, n2, c2, zs2, kb.set _, ?_, hc3, ?_, (g2.setCell (p := ⟨w1.heap.size, 0, none⟩) (by simpa using hs1) _ |> h5.trans), ?_⟩
      · rcases hk with h | h
        · exact h.elim
        · have := hr2 k h
          rw [Below.heap_setCell _ _ _ _ (show k ≠ w1.heap.size by omega)]
          exact g3 k h
      · refine hr3.grown (grownBy_setCell' _ _ _) (fun g e he => ?_)
        injection he with he
        rcases hat3 with h | ⟨g', h, hle⟩
        · rw [h] at e; exact (h6 g e).1 he
        · rw [h] at e; injection e with e; injection e with e; have := h1.lt; simp at hle; omega
      · show _ = _
        rw [hv3, h4.out, HP.out, List.sum_append, ← Nat.pow_add]; simp
      · intro g e
        rcases hat3 with h | ⟨g', h, hle⟩
        · rw [h] at e; exact h6 g e
        · rw [h] at e; injection e with e; injection e with e
          have := h1.lt
          simp at hle
          exact ⟨by omega, fun k hk => by have := hr2 k hk; omega⟩
  · intro D r W ⟨A, n', c, zs, h1, h2, h3, h4, h5, h6⟩ hD hK
    have hc1 := h1.cell
    gi_wp2
    refine ⟨by simp, .inl ⟨_, _, rfl, run_takeDeferred hK, ?_⟩⟩
    have hv := h4.out
    rw [sizesL_sum] at hv
    refine ⟨_, results_tmp2 rfl _ _ _, A, n', c, zs, rfl, ⟨h2.len, h2.l32, ownsRow_putObj h2.own _ hK rfl⟩, h3, hv, h5.trans (below_of_only (only_putObj _ _ _) (by omega) h5.size)⟩
end Go.Proofs.YtobfeneeehmpcaaGreatDoor
