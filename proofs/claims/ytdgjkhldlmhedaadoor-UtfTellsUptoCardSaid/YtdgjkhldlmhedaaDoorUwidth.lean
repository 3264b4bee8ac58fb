/-
  Contract of utf.width.
-/
import Derived.Test.YtdgjkhldlmhedaaDoorUrunes
set_option linter.unusedVariables false
set_option linter.unusedSimpArgs false
namespace Go.Proofs.YtdgjkhldlmhedaaDoor
open Go.RowKit Go.Lib
attribute [local go_sem] Oper.semAt_some

/-- How many octets the first k characters have. -/
def widthT (L : List UInt8) (k : Nat) : Nat := (flat ((pcs L).take k)).length
theorem ptsF_pos : ∀ (q : List (List UInt8 × Int)) (p : Nat) (pre : List (Nat × Int)) (x : Nat × Int) (rest : List (Nat × Int)), ptsF p q = pre ++ x :: rest → x.1 = p + (flat (q.take pre.length)).length
  | [], p, pre, x, rest, h => by simp [ptsF] at h
  | a :: q, p, [], x, rest, h => by
    simp only [ptsF, List.nil_append, List.cons.injEq] at h
    obtain ⟨rfl, _⟩ := h
    simp [flat]
  | a :: q, p, y :: pre, x, rest, h => by
    simp only [ptsF, List.cons_append, List.cons.injEq] at h
    obtain ⟨rfl, h⟩ := h
    have := ptsF_pos q _ pre x rest h
    rw [this, List.length_cons, List.take_succ_cons]
    simp [flat]
    omega
theorem pts_pos {L : List UInt8} {pre rest : List (Nat × Int)} {x : Nat × Int} (h : pts L = pre ++ x :: rest) : x.1 = widthT L pre.length := by
  have := ptsF_pos _ _ _ _ _ h
  rw [this, Nat.zero_add]; rfl
theorem widthT_all {L : List UInt8} {k : Nat} (h : (pcs L).length ≤ k) : widthT L k = L.length := by
  unfold widthT
  rw [List.take_of_length_le h]
  show (flat (pcs L)).length = _
  unfold flat
  rw [pcs_flat]

set_option maxRecDepth 100000 in
set_option maxHeartbeats 1000000 in
theorem width_c (s : ByteArray) (k : Nat) (w : World) (hT : Tabs w) (hs : s.size ≤ 140737488355328) (hk40 : k ≤ 140737488355328) :
    Calls Tryd.prog 34 #[.string s, .int .i64 (k : Int)] w fun e w' => e = .returned (.int .i64 (widthT s.data.toList k : Int)) ∧ Below w.heap.size w w' := by
  obtain ⟨L, hL⟩ : ∃ L, L = s.data.toList := ⟨_, rfl⟩
  have hsz : s.size = L.length := by rw [hL, Array.length_toList]; rfl
  have hw0 : Below w.heap.size w ((w.alloc (.cells #[.int .i64 (k : Int)] 3)).alloc (.cells #[.int .i64 0] 3)) := ((Below.refl _ w).alloc (Nat.le_refl _) _).alloc (by simp) _
  have b0 : Boxed ((w.alloc (.cells #[.int .i64 (k : Int)] 3)).alloc (.cells #[.int .i64 0] 3)) w.heap.size 3 (.int .i64 (k : Int)) := (Boxed.new w _ _).alloc _
  have b1 : Boxed ((w.alloc (.cells #[.int .i64 (k : Int)] 3)).alloc (.cells #[.int .i64 0] 3)) (w.heap.size + 1) 3 (.int .i64 0) := by
    have := Boxed.new (w.alloc (.cells #[.int .i64 (k : Int)] 3)) 3 (.int .i64 0)
    rwa [World.size_alloc] at this
  rw [← hL]
  have HW0 := Lib.hid hw0
  have HB0 := Lib.hid b0
  have HB1 := Lib.hid b1
  have HT := Lib.hid hT
  have HL := Lib.hid hL
  clear hw0 b0 b1 hT hL
  refine (callsIn_wide (n := 0)).1 ?_
  refine callsIn_of_wp_marks Tryd.func34 rfl trivial ?_ rfl
  simp only [Tryd.ntmps34, List.size_toArray, List.length_cons, List.length_nil, Nat.reduceAdd, Nat.reduceSub, Array.replicate_succ, Array.replicate_zero, List.push_toArray, List.append_toArray, List.nil_append, List.cons_append]
  gi_wp2_with fail
  have hsz1 : ((w.alloc (.cells #[.int .i64 (k : Int)] 3)).alloc (.cells #[.int .i64 0] 3)).heap.size = w.heap.size + 2 := by simp
  generalize hW1 : ((w.alloc (.cells #[.int .i64 (k : Int)] 3)).alloc (.cells #[.int .i64 0] 3)) = W1 at *
  clear hW1
  refine ⟨trivial, rfl, ?_⟩
  refine (callsIn_wide.2 (parts_c s W1)).mono ?_
  rintro e W2 ⟨rfl, hW2⟩
  have hb2 : Below W1.heap.size W1 W2 := by rw [hW2]; exact (Below.refl _ _).alloc (Nat.le_refl _) _
  have bs : Boxed W2 (w.heap.size + 2) 9 (.string s) := by rw [hW2, ← hsz1]; exact Boxed.new W1 _ _
  have hsz2 : W2.heap.size = w.heap.size + 3 := by rw [hW2]; simp [hsz1]
  have c0 : Boxed W2 w.heap.size 3 (.int .i64 (k : Int)) := by rw [hW2]; exact HB0.out.alloc _
  have c1 : Boxed W2 (w.heap.size + 1) 3 (.int .i64 0) := by rw [hW2]; exact HB1.out.alloc _
  have hw2 : Below w.heap.size w W2 := HW0.out.trans (hb2.mono (by omega))
  have hT2 : Tabs W2 := HT.out.below hw2
  have HLT0 := Lib.hid (show 0 < w.heap.size from HT.out.lt0)
  have HLT1 := Lib.hid (show 1 < w.heap.size from HT.out.lt1)
  clear hW2
  gi_wp2_with fail
  refine range_law_s (gf := 44) (lb := #[.pointer (some ⟨w.heap.size + 2, 0, none⟩)]) rfl (enters_of Tryd.func44 (by kernel_rfl) rfl) (encs := encP) (xs := pts L)
    (keep := fun j => j = w.heap.size + 2 ∨ j = 0 ∨ j = 1)
    (fun W hW => by
      rw [HL.out]
      exact parts1_iter s W ((hW.cell (p := ⟨w.heap.size + 2, 0, none⟩) (by show w.heap.size + 2 < W2.heap.size; omega)).trans bs.cell) (hT2.below hW) hs)
    (fun _ => rfl) (by
      intro k hk
      rcases hk with e | e | e
      · omega
      · have := hT2.lt0; omega
      · have := hT2.lt1; omega)
    (fun R pre W => pre.length ≤ k ∧ Boxed W w.heap.size 3 (.int .i64 ((k : Int) - (pre.length : Int))) ∧ Boxed W (w.heap.size + 1) 3 (.int .i64 0) ∧ Below w.heap.size w W)
    (fun c R pre W => c = .ret ∧ Boxed W (w.heap.size + 1) 3 (.int .i64 (widthT L k : Int)) ∧ Below w.heap.size w W)
    ?_ ?_ ?_ ?_ ?_ ?_
  · rintro R pre X Y row ⟨h1, h2, h3, h4⟩ hg hr
    refine ⟨h1, h2.kept hg (fun e => by have := (hr _ e.symm).1; omega), h3.kept hg (fun e => by have := (hr _ e.symm).1; omega), h4.grown hg h4.size (fun k e => by have := (hr k e).1; omega)⟩
  · rintro c R pre X Y row ⟨h0, h1, h4⟩ hg hr
    refine ⟨h0, h1.kept hg (fun e => by have := (hr _ e.symm).1; omega), h4.grown hg h4.size (fun k e => by have := (hr k e).1; omega)⟩
  · intro R W hRP hW hr
    exact ⟨Nat.zero_le _, by
      rw [show ((k : Int) - ((([] : List (Nat × Int)).length : Nat) : Int)) = (k : Int) by simp]
      exact (hW.block _ (by omega)).trans c0, (hW.block _ (by omega)).trans c1, hw2.trans (hW.mono (by omega))⟩
  · rintro l R pre ⟨p, ch⟩ rest hx W K hK
    have hpos := pts_pos hx
    dsimp only at hpos
    dsimp only [encP]
    have HK := Lib.hid hK
    have HP := Lib.hid hpos
    clear hK hx hpos
    gi_wp2
    refine HK.out _ ?_
    rintro W3 ⟨h1, h2, h3, h4⟩ hz3 hr3
    obtain ⟨m, hm⟩ : ∃ m, m = pre.length := ⟨_, rfl⟩
    have HM := Lib.hid hm
    rw [← hm] at h1 h2
    clear hm
    have hc2 := h2.cell
    have hf2 := h2.frozen
    have hc3 := h3.cell
    have hf3 := h3.frozen
    by_cases hch : m = k
    · have hz : (((k : Int) - (m : Int)) == 0) = true := by rw [beq_iff_eq]; omega
      have e2 : p = widthT L k := by rw [HP.out, ← HM.out, hch]
      subst e2
      gi_wp2
      exact ⟨KeepsOthers.setCell _ _ _, rfl, h3.set _, h4.setCell (p := ⟨w.heap.size + 1, 0, none⟩) (by simp) _⟩
    · have hz : (((k : Int) - (m : Int)) == 0) = false := by rw [beq_eq_false_iff_ne]; omega
      have hlt : m < k := by omega
      gi_wp2
      refine ⟨KeepsOthers.setCell _ _ _, ⟨by simp, fun j hj => Below.heap_setCell _ _ _ _ ?_⟩, by rw [List.length_append, ← HM.out]; exact hlt, ?_, boxed_ne h3 (by omega) _, h4.setCell (p := ⟨w.heap.size, 0, none⟩) (Nat.le_refl _) _⟩
      · show j ≠ w.heap.size
        rcases hj with (e | e | e) | e
        · omega
        · have := HLT0.out; omega
        · have := HLT1.out; omega
        · have := hr3 j e; omega
      · have e1 : ((k : Int) - (((pre ++ [(p, ch)]).length : Nat) : Int)) = (k : Int) - (m : Int) - 1 := by rw [List.length_append, ← HM.out, List.length_singleton]; omega
        rw [e1]
        exact h2.set _
  · rintro D R W ⟨h1, h2, h3, h4⟩ hD hK
    rw [pts_length] at h1
    have hbl : widthT L k = L.length := widthT_all h1
    clear h1
    have hc3 := h3.cell
    have hf3 := h3.frozen
    gi_wp2
    rw [hbl]
    have r2 := h3.set (.int .i64 (L.length : Int))
    have hK' : (W.setCell ⟨w.heap.size + 1, 0, none⟩ (.int .i64 (L.length : Int))).heap[D]? = some (.deferred (some [])) := (KeepsOthers.setCell _ _ _).same D _ hK rfl
    have hB' := h4.setCell (p := ⟨w.heap.size + 1, 0, none⟩) (by simp) (.int .i64 (L.length : Int))
    generalize (W.setCell ⟨w.heap.size + 1, 0, none⟩ (.int .i64 (L.length : Int))) = W3 at *
    have k2 : Boxed (W3.putObj D (.deferred none)) (w.heap.size + 1) 3 (.int .i64 (L.length : Int)) := r2.kept (only_putS _ _ _) (fun e => by injection e; omega)
    refine ⟨by simp, .inl ⟨_, _, rfl, run_takeDeferred hK', ?_⟩⟩
    refine ⟨_, by simp [results, Tryd.results34, go_sem, k2.cell], rfl, ?_⟩
    exact hB'.grown (only_putS _ _ _) hB'.size (fun k e => by injection e; omega)
  · rintro D c R pre W ⟨rfl, h3, h4⟩ hD hK
    gi_wp2
    have k2 : Boxed (W.putObj D (.deferred none)) (w.heap.size + 1) 3 (.int .i64 (widthT L k : Int)) := h3.kept (only_putS _ _ _) (fun e => by injection e; omega)
    refine ⟨by simp, .inl ⟨_, _, rfl, run_takeDeferred hK, ?_⟩⟩
    refine ⟨_, by simp [results, Tryd.results34, go_sem, k2.cell], rfl, ?_⟩
    exact h4.grown (only_putS _ _ _) h4.size (fun k e => by injection e; omega)
end Go.Proofs.YtdgjkhldlmhedaaDoor
