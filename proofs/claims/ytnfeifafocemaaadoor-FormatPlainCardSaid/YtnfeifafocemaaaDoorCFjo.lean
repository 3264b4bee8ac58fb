/-
  Contract of joined, over whatever hands out texts: all of them, one behind the other, or that they are too long.
-/
import Derived.Test.YtnfeifafocemaaaDoorCFst
set_option linter.unusedVariables false
set_option linter.unusedSimpArgs false
namespace Go.Proofs.YtnfeifafocemaaaDoor
open Go.RowKit Go.Lib
attribute [local go_sem] Oper.semAt_some

/-- A text as it is handed out. -/
def encT (t : List UInt8) : Array Value := #[.string (mk8 t)]
theorem flatF_snoc (pre : List (List UInt8)) (x : List UInt8) : (pre ++ [x]).flatten = pre.flatten ++ x := by simp
theorem kept_two {keep R : Nat → Prop} {w : World} {b i c j : Nat} {u v : Value} (hk : ∀ k, keep k → k ≠ b ∧ k ≠ c) (hR : ∀ k, ¬ R k) : KeptS keep R w ((w.setCell ⟨b, i, none⟩ u).setCell ⟨c, j, none⟩ v) :=
  ⟨by simp [World.setCell], fun k hx => by
    rcases hx with hx | hx
    · obtain ⟨h1, h2⟩ := hk k hx
      exact (Below.heap_setCell _ _ _ _ h2).trans (Below.heap_setCell _ _ _ _ h1)
    · exact (hR k hx).elim⟩
set_option maxRecDepth 100000 in
set_option maxHeartbeats 2000000 in
theorem joined_c {gf : Nat} {lb : Array Value} {keep : Nat → Prop} {ts : List (List UInt8)} (w : World) (eg : ∀ args w, (callFunc gf args).run Tryd.prog w = .ok (.enter gf args) w)
    (hit : ∀ W, Below w.heap.size w W → IterK Tryd.prog gf lb encT keep (fun R => ∀ k, ¬ R k) ts W) (hkeep : ∀ k, keep k → k < w.heap.size) (hts : ∀ t ∈ ts, t.length ≤ 140737488000000) :
    Calls Tryd.prog 18 #[.func (.func gf) #[] lb] w fun e w' => e = .returned (.tuple #[.string (tellF ts.flatten).1, .int .i64 (tellF ts.flatten).2]) ∧ Below w.heap.size w w' := by
  obtain ⟨b0, hb0⟩ : ∃ b, w.heap.size = b := ⟨_, rfl⟩
  obtain ⟨wa, hwa⟩ : ∃ x, w.alloc (.cells #[.string ⟨#[]⟩] 9) = x := ⟨_, rfl⟩
  obtain ⟨wb, hwb⟩ : ∃ x, wa.alloc (.cells #[.int .i64 0] 23) = x := ⟨_, rfl⟩
  obtain ⟨W1, hW1⟩ : ∃ x, wb.alloc (.cells #[.pointer none, .slice none 0 0] 61) = x := ⟨_, rfl⟩
  have ha1 : Below b0 w wa := by rw [← hwa]; exact (Below.refl _ w).alloc (by omega) _
  have ha2 : wa.heap.size = b0 + 1 := by rw [← hwa, World.size_alloc, hb0]
  have ha3 : Below (b0 + 1) wa wb := by rw [← hwb]; exact (Below.refl _ wa).alloc (by omega) _
  have ha4 : wb.heap.size = b0 + 2 := by rw [← hwb, World.size_alloc, ha2]
  have ha5 : Below (b0 + 2) wb W1 := by rw [← hW1]; exact (Below.refl _ wb).alloc (by omega) _
  have hsz1 : W1.heap.size = b0 + 3 := by rw [← hW1, World.size_alloc, ha4]
  have hbel : Below b0 w W1 := (ha1.trans (ha3.mono (by omega))).trans (ha5.mono (by omega))
  have d0 : Boxed wa b0 9 (.string ⟨#[]⟩) := by rw [← hwa, ← hb0]; exact Boxed.new w _ _
  have d1 : Boxed wb (b0 + 1) 23 (.int .i64 0) := by rw [← hwb, ← ha2]; exact Boxed.new wa _ _
  have c0 : Boxed W1 b0 9 (.string ⟨#[]⟩) := (ha5.block _ (by omega)).trans ((ha3.block _ (by omega)).trans d0)
  have c1 : Boxed W1 (b0 + 1) 23 (.int .i64 0) := (ha5.block _ (by omega)).trans d1
  have hbl : ShRF (b0 + 2) (b0 + 2) [] W1 := by rw [← hW1, ← ha4]; exact ShRF.new wb (Nat.le_refl _)
  have hw1 : ((w.alloc (.cells #[.string ⟨#[]⟩] 9)).alloc (.cells #[.int .i64 0] 23)).alloc (.cells #[.pointer none, .slice none 0 0] 61) = W1 := by rw [hwa, hwb, hW1]
  have hs2 : ((w.alloc (.cells #[.string ⟨#[]⟩] 9)).alloc (.cells #[.int .i64 0] 23)).heap.size = b0 + 2 := by rw [hwa, hwb, ha4]
  rw [hb0] at hkeep hit ⊢
  clear hwa hwb hW1 ha1 ha2 ha3 ha4 ha5 d0 d1
  have HIT := Lib.hid hit
  have HTS := Lib.hid hts
  have HW1 := Lib.hid hw1
  have HS2 := Lib.hid hs2
  have HBL := Lib.hid hbel
  have HBF := Lib.hid hbl
  have HKE := Lib.hid hkeep
  clear hit hts hw1 hs2 hbel hbl hkeep
  refine (callsIn_wide (n := 0)).1 ?_
  refine callsIn_of_wp_marks Tryd.func18 rfl trivial ?_ rfl
  simp only [Tryd.ntmps18, List.size_toArray, List.length_cons, List.length_nil, Nat.reduceAdd, Nat.reduceSub, Array.replicate_succ, Array.replicate_zero, List.push_toArray, List.append_toArray, List.nil_append, List.cons_append]
  gi_wp2_with fail
  rw [HW1.out]
  refine range_law_k (gf := gf) (lb := lb) rfl eg (encs := encT) (xs := ts) (keep := keep) (fun W hW => HIT.out W (HBL.out.trans (hW.mono (by omega)))) (fun _ => rfl) (fun k hk => by have := HKE.out k hk; omega)
    (fun R pre W => (∀ k, ¬ R k) ∧ pre.flatten.length ≤ 16384 ∧ Boxed W b0 9 (.string ⟨#[]⟩) ∧ Boxed W (b0 + 1) 23 (.int .i64 0) ∧ ShRF (b0 + 2) (b0 + 2) pre.flatten W ∧ Below b0 w W)
    (fun c R pre W => c = .ret ∧ 16384 < ts.flatten.length ∧ Boxed W b0 9 (.string ⟨#[]⟩) ∧ Boxed W (b0 + 1) 23 (.int .i64 5) ∧ Below b0 w W)
    ?_ ?_ ?_ ?_ ?_ ?_
  · rintro R pre X Y row ⟨h1, h2, h3, h4, h5, h6⟩ hg hr
    refine ⟨h1, h2, h3.kept hg (fun e => by have := (hr _ e.symm).1; omega), h4.kept hg (fun e => by have := (hr _ e.symm).1; omega), h5.grown hg (fun k e => (hr k e).2), h6.grown hg (by have := h6.size; omega) (fun k e => by have := (hr k e).1; omega)⟩
  · rintro c R pre X Y row ⟨h0, h1, h2, h3, h4⟩ hg hr
    refine ⟨h0, h1, h2.kept hg (fun e => by have := (hr _ e.symm).1; omega), h3.kept hg (fun e => by have := (hr _ e.symm).1; omega), h4.grown hg (by have := h4.size; omega) (fun k e => by have := (hr k e).1; omega)⟩
  · intro R W hRP hW hr
    exact ⟨hRP, by simp, (hW.block _ (by omega)).trans c0, (hW.block _ (by omega)).trans c1, HBF.out.below hW, HBL.out.trans (hW.mono (by omega))⟩
  · rintro l R pre t rest hx W K hK
    dsimp only [encT]
    have HK := Lib.hid hK
    have HX := Lib.hid hx
    have htl : t.length ≤ 140737488000000 := HTS.out t (by rw [hx]; simp)
    have hms : (mk8 t).size = t.length := mk8_size t
    clear hK hx
    gi_wp2
    refine HK.out _ ?_
    rintro W3 ⟨h1, h2, h3, h4, h5, h6⟩ hz3 hr3
    have hlen := bldLenF_c W3 h5
    have hwrap : IntKind.i64.wrap (16384 - (pre.flatten.length : Int)) = 16384 - (pre.flatten.length : Int) := IntWalk.i64_in _ (by omega)
    obtain ⟨n0, hn0⟩ : ∃ n, pre.flatten.length = n := ⟨_, rfl⟩
    obtain ⟨s, hs⟩ : ∃ s, mk8 t = s := ⟨_, rfl⟩
    rw [hs] at hms ⊢
    rw [hn0] at hlen hwrap
    have HL := Lib.hid hlen
    have HN0 := Lib.hid hn0
    have H5 := Lib.hid h5
    have HS := Lib.hid hs
    have H6 := Lib.hid h6
    have hc3 := h3.cell
    have hf3 := h3.frozen
    have hc4 := h4.cell
    have hf4 := h4.frozen
    have hB3 : b0 + 2 ≤ W3.heap.size := by omega
    clear hlen hn0 h5 hs h6
    by_cases hbig : 16384 < n0 + t.length
    · have hd : decide (16384 - (n0 : Int) < (s.size : Int)) = true := decide_eq_true (by omega)
      gi_wp2_with (refine ⟨trivial, rfl, ?_⟩; gi_at_call 33; refine (CallsIn.inRound l (callsIn_wide.2 HL.out)).mono ?_; rintro e w' ⟨rfl, rfl⟩)
      refine ⟨(KeepsOthers.setCell _ _ _).trans (KeepsOthers.setCell _ _ _), kept_two (fun k hk => by have := HKE.out k hk; omega) h1, rfl, ?_, boxed_ne (h3.set _) (by omega) _, (boxed_ne h4 (by omega) _).set _, (H6.out.setCell (p := ⟨b0, 0, none⟩) (Nat.le_refl _) _).setCell (p := ⟨b0 + 1, 0, none⟩) (by simp) _⟩
      rw [HX.out]
      simp only [List.flatten_append, List.flatten_cons, List.length_append]
      have := HN0.out
      omega
    · have hd : decide (16384 - (n0 : Int) < (s.size : Int)) = false := decide_eq_false (by omega)
      have hwr := writeStrTF_c W3 H5.out s (by have := HN0.out; omega) hB3
      have HWR := Lib.hid hwr
      clear hwr
      gi_wp2_with (first
        | (refine ⟨trivial, rfl, ?_⟩; gi_at_call 33; refine (CallsIn.inRound l (callsIn_wide.2 HL.out)).mono ?_; rintro e w' ⟨rfl, rfl⟩)
        | (refine ⟨trivial, rfl, ?_⟩; gi_at_call 34; refine (CallsIn.inRound l (callsIn_wide.2 HWR.out)).mono ?_; rintro e W4 ⟨rfl, h7, h8⟩))
      have hlt : ∀ k, k < b0 + 2 → W4.heap[k]? = w'.heap[k]? := fun k hk => h8.block k (by omega) (by omega) (.inl hk)
      refine ⟨h8.others H5.out, h8.kept (fun k hk => by have := HKE.out k hk; omega) h1, h1, ?_, (hlt _ (by omega)).trans h3, (hlt _ (by omega)).trans h4, ?_, H6.out.trans ((h8.below hB3 (fun k hk => by omega)).mono (by omega))⟩
      · rw [flatF_snoc, List.length_append]; have := HN0.out; omega
      · rw [flatF_snoc]
        have e : s.data.toList = t := by rw [← HS.out]; exact mk8_L t
        rw [e] at h7
        exact h7
  · rintro D R W ⟨h1, h2, h3, h4, h5, h6⟩ hD hK
    have hst := stringTF_c W h5
    have HS := Lib.hid hst
    have H2 := Lib.hid h2
    have hK0 := Lib.hid hK
    have H5 := Lib.hid h5
    have H3 := Lib.hid h3
    have H4 := Lib.hid h4
    clear hst hK h5 h3 h4 h2
    have hWs : b0 + 2 < W.heap.size := H5.out.lt
    gi_wp2_with (refine ⟨trivial, rfl, ?_⟩; gi_at_call 35; refine (callsIn_wide.2 HS.out).mono ?_; rintro e W2 ⟨rfl, h8⟩; have hlt : ∀ k, k < b0 + 2 → W2.heap[k]? = W.heap[k]? := (fun k hk => h8.block k (by omega) (fun h => h) (.inl hk)); have k0 : Boxed W2 b0 9 (.string ⟨#[]⟩) := ((hlt _ (by omega)).trans H3.out); have k1 : Boxed W2 (b0 + 1) 23 (.int .i64 0) := ((hlt _ (by omega)).trans H4.out); have k0c := k0.cell; have k0f := k0.frozen; have k1c := k1.cell; have k1f := k1.frozen)
    rw [tellF_ok H2.out]
    have r1 := boxed_ne (i := 0) (k0.set (.string ⟨ts.flatten.toArray⟩)) (show b0 ≠ b0 + 1 by omega) (.int .i64 0)
    have r2 := (boxed_ne (i := 0) k1 (show b0 + 1 ≠ b0 by omega) (.string ⟨ts.flatten.toArray⟩)).set (.int .i64 0)
    have hKd : W2.heap[D]? = some (.deferred (some [])) := (h8.block D (Array.getElem?_eq_some_iff.1 hK0.out).1 (fun h => h) (.inr fun vs fr e => by rw [hK0.out] at e; cases e)).trans hK0.out
    have hK' : ((W2.setCell ⟨b0, 0, none⟩ (.string ⟨ts.flatten.toArray⟩)).setCell ⟨b0 + 1, 0, none⟩ (.int .i64 0)).heap[D]? = some (.deferred (some [])) := ((KeepsOthers.setCell _ _ _).trans (KeepsOthers.setCell _ _ _)).same D _ hKd rfl
    have hB' := ((h6.trans ((h8.below (by omega) (fun k _ h => h)).mono (show b0 ≤ b0 + 2 by omega))).setCell (p := ⟨b0, 0, none⟩) (Nat.le_refl _) (.string ⟨ts.flatten.toArray⟩)).setCell (p := ⟨b0 + 1, 0, none⟩) (by simp) (.int .i64 0)
    generalize ((W2.setCell ⟨b0, 0, none⟩ (.string ⟨ts.flatten.toArray⟩)).setCell ⟨b0 + 1, 0, none⟩ (.int .i64 0)) = W3 at *
    have k2 : Boxed (W3.putObj D (.deferred none)) b0 9 (.string ⟨ts.flatten.toArray⟩) := r1.kept (only_putS _ _ _) (fun e => by injection e; omega)
    have k3 : Boxed (W3.putObj D (.deferred none)) (b0 + 1) 23 (.int .i64 0) := r2.kept (only_putS _ _ _) (fun e => by injection e; omega)
    refine ⟨by simp, .inl ⟨_, _, rfl, run_takeDeferred hK', ?_⟩⟩
    refine ⟨_, by simp [results, Tryd.results18, go_sem, k2.cell, k3.cell], rfl, ?_⟩
    exact hB'.grown (only_putS _ _ _) (by have := hB'.size; omega) (fun k e => by injection e; omega)
  · rintro D c R pre W ⟨rfl, h1, h2, h3, h4⟩ hD hK
    gi_wp2
    rw [tellF_no h1]
    have hK' := hK
    have k2 : Boxed (W.putObj D (.deferred none)) b0 9 (.string ⟨#[]⟩) := h2.kept (only_putS _ _ _) (fun e => by injection e; omega)
    have k3 : Boxed (W.putObj D (.deferred none)) (b0 + 1) 23 (.int .i64 5) := h3.kept (only_putS _ _ _) (fun e => by injection e; omega)
    refine ⟨by simp, .inl ⟨_, _, rfl, run_takeDeferred hK', ?_⟩⟩
    refine ⟨_, by simp [results, Tryd.results18, go_sem, k2.cell, k3.cell], rfl, ?_⟩
    exact h4.grown (only_putS _ _ _) (by have := h4.size; omega) (fun k e => by injection e; omega)
end Go.Proofs.YtnfeifafocemaaaDoor
