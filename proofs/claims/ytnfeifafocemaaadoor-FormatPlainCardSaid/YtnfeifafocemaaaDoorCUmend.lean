/-
  Contract of utf.Mend.
-/
import Derived.Test.YtnfeifafocemaaaDoorCUtextb
import Derived.Deep.QuietTactic
import Derived.BigQuiet
set_option linter.unusedVariables false
set_option linter.unusedSimpArgs false
namespace Go.Proofs.YtnfeifafocemaaaDoor
open Go.RowKit Go.Lib
attribute [local go_sem] Oper.semAt_some

/-- A part mended. -/
def mend1 (c : Int) : Int := if c = -1 then 65533 else c
def mendT (L : List UInt8) : List UInt8 := enc ((uchars L).map mend1)
theorem isCh_mend {L : List UInt8} {c : Int} (h : c ∈ uchars L) : isCh (mend1 c) := by
  unfold uchars at h
  rw [List.mem_map] at h
  obtain ⟨p, hp, rfl⟩ := h
  unfold mend1
  by_cases hb : p.2 = -1
  · rw [if_pos hb]; unfold isCh; omega
  · rw [if_neg hb]; exact (pcs_good L p hp hb).1
theorem mendT_text {L : List UInt8} (h : isT L = true) : mendT L = L := by
  unfold mendT
  have : (uchars L).map mend1 = uchars L := by
    conv => rhs; rw [← List.map_id (uchars L)]
    refine List.map_congr_left fun c hc => ?_
    have := chars_ch h c hc
    unfold mend1 isCh at *
    rw [if_neg (by omega)]; rfl
  rw [this, enc_chars h]
theorem pts_chars {L : List UInt8} {pre rest : List (Nat × Int)} {x : Nat × Int} (h : pts L = pre ++ x :: rest) : x.2 ∈ uchars L := by
  rw [← pts_snd, h]; simp
theorem ne_types8 : (41 : Nat) ≠ 5 ∧ (9 : Nat) ≠ 5 := by decide

set_option maxRecDepth 100000 in
set_option maxHeartbeats 1000000 in
theorem Mend_c {S : Nat → Prop} {A0 : Option Addr} {n0 c0 : Nat} {L : List UInt8} (w : World) (hT : Tabs w) (hr : RdV w S A0 n0 (bs8 L)) (hS : ∀ b, S b → b < w.heap.size) (hn : n0 ≤ 1099511627776) :
    Calls Tryd.prog 22 #[.slice A0 n0 c0] w fun e w' => e = .returned (.string (mk8 (mendT L))) ∧ Below w.heap.size w w' := by
  have hlen : L.length = n0 := by rw [← hr.len, bs8_length]
  have hmk := fun W => makeB_at (z := (n0 : Int)) n0 rfl (by omega) W
  have hb0 : Below w.heap.size w ((w.alloc (roomB n0)).alloc (.cells #[.slice (some ⟨w.heap.size, 0, none⟩) 0 n0] 41)) := ((Below.refl _ w).alloc (Nat.le_refl _) _).alloc (by simp) _
  have hcv := (hr.below hb0 hS).conv (c := c0)
  have bx : Boxed ((w.alloc (roomB n0)).alloc (.cells #[.slice (some ⟨w.heap.size, 0, none⟩) 0 n0] 41)) (w.heap.size + 1) 41 (.slice (some ⟨w.heap.size, 0, none⟩) 0 n0) := by
    have := Boxed.new (w.alloc (roomB n0)) 41 (.slice (some ⟨w.heap.size, 0, none⟩) 0 n0)
    rwa [World.size_alloc] at this
  have hr2 : RowV ((w.alloc (roomB n0)).alloc (.cells #[.slice (some ⟨w.heap.size, 0, none⟩) 0 n0] 41)) w.heap.size 5 (some ⟨w.heap.size, 0, none⟩) 0 n0 [] := (RowV.roomB w n0 (by omega)).alloc _
  have HT := Lib.hid hT
  have HB0 := Lib.hid hb0
  have BX := Lib.hid bx
  have HR2 := Lib.hid hr2
  have HLEN := Lib.hid hlen
  clear hT hb0 bx hr2 hr hlen
  refine (callsIn_wide (n := 0)).1 ?_
  refine callsIn_of_wp_marks Tryd.func22 rfl trivial ?_ rfl
  simp only [Tryd.ntmps22, List.size_toArray, List.length_cons, List.length_nil, Nat.reduceAdd, Nat.reduceSub, Array.replicate_succ, Array.replicate_zero, List.push_toArray, List.append_toArray, List.nil_append, List.cons_append]
  gi_wp2_with fail
  obtain ⟨W2, hW2⟩ : ∃ W2, ((w.alloc (roomB n0)).alloc (.cells #[.slice (some ⟨w.heap.size, 0, none⟩) 0 n0] 41)) = W2 := ⟨_, rfl⟩
  have hz2 : W2.heap.size = w.heap.size + 2 := by rw [← hW2]; simp
  rw [hW2] at HB0 BX HR2 ⊢
  clear hW2 hmk hcv
  refine ⟨trivial, rfl, ?_⟩
  refine (callsIn_wide.2 (parts_c (mk8 L) W2)).mono ?_
  rintro e W3 ⟨rfl, hW3⟩
  rw [hz2]
  have hz3 : W3.heap.size = w.heap.size + 3 := by rw [hW3]; simp [hz2]
  have hB3 : Below w.heap.size w W3 := by rw [hW3]; exact HB0.out.alloc (by omega) _
  have bx3 : Boxed W3 (w.heap.size + 1) 41 (.slice (some ⟨w.heap.size, 0, none⟩) 0 n0) := by rw [hW3]; exact BX.out.alloc _
  have bs3 : Boxed W3 (w.heap.size + 2) 9 (.string (mk8 L)) := by rw [hW3, ← hz2]; exact Boxed.new W2 _ _
  have hr3 : RowV W3 w.heap.size 5 (some ⟨w.heap.size, 0, none⟩) 0 n0 [] := by rw [hW3]; exact HR2.out.alloc _
  have hT3 : Tabs W3 := HT.out.below hB3
  have HLT0 := Lib.hid (show 1 < w.heap.size from HT.out.lt0)
  have HLT1 := Lib.hid (show 2 < w.heap.size from HT.out.lt1)
  clear hW3 hz2 HB0 BX HR2
  gi_wp2_with fail
  refine range_law_s (gf := 41) (lb := #[.pointer (some ⟨w.heap.size + 2, 0, none⟩)]) rfl (enters_of Tryd.func41 (by kernel_rfl) rfl) (encs := encP) (xs := pts L)
    (keep := fun k => k = w.heap.size + 2 ∨ k = 1 ∨ k = 2)
    (fun W hW => parts1_iter (mk8 L) W ((hW.cell (p := ⟨w.heap.size + 2, 0, none⟩) (by show w.heap.size + 2 < W3.heap.size; omega)).trans bs3.cell) (hT3.below hW) (by rw [mk8_size, HLEN.out]; omega))
    (fun _ => rfl) (by
      intro k hk
      rcases hk with e | e | e
      · omega
      · have := hT3.lt0; omega
      · have := hT3.lt1; omega)
    (fun R pre W => ∃ A n c, Boxed W (w.heap.size + 1) 41 (.slice A n c) ∧ Boxed W (w.heap.size + 2) 9 (.string (mk8 L)) ∧ RowV W w.heap.size 5 A n c (bs8 (enc (pre.map fun x => mend1 x.2))) ∧ Below w.heap.size w W ∧ ∀ k, ¬ R k)
    (fun _ _ _ _ => False)
    ?_ ?_ ?_ ?_ ?_ ?_
  · rintro R pre X Y row ⟨A, n, c, h1, h2, h3, h4, h5⟩ hg hr
    exact ⟨A, n, c, h1.kept hg (fun e => by have := (hr _ e.symm).1; omega), h2.kept hg (fun e => by have := (hr _ e.symm).1; omega), h3.grown hg (h3.not_row hr), h4.grown hg h4.size (fun k e => by have := (hr k e).1; omega), h5⟩
  · intro c R pre X Y row h; exact h.elim
  · intro R W hRP hW hr
    exact ⟨some ⟨w.heap.size, 0, none⟩, 0, n0, (hW.block _ (by omega)).trans bx3, (hW.block _ (by omega)).trans bs3, hr3.below hW (Nat.le_refl _), hB3.trans (hW.mono (by omega)), hRP⟩
  · rintro l R pre ⟨p, ch⟩ rest hx W K hK
    have hlen : pre.length < L.length := by
      have h1 := congrArg List.length hx
      rw [pts_length, List.length_append, List.length_cons] at h1
      have := pcs_len L
      omega
    have hmc : isCh (mend1 ch) := isCh_mend (pts_chars hx)
    dsimp only [encP]
    have HK := Lib.hid hK
    have HL2 := Lib.hid (show pre.length < n0 by rw [← HLEN.out]; exact hlen)
    clear hK hx hlen
    gi_wp2
    refine HK.out _ ?_
    rintro W4 ⟨A, n, c, h1, h2, h3, h4, h5⟩ hz4 hr4
    have hc1 := h1.cell
    have hnl : n ≤ 4398046511104 := by
      have e1 := enc_len_le (pre.map fun x => mend1 x.2)
      have e2 := h3.len
      rw [bs8_length] at e2
      rw [List.length_map] at e1
      have := HL2.out
      omega
    have hwr : IntKind.i32.wrap (mend1 ch) = mend1 ch := IntWalk.i32_in _ (by unfold isCh at hmc; omega)
    have hap := append_c (c := c) (mend1 ch) W4 h3 hmc (by omega) h4.size
    have hstep : enc ((pre ++ [(p, ch)]).map fun x => mend1 x.2) = enc (pre.map fun x => mend1 x.2) ++ encodeRune (mend1 ch) := by
      rw [List.map_append, enc_append]
      simp [enc]
    have HAP := Lib.hid hap
    have HST := Lib.hid hstep
    have HMC := Lib.hid hmc
    clear hap hstep hmc
    have hfin : ∀ A' n' c' W5, RowV W5 w.heap.size 5 A' n' c' (bs8 (enc (pre.map fun x => mend1 x.2) ++ encodeRune (mend1 ch))) → (∃ o, (W4.alloc o).grownBy W5 (Value.slice A n c).ownBlock) →
        KeepsOthers W4 (W5.setCell ⟨w.heap.size + 1, 0, none⟩ (.slice A' n' c')) ∧ KeptS (fun k => k = w.heap.size + 2 ∨ k = 1 ∨ k = 2) R W4 (W5.setCell ⟨w.heap.size + 1, 0, none⟩ (.slice A' n' c')) ∧
        ∃ A n c, Boxed (W5.setCell ⟨w.heap.size + 1, 0, none⟩ (.slice A' n' c')) (w.heap.size + 1) 41 (.slice A n c) ∧ Boxed (W5.setCell ⟨w.heap.size + 1, 0, none⟩ (.slice A' n' c')) (w.heap.size + 2) 9 (.string (mk8 L)) ∧ RowV (W5.setCell ⟨w.heap.size + 1, 0, none⟩ (.slice A' n' c')) w.heap.size 5 A n c (bs8 (enc ((pre ++ [(p, ch)]).map fun x => mend1 x.2))) ∧ Below w.heap.size w (W5.setCell ⟨w.heap.size + 1, 0, none⟩ (.slice A' n' c')) ∧ ∀ k, ¬ R k := by
      rintro A' n' c' W5 hrow5 ⟨o, hg5⟩
      have kb : Boxed W5 (w.heap.size + 1) 41 (.slice A n c) := (h1.alloc o).kept hg5 (fun e => h3.ne_box h1 ne_types8.1 _ (h3.ownB e) rfl)
      have ks : Boxed W5 (w.heap.size + 2) 9 (.string (mk8 L)) := (h2.alloc o).kept hg5 (fun e => h3.ne_box h2 ne_types8.2 _ (h3.ownB e) rfl)
      have hbel5 := h3.below_append h4 h4.size hg5
      refine ⟨(h3.others hg5).trans (KeepsOthers.setCell _ _ _), ⟨?_, ?_⟩, A', n', c', kb.set _, boxed_ne ks (by omega) _, ?_, hbel5.setCell (p := ⟨w.heap.size + 1, 0, none⟩) (by simp) _, h5⟩
      · have := hg5.size; simp at this ⊢; omega
      · intro k hk
        have hkl : k < W4.heap.size ∧ k ≠ w.heap.size + 1 ∧ some k ≠ (Value.slice A n c).ownBlock := by
          rcases hk with (e | e | e) | e
          · exact ⟨by omega, by omega, fun q => h3.ne_box h2 ne_types8.2 _ (h3.ownB q) e⟩
          · have := hT3.lt0
            refine ⟨by omega, by have := HLT0.out; omega, fun q => ?_⟩
            have q2 := h3.ownB q
            rcases h3.form with ⟨z, _⟩ | ⟨g3, z, z2, _⟩
            · rw [z] at q2; cases q2
            · rw [z] at q2; injection q2 with q2; injection q2 with q2; have := HLT0.out; omega
          · have := hT3.lt1
            refine ⟨by omega, by have := HLT1.out; omega, fun q => ?_⟩
            have q2 := h3.ownB q
            rcases h3.form with ⟨z, _⟩ | ⟨g3, z, z2, _⟩
            · rw [z] at q2; cases q2
            · rw [z] at q2; injection q2 with q2; injection q2 with q2; have := HLT1.out; omega
          · exact absurd e (h5 k)
        rw [Below.heap_setCell _ _ _ _ hkl.2.1, hg5.block k (by simp; omega) hkl.2.2, Below.heap_alloc _ _ _ hkl.1]
      · rw [HST.out]
        exact hrow5.setNe (p := ⟨w.heap.size + 1, 0, none⟩) (fun g e => hrow5.ne_box kb ne_types8.1 g e) _
    have HFIN := Lib.hid hfin
    clear hfin
    by_cases hch : ch = -1
    · subst hch
      have e1 : mend1 (-1) = 65533 := rfl
      rw [e1] at HAP HFIN hwr
      clear e1
      gi_wp2_with (refine ⟨trivial, rfl, ?_⟩; refine (callsIn_wide.2 HAP.out).mono ?_; rintro e w5 ⟨A5, n5, c5, rfl, hrow5, hg5⟩; have kb5 : Boxed w5 (w.heap.size + 1) 41 (.slice A n c) := (h1.alloc hg5.choose).kept hg5.choose_spec (fun e => h3.ne_box h1 ne_types8.1 _ (h3.ownB e) rfl); have hc5 := kb5.cell; have hf5 := kb5.frozen)
      exact HFIN.out A5 n5 c5 w5 hrow5 hg5
    · have hb1 : (ch == -1) = false := by rw [beq_eq_false_iff_ne]; exact hch
      have e1 : mend1 ch = ch := by unfold mend1; rw [if_neg hch]
      rw [e1] at HAP HFIN hwr
      clear e1 hch
      gi_wp2_with (refine ⟨trivial, rfl, ?_⟩; refine (callsIn_wide.2 HAP.out).mono ?_; rintro e w5 ⟨A5, n5, c5, rfl, hrow5, hg5⟩; have kb5 : Boxed w5 (w.heap.size + 1) 41 (.slice A n c) := (h1.alloc hg5.choose).kept hg5.choose_spec (fun e => h3.ne_box h1 ne_types8.1 _ (h3.ownB e) rfl); have hc5 := kb5.cell; have hf5 := kb5.frozen)
      exact HFIN.out A5 n5 c5 w5 hrow5 hg5
  · rintro D R W ⟨A, n, c, h1, h2, h3, h4, h5⟩ hD hK
    have hfl : enc ((pts L).map fun x => mend1 x.2) = mendT L := by
      unfold mendT
      rw [← pts_snd, List.map_map]; rfl
    rw [hfl] at h3
    have hc1 := h1.cell
    have hcv := h3.rd.conv (c := c)
    have hDl := (Array.getElem?_eq_some_iff.1 hK).1
    gi_wp2
    refine ⟨by simp, .inl ⟨_, _, rfl, run_takeDeferred hK, ?_⟩⟩
    refine ⟨_, results_tmp rfl _ _ _, rfl, ?_⟩
    exact h4.grown (only_putS _ _ _) h4.size (fun k e => by injection e; omega)
  · intro D c R pre W h; exact h.elim
end Go.Proofs.YtnfeifafocemaaaDoor
