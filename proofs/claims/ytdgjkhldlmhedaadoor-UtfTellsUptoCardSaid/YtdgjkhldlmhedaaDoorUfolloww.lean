/-
  Contract of utf.follow: the walk.
-/
import Derived.Test.YtdgjkhldlmhedaaDoorUfollow
import Derived.Deep.AppendLies
import Derived.Deep.RegionHeld3
set_option linter.unusedVariables false
set_option linter.unusedSimpArgs false
namespace Go.Proofs.YtdgjkhldlmhedaaDoor
open Go.RowKit Go.Lib

theorem only_drewF {B : Nat} {a w : World} (h : Below B a w) : Below B a w.drew := ⟨h.os, h.tape, h.output, h.size, h.block⟩

set_option maxRecDepth 100000 in
set_option maxHeartbeats 2000000 in
theorem follow_c {T : List UInt8} (w : World) (hT : 0 < T.length) (hsz : T.length ≤ 1099511627776) :
    Calls Tryd.prog 48 #[.string (mk8 T)] w fun e w' => ∃ E, e = .returned (.func (.func 53) #[] #[.pointer (some ⟨w.heap.size, 0, none⟩), .pointer (some ⟨w.heap.size + 2, 0, none⟩)]) ∧ Tbl w' w.heap.size (w.heap.size + 2) (w.heap.size + 1) w.heap.size T E ∧ TblOk T E T.length ∧ Below w.heap.size w w' := by
  have hmk := fun W => makeI_full (z := (T.length : Int)) T.length rfl (by omega) W
  have hb0 : Below w.heap.size w (((w.alloc (.cells #[.string (mk8 T)] 9)).alloc (roomI T.length)).alloc (.cells #[.slice (some ⟨w.heap.size + 1, 0, none⟩) T.length T.length] 27)) := (((Below.refl _ w).alloc (Nat.le_refl _) _).alloc (by simp) _).alloc (by simp; omega) _
  have ht0 : Tbl (((w.alloc (.cells #[.string (mk8 T)] 9)).alloc (roomI T.length)).alloc (.cells #[.slice (some ⟨w.heap.size + 1, 0, none⟩) T.length T.length] 27)) w.heap.size (w.heap.size + 2) (w.heap.size + 1) w.heap.size T (List.replicate T.length 0) := by
    refine ⟨((Boxed.new w _ _).alloc _).alloc _, ?_, ?_⟩
    · have := Boxed.new ((w.alloc (.cells #[.string (mk8 T)] 9)).alloc (roomI T.length)) 27 (.slice (some ⟨w.heap.size + 1, 0, none⟩) T.length T.length)
      simp only [World.size_alloc, Nat.add_assoc, Nat.reduceAdd] at this
      exact this
    · have := (RowV.made (w.alloc (.cells #[.string (mk8 T)] 9)) T.length (by omega)).alloc (.cells #[.slice (some ⟨w.heap.size + 1, 0, none⟩) T.length T.length] 27)
      rw [World.size_alloc] at this
      exact this.more (by omega)
  have hk0 := TblOk.one hT
  have hSz : (mk8 T).size = T.length := mk8_size T
  have hc0 : (w.alloc (.cells #[.string (mk8 T)] 9)).cell? ⟨w.heap.size, 0, none⟩ = some (.string (mk8 T)) := (Boxed.new w 9 (.string (mk8 T))).cell
  have HB0 := Lib.hid hb0
  have HT0 := Lib.hid ht0
  have HK0 := Lib.hid hk0
  clear hb0 ht0 hk0
  go_enter Tryd.func48, Tryd.ntmps48
  go_wp2
  go_loopw [5] (fun v wr => ∃ (i : Nat) (E : List Nat), 1 ≤ i ∧ i ≤ T.length ∧ v = .int .i64 (i : Int) ∧ Tbl wr w.heap.size (w.heap.size + 2) (w.heap.size + 1) w.heap.size T E ∧ TblOk T E i ∧ Below w.heap.size w wr) (fun v _ => T.length - (RowKit.intOf v).toNat)
  case atStart => exact ⟨1, _, Nat.le_refl _, hT, rfl, HT0.out, HK0.out, HB0.out⟩
  case round =>
    obtain ⟨i, E, hi1, hiT, rfl, htb, hok, hbel⟩ := hrel
    have hcb := htb.box.cell
    have hce := htb.ends.cell
    by_cases hlt : i < T.length
    · have hlen := hok.1
      obtain ⟨j, hj⟩ : ∃ j, j = i - 1 := ⟨_, rfl⟩
      have hwi : IntKind.i64.wrap ((i : Int) - 1) = (j : Int) := by rw [IntWalk.i64_in _ (by omega)]; omega
      have hjl : (j : Int) < (T.length : Int) := by omega
      have hil : (i : Int) < (T.length : Int) := by omega
      obtain ⟨x, hx⟩ : ∃ x, E[i - 1]? = some x := ⟨E[i - 1]'(by omega), List.getElem?_eq_getElem (by omega)⟩
      obtain ⟨c, hc⟩ : ∃ c, T[i]? = some c := ⟨T[i]'hlt, List.getElem?_eq_getElem hlt⟩
      have hcx : wr.cell? ⟨w.heap.size + 1, j, none⟩ = some (.int .i64 (x : Int)) := by rw [hj]; exact htb.cell hx
      have hbd := (hok.2 (i - 1) x (by omega) hx).2 (by omega)
      have hxi : x ≤ i := by have := (hok.2 (i - 1) x (by omega) hx).1.1; omega
      have hat : (mk8 T)[i]'(by rw [mk8_size]; exact hlt) = c := mk8_at hc _
      have hu : ((T.take i).drop 1) ++ [c] = (T.take (i + 1)).drop 1 := by
        obtain ⟨j, rfl⟩ : ∃ j, i = j + 1 := ⟨i - 1, by omega⟩
        rw [table_succ hc]
      have hstep := fun V (h : Tbl V w.heap.size (w.heap.size + 2) (w.heap.size + 1) w.heap.size T E) => step_c (c := c) V h hok hxi (by omega) hT hsz hbd
      rw [hu] at hstep
      have HSTEP := Lib.hid hstep
      have HTB := Lib.hid htb
      have HOK := Lib.hid hok
      have HBEL := Lib.hid hbel
      have HJ := Lib.hid hj
      have HX := Lib.hid (show E[j]? = some x by rw [hj]; exact hx)
      clear hstep htb hok hbel hx hc hbd hu hj
      go_wp2
      have hdrew : Tbl wr.drew w.heap.size (w.heap.size + 2) (w.heap.size + 1) w.heap.size T E := HTB.out.same rfl rfl rfl
      have HDR := Lib.hid hdrew
      clear hdrew
      refine wp_region_held_drew (S := fun w' => w'.cell? ⟨w.heap.size, 0, none⟩ = some (.string (mk8 T)) ∧ w'.cell? ⟨w.heap.size + 2, 0, none⟩ = some (.slice (some ⟨w.heap.size + 1, 0, none⟩) T.length T.length) ∧ w'.cell? ⟨w.heap.size + 1, j, none⟩ = some (.int .i64 (x : Int))) (by kernel_rfl) ⟨hcb, hce, hcx⟩ (fun hHeld => ?_)
      (try simp only [List.size_toArray, List.length_cons, List.length_nil, Nat.reduceAdd, Array.replicate_succ, Array.replicate_zero, List.push_toArray, List.append_toArray, List.nil_append, List.cons_append])
      refine wpAnyH_take (i := 0) (oi := ⟨_, _, _, _, _, _⟩) (v := ?_) rfl (by kernel_rfl) (by kernel_rfl) (by kernel_rfl) (fun _ _ _ h => h) (Or.inl ⟨by rfl, ?_⟩) (by assumption) ?_
      rotate_left
      · intro w hSw
        (try dsimp only at hSw)
        go_split_ands
        go_simp
        try with_reducible rfl
      (try simp only [Act.put, List.setIfInBounds_toArray, List.set_cons_zero, List.set_cons_succ])
      refine wpAnyH_take (i := 1) (oi := ⟨_, _, _, _, _, _⟩) (v := ?_) rfl (by kernel_rfl) (by kernel_rfl) (by kernel_rfl) (fun _ _ _ h => h) (Or.inl ⟨by rfl, ?_⟩) (by assumption) ?_
      rotate_left
      · intro w hSw
        (try dsimp only at hSw)
        go_split_ands
        go_simp
        try with_reducible rfl
      (try simp only [Act.put, List.setIfInBounds_toArray, List.set_cons_zero, List.set_cons_succ])
      refine wpAnyH_take (i := 2) (oi := ⟨_, _, _, _, _, _⟩) (v := ?_) rfl (by kernel_rfl) (by kernel_rfl) (by kernel_rfl) (fun _ _ _ h => h) (Or.inl ⟨by rfl, ?_⟩) (by assumption) ?_
      rotate_left
      · intro w hSw
        (try dsimp only at hSw)
        go_split_ands
        go_simp
        try with_reducible rfl
      (try simp only [Act.put, List.setIfInBounds_toArray, List.set_cons_zero, List.set_cons_succ])
      refine wpAnyH_take (i := 3) (oi := ⟨_, _, _, _, _, _⟩) (v := ?_) rfl (by kernel_rfl) (by kernel_rfl) (by kernel_rfl) (fun _ _ _ h => h) (Or.inl ⟨by rfl, ?_⟩) (by assumption) ?_
      rotate_left
      · intro w hSw
        (try dsimp only at hSw)
        go_split_ands
        go_simp
        try with_reducible rfl
      (try simp only [Act.put, List.setIfInBounds_toArray, List.set_cons_zero, List.set_cons_succ])
      refine wpAnyH_take (i := 4) (oi := ⟨_, _, _, _, _, _⟩) (v := ?_) rfl (by kernel_rfl) (by kernel_rfl) (by kernel_rfl) (fun _ _ _ h => h) (Or.inl ⟨by rfl, ?_⟩) (by assumption) ?_
      rotate_left
      · intro w hSw
        (try dsimp only at hSw)
        go_split_ands
        go_simp
        try with_reducible rfl
      (try simp only [Act.put, List.setIfInBounds_toArray, List.set_cons_zero, List.set_cons_succ])
      refine wpAnyH_take (i := 5) (oi := ⟨_, _, _, _, _, _⟩) (v := ?_) rfl (by kernel_rfl) (by kernel_rfl) (by kernel_rfl) (fun _ _ _ h => h) (Or.inl ⟨by rfl, ?_⟩) (by assumption) ?_
      rotate_left
      · intro w hSw
        (try dsimp only at hSw)
        go_split_ands
        go_simp
        try with_reducible rfl
      (try simp only [Act.put, List.setIfInBounds_toArray, List.set_cons_zero, List.set_cons_succ])
      refine wpAnyH_take (i := 6) (oi := ⟨_, _, _, _, _, _⟩) (v := ?_) rfl (by kernel_rfl) (by kernel_rfl) (by kernel_rfl) (fun _ _ _ h => h) (Or.inl ⟨by rfl, ?_⟩) (by assumption) ?_
      rotate_left
      · intro w hSw
        (try dsimp only at hSw)
        go_split_ands
        go_simp
        try with_reducible rfl
      (try simp only [Act.put, List.setIfInBounds_toArray, List.set_cons_zero, List.set_cons_succ])
      refine wpAnyH_take (i := 7) (oi := ⟨_, _, _, _, _, _⟩) (v := ?_) rfl (by kernel_rfl) (by kernel_rfl) (by kernel_rfl) (fun _ _ _ h => h) (Or.inl ⟨by rfl, ?_⟩) (by assumption) ?_
      rotate_left
      · intro w hSw
        (try dsimp only at hSw)
        go_split_ands
        go_simp
        try with_reducible rfl
      (try simp only [Act.put, List.setIfInBounds_toArray, List.set_cons_zero, List.set_cons_succ])
      refine wpAnyH_take (i := 8) (oi := ⟨_, _, _, _, _, _⟩) (v := ?_) rfl (by kernel_rfl) (by kernel_rfl) (by kernel_rfl) (fun _ _ _ h => h) (Or.inl ⟨by rfl, ?_⟩) (by assumption) ?_
      rotate_left
      · intro w hSw
        (try dsimp only at hSw)
        go_split_ands
        go_simp
        try with_reducible rfl
      (try simp only [Act.put, List.setIfInBounds_toArray, List.set_cons_zero, List.set_cons_succ])
      refine wpAnyH_take (i := 9) (oi := ⟨_, _, _, _, _, _⟩) (v := ?_) rfl (by kernel_rfl) (by kernel_rfl) (by kernel_rfl) (fun _ _ _ h => h) (Or.inl ⟨by rfl, ?_⟩) (by assumption) ?_
      rotate_left
      · intro w hSw
        (try dsimp only at hSw)
        go_split_ands
        go_simp
        try with_reducible rfl
      (try simp only [Act.put, List.setIfInBounds_toArray, List.set_cons_zero, List.set_cons_succ])
      refine wpAnyH_take (i := 10) (oi := ⟨_, _, _, _, _, _⟩) (v := ?_) rfl (by kernel_rfl) (by kernel_rfl) (by kernel_rfl) (fun _ _ _ h => h) (Or.inl ⟨by rfl, ?_⟩) (by assumption) ?_
      rotate_left
      · intro w hSw
        (try dsimp only at hSw)
        go_split_ands
        go_simp
        try with_reducible rfl
      (try simp only [Act.put, List.setIfInBounds_toArray, List.set_cons_zero, List.set_cons_succ])
      refine wpAnyH_ready (rs := [11]) (by kernel_rfl) (by simp) (AllReadyH.cons (o := ⟨_, _, _, _, _, _⟩) rfl (fun K hK => ?_) AllReadyH.nil)
      go_simp
      refine (HSTEP.out wr.drew HDR.out).mono ?_
      rintro e w' ⟨⟨r, rfl, hr⟩, hw'⟩
      have hw' := hw'.symm
      subst hw'
      have HRR := Lib.hid hr
      clear hr
      (try dsimp only)
      refine hK.out _ _ hHeld (fun hHn => ?_)
      clear hK K
      (try simp only [Act.put, List.setIfInBounds_toArray, List.set_cons_zero, List.set_cons_succ])
      refine wpAnyH_take (i := 12) (oi := ⟨_, _, _, _, _, _⟩) (v := ?_) rfl (by kernel_rfl) (by kernel_rfl) (by kernel_rfl) (fun _ _ _ h => h) (Or.inl ⟨by rfl, ?_⟩) (by assumption) ?_
      rotate_left
      · intro w hSw
        (try dsimp only at hSw)
        go_split_ands
        go_simp
        try with_reducible rfl
      (try simp only [Act.put, List.setIfInBounds_toArray, List.set_cons_zero, List.set_cons_succ])
      refine wpAnyH_ready (rs := [13]) (by kernel_rfl) (by simp) (AllReadyH.cons (o := ⟨_, _, _, _, _, _⟩) rfl (fun K hK => ?_) AllReadyH.nil)
      have hsc : ∃ v, wr.drew.cell? ⟨w.heap.size + 1, i, none⟩ = some v := by
        obtain ⟨y, hy⟩ : ∃ y, E[i]? = some y := ⟨E[i]'(by omega), List.getElem?_eq_getElem (by omega)⟩
        exact ⟨_, HDR.out.cell hy⟩
      obtain ⟨sv, hsv⟩ := hsc
      have hsf : wr.drew.frozen? ⟨w.heap.size + 1, i, none⟩ = false := HDR.out.row.own.frozenAt i
      go_simp
      have hnew : Tbl (wr.drew.setCell ⟨w.heap.size + 1, i, none⟩ (.int .i64 (r : Int))) w.heap.size (w.heap.size + 2) (w.heap.size + 1) w.heap.size T (E.set i r) := by
        refine ⟨boxed_ne HDR.out.box (by omega) _, boxed_ne HDR.out.ends (by omega) _, ?_⟩
        rw [nz_set]
        exact HDR.out.row.store _
      have hxj : (E.set i r)[j]? = some x := by rw [List.getElem?_set_ne (by have := HJ.out; omega)]; exact HX.out
      have hcj := hnew.cell hxj
      refine hK.out _ _ ⟨hnew.box.cell, hnew.ends.cell, hcj⟩ (fun hHn2 => ?_)
      clear hK K hHeld hHn
      (try simp only [Act.put, List.setIfInBounds_toArray, List.set_cons_zero, List.set_cons_succ])
      have hok2 := HOK.out.next (by omega) hlt HRR.out
      have hbel2 := (only_drewF HBEL.out).setCell (p := ⟨w.heap.size + 1, i, none⟩) (by simp) (.int .i64 (r : Int))
      refine wpAnyH_done (by kernel_rfl) ?_ _
      go_wp2
      exact ⟨⟨i + 1, E.set i r, by omega, by omega, by go_num, hnew, hok2, hbel2⟩, by simp [RowKit.intOf]; omega⟩
    · obtain rfl : i = T.length := by omega
      have HTB := Lib.hid htb
      have HOK := Lib.hid hok
      have HBEL := Lib.hid hbel
      clear htb hok hbel
      go_wp2
      go_ret
      exact ⟨E, rfl, HTB.out, HOK.out, HBEL.out⟩
end Go.Proofs.YtdgjkhldlmhedaaDoor
