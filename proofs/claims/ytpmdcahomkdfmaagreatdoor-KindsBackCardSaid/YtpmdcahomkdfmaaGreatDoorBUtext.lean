/-
  Contract of utf.Runes.
  Contract of utf.Slice.
  Contract of utf.Text, and of what it calls.
-/
import Derived.Test.YtpmdcahomkdfmaaGreatDoorBUbounds
set_option linter.unusedVariables false
set_option linter.unusedSimpArgs false
namespace Go.Proofs.YtpmdcahomkdfmaaGreatDoor
open Go.RowKit Go.Lib
attribute [local go_sem] Oper.semAt_some

theorem ptsF_snd : ∀ (q : List (List UInt8 × Int)) (p : Nat), (ptsF p q).map (·.2) = q.map (·.2)
  | [], _ => rfl
  | a :: q, p => by simp [ptsF, ptsF_snd q]
theorem pts_snd (L : List UInt8) : (pts L).map (·.2) = uchars L := ptsF_snd _ _
theorem ptsF_length : ∀ (q : List (List UInt8 × Int)) (p : Nat), (ptsF p q).length = q.length
  | [], _ => rfl
  | a :: q, p => by simp [ptsF, ptsF_length q]
theorem pts_length (L : List UInt8) : (pts L).length = (pcs L).length := ptsF_length _ _
def runesT (L : List UInt8) : List Int := if isT L = true then uchars L else []
theorem ucell_new1 (w : World) (v : Value) (t : TypeId) (b : Nat) (hb : b = w.heap.size) : ∀ (j : Nat) u, [v][j]? = some u → (w.alloc (.cells #[v] t)).cell? ((⟨b, 0, none⟩ : Addr).add j) = some u := by
  subst hb
  intro j u h
  cases j with
  | zero =>
    simp only [List.getElem?_cons_zero] at h
    injection h with h
    subst h
    rw [show (⟨w.heap.size, 0, none⟩ : Addr).add 0 = ⟨w.heap.size, 0, none⟩ from rfl, World.cell?_alloc_at _ _ _ _ rfl]; rfl
  | succ j => simp at h
/-- The block that 'make' lays for ints, and for octets. -/
def roomI (n : Nat) : Obj := .cells (madeCells #[.int IntKind.i64 0] n) 3
theorem umakeI_at {z : Int} (n : Nat) (e : z = (n : Int)) (h : n ≤ 4398046511104) (w : World) : (Instr.makeSlice 45 (.int IntKind.i64 0) (.int IntKind.i64 z)).run Tryz.prog w =
    .ok (.slice (some ⟨w.heap.size, 0, none⟩) 0 n) (w.alloc (roomI n)) := by
  subst e
  obtain ⟨i0, hi, hz0, hz1, hz2⟩ := info_parts info64
  have hr := run_make (P := Tryz.prog) w 45 3 i0 (.int IntKind.i64 0) Tryz.underlying45 hi hz0 IntKind.i64 IntKind.i64 0 n (by omega) (by omega) (by rw [hz2]; omega) (by omega)
  rw [Int.toNat_natCast, hz1, Nat.mul_one] at hr
  exact hr
theorem RowV.room (w : World) (n : Nat) (h : n ≤ 4398046511104) : RowV (w.alloc (roomI n)) w.heap.size 3 (some ⟨w.heap.size, 0, none⟩) 0 n [] := by
  refine ⟨rfl, ?_⟩
  have := World.ownsRow_lit (base := w.heap.size) (e := 3) (size := 1) w (madeCells #[.int IntKind.i64 0] n) n (Nat.le_refl _) (by unfold maxLen; omega) (by rw [size_madeCells, Nat.mul_one])
  exact ⟨rfl, by
    rcases this.2 with ⟨e, h0⟩ | ⟨g, cap, cur, e, hb, hh, h1, h2, h3, h4⟩
    · injection e with e1; cases e1
    · injection e with e1 e2 e3
      exact .inr ⟨g, n, cur, by rw [e1], hb, hh, by omega, by omega, by rw [e3]; exact h3, by simp⟩⟩

theorem RowV.not_row {w : World} {base n c : Nat} {t : TypeId} {A : Option Addr} {vs : List Value} {row : Option Nat} {B : Nat} (h : RowV w base t A n c vs) (hr : ∀ k, row = some k → B ≤ k ∧ ∃ o : Obj, w.heap[k]? = some o ∧ o.isCells = false) : ∀ g, A = some ⟨g, 0, none⟩ → some g ≠ row := by
  intro g e e'
  obtain ⟨_, o, ho, hc⟩ := hr g e'.symm
  rcases h.own.2 with ⟨e2, _⟩ | ⟨g2, cap, cur, e2, _, hh, _⟩
  · injection e2 with e2; rw [e2] at e; cases e
  · injection e2 with e2
    rw [e] at e2
    injection e2 with e2
    injection e2 with e2
    subst e2
    rw [hh] at ho
    injection ho with ho
    subst ho
    cases hc
theorem ne_types : (45 : Nat) ≠ 3 ∧ (9 : Nat) ≠ 3 := by decide

set_option maxRecDepth 100000 in
set_option maxHeartbeats 1000000 in
theorem Runes_c (s : ByteArray) (w : World) (hT : Tabs w) (hs : s.size ≤ 1099511627776) :
    Calls Tryz.prog 22 #[.string s] w fun e w' => ∃ A n c, e = .returned (.tuple #[.slice A n c, .int .i64 (errT s.data.toList : Int)]) ∧ RowV w' w.heap.size 3 A n c (zs64 (runesT s.data.toList)) ∧ Below w.heap.size w w' := by
  have hC := Count_c s w hT (by omega)
  obtain ⟨L, hL⟩ : ∃ L, L = s.data.toList := ⟨_, rfl⟩
  have hsz : s.size = L.length := by rw [hL, Array.length_toList]; rfl
  have hpl := pcs_len L
  rw [← hL] at hC ⊢
  by_cases hok : isT L = true
  · have e1 : errT L = 0 := by unfold errT; rw [if_pos hok]
    have e2 : cntT L = (pcs L).length := by unfold cntT; rw [if_pos hok]
    have e3 : runesT L = uchars L := by unfold runesT; rw [if_pos hok]
    rw [e1, e2] at hC
    rw [e1, e3]
    obtain ⟨N, hN⟩ : ∃ N, N = (pcs L).length := ⟨_, rfl⟩
    rw [← hN] at hC hpl
    have hmk := fun W => umakeI_at (z := (N : Int)) N rfl (by omega) W
    have HC := Lib.hid hC
    have HT := Lib.hid hT
    have HL := Lib.hid hL
    have HN := Lib.hid hN
    clear hC hT hL hN e1 e2 e3 hok
    refine (callsIn_wide (n := 0)).1 ?_
    refine callsIn_of_wp_marks Tryz.func22 rfl trivial ?_ rfl
    simp only [Tryz.ntmps22, List.size_toArray, List.length_cons, List.length_nil, Nat.reduceAdd, Nat.reduceSub, Array.replicate_succ, Array.replicate_zero, List.push_toArray, List.append_toArray, List.nil_append, List.cons_append]
    gi_wp2_with fail
    refine ⟨trivial, rfl, ?_⟩
    refine (callsIn_wide.2 HC.out).mono ?_
    rintro e w1 ⟨rfl, hb1⟩
    gi_wp2_with fail
    refine ⟨trivial, rfl, ?_⟩
    obtain ⟨b0, hb0⟩ : ∃ b0, b0 = w1.heap.size := ⟨_, rfl⟩
    obtain ⟨W2, hW2⟩ : ∃ W2, ((w1.alloc (roomI N)).alloc (.cells #[.slice (some ⟨w1.heap.size, 0, none⟩) 0 N] 45)) = W2 := ⟨_, rfl⟩
    have hz2 : W2.heap.size = b0 + 2 := by rw [← hW2, hb0]; simp
    have hB2 : Below w1.heap.size w1 W2 := by rw [← hW2]; exact ((Below.refl _ w1).alloc (Nat.le_refl _) _).alloc (by simp) _
    have bx2 : Boxed W2 (b0 + 1) 45 (.slice (some ⟨b0, 0, none⟩) 0 N) := by
      rw [← hW2, hb0]
      have := Boxed.new (w1.alloc (roomI N)) 45 (.slice (some ⟨w1.heap.size, 0, none⟩) 0 N)
      rwa [World.size_alloc] at this
    have hr2 : RowV W2 b0 3 (some ⟨b0, 0, none⟩) 0 N [] := by rw [← hW2, hb0]; exact (RowV.room w1 N (by omega)).alloc _
    rw [hW2, ← hb0]
    clear hW2 hmk
    refine (callsIn_wide.2 (parts_c s W2)).mono ?_
    rintro e W3 ⟨rfl, hW3⟩
    rw [hz2]
    have hz3 : W3.heap.size = b0 + 3 := by rw [hW3]; simp [hz2]
    have hB3 : Below b0 w1 W3 := by rw [hW3, hb0]; exact hB2.alloc (by omega) _
    have bx3 : Boxed W3 (b0 + 1) 45 (.slice (some ⟨b0, 0, none⟩) 0 N) := by rw [hW3]; exact bx2.alloc _
    have bs3 : Boxed W3 (b0 + 2) 9 (.string s) := by rw [hW3, ← hz2]; exact Boxed.new W2 _ _
    have hr3 : RowV W3 b0 3 (some ⟨b0, 0, none⟩) 0 N [] := by rw [hW3]; exact hr2.alloc _
    have hT3 : Tabs W3 := (HT.out.below hb1).below (by rw [← hb0]; exact hB3)
    have HB1 := Lib.hid hb1
    have HB0 := Lib.hid hb0
    have HLT0 := Lib.hid (show 0 < b0 by have := HT.out.lt0; have := hb1.size; omega)
    have HLT1 := Lib.hid (show 1 < b0 by have := HT.out.lt1; have := hb1.size; omega)
    clear hW3 hz2 hB2 bx2 hr2 hb1 hb0
    gi_wp2_with fail
    refine range_law_s (gf := 69) (lb := #[.pointer (some ⟨b0 + 2, 0, none⟩)]) rfl (enters_of Tryz.func69 (by kernel_rfl) rfl) (encs := encP) (xs := pts L)
      (keep := fun k => k = b0 + 2 ∨ k = 0 ∨ k = 1)
      (fun W hW => by
        rw [HL.out]
        exact parts1_iter s W ((hW.cell (p := ⟨b0 + 2, 0, none⟩) (by show b0 + 2 < W3.heap.size; omega)).trans bs3.cell) (hT3.below hW) (by omega))
      (fun _ => rfl) (by
        intro k hk
        rcases hk with e | e | e
        · omega
        · have := hT3.lt0; omega
        · have := hT3.lt1; omega)
      (fun R pre W => ∃ A n c, Boxed W (b0 + 1) 45 (.slice A n c) ∧ Boxed W (b0 + 2) 9 (.string s) ∧ RowV W b0 3 A n c (zs64 (pre.map (·.2))) ∧ Below b0 w1 W ∧ ∀ g, A = some ⟨g, 0, none⟩ → ∀ k, R k → g ≠ k)
      (fun _ _ _ _ => False)
      ?_ ?_ ?_ ?_ ?_ ?_
    · rintro R pre X Y row ⟨A, n, c, h1, h2, h3, h4, h5⟩ hg hr
      exact ⟨A, n, c, h1.kept hg (fun e => by have := (hr _ e.symm).1; omega), h2.kept hg (fun e => by have := (hr _ e.symm).1; omega), h3.grown hg (h3.not_row hr), h4.grown hg (by have := h4.size; have := HB0.out; omega) (fun k e => by have := (hr k e).1; omega), h5⟩
    · intro c R pre X Y row h; exact h.elim
    · intro R W hRP hW hr
      exact ⟨some ⟨b0, 0, none⟩, 0, N, (hW.block _ (by omega)).trans bx3, (hW.block _ (by omega)).trans bs3, hr3.below hW (Nat.le_refl _), hB3.trans (hW.mono (by omega)), fun g e k hk => by injection e with e; injection e with e; have := hr k hk; omega⟩
    · rintro l R pre ⟨p, ch⟩ rest hx W K hK
      have hlen : pre.length < L.length := by
        have h1 := congrArg List.length hx
        rw [pts_length, List.length_append, List.length_cons] at h1
        have := pcs_len L
        omega
      dsimp only [encP]
      have HK := Lib.hid hK
      clear hK hx
      gi_wp2
      refine HK.out _ ?_
      rintro W4 ⟨A, n, c, h1, h2, h3, h4, h5⟩ hz4 hr4
      obtain ⟨i0, hi, hz0, hz1, hz2⟩ := info_parts info64
      have hc1 := h1.cell
      have hn := Lib.hid (show n = pre.length by rw [← h3.len, zs64_length, List.length_map])
      have hnl : n < L.length := by rw [hn.out]; exact hlen
      have hro : ∀ o, (W4.alloc o).ownsRow b0 3 1 (.slice A n c) n (zs64 (pre.map (·.2))) := fun o => (h3.alloc o).own
      have hbx : ∀ o X, (W4.alloc o).grownBy X (Value.slice A n c).ownBlock → Boxed X (b0 + 1) 45 (.slice A n c) := fun o X hg => (h1.alloc o).kept hg (fun e => h3.ne_box h1 ne_types.1 _ (h3.ownB e) rfl)
      have hbs : ∀ o X, (W4.alloc o).grownBy X (Value.slice A n c).ownBlock → Boxed X (b0 + 2) 9 (.string s) := fun o X hg => (h2.alloc o).kept hg (fun e => h3.ne_box h2 ne_types.2 _ (h3.ownB e) rfl)
      gi_wp2_with (gi_at_builtin; refine wpListIn_append_own_at _ rfl (.tmp 23) (.tmp 25) _ rfl b0 3 i0 (.int .i64 0) 1 8 Tryz.underlying45 hi hz0 hz1 hz2 rfl (by decide) (.slice A n c) n (zs64 (pre.map (·.2))) rfl (hro _) ⟨W4.heap.size, 0, none⟩ 1 1 [.int .i64 ch] rfl rfl (ucell_new1 _ _ _ _ rfl) (by simp [Value.oneCell']) (by unfold maxLen; omega) (by omega) (by simp; omega) ?_; intro v' w5 hown5 hg5 _ hat5; have kb := hbx _ _ hg5; have ks := hbs _ _ hg5; obtain ⟨g', cap', rfl⟩ := ownsRow_succ hown5; have hc5 := kb.cell; have hf5 := kb.frozen)
      have hg' : A = some ⟨g', 0, none⟩ ∨ W4.heap.size ≤ g' := by
        rcases hat5 with h | h
        · left; exact h3.ownB (by rw [← h]; rfl)
        · right; simp [Value.ownBlock] at h; omega
      have hne : g' ≠ b0 + 1 ∧ g' ≠ b0 + 2 ∧ ∀ k, R k → g' ≠ k := by
        rcases hg' with h | h
        · exact ⟨h3.ne_box h1 ne_types.1 _ h, h3.ne_box h2 ne_types.2 _ h, h5 _ h⟩
        · exact ⟨by omega, by omega, fun k hk => by have := hr4 k hk; omega⟩
      have hrow5 : RowV w5 b0 3 (some ⟨g', 0, none⟩) (n + 1) cap' (zs64 (pre.map (·.2)) ++ [.int .i64 ch]) := ⟨by rw [List.length_append, h3.len]; rfl, hown5⟩
      have hbel5 := h3.below_append h4 (by omega) hg5
      refine ⟨(h3.others hg5).trans (KeepsOthers.setCell _ _ _), ⟨?_, ?_⟩, some ⟨g', 0, none⟩, n + 1, cap', kb.set _, boxed_ne ks (by omega) _, ?_, hbel5.setCell (p := ⟨b0 + 1, 0, none⟩) (by simp) _, ?_⟩
      · have := hg5.size; simp at this ⊢; omega
      · intro k hk
        have hkl : k < W4.heap.size ∧ k ≠ b0 + 1 ∧ some k ≠ (Value.slice A n c).ownBlock := by
          rcases hk with (e | e | e) | e
          · exact ⟨by omega, by omega, fun q => h3.ne_box h2 ne_types.2 _ (h3.ownB q) e⟩
          · have := hT3.lt0
            refine ⟨by omega, by have := HLT0.out; omega, fun q => ?_⟩
            have q2 := h3.ownB q
            rcases h3.form with ⟨z, _⟩ | ⟨g3, z, z2, _⟩
            · rw [z] at q2; cases q2
            · rw [z] at q2; injection q2 with q2; injection q2 with q2; have := HLT0.out; omega
          · have := hT3.lt1
            refine ⟨by omega, by have := HLT1.out; omega, fun q => ?_⟩
            have q2 := h3.ownB q
            rcases h3.form with ⟨z, _⟩ | ⟨g3, z, z2, _⟩
            · rw [z] at q2; cases q2
            · rw [z] at q2; injection q2 with q2; injection q2 with q2; have := HLT1.out; omega
          · have := hr4 k e
            exact ⟨by omega, by omega, fun q => h5 _ (h3.ownB q) k e rfl⟩
        rw [Below.heap_setCell _ _ _ _ hkl.2.1, hg5.block k (by simp; omega) hkl.2.2, Below.heap_alloc _ _ _ hkl.1]
      · have := hrow5.setNe (p := ⟨b0 + 1, 0, none⟩) (fun g e => by injection e with e; injection e with e; show g ≠ b0 + 1; omega) (.slice (some ⟨g', 0, none⟩) (n + 1) cap')
        rw [List.map_append, zs64_append]
        exact this
      · intro g e k hk
        injection e with e
        injection e with e
        subst e
        exact hne.2.2 k hk
    · rintro D R W ⟨A, n, c, h1, h2, h3, h4, h5⟩ hD hK
      rw [pts_snd] at h3
      have hc1 := h1.cell
      have hDl := (Array.getElem?_eq_some_iff.1 hK).1
      gi_wp2
      refine ⟨by simp, .inl ⟨_, _, rfl, run_takeDeferred hK, ?_⟩⟩
      refine ⟨_, results_tmp2 rfl _ _ _, A, n, c, rfl, ?_, ?_⟩
      · refine (h3.more (by have := HB0.out; have := HB1.out.size; omega)).grown (only_putS _ _ _) (fun g e e' => ?_)
        injection e' with e'
        subst e'
        rcases h3.own.2 with ⟨e2, _⟩ | ⟨g2, cap, cur, e2, _, hh, _⟩
        · injection e2 with e2; rw [e2] at e; cases e
        · injection e2 with e2
          rw [e] at e2
          injection e2 with e2
          injection e2 with e2
          subst e2
          rw [hh] at hK
          cases hK
      · exact (HB1.out.trans (h4.mono (by have := HB0.out; have := HB1.out.size; omega))).grown (only_putS _ _ _) (by have := h4.size; have := HB1.out.size; omega) (fun k e => by injection e; have := HB0.out; have := HB1.out.size; omega)
    · intro D c R pre W h; exact h.elim
  · have e1 : errT L = 61 := by unfold errT; rw [if_neg hok]
    have e2 : cntT L = 0 := by unfold cntT; rw [if_neg hok]
    have e3 : runesT L = [] := by unfold runesT; rw [if_neg hok]
    rw [e1, e2] at hC
    rw [e1, e3]
    clear e1 e2 e3 hok
    go_enter Tryz.func22, Tryz.ntmps22
    go_wp2_with fail
    refine hC.mono ?_
    rintro e w1 ⟨rfl, hb1⟩
    go_wp2
    go_ret2
    exact ⟨none, 0, 0, rfl, RowV.nil _ _ _, hb1⟩
end Go.Proofs.YtpmdcahomkdfmaaGreatDoor

namespace Go.Proofs.YtpmdcahomkdfmaaGreatDoor
open Go.RowKit Go.Lib

/-- A text of octets. -/
def mk8 (l : List UInt8) : ByteArray := ⟨l.toArray⟩
theorem mk8_L (l : List UInt8) : (mk8 l).data.toList = l := rfl
theorem mk8_size (l : List UInt8) : (mk8 l).size = l.length := by show l.toArray.size = _; simp
theorem mk8_of (s : ByteArray) : mk8 s.data.toList = s := by cases s; simp [mk8]
end Go.Proofs.YtpmdcahomkdfmaaGreatDoor

namespace Go.Proofs.YtpmdcahomkdfmaaGreatDoor
open Go.RowKit Go.Lib

theorem isCharacter_c (z : Int) (w : World) (h1 : -9223372036854775808 ≤ z) (h2 : z ≤ 9223372036854775807) :
    Calls Tryz.prog 47 #[.int .i64 z] w fun e w' => e = .returned (.bool (decide (isCh z))) ∧ w' = w := by
  by_cases h0 : 0 ≤ z
  · by_cases h3 : z ≤ 1114111
    · have hv := fun W => Tryz.utf8_ValidRune z W
      have he : Lib.validRune z = decide (isCh z) := by
        rw [Bool.eq_iff_iff, decide_eq_true_eq]
        unfold Lib.validRune isCh
        constructor
        · intro h
          simp at h
          omega
        · intro h
          simp
          omega
      rw [he] at hv
      have hwr : IntKind.i32.wrap z = z := IntWalk.i32_in _ (by omega)
      generalize decide (isCh z) = B at hv ⊢
      clear he
      go_enter Tryz.func47, Tryz.ntmps47
      go_wp2_with fail
      refine (hv w).mono ?_
      rintro e w' ⟨rfl, hw'⟩
      subst hw'
      go_wp2
      go_ret
      exact ⟨rfl, rfl⟩
    · rw [show decide (isCh z) = false by rw [decide_eq_false_iff_not]; unfold isCh; omega]
      have h4 : 1114111 < z := by omega
      clear h3
      go_enter Tryz.func47, Tryz.ntmps47
      go_wp2
      go_ret
      exact ⟨rfl, rfl⟩
  · rw [show decide (isCh z) = false by rw [decide_eq_false_iff_not]; unfold isCh; omega]
    have h4 : z < 0 := by omega
    clear h0
    go_enter Tryz.func47, Tryz.ntmps47
    go_wp2
    go_ret
    exact ⟨rfl, rfl⟩
theorem Text1_c (z : Int) (w : World) (h1 : -9223372036854775808 ≤ z) (h2 : z ≤ 9223372036854775807) :
    Calls Tryz.prog 46 #[.int .i64 z] w fun e w' => e = .returned (.bool (!decide (isCh z))) ∧ w' = w := by
  have hv := isCharacter_c z w h1 h2
  generalize decide (isCh z) = B at hv ⊢
  go_enter Tryz.func46, Tryz.ntmps46
  go_wp2_with fail
  refine hv.mono ?_
  rintro e w' ⟨rfl, hw'⟩
  subst hw'
  go_wp2
  go_ret
  exact ⟨rfl, rfl⟩

/-- Numbers that fit. -/
def L64 (l : List Int) : Prop := ∀ z ∈ l, -9223372036854775808 ≤ z ∧ z ≤ 9223372036854775807
def badC (l : List Int) : Bool := l.any fun z => !decide (isCh z)
theorem badC_take {l : List Int} {k : Nat} {z : Int} (h : l[k]? = some z) : badC (l.take (k + 1)) = (badC (l.take k) || !decide (isCh z)) := by
  unfold badC
  rw [List.take_add_one, h, List.any_append]
  simp
theorem badC_mem {l : List Int} {z : Int} (h : z ∈ l) (hz : (!decide (isCh z)) = true) : badC l = true := by
  unfold badC
  rw [List.any_eq_true]
  exact ⟨z, h, hz⟩

set_option maxRecDepth 100000 in
theorem IndexFunc_c {S : Nat → Prop} {A : Option Addr} {n c : Nat} {l : List Int} (w : World) (hr : RdV w S A n (zs64 l)) (hl : L64 l) (hn : n ≤ 17592186044416) :
    Calls Tryz.prog 71 #[.slice A n c, .func (.func 46) #[] #[]] w fun e w' => (∃ r : Int, e = .returned (.int .i64 r) ∧ decide (0 ≤ r) = badC l) ∧ w' = w := by
  have hlen : l.length = n := by rw [← hr.len, zs64_length]
  have HL := Lib.hid hlen
  have HR := Lib.hid hr
  have H64 := Lib.hid hl
  clear hlen hr hl
  go_enter Tryz.func71, Tryz.ntmps71
  go_wp2
  go_loopw [8] (fun i wr => ∃ k : Nat, k ≤ n ∧ i = .int .i64 (k : Int) ∧ Hid (badC (l.take k) = false) ∧ wr = w) (fun i _ => n - (RowKit.intOf i).toNat)
  case atStart => exact ⟨0, Nat.zero_le _, rfl, rfl, rfl⟩
  case round =>
    obtain ⟨k, hk, rfl, hbad, rfl⟩ := hrel
    by_cases hlt : k < n
    · obtain ⟨z, hz⟩ : ∃ z, l[k]? = some z := ⟨l[k]'(by rw [HL.out]; exact hlt), List.getElem?_eq_getElem (by rw [HL.out]; exact hlt)⟩
      have hzm := List.mem_of_getElem? hz
      obtain ⟨hz1, hz2⟩ := H64.out z hzm
      obtain ⟨b, off, rfl, hSb, hc⟩ := HR.out.at_ (zs64_get hz)
      have hstep := badC_take hz
      have HZ := Lib.hid hz
      have HS := Lib.hid hstep
      have HM := Lib.hid hzm
      have hv := fun W => Text1_c z W hz1 hz2
      clear hz hstep hzm
      by_cases hch : isCh z
      · rw [show decide (isCh z) = true from decide_eq_true hch] at hv
        have hs2 := Lib.hid (show badC (l.take (k + 1)) = false by rw [HS.out, hbad.out, show decide (isCh z) = true from decide_eq_true hch]; rfl)
        clear hch
        go_wp2_with fail
        refine (hv _).mono ?_
        rintro e w' ⟨rfl, hw'⟩
        subst hw'
        go_wp2
        exact ⟨⟨k + 1, by omega, by go_num, hs2, trivial⟩, by simp [RowKit.intOf]; omega⟩
      · rw [show decide (isCh z) = false from decide_eq_false hch] at hv
        have hs2 := Lib.hid (show badC l = true from badC_mem HM.out (by rw [show decide (isCh z) = false from decide_eq_false hch]; rfl))
        clear hch
        go_wp2_with fail
        refine (hv _).mono ?_
        rintro e w' ⟨rfl, hw'⟩
        subst hw'
        go_wp2
        go_ret
        exact ⟨⟨_, rfl, by rw [hs2.out, decide_eq_true_eq]; omega⟩, rfl⟩
    · obtain rfl : k = n := by omega
      have hs2 := Lib.hid (show badC l = false by have := hbad.out; rwa [List.take_of_length_le (by rw [HL.out]; exact Nat.le_refl _)] at this)
      clear hbad
      go_wp2
      go_ret
      exact ⟨⟨_, rfl, by rw [hs2.out]; rfl⟩, rfl⟩
theorem ContainsFunc_c {S : Nat → Prop} {A : Option Addr} {n c : Nat} {l : List Int} (w : World) (hr : RdV w S A n (zs64 l)) (hl : L64 l) (hn : n ≤ 17592186044416) :
    Calls Tryz.prog 45 #[.slice A n c, .func (.func 46) #[] #[]] w fun e w' => e = .returned (.bool (badC l)) ∧ w' = w := by
  have h := IndexFunc_c (c := c) w hr hl hn
  generalize badC l = B at h ⊢
  clear hr hl
  go_enter Tryz.func45, Tryz.ntmps45
  go_wp2_with fail
  refine h.mono ?_
  rintro e w' ⟨⟨r, rfl, hr⟩, hw'⟩
  subst hw'
  subst hr
  go_wp2
  go_ret
  exact ⟨rfl, rfl⟩
end Go.Proofs.YtpmdcahomkdfmaaGreatDoor
