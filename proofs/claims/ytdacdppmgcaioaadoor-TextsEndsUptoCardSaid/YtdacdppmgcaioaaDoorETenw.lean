/-
  The walk of the law TextsEnds.
-/
import Derived.Test.YtdacdppmgcaioaaDoorETlr
set_option linter.unusedVariables false
set_option linter.unusedSimpArgs false
namespace Go.Proofs.YtdacdppmgcaioaaDoor
open Go.RowKit Go.Lib

theorem dl_inj {xs ys : List ByteArray} (h : xs.map dl = ys.map dl) : xs = ys := by
  have hf : ∀ a b : ByteArray, dl a = dl b → a = b := fun a b e => ByteArray.ext (Array.ext' e)
  induction xs generalizing ys with
  | nil =>
    cases ys with
    | nil => rfl
    | cons y r => cases h
  | cons x r ih =>
    cases ys with
    | nil => cases h
    | cons y r2 =>
      simp only [List.map_cons, List.cons.injEq] at h
      rw [hf _ _ h.1, ih h.2]
/-- Two that come to the same tell the same. -/
theorem lines_two {s : ByteArray} {e1 e2 : Ending} {w1 w2 : World} (h1 : LinesE s e1 w1) (h2 : LinesE s e2 w2) : ∃ (A1 A2 : Option Addr) (c1 c2 : Nat) (k : Int) (xs : List ByteArray), e1 = .returned (.tuple #[.slice A1 xs.length c1, .int .i64 k]) ∧ e2 = .returned (.tuple #[.slice A2 xs.length c2, .int .i64 k]) ∧ RdX w1 w1.heap.size A1 xs ∧ RdX w2 w2.heap.size A2 xs ∧ xs.length ≤ s.size + 1 := by
  have hnil : ∀ W : World, RdX W W.heap.size none [] := fun W i x hx => by simp at hx
  rcases h1 with ⟨a1, rfl⟩ | ⟨a1, ⟨p, hp, hl⟩, rfl⟩ | ⟨a1, b1, A1, c1, xs, hx, rfl, hr⟩ <;> rcases h2 with ⟨a2, rfl⟩ | ⟨a2, ⟨q, hq, hm⟩, rfl⟩ | ⟨a2, b2, A2, c2, ys, hy, rfl, hr2⟩
  · exact ⟨none, none, 0, 0, 61, [], rfl, rfl, hnil _, hnil _, Nat.zero_le _⟩
  · omega
  · omega
  · omega
  · exact ⟨none, none, 0, 0, 5, [], rfl, rfl, hnil _, hnil _, Nat.zero_le _⟩
  · have := b2 p hp; omega
  · omega
  · have := b1 q hq; omega
  · have e : xs = ys := dl_inj (hx.trans hy.symm)
    subst e
    refine ⟨A1, A2, c1, c2, 0, xs, rfl, rfl, hr, hr2, ?_⟩
    have h3 : xs.length = (linesP (cutP (nxOf [10]) s.data.toList)).length := by rw [← hx, List.length_map]
    have h4 : (linesP (cutP (nxOf [10]) s.data.toList)).length ≤ (cutP (nxOf [10]) s.data.toList).length := by
      unfold linesP; split
      · rw [List.length_dropLast]; omega
      · exact Nat.le_refl _
    have h5 := cutP_len (nxOf_goes [10]) _ s.data.toList (Nat.le_refl _)
    rw [← sizeT_list] at h5
    omega
set_option maxHeartbeats 8000000 in
set_option maxRecDepth 100000 in
theorem textsEnds_c {m : Int} (s t u : ByteArray) (n : Int) (w : World) (hT : Tabs w) (hm : w.cell? ⟨0, 0, none⟩ = some (.int .i64 m)) (hs : s.size ≤ 1048576) (ht : t.size ≤ 1048576) (hu : u.size ≤ 1048576) (hn : n ≤ 9223372036854775807) :
    Calls Tryd.prog 4 #[.string s, .string t, .string u, .int .i64 n] w fun e w' => e = .returned (.bool true) ∧ Below w.heap.size w w' := by
  have hmB : ∀ W, Below w.heap.size w W → W.cell? ⟨0, 0, none⟩ = some (.int .i64 m) := fun W hW => (hW.cell (p := ⟨0, 0, none⟩) (cell_lt hm)).trans hm
  have c0 : ∀ W, Below w.heap.size w W → Calls Tryd.prog 22 #[.string s, .string t] W fun e w' => e = .returned (.tuple #[.bool (saidB [s, t] (Lib.hasPrefix s.data.toList t.data.toList)).1, .int .i64 (saidB [s, t] (Lib.hasPrefix s.data.toList t.data.toList)).2]) ∧ Below W.heap.size W w' := fun W hW => Begins_c s t W (hT.below hW) (by omega) (by omega)
  have c1 : ∀ W, Below w.heap.size w W → Calls Tryd.prog 23 #[.string s, .string t] W fun e w' => e = .returned (.tuple #[.bool (saidB [s, t] (Lib.hasPrefix s.data.toList t.data.toList)).1, .int .i64 (saidB [s, t] (Lib.hasPrefix s.data.toList t.data.toList)).2]) ∧ Below W.heap.size W w' := fun W hW => rBegins_c s t W (by omega) (by omega)
  have c2 : ∀ W, Below w.heap.size w W → Calls Tryd.prog 24 #[.string s, .string t] W fun e w' => e = .returned (.tuple #[.bool (saidB [s, t] (Lib.hasSuffix s.data.toList t.data.toList)).1, .int .i64 (saidB [s, t] (Lib.hasSuffix s.data.toList t.data.toList)).2]) ∧ Below W.heap.size W w' := fun W hW => EndsT_c s t W (hT.below hW) (by omega) (by omega)
  have c3 : ∀ W, Below w.heap.size w W → Calls Tryd.prog 25 #[.string s, .string t] W fun e w' => e = .returned (.tuple #[.bool (saidB [s, t] (Lib.hasSuffix s.data.toList t.data.toList)).1, .int .i64 (saidB [s, t] (Lib.hasSuffix s.data.toList t.data.toList)).2]) ∧ Below W.heap.size W w' := fun W hW => rEnds_c s t W (by omega) (by omega)
  have c4 : ∀ W, Below w.heap.size w W → Calls Tryd.prog 26 #[.string s, .string t] W fun e w' => e = .returned (.tuple #[.string (wrote [s, t] (Lib.trimPrefix s.data.toList t.data.toList)).1, .int .i64 (wrote [s, t] (Lib.trimPrefix s.data.toList t.data.toList)).2]) ∧ Below W.heap.size W w' := fun W hW => TrimLeft_c s t W (hT.below hW) (by omega) (by omega)
  have c5 : ∀ W, Below w.heap.size w W → Calls Tryd.prog 27 #[.string s, .string t] W fun e w' => e = .returned (.tuple #[.string (wrote [s, t] (Lib.trimPrefix s.data.toList t.data.toList)).1, .int .i64 (wrote [s, t] (Lib.trimPrefix s.data.toList t.data.toList)).2]) ∧ Below W.heap.size W w' := fun W hW => rTrimLeft_c s t W (by omega) (by omega)
  have c6 : ∀ W, Below w.heap.size w W → Calls Tryd.prog 28 #[.string s, .string t] W fun e w' => e = .returned (.tuple #[.string (wrote [s, t] (Lib.trimSuffix s.data.toList t.data.toList)).1, .int .i64 (wrote [s, t] (Lib.trimSuffix s.data.toList t.data.toList)).2]) ∧ Below W.heap.size W w' := fun W hW => TrimRight_c s t W (hT.below hW) (by omega) (by omega)
  have c7 : ∀ W, Below w.heap.size w W → Calls Tryd.prog 29 #[.string s, .string t] W fun e w' => e = .returned (.tuple #[.string (wrote [s, t] (Lib.trimSuffix s.data.toList t.data.toList)).1, .int .i64 (wrote [s, t] (Lib.trimSuffix s.data.toList t.data.toList)).2]) ∧ Below W.heap.size W w' := fun W hW => rTrimRight_c s t W (by omega) (by omega)
  have c8 : ∀ W, Below w.heap.size w W → Calls Tryd.prog 30 #[.string s, .int .i64 n] W fun e w' => e = .returned (.tuple #[.string (wrote [s] (repT (timesT n).toNat s.data.toList)).1, .int .i64 (wrote [s] (repT (timesT n).toNat s.data.toList)).2]) ∧ Below W.heap.size W w' := fun W hW => Repeat_c s n W (hT.below hW) (by omega)
  have c9 : ∀ W, Below w.heap.size w W → Calls Tryd.prog 31 #[.string s, .int .i64 n] W fun e w' => e = .returned (.tuple #[.string (wrote [s] (repT (timesT n).toNat s.data.toList)).1, .int .i64 (wrote [s] (repT (timesT n).toNat s.data.toList)).2]) ∧ Below W.heap.size W w' := fun W hW => rRepeat_c s n W hs hn
  have c10 : ∀ W, Below w.heap.size w W → Calls Tryd.prog 32 #[.string s, .string t, .string u] W fun e w' => e = .returned (.tuple #[.string (wrote [s, t, u] (replT t.data.toList u.data.toList s.data.toList)).1, .int .i64 (wrote [s, t, u] (replT t.data.toList u.data.toList s.data.toList)).2]) ∧ Below W.heap.size W w' := fun W hW => Replace_c s t u W (hT.below hW) (hmB W hW) (by omega) (by omega) (by omega)
  have c11 : ∀ W, Below w.heap.size w W → Calls Tryd.prog 33 #[.string s, .string t, .string u] W fun e w' => e = .returned (.tuple #[.string (wrote [s, t, u] (replT t.data.toList u.data.toList s.data.toList)).1, .int .i64 (wrote [s, t, u] (replT t.data.toList u.data.toList s.data.toList)).2]) ∧ Below W.heap.size W w' := fun W hW => rReplace_c s t u W hs ht hu
  have c12 : ∀ W, Below w.heap.size w W → Calls Tryd.prog 34 #[.string s] W fun e w' => LinesE s e w' ∧ Below W.heap.size W w' := fun W hW => Lines_c s W (hT.below hW) (hmB W hW) hs
  have c13 : ∀ W, Below w.heap.size w W → Calls Tryd.prog 35 #[.string s] W fun e w' => LinesE s e w' ∧ Below W.heap.size W w' := fun W hW => rLines_c s W hs
  have c14 : ∀ W, Below w.heap.size w W → Calls Tryd.prog 21 #[] W fun e w' => e = .returned (.bool true) ∧ Below W.heap.size W w' := fun W hW => alive13_c W (hT.below hW) (hmB W hW)
  obtain ⟨Rsb, hRsb⟩ : ∃ R, saidB [s, t] (Lib.hasPrefix s.data.toList t.data.toList) = R := ⟨_, rfl⟩
  rw [hRsb] at c0 c1
  obtain ⟨Asb, Ksb⟩ := Rsb
  obtain ⟨Rse, hRse⟩ : ∃ R, saidB [s, t] (Lib.hasSuffix s.data.toList t.data.toList) = R := ⟨_, rfl⟩
  rw [hRse] at c2 c3
  obtain ⟨Ase, Kse⟩ := Rse
  obtain ⟨Rwl, hRwl⟩ : ∃ R, wrote [s, t] (Lib.trimPrefix s.data.toList t.data.toList) = R := ⟨_, rfl⟩
  rw [hRwl] at c4 c5
  obtain ⟨Awl, Kwl⟩ := Rwl
  obtain ⟨Rwr, hRwr⟩ : ∃ R, wrote [s, t] (Lib.trimSuffix s.data.toList t.data.toList) = R := ⟨_, rfl⟩
  rw [hRwr] at c6 c7
  obtain ⟨Awr, Kwr⟩ := Rwr
  obtain ⟨Rrp, hRrp⟩ : ∃ R, wrote [s] (repT (timesT n).toNat s.data.toList) = R := ⟨_, rfl⟩
  rw [hRrp] at c8 c9
  obtain ⟨Arp, Krp⟩ := Rrp
  obtain ⟨Rre, hRre⟩ : ∃ R, wrote [s, t, u] (replT t.data.toList u.data.toList s.data.toList) = R := ⟨_, rfl⟩
  rw [hRre] at c10 c11
  obtain ⟨Are, Kre⟩ := Rre
  have H0 := Lib.hid c0
  have H1 := Lib.hid c1
  have H2 := Lib.hid c2
  have H3 := Lib.hid c3
  have H4 := Lib.hid c4
  have H5 := Lib.hid c5
  have H6 := Lib.hid c6
  have H7 := Lib.hid c7
  have H8 := Lib.hid c8
  have H9 := Lib.hid c9
  have H10 := Lib.hid c10
  have H11 := Lib.hid c11
  have H12 := Lib.hid c12
  have H13 := Lib.hid c13
  have H14 := Lib.hid c14
  clear c0 c1 c2 c3 c4 c5 c6 c7 c8 c9 c10 c11 c12 c13 c14 hmB hT hm hRsb hRse hRwl hRwr hRrp hRre
  have B0 := Lib.hid (Below.refl w.heap.size w)
  go_enter Tryd.func4, Tryd.ntmps4
  have K0 := Lib.hid (H0.out w B0.out)
  go_wp2_with fail
  refine K0.out.mono ?_
  rintro e w1 ⟨rfl, hb⟩
  have B1 := Lib.hid (B0.out.trans (hb.mono B0.out.size))
  clear hb
  have K1 := Lib.hid (H1.out w1 B1.out)
  go_wp2_with fail
  refine K1.out.mono ?_
  rintro e w2 ⟨rfl, hb⟩
  have B2 := Lib.hid (B1.out.trans (hb.mono B1.out.size))
  clear hb
  have K2 := Lib.hid (H2.out w2 B2.out)
  go_wp2_with fail
  refine K2.out.mono ?_
  rintro e w3 ⟨rfl, hb⟩
  have B3 := Lib.hid (B2.out.trans (hb.mono B2.out.size))
  clear hb
  have K3 := Lib.hid (H3.out w3 B3.out)
  go_wp2_with fail
  refine K3.out.mono ?_
  rintro e w4 ⟨rfl, hb⟩
  have B4 := Lib.hid (B3.out.trans (hb.mono B3.out.size))
  clear hb
  have K4 := Lib.hid (H4.out w4 B4.out)
  go_wp2_with fail
  refine K4.out.mono ?_
  rintro e w5 ⟨rfl, hb⟩
  have B5 := Lib.hid (B4.out.trans (hb.mono B4.out.size))
  clear hb
  have K5 := Lib.hid (H5.out w5 B5.out)
  go_wp2_with fail
  refine K5.out.mono ?_
  rintro e w6 ⟨rfl, hb⟩
  have B6 := Lib.hid (B5.out.trans (hb.mono B5.out.size))
  clear hb
  have K6 := Lib.hid (H6.out w6 B6.out)
  go_wp2_with fail
  refine K6.out.mono ?_
  rintro e w7 ⟨rfl, hb⟩
  have B7 := Lib.hid (B6.out.trans (hb.mono B6.out.size))
  clear hb
  have K7 := Lib.hid (H7.out w7 B7.out)
  go_wp2_with fail
  refine K7.out.mono ?_
  rintro e w8 ⟨rfl, hb⟩
  have B8 := Lib.hid (B7.out.trans (hb.mono B7.out.size))
  clear hb
  have K8 := Lib.hid (H8.out w8 B8.out)
  go_wp2_with fail
  refine K8.out.mono ?_
  rintro e w9 ⟨rfl, hb⟩
  have B9 := Lib.hid (B8.out.trans (hb.mono B8.out.size))
  clear hb
  have K9 := Lib.hid (H9.out w9 B9.out)
  go_wp2_with fail
  refine K9.out.mono ?_
  rintro e w10 ⟨rfl, hb⟩
  have B10 := Lib.hid (B9.out.trans (hb.mono B9.out.size))
  clear hb
  have K10 := Lib.hid (H10.out w10 B10.out)
  go_wp2_with fail
  refine K10.out.mono ?_
  rintro e w11 ⟨rfl, hb⟩
  have B11 := Lib.hid (B10.out.trans (hb.mono B10.out.size))
  clear hb
  have K11 := Lib.hid (H11.out w11 B11.out)
  go_wp2_with fail
  refine K11.out.mono ?_
  rintro e w12 ⟨rfl, hb⟩
  have B12 := Lib.hid (B11.out.trans (hb.mono B11.out.size))
  clear hb
  have K12 := Lib.hid (H12.out w12 B12.out)
  go_wp2_with fail
  refine K12.out.mono ?_
  rintro e1 w13 ⟨hE1, hb⟩
  have B13 := Lib.hid (B12.out.trans (hb.mono B12.out.size))
  clear hb
  have hsome : ∃ (A1 : Option Addr) (n1 c1 : Nat) (k : Int), e1 = .returned (.tuple #[.slice A1 n1 c1, .int .i64 k]) := by
    obtain ⟨A1, A2, c1, c2, k, xs, h1, -, -, -, -⟩ := lines_two hE1 hE1
    exact ⟨A1, _, c1, k, h1⟩
  obtain ⟨A1, n1, c1, k1, rfl⟩ := hsome
  have HE1 := Lib.hid hE1
  clear hE1
  have K13 := Lib.hid (H13.out w13 B13.out)
  go_wp2_with fail
  refine K13.out.mono ?_
  rintro e2 w14 ⟨hE2, hb⟩
  have hbl : Below w13.heap.size w13 w14 := hb
  have B14 := Lib.hid (B13.out.trans (hb.mono B13.out.size))
  clear hb
  obtain ⟨A1', A2, c1', c2, k, xs, h1, rfl, hr1, hr2, hxl⟩ := lines_two HE1.out hE2
  injection h1 with h1; injection h1 with h1
  simp only [Array.mk.injEq, List.cons.injEq, Value.slice.injEq, Value.int.injEq, and_true, true_and] at h1
  obtain ⟨⟨rfl, rfl, rfl⟩, rfl⟩ := h1
  have hsm := sameStrings_c (B := w14.heap.size) (c := c1) (c' := c2) w14 ((hr1.below hbl).up hbl.size) hr2 (by omega) (by omega)
  rw [decide_eq_true (rfl : xs = xs)] at hsm
  have HSM := Lib.hid hsm
  obtain ⟨nx, hnx⟩ : ∃ nx, xs.length = nx := ⟨_, rfl⟩
  rw [hnx] at HSM ⊢
  clear hsm hr1 hr2 hE2 hbl hnx
  go_wp2_with (go_at_call 19; refine (lnum13_c _ _).mono ?_; rintro e w' ⟨rfl, rfl⟩)
  refine HSM.out.mono ?_
  rintro e w15 ⟨rfl, hb⟩
  have B15 := Lib.hid (B14.out.trans (hb.mono B14.out.size))
  have K14 := Lib.hid (H14.out w15 B15.out)
  clear hb
  go_wp2_with (go_at_call 19; refine (lnum13_c _ _).mono ?_; rintro e w' ⟨rfl, rfl⟩)
  refine K14.out.mono ?_
  rintro e w16 ⟨rfl, hb⟩
  have B16 := Lib.hid (B15.out.trans (hb.mono B15.out.size))
  clear hb
  go_wp2_with fail
  go_ret
  exact ⟨rfl, B16.out⟩
end Go.Proofs.YtdacdppmgcaioaaDoor
