/-
  The walk of the law TextsTimes.
-/
import Derived.Test.YtdacdppmgcaioaaDoorRTal
import Derived.Test.YtdacdppmgcaioaaDoorRTrp
import Derived.Test.YtdacdppmgcaioaaDoorRTrg
import Derived.Laws.Concat
set_option linter.unusedVariables false
set_option linter.unusedSimpArgs false
namespace Go.Proofs.YtdacdppmgcaioaaDoor
open Go.RowKit Go.Lib

theorem rem20 (z : Int) : ∃ N : Nat, N < 20 ∧ (z.tmod 20 + 20).tmod 20 = (N : Int) ∧ -(20 : Int) < z.tmod 20 ∧ z.tmod 20 < 20 := by
  have h1 := Int.tmod_lt_of_pos z (show (0 : Int) < 20 by omega)
  have h2 := Int.lt_tmod_of_pos z (show (0 : Int) < 20 by omega)
  have h3 := Int.tmod_nonneg (20 : Int) (show (0 : Int) ≤ z.tmod 20 + 20 by omega)
  have h4 := Int.tmod_lt_of_pos (z.tmod 20 + 20) (show (0 : Int) < 20 by omega)
  exact ⟨((z.tmod 20 + 20).tmod 20).toNat, by omega, by omega, by omega, h1⟩
theorem timesT_nat {N : Nat} (h : N < 16385) : (timesT (N : Int)).toNat = N := by
  unfold timesT; rw [if_neg (by omega)]; omega
/-- What the calls tell. -/
structure TimesF (s t : ByteArray) (w : World) (N M K : Nat) (A B C R : ByteArray) (e f g h : Int) : Prop where
  c1 : ∀ W, Below w.heap.size w W → Calls Tryd.prog 30 #[.string s, .int .i64 (N : Int)] W fun x w' => x = .returned (.tuple #[.string A, .int .i64 e]) ∧ Below W.heap.size W w'
  c2 : ∀ W, Below w.heap.size w W → Calls Tryd.prog 30 #[.string s, .int .i64 (M : Int)] W fun x w' => x = .returned (.tuple #[.string B, .int .i64 f]) ∧ Below W.heap.size W w'
  c3 : ∀ W, Below w.heap.size w W → Calls Tryd.prog 30 #[.string s, .int .i64 (K : Int)] W fun x w' => x = .returned (.tuple #[.string C, .int .i64 g]) ∧ Below W.heap.size W w'
  c4 : ∀ W, Below w.heap.size w W → Calls Tryd.prog 32 #[.string s, .string t, .string t] W fun x w' => x = .returned (.tuple #[.string R, .int .i64 h]) ∧ Below W.heap.size W w'
theorem times_f {m : Int} (s t : ByteArray) (w : World) (hT : Tabs w) (hm : w.cell? ⟨0, 0, none⟩ = some (.int .i64 m)) (hs : s.size ≤ 1048576) (ht : t.size ≤ 1048576) {N M : Nat} (hN : N < 20) (hM : M < 20) :
    TimesF s t w N M (N + M) (wrote [s] (repT N s.data.toList)).1 (wrote [s] (repT M s.data.toList)).1 (wrote [s] (repT (N + M) s.data.toList)).1 (wrote [s, t, t] s.data.toList).1 (wrote [s] (repT N s.data.toList)).2 (wrote [s] (repT M s.data.toList)).2 (wrote [s] (repT (N + M) s.data.toList)).2 (wrote [s, t, t] s.data.toList).2 := by
  have hr : ∀ (Z : Nat), Z < 16385 → ∀ W, Below w.heap.size w W → Calls Tryd.prog 30 #[.string s, .int .i64 (Z : Int)] W fun x w' => x = .returned (.tuple #[.string (wrote [s] (repT Z s.data.toList)).1, .int .i64 (wrote [s] (repT Z s.data.toList)).2]) ∧ Below W.heap.size W w' := fun Z hZ W hW => by
    have h := Repeat_c s (Z : Int) W (hT.below hW) (by omega)
    rwa [timesT_nat hZ] at h
  refine ⟨hr N (by omega), hr M (by omega), hr (N + M) (by omega), fun W hW => ?_⟩
  have h := Replace_c s t t W (hT.below hW) ((hW.cell (p := ⟨0, 0, none⟩) (cell_lt hm)).trans hm) (by omega) (by omega) (by omega)
  have e : replT t.data.toList t.data.toList s.data.toList = s.data.toList := join_of _ _
  rwa [e] at h
set_option maxHeartbeats 4000000 in
set_option maxRecDepth 100000 in
theorem times1 {s t : ByteArray} {n m : Int} {w : World} {N M : Nat} {A B C : ByteArray}  (hcat : ∀ W, (Op.stringOp .add A B).run Tryd.prog W = .ok (.string C) W) (hN : N < 20) (hM : M < 20) (hn : (n.tmod 20 + 20).tmod 20 = (N : Int)) (hn1 : -(20 : Int) < n.tmod 20) (hn2 : n.tmod 20 < 20) (hmm : (m.tmod 20 + 20).tmod 20 = (M : Int)) (hm1 : -(20 : Int) < m.tmod 20) (hm2 : m.tmod 20 < 20)
    (hal : Calls Tryd.prog 21 #[] w fun e w' => e = .returned (.bool true) ∧ Below w.heap.size w w') (hF : TimesF s t w N M (N + M) A B C s 0 0 0 0) :
    Calls Tryd.prog 8 #[.string s, .int .i64 n, .int .i64 m, .string t] w fun e w' => e = .returned (.bool true) ∧ Below w.heap.size w w' := by
  obtain ⟨c1, c2, c3, c4⟩ := hF
  obtain ⟨K, hK⟩ : ∃ K, N + M = K := ⟨_, rfl⟩
  rw [hK] at c3
  have hKw : IntKind.i64.wrap ((N : Int) + (M : Int)) = (K : Int) := by rw [IntWalk.i64_in _ (by omega)]; omega
  obtain ⟨r1, hr1⟩ : ∃ r1, n.tmod 20 = r1 := ⟨_, rfl⟩
  obtain ⟨r2, hr2⟩ : ∃ r2, m.tmod 20 = r2 := ⟨_, rfl⟩
  rw [hr1] at hn hn1 hn2
  rw [hr2] at hmm hm1 hm2
  have hw1 : IntKind.i64.wrap (r1 + 20) = r1 + 20 := IntWalk.i64_in _ (by omega)
  have hw2 : IntKind.i64.wrap (r2 + 20) = r2 + 20 := IntWalk.i64_in _ (by omega)
  have HA := Lib.hid hal
  have H1 := Lib.hid c1
  have H2 := Lib.hid c2
  have H3 := Lib.hid c3
  have H4 := Lib.hid c4
  clear hal c1 c2 c3 c4 hK
  go_enter Tryd.func8, Tryd.ntmps8
  go_wp2_with fail
  refine HA.out.mono ?_
  rintro e w0 ⟨rfl, hb⟩
  have B0 := Lib.hid hb
  clear hb
  have K1 := Lib.hid (H1.out w0 B0.out)
  go_wp2_with fail
  refine K1.out.mono ?_
  rintro e w1 ⟨rfl, hb⟩
  have B1 := Lib.hid (B0.out.trans (hb.mono B0.out.size))
  clear hb
  have K2 := Lib.hid (H2.out w1 B1.out)
  go_wp2_with fail
  refine K2.out.mono ?_
  rintro e w2 ⟨rfl, hb⟩
  have B2 := Lib.hid (B1.out.trans (hb.mono B1.out.size))
  clear hb
  have K3 := Lib.hid (H3.out w2 B2.out)
  go_wp2_with fail
  refine K3.out.mono ?_
  rintro e w3 ⟨rfl, hb⟩
  have B3 := Lib.hid (B2.out.trans (hb.mono B2.out.size))
  clear hb
  have K4 := Lib.hid (H4.out w3 B3.out)
  go_wp2_with fail
  refine K4.out.mono ?_
  rintro e w4 ⟨rfl, hb⟩
  have B4 := Lib.hid (B3.out.trans (hb.mono B3.out.size))
  clear hb
  go_wp2_with (go_at_call 19; refine (lnum13_c _ _).mono ?_; rintro e w' ⟨rfl, rfl⟩)
  all_goals (go_ret; exact ⟨rfl, B4.out⟩)
set_option maxHeartbeats 4000000 in
set_option maxRecDepth 100000 in
theorem times2 {s t : ByteArray} {n m : Int} {w : World} {N M : Nat} {A B C R : ByteArray} {h : Int} (hcat : ∀ W, (Op.stringOp .add A B).run Tryd.prog W = .ok (.string C) W) (hh : h ≠ 0) (hN : N < 20) (hM : M < 20) (hn : (n.tmod 20 + 20).tmod 20 = (N : Int)) (hn1 : -(20 : Int) < n.tmod 20) (hn2 : n.tmod 20 < 20) (hmm : (m.tmod 20 + 20).tmod 20 = (M : Int)) (hm1 : -(20 : Int) < m.tmod 20) (hm2 : m.tmod 20 < 20)
    (hal : Calls Tryd.prog 21 #[] w fun e w' => e = .returned (.bool true) ∧ Below w.heap.size w w') (hF : TimesF s t w N M (N + M) A B C R 0 0 0 h) :
    Calls Tryd.prog 8 #[.string s, .int .i64 n, .int .i64 m, .string t] w fun e w' => e = .returned (.bool true) ∧ Below w.heap.size w w' := by
  have hh0 : (h != 0) = true := by simpa using hh
  obtain ⟨c1, c2, c3, c4⟩ := hF
  obtain ⟨K, hK⟩ : ∃ K, N + M = K := ⟨_, rfl⟩
  rw [hK] at c3
  have hKw : IntKind.i64.wrap ((N : Int) + (M : Int)) = (K : Int) := by rw [IntWalk.i64_in _ (by omega)]; omega
  obtain ⟨r1, hr1⟩ : ∃ r1, n.tmod 20 = r1 := ⟨_, rfl⟩
  obtain ⟨r2, hr2⟩ : ∃ r2, m.tmod 20 = r2 := ⟨_, rfl⟩
  rw [hr1] at hn hn1 hn2
  rw [hr2] at hmm hm1 hm2
  have hw1 : IntKind.i64.wrap (r1 + 20) = r1 + 20 := IntWalk.i64_in _ (by omega)
  have hw2 : IntKind.i64.wrap (r2 + 20) = r2 + 20 := IntWalk.i64_in _ (by omega)
  have HA := Lib.hid hal
  have H1 := Lib.hid c1
  have H2 := Lib.hid c2
  have H3 := Lib.hid c3
  have H4 := Lib.hid c4
  clear hal c1 c2 c3 c4 hK
  go_enter Tryd.func8, Tryd.ntmps8
  go_wp2_with fail
  refine HA.out.mono ?_
  rintro e w0 ⟨rfl, hb⟩
  have B0 := Lib.hid hb
  clear hb
  have K1 := Lib.hid (H1.out w0 B0.out)
  go_wp2_with fail
  refine K1.out.mono ?_
  rintro e w1 ⟨rfl, hb⟩
  have B1 := Lib.hid (B0.out.trans (hb.mono B0.out.size))
  clear hb
  have K2 := Lib.hid (H2.out w1 B1.out)
  go_wp2_with fail
  refine K2.out.mono ?_
  rintro e w2 ⟨rfl, hb⟩
  have B2 := Lib.hid (B1.out.trans (hb.mono B1.out.size))
  clear hb
  have K3 := Lib.hid (H3.out w2 B2.out)
  go_wp2_with fail
  refine K3.out.mono ?_
  rintro e w3 ⟨rfl, hb⟩
  have B3 := Lib.hid (B2.out.trans (hb.mono B2.out.size))
  clear hb
  have K4 := Lib.hid (H4.out w3 B3.out)
  go_wp2_with fail
  refine K4.out.mono ?_
  rintro e w4 ⟨rfl, hb⟩
  have B4 := Lib.hid (B3.out.trans (hb.mono B3.out.size))
  clear hb
  go_wp2_with (go_at_call 19; refine (lnum13_c _ _).mono ?_; rintro e w' ⟨rfl, rfl⟩)
  all_goals (go_ret; exact ⟨rfl, B4.out⟩)
set_option maxHeartbeats 4000000 in
set_option maxRecDepth 100000 in
theorem times3 {s t : ByteArray} {n m : Int} {w : World} {N M : Nat} {A B C : ByteArray} {e f g : Int} (hg : g ≠ 0) (hN : N < 20) (hM : M < 20) (hn : (n.tmod 20 + 20).tmod 20 = (N : Int)) (hn1 : -(20 : Int) < n.tmod 20) (hn2 : n.tmod 20 < 20) (hmm : (m.tmod 20 + 20).tmod 20 = (M : Int)) (hm1 : -(20 : Int) < m.tmod 20) (hm2 : m.tmod 20 < 20)
    (hal : Calls Tryd.prog 21 #[] w fun e w' => e = .returned (.bool true) ∧ Below w.heap.size w w') (hF : TimesF s t w N M (N + M) A B C s e f g 0) :
    Calls Tryd.prog 8 #[.string s, .int .i64 n, .int .i64 m, .string t] w fun e w' => e = .returned (.bool true) ∧ Below w.heap.size w w' := by
  have hg0 : (g == 0) = false := by simpa using hg
  obtain ⟨c1, c2, c3, c4⟩ := hF
  obtain ⟨K, hK⟩ : ∃ K, N + M = K := ⟨_, rfl⟩
  rw [hK] at c3
  have hKw : IntKind.i64.wrap ((N : Int) + (M : Int)) = (K : Int) := by rw [IntWalk.i64_in _ (by omega)]; omega
  obtain ⟨r1, hr1⟩ : ∃ r1, n.tmod 20 = r1 := ⟨_, rfl⟩
  obtain ⟨r2, hr2⟩ : ∃ r2, m.tmod 20 = r2 := ⟨_, rfl⟩
  rw [hr1] at hn hn1 hn2
  rw [hr2] at hmm hm1 hm2
  have hw1 : IntKind.i64.wrap (r1 + 20) = r1 + 20 := IntWalk.i64_in _ (by omega)
  have hw2 : IntKind.i64.wrap (r2 + 20) = r2 + 20 := IntWalk.i64_in _ (by omega)
  have HA := Lib.hid hal
  have H1 := Lib.hid c1
  have H2 := Lib.hid c2
  have H3 := Lib.hid c3
  have H4 := Lib.hid c4
  clear hal c1 c2 c3 c4 hK
  go_enter Tryd.func8, Tryd.ntmps8
  go_wp2_with fail
  refine HA.out.mono ?_
  rintro e w0 ⟨rfl, hb⟩
  have B0 := Lib.hid hb
  clear hb
  have K1 := Lib.hid (H1.out w0 B0.out)
  go_wp2_with fail
  refine K1.out.mono ?_
  rintro e w1 ⟨rfl, hb⟩
  have B1 := Lib.hid (B0.out.trans (hb.mono B0.out.size))
  clear hb
  have K2 := Lib.hid (H2.out w1 B1.out)
  go_wp2_with fail
  refine K2.out.mono ?_
  rintro e w2 ⟨rfl, hb⟩
  have B2 := Lib.hid (B1.out.trans (hb.mono B1.out.size))
  clear hb
  have K3 := Lib.hid (H3.out w2 B2.out)
  go_wp2_with fail
  refine K3.out.mono ?_
  rintro e w3 ⟨rfl, hb⟩
  have B3 := Lib.hid (B2.out.trans (hb.mono B2.out.size))
  clear hb
  have K4 := Lib.hid (H4.out w3 B3.out)
  go_wp2_with fail
  refine K4.out.mono ?_
  rintro e w4 ⟨rfl, hb⟩
  have B4 := Lib.hid (B3.out.trans (hb.mono B3.out.size))
  clear hb
  go_wp2_with (go_at_call 19; refine (lnum13_c _ _).mono ?_; rintro e w' ⟨rfl, rfl⟩)
  all_goals (go_ret; exact ⟨rfl, B4.out⟩)
set_option maxHeartbeats 4000000 in
set_option maxRecDepth 100000 in
theorem times4 {s t : ByteArray} {n m : Int} {w : World} {N M : Nat} {A B C R : ByteArray} {e f g h : Int} (hg : g ≠ 0) (hh : h ≠ 0) (hN : N < 20) (hM : M < 20) (hn : (n.tmod 20 + 20).tmod 20 = (N : Int)) (hn1 : -(20 : Int) < n.tmod 20) (hn2 : n.tmod 20 < 20) (hmm : (m.tmod 20 + 20).tmod 20 = (M : Int)) (hm1 : -(20 : Int) < m.tmod 20) (hm2 : m.tmod 20 < 20)
    (hal : Calls Tryd.prog 21 #[] w fun e w' => e = .returned (.bool true) ∧ Below w.heap.size w w') (hF : TimesF s t w N M (N + M) A B C R e f g h) :
    Calls Tryd.prog 8 #[.string s, .int .i64 n, .int .i64 m, .string t] w fun e w' => e = .returned (.bool true) ∧ Below w.heap.size w w' := by
  have hg0 : (g == 0) = false := by simpa using hg
  have hh0 : (h != 0) = true := by simpa using hh
  obtain ⟨c1, c2, c3, c4⟩ := hF
  obtain ⟨K, hK⟩ : ∃ K, N + M = K := ⟨_, rfl⟩
  rw [hK] at c3
  have hKw : IntKind.i64.wrap ((N : Int) + (M : Int)) = (K : Int) := by rw [IntWalk.i64_in _ (by omega)]; omega
  obtain ⟨r1, hr1⟩ : ∃ r1, n.tmod 20 = r1 := ⟨_, rfl⟩
  obtain ⟨r2, hr2⟩ : ∃ r2, m.tmod 20 = r2 := ⟨_, rfl⟩
  rw [hr1] at hn hn1 hn2
  rw [hr2] at hmm hm1 hm2
  have hw1 : IntKind.i64.wrap (r1 + 20) = r1 + 20 := IntWalk.i64_in _ (by omega)
  have hw2 : IntKind.i64.wrap (r2 + 20) = r2 + 20 := IntWalk.i64_in _ (by omega)
  have HA := Lib.hid hal
  have H1 := Lib.hid c1
  have H2 := Lib.hid c2
  have H3 := Lib.hid c3
  have H4 := Lib.hid c4
  clear hal c1 c2 c3 c4 hK
  go_enter Tryd.func8, Tryd.ntmps8
  go_wp2_with fail
  refine HA.out.mono ?_
  rintro e w0 ⟨rfl, hb⟩
  have B0 := Lib.hid hb
  clear hb
  have K1 := Lib.hid (H1.out w0 B0.out)
  go_wp2_with fail
  refine K1.out.mono ?_
  rintro e w1 ⟨rfl, hb⟩
  have B1 := Lib.hid (B0.out.trans (hb.mono B0.out.size))
  clear hb
  have K2 := Lib.hid (H2.out w1 B1.out)
  go_wp2_with fail
  refine K2.out.mono ?_
  rintro e w2 ⟨rfl, hb⟩
  have B2 := Lib.hid (B1.out.trans (hb.mono B1.out.size))
  clear hb
  have K3 := Lib.hid (H3.out w2 B2.out)
  go_wp2_with fail
  refine K3.out.mono ?_
  rintro e w3 ⟨rfl, hb⟩
  have B3 := Lib.hid (B2.out.trans (hb.mono B2.out.size))
  clear hb
  have K4 := Lib.hid (H4.out w3 B3.out)
  go_wp2_with fail
  refine K4.out.mono ?_
  rintro e w4 ⟨rfl, hb⟩
  have B4 := Lib.hid (B3.out.trans (hb.mono B3.out.size))
  clear hb
  go_wp2_with (go_at_call 19; refine (lnum13_c _ _).mono ?_; rintro e w' ⟨rfl, rfl⟩)
  all_goals (go_ret; exact ⟨rfl, B4.out⟩)
theorem cat_rep (N M : Nat) (L : List UInt8) : (⟨(repT N L).toArray⟩ : ByteArray) ++ ⟨(repT M L).toArray⟩ = ⟨(repT (N + M) L).toArray⟩ := by
  apply ByteArray.ext
  rw [ByteArray.data_append, repT_add]
  simp
theorem tell_two (xs : List ByteArray) (out : List UInt8) : (wrote xs out = (⟨out.toArray⟩, 0) ∧ errX xs = 0 ∧ out.length ≤ 16384) ∨ (wrote xs out).2 ≠ 0 := by
  rcases errX_cases xs with h | h
  · rw [wrote_ok h]
    by_cases hl : out.length ≤ 16384
    · exact .inl ⟨tell_ok hl, h, hl⟩
    · right; rw [tell_no (by omega)]; decide
  · right; rw [wrote_no h]; decide
theorem textsTimes_c {q : Int} (s : ByteArray) (n m : Int) (t : ByteArray) (w : World) (hT : Tabs w) (hm : w.cell? ⟨0, 0, none⟩ = some (.int .i64 q)) (hs : s.size ≤ 1048576) (ht : t.size ≤ 1048576) :
    Calls Tryd.prog 8 #[.string s, .int .i64 n, .int .i64 m, .string t] w fun e w' => e = .returned (.bool true) ∧ Below w.heap.size w w' := by
  have hal := alive13_c w hT hm
  obtain ⟨N, hN, hn, hn1, hn2⟩ := rem20 n
  obtain ⟨M, hM, hmm, hm1, hm2⟩ := rem20 m
  have hF := times_f s t w hT hm hs ht hN hM
  rcases tell_two [s] (repT (N + M) s.data.toList) with ⟨h1, h0, hl⟩ | h1
  · have hlen := repT_len (N + M) s.data.toList
    have e1 : (repT N s.data.toList).length ≤ 16384 := by
      rw [repT_add, List.length_append] at hl; omega
    have e2 : (repT M s.data.toList).length ≤ 16384 := by
      rw [repT_add, List.length_append] at hl; omega
    rw [wrote_ok h0, wrote_ok h0, wrote_ok h0, tell_ok e1, tell_ok e2, tell_ok hl] at hF
    have hcat : ∀ W, (Op.stringOp .add (⟨(repT N s.data.toList).toArray⟩ : ByteArray) ⟨(repT M s.data.toList).toArray⟩).run Tryd.prog W = .ok (.string ⟨(repT (N + M) s.data.toList).toArray⟩) W := fun W => by
      have h := run_string_add_sum (P := Tryd.prog) W (⟨(repT N s.data.toList).toArray⟩ : ByteArray) ⟨(repT M s.data.toList).toArray⟩ (by
        show (repT N s.data.toList).toArray.size + (repT M s.data.toList).toArray.size ≤ _
        simp; omega)
      rwa [cat_rep] at h
    rcases tell_two [s, t, t] s.data.toList with ⟨h2, -, -⟩ | h2
    · rw [h2, show (⟨s.data.toList.toArray⟩ : ByteArray) = s by simp] at hF
      exact times1 hcat hN hM hn hn1 hn2 hmm hm1 hm2 hal hF
    · exact times2 hcat h2 hN hM hn hn1 hn2 hmm hm1 hm2 hal hF
  · rcases tell_two [s, t, t] s.data.toList with ⟨h2, -, -⟩ | h2
    · rw [h2, show (⟨s.data.toList.toArray⟩ : ByteArray) = s by simp] at hF
      exact times3 h1 hN hM hn hn1 hn2 hmm hm1 hm2 hal hF
    · exact times4 h1 h2 hN hM hn hn1 hn2 hmm hm1 hm2 hal hF
end Go.Proofs.YtdacdppmgcaioaaDoor
