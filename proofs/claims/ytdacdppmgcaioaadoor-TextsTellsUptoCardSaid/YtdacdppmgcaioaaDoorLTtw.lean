/-
  The walk of the law TextsTells.
-/
import Derived.Test.YtdacdppmgcaioaaDoorLTrs
import Derived.Test.YtdacdppmgcaioaaDoorLTtm
import Derived.Test.YtdacdppmgcaioaaDoorLTmv
import Derived.Test.YtdacdppmgcaioaaDoorLTrj
import Derived.Test.YtdacdppmgcaioaaDoorLTal
import Derived.Test.YtdacdppmgcaioaaDoorLTss
set_option linter.unusedVariables false
set_option linter.unusedSimpArgs false
namespace Go.Proofs.YtdacdppmgcaioaaDoor
open Go.RowKit Go.Lib

theorem dl_injX {xs ys : List ByteArray} (h : xs.map dl = ys.map dl) : xs = ys := by
  have hf : ∀ a b : ByteArray, dl a = dl b → a = b := fun a b e => ByteArray.ext (Array.ext' e)
  induction xs generalizing ys with
  | nil =>
    cases ys with
    | nil => rfl
    | cons y r => cases h
  | cons x r ih =>
    cases ys with
    | nil => cases h
    | cons y r2 =>
      simp only [List.map_cons, List.cons.injEq] at h
      rw [hf _ _ h.1, ih h.2]
theorem partsP_len (s sep : ByteArray) : (partsP s sep).length ≤ s.size + 1 := by
  unfold partsP
  split
  · exact Nat.zero_le _
  · rw [sizeT_list]; exact splitP_len _ _
/-- Two that come to the same tell the same. -/
theorem spl_two {s sep : ByteArray} {e1 e2 : Ending} {w1 w2 : World} (h1 : SplX s sep e1 w1) (h2 : SplX s sep e2 w2) : ∃ (A1 A2 : Option Addr) (c1 c2 : Nat) (k : Int) (xs : List ByteArray), e1 = .returned (.tuple #[.slice A1 xs.length c1, .int .i64 k]) ∧ e2 = .returned (.tuple #[.slice A2 xs.length c2, .int .i64 k]) ∧ RdX w1 w1.heap.size A1 xs ∧ RdX w2 w2.heap.size A2 xs ∧ xs.length ≤ s.size + 1 := by
  have hnil : ∀ W : World, RdX W W.heap.size none [] := fun W i x hx => by simp at hx
  rcases h1 with ⟨a1, rfl⟩ | ⟨a1, ⟨p, hp, hl⟩, rfl⟩ | ⟨a1, b1, A1, c1, xs, hx, rfl, hr⟩ <;> rcases h2 with ⟨a2, rfl⟩ | ⟨a2, ⟨q, hq, hm⟩, rfl⟩ | ⟨a2, b2, A2, c2, ys, hy, rfl, hr2⟩
  · exact ⟨none, none, 0, 0, 61, [], rfl, rfl, hnil _, hnil _, Nat.zero_le _⟩
  · omega
  · omega
  · omega
  · exact ⟨none, none, 0, 0, 5, [], rfl, rfl, hnil _, hnil _, Nat.zero_le _⟩
  · have := b2 p hp; omega
  · omega
  · have := b1 q hq; omega
  · have e : xs = ys := dl_injX (hx.trans hy.symm)
    subst e
    refine ⟨A1, A2, c1, c2, 0, xs, rfl, rfl, hr, hr2, ?_⟩
    have h3 : xs.length = (partsP s sep).length := by rw [← hx, List.length_map]
    have h4 := partsP_len s sep
    omega
set_option maxHeartbeats 8000000 in
set_option maxRecDepth 100000 in
theorem textsTells_c {m : Int} {A : Option Addr} {c : Nat} {xs : List ByteArray} (s sep : ByteArray) (w : World) (hT : Tabs w) (hm : w.cell? ⟨0, 0, none⟩ = some (.int .i64 m)) (hx : RdX w w.heap.size A xs) (hA : A = none → xs.length = 0 ∧ c = 0) (hxs : ∀ x ∈ xs, x.size ≤ 1048576) (hn : xs.length ≤ 1048576) (hs : s.size ≤ 1048576) (ht : sep.size ≤ 1048576) :
    Calls Tryd.prog 3 #[.slice A xs.length c, .string s, .string sep] w fun e w' => e = .returned (.bool true) ∧ Below w.heap.size w w' := by
  have hmB : ∀ W, Below w.heap.size w W → W.cell? ⟨0, 0, none⟩ = some (.int .i64 m) := fun W hW => (hW.cell (p := ⟨0, 0, none⟩) (cell_lt hm)).trans hm
  have c0 : ∀ W, Below w.heap.size w W → Calls Tryd.prog 9 #[.slice A xs.length c, .string sep] W fun e w' => e = .returned (.tuple #[.string (wrote (xs ++ [sep]) (joinB (dl sep) (xs.map dl))).1, .int .i64 (wrote (xs ++ [sep]) (joinB (dl sep) (xs.map dl))).2]) ∧ Below W.heap.size W w' := fun W hW => Join_c sep W (hT.below hW) ((hx.below hW).up hW.size) hA (fun x h => by have := hxs x h; omega) (by omega) (by omega)
  have c1 : ∀ W, Below w.heap.size w W → Calls Tryd.prog 10 #[.slice A xs.length c, .string sep] W fun e w' => e = .returned (.tuple #[.string (wrote (xs ++ [sep]) (joinB (dl sep) (xs.map dl))).1, .int .i64 (wrote (xs ++ [sep]) (joinB (dl sep) (xs.map dl))).2]) ∧ Below W.heap.size W w' := fun W hW => rJoin_c sep W ((hx.below hW).up hW.size) hA hxs hn ht
  have c4 : ∀ W, Below w.heap.size w W → Calls Tryd.prog 13 #[.string s] W fun e w' => e = .returned (.tuple #[.string (wrote [s] (s.data.toList.map (lt8 65 97))).1, .int .i64 (wrote [s] (s.data.toList.map (lt8 65 97))).2]) ∧ Below W.heap.size W w' := fun W hW => Lower_c s W (hT.below hW) (by omega)
  have c5 : ∀ W, Below w.heap.size w W → Calls Tryd.prog 14 #[.string s] W fun e w' => e = .returned (.tuple #[.string (wrote [s] (s.data.toList.map (lt8 65 97))).1, .int .i64 (wrote [s] (s.data.toList.map (lt8 65 97))).2]) ∧ Below W.heap.size W w' := fun W hW => rLower_c s W hs
  have c6 : ∀ W, Below w.heap.size w W → Calls Tryd.prog 15 #[.string s] W fun e w' => e = .returned (.tuple #[.string (wrote [s] (s.data.toList.map (lt8 97 65))).1, .int .i64 (wrote [s] (s.data.toList.map (lt8 97 65))).2]) ∧ Below W.heap.size W w' := fun W hW => Upper_c s W (hT.below hW) (by omega)
  have c7 : ∀ W, Below w.heap.size w W → Calls Tryd.prog 16 #[.string s] W fun e w' => e = .returned (.tuple #[.string (wrote [s] (s.data.toList.map (lt8 97 65))).1, .int .i64 (wrote [s] (s.data.toList.map (lt8 97 65))).2]) ∧ Below W.heap.size W w' := fun W hW => rUpper_c s W hs
  have c8 : ∀ W, Below w.heap.size w W → Calls Tryd.prog 17 #[.string s] W fun e w' => e = .returned (.tuple #[.string (wrote [s] (Lib.trimS s.data.toList [32, 9, 10, 13])).1, .int .i64 (wrote [s] (Lib.trimS s.data.toList [32, 9, 10, 13])).2]) ∧ Below W.heap.size W w' := fun W hW => Trim_c s W (hT.below hW) hs
  have c9 : ∀ W, Below w.heap.size w W → Calls Tryd.prog 18 #[.string s] W fun e w' => e = .returned (.tuple #[.string (wrote [s] (Lib.trimS s.data.toList [32, 9, 10, 13])).1, .int .i64 (wrote [s] (Lib.trimS s.data.toList [32, 9, 10, 13])).2]) ∧ Below W.heap.size W w' := fun W hW => rTrimW_c s W hs
  have c2 : ∀ W, Below w.heap.size w W → Calls Tryd.prog 11 #[.string s, .string sep] W fun e w' => SplX s sep e w' ∧ Below W.heap.size W w' := fun W hW => (Split_c s sep W (hT.below hW) (hmB W hW) (by omega) (by omega)).mono fun e w' h => ⟨h.1.x, h.2⟩
  have c3 : ∀ W, Below w.heap.size w W → Calls Tryd.prog 12 #[.string s, .string sep] W fun e w' => SplX s sep e w' ∧ Below W.heap.size W w' := fun W hW => rSplit_c s sep W hs ht
  have c10 : ∀ W, Below w.heap.size w W → Calls Tryd.prog 21 #[] W fun e w' => e = .returned (.bool true) ∧ Below W.heap.size W w' := fun W hW => alive13_c W (hT.below hW) (hmB W hW)
  obtain ⟨Rjo, hRjo⟩ : ∃ R, wrote (xs ++ [sep]) (joinB (dl sep) (xs.map dl)) = R := ⟨_, rfl⟩
  rw [hRjo] at c0 c1
  obtain ⟨Ajo, Kjo⟩ := Rjo
  obtain ⟨Rlo, hRlo⟩ : ∃ R, wrote [s] (s.data.toList.map (lt8 65 97)) = R := ⟨_, rfl⟩
  rw [hRlo] at c4 c5
  obtain ⟨Alo, Klo⟩ := Rlo
  obtain ⟨Rup, hRup⟩ : ∃ R, wrote [s] (s.data.toList.map (lt8 97 65)) = R := ⟨_, rfl⟩
  rw [hRup] at c6 c7
  obtain ⟨Aup, Kup⟩ := Rup
  obtain ⟨Rtr, hRtr⟩ : ∃ R, wrote [s] (Lib.trimS s.data.toList [32, 9, 10, 13]) = R := ⟨_, rfl⟩
  rw [hRtr] at c8 c9
  obtain ⟨Atr, Ktr⟩ := Rtr
  obtain ⟨n, hnn⟩ : ∃ n, xs.length = n := ⟨_, rfl⟩
  rw [hnn] at c0 c1 ⊢
  have H0 := Lib.hid c0
  have H1 := Lib.hid c1
  have H2 := Lib.hid c2
  have H3 := Lib.hid c3
  have H4 := Lib.hid c4
  have H5 := Lib.hid c5
  have H6 := Lib.hid c6
  have H7 := Lib.hid c7
  have H8 := Lib.hid c8
  have H9 := Lib.hid c9
  have H10 := Lib.hid c10
  clear c0 c1 c2 c3 c4 c5 c6 c7 c8 c9 c10 hmB hT hm hx hA hxs hn hnn hRjo hRlo hRup hRtr
  have B0 := Lib.hid (Below.refl w.heap.size w)
  go_enter Tryd.func3, Tryd.ntmps3
  have K0 := Lib.hid (H0.out w B0.out)
  go_wp2_with fail
  refine K0.out.mono ?_
  rintro e w1 ⟨rfl, hb⟩
  have B1 := Lib.hid (B0.out.trans (hb.mono B0.out.size))
  clear hb
  have K1 := Lib.hid (H1.out w1 B1.out)
  go_wp2_with fail
  refine K1.out.mono ?_
  rintro e w2 ⟨rfl, hb⟩
  have B2 := Lib.hid (B1.out.trans (hb.mono B1.out.size))
  clear hb
  have K2 := Lib.hid (H2.out w2 B2.out)
  go_wp2_with fail
  refine K2.out.mono ?_
  rintro e1 w3 ⟨hE1, hb⟩
  have B3 := Lib.hid (B2.out.trans (hb.mono B2.out.size))
  clear hb
  have hsome : ∃ (A1 : Option Addr) (n1 c1 : Nat) (k : Int), e1 = .returned (.tuple #[.slice A1 n1 c1, .int .i64 k]) := by
    obtain ⟨A1, A2, c1, c2, k, xs, h1, -, -, -, -⟩ := spl_two hE1 hE1
    exact ⟨A1, _, c1, k, h1⟩
  obtain ⟨A1, n1, c1, k1, rfl⟩ := hsome
  have HE1 := Lib.hid hE1
  clear hE1
  have K3 := Lib.hid (H3.out w3 B3.out)
  go_wp2_with fail
  refine K3.out.mono ?_
  rintro e2 w4 ⟨hE2, hb⟩
  have hbl : Below w3.heap.size w3 w4 := hb
  have B4 := Lib.hid (B3.out.trans (hb.mono B3.out.size))
  clear hb
  obtain ⟨A1', A2, c1', c2, k, ys, h1, rfl, hr1, hr2, hxl⟩ := spl_two HE1.out hE2
  injection h1 with h1; injection h1 with h1
  simp only [Array.mk.injEq, List.cons.injEq, Value.slice.injEq, Value.int.injEq, and_true, true_and] at h1
  obtain ⟨⟨rfl, rfl, rfl⟩, rfl⟩ := h1
  have hsm : ∀ W, Below w4.heap.size w4 W → Calls Tryd.prog 20 #[.slice A1 ys.length c1, .slice A2 ys.length c2] W fun e w' => e = .returned (.bool true) ∧ Below W.heap.size W w' := fun W hW => by
    have h9 := sameStrings_c (B := W.heap.size) (c := c1) (c' := c2) W ((((hr1.below hbl).up hbl.size).below hW).up hW.size) ((hr2.below hW).up hW.size) (by omega) (by omega)
    rw [decide_eq_true (rfl : ys = ys)] at h9
    exact h9
  have HSM := Lib.hid hsm
  obtain ⟨ny, hny⟩ : ∃ ny, ys.length = ny := ⟨_, rfl⟩
  rw [hny] at HSM ⊢
  have C4 := Lib.hid (Below.refl w4.heap.size w4)
  clear hsm hr1 hr2 hE2 hbl hny
  have K4 := Lib.hid (H4.out w4 B4.out)
  go_wp2_with fail
  refine K4.out.mono ?_
  rintro e w5 ⟨rfl, hb⟩
  have B5 := Lib.hid (B4.out.trans (hb.mono B4.out.size))
  have C5 := Lib.hid (C4.out.trans (hb.mono C4.out.size))
  clear hb
  have K5 := Lib.hid (H5.out w5 B5.out)
  go_wp2_with fail
  refine K5.out.mono ?_
  rintro e w6 ⟨rfl, hb⟩
  have B6 := Lib.hid (B5.out.trans (hb.mono B5.out.size))
  have C6 := Lib.hid (C5.out.trans (hb.mono C5.out.size))
  clear hb
  have K6 := Lib.hid (H6.out w6 B6.out)
  go_wp2_with fail
  refine K6.out.mono ?_
  rintro e w7 ⟨rfl, hb⟩
  have B7 := Lib.hid (B6.out.trans (hb.mono B6.out.size))
  have C7 := Lib.hid (C6.out.trans (hb.mono C6.out.size))
  clear hb
  have K7 := Lib.hid (H7.out w7 B7.out)
  go_wp2_with fail
  refine K7.out.mono ?_
  rintro e w8 ⟨rfl, hb⟩
  have B8 := Lib.hid (B7.out.trans (hb.mono B7.out.size))
  have C8 := Lib.hid (C7.out.trans (hb.mono C7.out.size))
  clear hb
  have K8 := Lib.hid (H8.out w8 B8.out)
  go_wp2_with fail
  refine K8.out.mono ?_
  rintro e w9 ⟨rfl, hb⟩
  have B9 := Lib.hid (B8.out.trans (hb.mono B8.out.size))
  have C9 := Lib.hid (C8.out.trans (hb.mono C8.out.size))
  clear hb
  have K9 := Lib.hid (H9.out w9 B9.out)
  go_wp2_with fail
  refine K9.out.mono ?_
  rintro e w10 ⟨rfl, hb⟩
  have B10 := Lib.hid (B9.out.trans (hb.mono B9.out.size))
  have C10 := Lib.hid (C9.out.trans (hb.mono C9.out.size))
  clear hb
  have KS := Lib.hid (HSM.out w10 C10.out)
  go_wp2_with (go_at_call 19; refine (lnum13_c _ _).mono ?_; rintro e w' ⟨rfl, rfl⟩)
  refine KS.out.mono ?_
  rintro e w11 ⟨rfl, hb⟩
  have B11 := Lib.hid (B10.out.trans (hb.mono B10.out.size))
  have K10 := Lib.hid (H10.out w11 B11.out)
  clear hb
  go_wp2_with (go_at_call 19; refine (lnum13_c _ _).mono ?_; rintro e w' ⟨rfl, rfl⟩)
  refine K10.out.mono ?_
  rintro e w12 ⟨rfl, hb⟩
  have B12 := Lib.hid (B11.out.trans (hb.mono B11.out.size))
  clear hb
  go_wp2_with fail
  go_ret
  exact ⟨rfl, B12.out⟩
end Go.Proofs.YtdacdppmgcaioaaDoor
