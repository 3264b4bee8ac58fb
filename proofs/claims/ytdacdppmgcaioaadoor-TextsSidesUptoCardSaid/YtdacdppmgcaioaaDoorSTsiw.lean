/-
  The walk of the law TextsSides.
-/
import Derived.Test.YtdacdppmgcaioaaDoorSTal
import Derived.Test.YtdacdppmgcaioaaDoorSUrchk
import Derived.Laws.Concat
set_option linter.unusedVariables false
set_option linter.unusedSimpArgs false
namespace Go.Proofs.YtdacdppmgcaioaaDoor
open Go.RowKit Go.Lib

theorem app_list (a b : ByteArray) : (a ++ b).data.toList = a.data.toList ++ b.data.toList := by
  rw [ByteArray.data_append, Array.toList_append]
theorem app_size (a b : ByteArray) : (a ++ b).size = a.size + b.size := ByteArray.size_append
theorem rcheck_s (s : ByteArray) (w : World) (hs : s.size ≤ 140737488355328) : Calls Tryd.prog 36 #[.string s] w fun e w' => e = .returned (.tuple #[.int .i64 (badAt s.data.toList : Int), .int .i64 (errT s.data.toList : Int)]) ∧ Below w.heap.size w w' := by
  have h := URCheck_c s.data.toList w (by rw [← sizeT_list]; exact hs)
  rwa [mk8_of] at h
theorem errT_cases (L : List UInt8) : (errT L = 0 ∧ isT L = true) ∨ (errT L = 61 ∧ isT L = false) := by
  unfold errT
  cases isT L <;> simp
theorem suf_self (a b : List UInt8) : Lib.hasSuffix (a ++ b) b = true := by
  unfold Lib.hasSuffix
  rw [List.isSuffixOf_iff_suffix]
  exact List.suffix_append _ _
theorem pre_self (a b : List UInt8) : Lib.hasPrefix (a ++ b) a = true := by
  unfold Lib.hasPrefix
  rw [List.isPrefixOf_iff_prefix]
  exact List.prefix_append _ _
theorem trimP_self (a b : List UInt8) : Lib.trimPrefix (a ++ b) a = b := by
  unfold Lib.trimPrefix
  rw [if_pos (pre_self a b), List.drop_left]
theorem trimS_self (a b : List UInt8) : Lib.trimSuffix (a ++ b) b = a := by
  unfold Lib.trimSuffix
  rw [if_pos (suf_self a b), List.length_append, Nat.add_sub_cancel, List.take_left]
/-- What the four calls and the two checks tell. -/
structure SidesF (s t : ByteArray) (w : World) (b1 b2 : Bool) (k1 k2 k3 k4 : Int) (a3 a4 : ByteArray) (q1 q2 x1 x2 : Int) : Prop where
  c1 : ∀ W, Below w.heap.size w W → Calls Tryd.prog 22 #[.string (t ++ s), .string t] W fun e w' => e = .returned (.tuple #[.bool b1, .int .i64 k1]) ∧ Below W.heap.size W w'
  c2 : ∀ W, Below w.heap.size w W → Calls Tryd.prog 24 #[.string (s ++ t), .string t] W fun e w' => e = .returned (.tuple #[.bool b2, .int .i64 k2]) ∧ Below W.heap.size W w'
  c3 : ∀ W, Below w.heap.size w W → Calls Tryd.prog 26 #[.string (t ++ s), .string t] W fun e w' => e = .returned (.tuple #[.string a3, .int .i64 k3]) ∧ Below W.heap.size W w'
  c4 : ∀ W, Below w.heap.size w W → Calls Tryd.prog 28 #[.string (s ++ t), .string t] W fun e w' => e = .returned (.tuple #[.string a4, .int .i64 k4]) ∧ Below W.heap.size W w'
  c5 : ∀ W, Below w.heap.size w W → Calls Tryd.prog 36 #[.string s] W fun e w' => e = .returned (.tuple #[.int .i64 q1, .int .i64 x1]) ∧ Below W.heap.size W w'
  c6 : ∀ W, Below w.heap.size w W → Calls Tryd.prog 36 #[.string t] W fun e w' => e = .returned (.tuple #[.int .i64 q2, .int .i64 x2]) ∧ Below W.heap.size W w'
theorem sides_f (s t : ByteArray) (w : World) (hT : Tabs w) (hs : s.size ≤ 1048576) (ht : t.size ≤ 1048576) :
    SidesF s t w (saidB [t ++ s, t] (Lib.hasPrefix (t ++ s).data.toList t.data.toList)).1 (saidB [s ++ t, t] (Lib.hasSuffix (s ++ t).data.toList t.data.toList)).1
      (saidB [t ++ s, t] (Lib.hasPrefix (t ++ s).data.toList t.data.toList)).2 (saidB [s ++ t, t] (Lib.hasSuffix (s ++ t).data.toList t.data.toList)).2
      (wrote [t ++ s, t] (Lib.trimPrefix (t ++ s).data.toList t.data.toList)).2 (wrote [s ++ t, t] (Lib.trimSuffix (s ++ t).data.toList t.data.toList)).2
      (wrote [t ++ s, t] (Lib.trimPrefix (t ++ s).data.toList t.data.toList)).1 (wrote [s ++ t, t] (Lib.trimSuffix (s ++ t).data.toList t.data.toList)).1
      (badAt s.data.toList : Int) (badAt t.data.toList : Int) (errT s.data.toList : Int) (errT t.data.toList : Int) := by
  have h1 : (t ++ s).size ≤ 140737488355328 := by rw [app_size]; omega
  have h2 : (s ++ t).size ≤ 140737488355328 := by rw [app_size]; omega
  exact ⟨fun W hW => Begins_c _ _ W (hT.below hW) h1 (by omega), fun W hW => EndsT_c _ _ W (hT.below hW) h2 (by omega), fun W hW => TrimLeft_c _ _ W (hT.below hW) h1 (by omega), fun W hW => TrimRight_c _ _ W (hT.below hW) h2 (by omega), fun W hW => rcheck_s s W (by omega), fun W hW => rcheck_s t W (by omega)⟩
set_option maxHeartbeats 4000000 in
set_option maxRecDepth 100000 in
theorem sides1 {s t : ByteArray} {w : World} {q1 q2 : Int} (hl : s.size ≤ 16384) (hs : s.size ≤ 1048576) (ht : t.size ≤ 1048576) (hal : Calls Tryd.prog 21 #[] w fun e w' => e = .returned (.bool true) ∧ Below w.heap.size w w') (hF : SidesF s t w true true 0 0 0 0 s s q1 q2 0 0) :
    Calls Tryd.prog 7 #[.string s, .string t] w fun e w' => e = .returned (.bool true) ∧ Below w.heap.size w w' := by
  have hlI : decide ((16384 : Int) < (s.size : Int)) = false := by simp; omega
  have hcat1 : ∀ W, (Op.stringOp .add t s).run Tryd.prog W = .ok (.string (t ++ s)) W := fun W => run_string_add_sum W t s (by omega)
  have hcat2 : ∀ W, (Op.stringOp .add s t).run Tryd.prog W = .ok (.string (s ++ t)) W := fun W => run_string_add_sum W s t (by omega)
  obtain ⟨P, hP⟩ : ∃ P, t ++ s = P := ⟨_, rfl⟩
  obtain ⟨Q, hQ⟩ : ∃ Q, s ++ t = Q := ⟨_, rfl⟩
  obtain ⟨c1, c2, c3, c4, c5, c6⟩ := hF
  rw [hP] at c1 c3 hcat1
  rw [hQ] at c2 c4 hcat2
  have HA := Lib.hid hal
  have H1 := Lib.hid c1
  have H2 := Lib.hid c2
  have H3 := Lib.hid c3
  have H4 := Lib.hid c4
  have H5 := Lib.hid c5
  have H6 := Lib.hid c6
  clear hal c1 c2 c3 c4 c5 c6 hP hQ
  go_enter Tryd.func7, Tryd.ntmps7
  go_wp2_with fail
  refine HA.out.mono ?_
  rintro e w0 ⟨rfl, hb⟩
  have B0 := Lib.hid hb
  clear hb
  have K1 := Lib.hid (H1.out w0 B0.out)
  go_wp2_with fail
  refine K1.out.mono ?_
  rintro e w1 ⟨rfl, hb⟩
  have B1 := Lib.hid (B0.out.trans (hb.mono B0.out.size))
  clear hb
  have K2 := Lib.hid (H2.out w1 B1.out)
  go_wp2_with fail
  refine K2.out.mono ?_
  rintro e w2 ⟨rfl, hb⟩
  have B2 := Lib.hid (B1.out.trans (hb.mono B1.out.size))
  clear hb
  have K3 := Lib.hid (H3.out w2 B2.out)
  go_wp2_with fail
  refine K3.out.mono ?_
  rintro e w3 ⟨rfl, hb⟩
  have B3 := Lib.hid (B2.out.trans (hb.mono B2.out.size))
  clear hb
  have K4 := Lib.hid (H4.out w3 B3.out)
  go_wp2_with fail
  refine K4.out.mono ?_
  rintro e w4 ⟨rfl, hb⟩
  have B4 := Lib.hid (B3.out.trans (hb.mono B3.out.size))
  clear hb
  have K5 := Lib.hid (H5.out w4 B4.out)
  go_wp2_with fail
  refine K5.out.mono ?_
  rintro e w5 ⟨rfl, hb⟩
  have B5 := Lib.hid (B4.out.trans (hb.mono B4.out.size))
  clear hb
  have K6 := Lib.hid (H6.out w5 B5.out)
  go_wp2_with fail
  refine K6.out.mono ?_
  rintro e w6 ⟨rfl, hb⟩
  have B6 := Lib.hid (B5.out.trans (hb.mono B5.out.size))
  clear hb
  go_wp2_with (go_at_call 19; refine (lnum13_c _ _).mono ?_; rintro e w' ⟨rfl, rfl⟩)
  all_goals (go_ret; exact ⟨rfl, B6.out⟩)
set_option maxHeartbeats 4000000 in
set_option maxRecDepth 100000 in
theorem sides2 {s t : ByteArray} {w : World} {q1 q2 : Int} {b1 b2 : Bool} {k3 k4 : Int} {a3 a4 : ByteArray} {x2 : Int}  (hs : s.size ≤ 1048576) (ht : t.size ≤ 1048576) (hal : Calls Tryd.prog 21 #[] w fun e w' => e = .returned (.bool true) ∧ Below w.heap.size w w') (hF : SidesF s t w b1 b2 0 0 k3 k4 a3 a4 q1 q2 61 x2) :
    Calls Tryd.prog 7 #[.string s, .string t] w fun e w' => e = .returned (.bool true) ∧ Below w.heap.size w w' := by
  have hcat1 : ∀ W, (Op.stringOp .add t s).run Tryd.prog W = .ok (.string (t ++ s)) W := fun W => run_string_add_sum W t s (by omega)
  have hcat2 : ∀ W, (Op.stringOp .add s t).run Tryd.prog W = .ok (.string (s ++ t)) W := fun W => run_string_add_sum W s t (by omega)
  obtain ⟨P, hP⟩ : ∃ P, t ++ s = P := ⟨_, rfl⟩
  obtain ⟨Q, hQ⟩ : ∃ Q, s ++ t = Q := ⟨_, rfl⟩
  obtain ⟨c1, c2, c3, c4, c5, c6⟩ := hF
  rw [hP] at c1 c3 hcat1
  rw [hQ] at c2 c4 hcat2
  have HA := Lib.hid hal
  have H1 := Lib.hid c1
  have H2 := Lib.hid c2
  have H3 := Lib.hid c3
  have H4 := Lib.hid c4
  have H5 := Lib.hid c5
  have H6 := Lib.hid c6
  clear hal c1 c2 c3 c4 c5 c6 hP hQ
  go_enter Tryd.func7, Tryd.ntmps7
  go_wp2_with fail
  refine HA.out.mono ?_
  rintro e w0 ⟨rfl, hb⟩
  have B0 := Lib.hid hb
  clear hb
  have K1 := Lib.hid (H1.out w0 B0.out)
  go_wp2_with fail
  refine K1.out.mono ?_
  rintro e w1 ⟨rfl, hb⟩
  have B1 := Lib.hid (B0.out.trans (hb.mono B0.out.size))
  clear hb
  have K2 := Lib.hid (H2.out w1 B1.out)
  go_wp2_with fail
  refine K2.out.mono ?_
  rintro e w2 ⟨rfl, hb⟩
  have B2 := Lib.hid (B1.out.trans (hb.mono B1.out.size))
  clear hb
  have K3 := Lib.hid (H3.out w2 B2.out)
  go_wp2_with fail
  refine K3.out.mono ?_
  rintro e w3 ⟨rfl, hb⟩
  have B3 := Lib.hid (B2.out.trans (hb.mono B2.out.size))
  clear hb
  have K4 := Lib.hid (H4.out w3 B3.out)
  go_wp2_with fail
  refine K4.out.mono ?_
  rintro e w4 ⟨rfl, hb⟩
  have B4 := Lib.hid (B3.out.trans (hb.mono B3.out.size))
  clear hb
  have K5 := Lib.hid (H5.out w4 B4.out)
  go_wp2_with fail
  refine K5.out.mono ?_
  rintro e w5 ⟨rfl, hb⟩
  have B5 := Lib.hid (B4.out.trans (hb.mono B4.out.size))
  clear hb
  have K6 := Lib.hid (H6.out w5 B5.out)
  go_wp2_with fail
  refine K6.out.mono ?_
  rintro e w6 ⟨rfl, hb⟩
  have B6 := Lib.hid (B5.out.trans (hb.mono B5.out.size))
  clear hb
  go_wp2_with (go_at_call 19; refine (lnum13_c _ _).mono ?_; rintro e w' ⟨rfl, rfl⟩)
  all_goals (go_ret; exact ⟨rfl, B6.out⟩)
set_option maxHeartbeats 4000000 in
set_option maxRecDepth 100000 in
theorem sides3 {s t : ByteArray} {w : World} {q1 q2 : Int} {b1 b2 : Bool} {k3 k4 : Int} {a3 a4 : ByteArray} {x2 : Int}  (hs : s.size ≤ 1048576) (ht : t.size ≤ 1048576) (hal : Calls Tryd.prog 21 #[] w fun e w' => e = .returned (.bool true) ∧ Below w.heap.size w w') (hF : SidesF s t w b1 b2 0 61 k3 k4 a3 a4 q1 q2 61 x2) :
    Calls Tryd.prog 7 #[.string s, .string t] w fun e w' => e = .returned (.bool true) ∧ Below w.heap.size w w' := by
  have hcat1 : ∀ W, (Op.stringOp .add t s).run Tryd.prog W = .ok (.string (t ++ s)) W := fun W => run_string_add_sum W t s (by omega)
  have hcat2 : ∀ W, (Op.stringOp .add s t).run Tryd.prog W = .ok (.string (s ++ t)) W := fun W => run_string_add_sum W s t (by omega)
  obtain ⟨P, hP⟩ : ∃ P, t ++ s = P := ⟨_, rfl⟩
  obtain ⟨Q, hQ⟩ : ∃ Q, s ++ t = Q := ⟨_, rfl⟩
  obtain ⟨c1, c2, c3, c4, c5, c6⟩ := hF
  rw [hP] at c1 c3 hcat1
  rw [hQ] at c2 c4 hcat2
  have HA := Lib.hid hal
  have H1 := Lib.hid c1
  have H2 := Lib.hid c2
  have H3 := Lib.hid c3
  have H4 := Lib.hid c4
  have H5 := Lib.hid c5
  have H6 := Lib.hid c6
  clear hal c1 c2 c3 c4 c5 c6 hP hQ
  go_enter Tryd.func7, Tryd.ntmps7
  go_wp2_with fail
  refine HA.out.mono ?_
  rintro e w0 ⟨rfl, hb⟩
  have B0 := Lib.hid hb
  clear hb
  have K1 := Lib.hid (H1.out w0 B0.out)
  go_wp2_with fail
  refine K1.out.mono ?_
  rintro e w1 ⟨rfl, hb⟩
  have B1 := Lib.hid (B0.out.trans (hb.mono B0.out.size))
  clear hb
  have K2 := Lib.hid (H2.out w1 B1.out)
  go_wp2_with fail
  refine K2.out.mono ?_
  rintro e w2 ⟨rfl, hb⟩
  have B2 := Lib.hid (B1.out.trans (hb.mono B1.out.size))
  clear hb
  have K3 := Lib.hid (H3.out w2 B2.out)
  go_wp2_with fail
  refine K3.out.mono ?_
  rintro e w3 ⟨rfl, hb⟩
  have B3 := Lib.hid (B2.out.trans (hb.mono B2.out.size))
  clear hb
  have K4 := Lib.hid (H4.out w3 B3.out)
  go_wp2_with fail
  refine K4.out.mono ?_
  rintro e w4 ⟨rfl, hb⟩
  have B4 := Lib.hid (B3.out.trans (hb.mono B3.out.size))
  clear hb
  have K5 := Lib.hid (H5.out w4 B4.out)
  go_wp2_with fail
  refine K5.out.mono ?_
  rintro e w5 ⟨rfl, hb⟩
  have B5 := Lib.hid (B4.out.trans (hb.mono B4.out.size))
  clear hb
  have K6 := Lib.hid (H6.out w5 B5.out)
  go_wp2_with fail
  refine K6.out.mono ?_
  rintro e w6 ⟨rfl, hb⟩
  have B6 := Lib.hid (B5.out.trans (hb.mono B5.out.size))
  clear hb
  go_wp2_with (go_at_call 19; refine (lnum13_c _ _).mono ?_; rintro e w' ⟨rfl, rfl⟩)
  all_goals (go_ret; exact ⟨rfl, B6.out⟩)
set_option maxHeartbeats 4000000 in
set_option maxRecDepth 100000 in
theorem sides4 {s t : ByteArray} {w : World} {q1 q2 : Int} {b1 b2 : Bool} {k3 k4 : Int} {a3 a4 : ByteArray} {x2 : Int}  (hs : s.size ≤ 1048576) (ht : t.size ≤ 1048576) (hal : Calls Tryd.prog 21 #[] w fun e w' => e = .returned (.bool true) ∧ Below w.heap.size w w') (hF : SidesF s t w b1 b2 61 0 k3 k4 a3 a4 q1 q2 61 x2) :
    Calls Tryd.prog 7 #[.string s, .string t] w fun e w' => e = .returned (.bool true) ∧ Below w.heap.size w w' := by
  have hcat1 : ∀ W, (Op.stringOp .add t s).run Tryd.prog W = .ok (.string (t ++ s)) W := fun W => run_string_add_sum W t s (by omega)
  have hcat2 : ∀ W, (Op.stringOp .add s t).run Tryd.prog W = .ok (.string (s ++ t)) W := fun W => run_string_add_sum W s t (by omega)
  obtain ⟨P, hP⟩ : ∃ P, t ++ s = P := ⟨_, rfl⟩
  obtain ⟨Q, hQ⟩ : ∃ Q, s ++ t = Q := ⟨_, rfl⟩
  obtain ⟨c1, c2, c3, c4, c5, c6⟩ := hF
  rw [hP] at c1 c3 hcat1
  rw [hQ] at c2 c4 hcat2
  have HA := Lib.hid hal
  have H1 := Lib.hid c1
  have H2 := Lib.hid c2
  have H3 := Lib.hid c3
  have H4 := Lib.hid c4
  have H5 := Lib.hid c5
  have H6 := Lib.hid c6
  clear hal c1 c2 c3 c4 c5 c6 hP hQ
  go_enter Tryd.func7, Tryd.ntmps7
  go_wp2_with fail
  refine HA.out.mono ?_
  rintro e w0 ⟨rfl, hb⟩
  have B0 := Lib.hid hb
  clear hb
  have K1 := Lib.hid (H1.out w0 B0.out)
  go_wp2_with fail
  refine K1.out.mono ?_
  rintro e w1 ⟨rfl, hb⟩
  have B1 := Lib.hid (B0.out.trans (hb.mono B0.out.size))
  clear hb
  have K2 := Lib.hid (H2.out w1 B1.out)
  go_wp2_with fail
  refine K2.out.mono ?_
  rintro e w2 ⟨rfl, hb⟩
  have B2 := Lib.hid (B1.out.trans (hb.mono B1.out.size))
  clear hb
  have K3 := Lib.hid (H3.out w2 B2.out)
  go_wp2_with fail
  refine K3.out.mono ?_
  rintro e w3 ⟨rfl, hb⟩
  have B3 := Lib.hid (B2.out.trans (hb.mono B2.out.size))
  clear hb
  have K4 := Lib.hid (H4.out w3 B3.out)
  go_wp2_with fail
  refine K4.out.mono ?_
  rintro e w4 ⟨rfl, hb⟩
  have B4 := Lib.hid (B3.out.trans (hb.mono B3.out.size))
  clear hb
  have K5 := Lib.hid (H5.out w4 B4.out)
  go_wp2_with fail
  refine K5.out.mono ?_
  rintro e w5 ⟨rfl, hb⟩
  have B5 := Lib.hid (B4.out.trans (hb.mono B4.out.size))
  clear hb
  have K6 := Lib.hid (H6.out w5 B5.out)
  go_wp2_with fail
  refine K6.out.mono ?_
  rintro e w6 ⟨rfl, hb⟩
  have B6 := Lib.hid (B5.out.trans (hb.mono B5.out.size))
  clear hb
  go_wp2_with (go_at_call 19; refine (lnum13_c _ _).mono ?_; rintro e w' ⟨rfl, rfl⟩)
  all_goals (go_ret; exact ⟨rfl, B6.out⟩)
set_option maxHeartbeats 4000000 in
set_option maxRecDepth 100000 in
theorem sides5 {s t : ByteArray} {w : World} {q1 q2 : Int} {b1 b2 : Bool} {k3 k4 : Int} {a3 a4 : ByteArray} {x2 : Int}  (hs : s.size ≤ 1048576) (ht : t.size ≤ 1048576) (hal : Calls Tryd.prog 21 #[] w fun e w' => e = .returned (.bool true) ∧ Below w.heap.size w w') (hF : SidesF s t w b1 b2 61 61 k3 k4 a3 a4 q1 q2 61 x2) :
    Calls Tryd.prog 7 #[.string s, .string t] w fun e w' => e = .returned (.bool true) ∧ Below w.heap.size w w' := by
  have hcat1 : ∀ W, (Op.stringOp .add t s).run Tryd.prog W = .ok (.string (t ++ s)) W := fun W => run_string_add_sum W t s (by omega)
  have hcat2 : ∀ W, (Op.stringOp .add s t).run Tryd.prog W = .ok (.string (s ++ t)) W := fun W => run_string_add_sum W s t (by omega)
  obtain ⟨P, hP⟩ : ∃ P, t ++ s = P := ⟨_, rfl⟩
  obtain ⟨Q, hQ⟩ : ∃ Q, s ++ t = Q := ⟨_, rfl⟩
  obtain ⟨c1, c2, c3, c4, c5, c6⟩ := hF
  rw [hP] at c1 c3 hcat1
  rw [hQ] at c2 c4 hcat2
  have HA := Lib.hid hal
  have H1 := Lib.hid c1
  have H2 := Lib.hid c2
  have H3 := Lib.hid c3
  have H4 := Lib.hid c4
  have H5 := Lib.hid c5
  have H6 := Lib.hid c6
  clear hal c1 c2 c3 c4 c5 c6 hP hQ
  go_enter Tryd.func7, Tryd.ntmps7
  go_wp2_with fail
  refine HA.out.mono ?_
  rintro e w0 ⟨rfl, hb⟩
  have B0 := Lib.hid hb
  clear hb
  have K1 := Lib.hid (H1.out w0 B0.out)
  go_wp2_with fail
  refine K1.out.mono ?_
  rintro e w1 ⟨rfl, hb⟩
  have B1 := Lib.hid (B0.out.trans (hb.mono B0.out.size))
  clear hb
  have K2 := Lib.hid (H2.out w1 B1.out)
  go_wp2_with fail
  refine K2.out.mono ?_
  rintro e w2 ⟨rfl, hb⟩
  have B2 := Lib.hid (B1.out.trans (hb.mono B1.out.size))
  clear hb
  have K3 := Lib.hid (H3.out w2 B2.out)
  go_wp2_with fail
  refine K3.out.mono ?_
  rintro e w3 ⟨rfl, hb⟩
  have B3 := Lib.hid (B2.out.trans (hb.mono B2.out.size))
  clear hb
  have K4 := Lib.hid (H4.out w3 B3.out)
  go_wp2_with fail
  refine K4.out.mono ?_
  rintro e w4 ⟨rfl, hb⟩
  have B4 := Lib.hid (B3.out.trans (hb.mono B3.out.size))
  clear hb
  have K5 := Lib.hid (H5.out w4 B4.out)
  go_wp2_with fail
  refine K5.out.mono ?_
  rintro e w5 ⟨rfl, hb⟩
  have B5 := Lib.hid (B4.out.trans (hb.mono B4.out.size))
  clear hb
  have K6 := Lib.hid (H6.out w5 B5.out)
  go_wp2_with fail
  refine K6.out.mono ?_
  rintro e w6 ⟨rfl, hb⟩
  have B6 := Lib.hid (B5.out.trans (hb.mono B5.out.size))
  clear hb
  go_wp2_with (go_at_call 19; refine (lnum13_c _ _).mono ?_; rintro e w' ⟨rfl, rfl⟩)
  all_goals (go_ret; exact ⟨rfl, B6.out⟩)
set_option maxHeartbeats 4000000 in
set_option maxRecDepth 100000 in
theorem sides6 {s t : ByteArray} {w : World} {q1 q2 : Int} {b1 b2 : Bool} {k3 k4 : Int} {a3 a4 : ByteArray} (hl : 16384 < s.size) (hs : s.size ≤ 1048576) (ht : t.size ≤ 1048576) (hal : Calls Tryd.prog 21 #[] w fun e w' => e = .returned (.bool true) ∧ Below w.heap.size w w') (hF : SidesF s t w b1 b2 0 0 k3 k4 a3 a4 q1 q2 0 0) :
    Calls Tryd.prog 7 #[.string s, .string t] w fun e w' => e = .returned (.bool true) ∧ Below w.heap.size w w' := by
  have hlI : decide ((16384 : Int) < (s.size : Int)) = true := by simp; omega
  have hcat1 : ∀ W, (Op.stringOp .add t s).run Tryd.prog W = .ok (.string (t ++ s)) W := fun W => run_string_add_sum W t s (by omega)
  have hcat2 : ∀ W, (Op.stringOp .add s t).run Tryd.prog W = .ok (.string (s ++ t)) W := fun W => run_string_add_sum W s t (by omega)
  obtain ⟨P, hP⟩ : ∃ P, t ++ s = P := ⟨_, rfl⟩
  obtain ⟨Q, hQ⟩ : ∃ Q, s ++ t = Q := ⟨_, rfl⟩
  obtain ⟨c1, c2, c3, c4, c5, c6⟩ := hF
  rw [hP] at c1 c3 hcat1
  rw [hQ] at c2 c4 hcat2
  have HA := Lib.hid hal
  have H1 := Lib.hid c1
  have H2 := Lib.hid c2
  have H3 := Lib.hid c3
  have H4 := Lib.hid c4
  have H5 := Lib.hid c5
  have H6 := Lib.hid c6
  clear hal c1 c2 c3 c4 c5 c6 hP hQ
  go_enter Tryd.func7, Tryd.ntmps7
  go_wp2_with fail
  refine HA.out.mono ?_
  rintro e w0 ⟨rfl, hb⟩
  have B0 := Lib.hid hb
  clear hb
  have K1 := Lib.hid (H1.out w0 B0.out)
  go_wp2_with fail
  refine K1.out.mono ?_
  rintro e w1 ⟨rfl, hb⟩
  have B1 := Lib.hid (B0.out.trans (hb.mono B0.out.size))
  clear hb
  have K2 := Lib.hid (H2.out w1 B1.out)
  go_wp2_with fail
  refine K2.out.mono ?_
  rintro e w2 ⟨rfl, hb⟩
  have B2 := Lib.hid (B1.out.trans (hb.mono B1.out.size))
  clear hb
  have K3 := Lib.hid (H3.out w2 B2.out)
  go_wp2_with fail
  refine K3.out.mono ?_
  rintro e w3 ⟨rfl, hb⟩
  have B3 := Lib.hid (B2.out.trans (hb.mono B2.out.size))
  clear hb
  have K4 := Lib.hid (H4.out w3 B3.out)
  go_wp2_with fail
  refine K4.out.mono ?_
  rintro e w4 ⟨rfl, hb⟩
  have B4 := Lib.hid (B3.out.trans (hb.mono B3.out.size))
  clear hb
  have K5 := Lib.hid (H5.out w4 B4.out)
  go_wp2_with fail
  refine K5.out.mono ?_
  rintro e w5 ⟨rfl, hb⟩
  have B5 := Lib.hid (B4.out.trans (hb.mono B4.out.size))
  clear hb
  have K6 := Lib.hid (H6.out w5 B5.out)
  go_wp2_with fail
  refine K6.out.mono ?_
  rintro e w6 ⟨rfl, hb⟩
  have B6 := Lib.hid (B5.out.trans (hb.mono B5.out.size))
  clear hb
  go_wp2_with (go_at_call 19; refine (lnum13_c _ _).mono ?_; rintro e w' ⟨rfl, rfl⟩)
  all_goals (go_ret; exact ⟨rfl, B6.out⟩)
set_option maxHeartbeats 4000000 in
set_option maxRecDepth 100000 in
theorem sides7 {s t : ByteArray} {w : World} {q1 q2 : Int} {b1 b2 : Bool} {k3 k4 : Int} {a3 a4 : ByteArray} (hl : 16384 < s.size) (hs : s.size ≤ 1048576) (ht : t.size ≤ 1048576) (hal : Calls Tryd.prog 21 #[] w fun e w' => e = .returned (.bool true) ∧ Below w.heap.size w w') (hF : SidesF s t w b1 b2 0 0 k3 k4 a3 a4 q1 q2 0 61) :
    Calls Tryd.prog 7 #[.string s, .string t] w fun e w' => e = .returned (.bool true) ∧ Below w.heap.size w w' := by
  have hlI : decide ((16384 : Int) < (s.size : Int)) = true := by simp; omega
  have hcat1 : ∀ W, (Op.stringOp .add t s).run Tryd.prog W = .ok (.string (t ++ s)) W := fun W => run_string_add_sum W t s (by omega)
  have hcat2 : ∀ W, (Op.stringOp .add s t).run Tryd.prog W = .ok (.string (s ++ t)) W := fun W => run_string_add_sum W s t (by omega)
  obtain ⟨P, hP⟩ : ∃ P, t ++ s = P := ⟨_, rfl⟩
  obtain ⟨Q, hQ⟩ : ∃ Q, s ++ t = Q := ⟨_, rfl⟩
  obtain ⟨c1, c2, c3, c4, c5, c6⟩ := hF
  rw [hP] at c1 c3 hcat1
  rw [hQ] at c2 c4 hcat2
  have HA := Lib.hid hal
  have H1 := Lib.hid c1
  have H2 := Lib.hid c2
  have H3 := Lib.hid c3
  have H4 := Lib.hid c4
  have H5 := Lib.hid c5
  have H6 := Lib.hid c6
  clear hal c1 c2 c3 c4 c5 c6 hP hQ
  go_enter Tryd.func7, Tryd.ntmps7
  go_wp2_with fail
  refine HA.out.mono ?_
  rintro e w0 ⟨rfl, hb⟩
  have B0 := Lib.hid hb
  clear hb
  have K1 := Lib.hid (H1.out w0 B0.out)
  go_wp2_with fail
  refine K1.out.mono ?_
  rintro e w1 ⟨rfl, hb⟩
  have B1 := Lib.hid (B0.out.trans (hb.mono B0.out.size))
  clear hb
  have K2 := Lib.hid (H2.out w1 B1.out)
  go_wp2_with fail
  refine K2.out.mono ?_
  rintro e w2 ⟨rfl, hb⟩
  have B2 := Lib.hid (B1.out.trans (hb.mono B1.out.size))
  clear hb
  have K3 := Lib.hid (H3.out w2 B2.out)
  go_wp2_with fail
  refine K3.out.mono ?_
  rintro e w3 ⟨rfl, hb⟩
  have B3 := Lib.hid (B2.out.trans (hb.mono B2.out.size))
  clear hb
  have K4 := Lib.hid (H4.out w3 B3.out)
  go_wp2_with fail
  refine K4.out.mono ?_
  rintro e w4 ⟨rfl, hb⟩
  have B4 := Lib.hid (B3.out.trans (hb.mono B3.out.size))
  clear hb
  have K5 := Lib.hid (H5.out w4 B4.out)
  go_wp2_with fail
  refine K5.out.mono ?_
  rintro e w5 ⟨rfl, hb⟩
  have B5 := Lib.hid (B4.out.trans (hb.mono B4.out.size))
  clear hb
  have K6 := Lib.hid (H6.out w5 B5.out)
  go_wp2_with fail
  refine K6.out.mono ?_
  rintro e w6 ⟨rfl, hb⟩
  have B6 := Lib.hid (B5.out.trans (hb.mono B5.out.size))
  clear hb
  go_wp2_with (go_at_call 19; refine (lnum13_c _ _).mono ?_; rintro e w' ⟨rfl, rfl⟩)
  all_goals (go_ret; exact ⟨rfl, B6.out⟩)
set_option maxHeartbeats 4000000 in
set_option maxRecDepth 100000 in
theorem sides8 {s t : ByteArray} {w : World} {q1 q2 : Int} {b1 b2 : Bool} {k3 k4 : Int} {a3 a4 : ByteArray} (hl : 16384 < s.size) (hs : s.size ≤ 1048576) (ht : t.size ≤ 1048576) (hal : Calls Tryd.prog 21 #[] w fun e w' => e = .returned (.bool true) ∧ Below w.heap.size w w') (hF : SidesF s t w b1 b2 0 61 k3 k4 a3 a4 q1 q2 0 0) :
    Calls Tryd.prog 7 #[.string s, .string t] w fun e w' => e = .returned (.bool true) ∧ Below w.heap.size w w' := by
  have hlI : decide ((16384 : Int) < (s.size : Int)) = true := by simp; omega
  have hcat1 : ∀ W, (Op.stringOp .add t s).run Tryd.prog W = .ok (.string (t ++ s)) W := fun W => run_string_add_sum W t s (by omega)
  have hcat2 : ∀ W, (Op.stringOp .add s t).run Tryd.prog W = .ok (.string (s ++ t)) W := fun W => run_string_add_sum W s t (by omega)
  obtain ⟨P, hP⟩ : ∃ P, t ++ s = P := ⟨_, rfl⟩
  obtain ⟨Q, hQ⟩ : ∃ Q, s ++ t = Q := ⟨_, rfl⟩
  obtain ⟨c1, c2, c3, c4, c5, c6⟩ := hF
  rw [hP] at c1 c3 hcat1
  rw [hQ] at c2 c4 hcat2
  have HA := Lib.hid hal
  have H1 := Lib.hid c1
  have H2 := Lib.hid c2
  have H3 := Lib.hid c3
  have H4 := Lib.hid c4
  have H5 := Lib.hid c5
  have H6 := Lib.hid c6
  clear hal c1 c2 c3 c4 c5 c6 hP hQ
  go_enter Tryd.func7, Tryd.ntmps7
  go_wp2_with fail
  refine HA.out.mono ?_
  rintro e w0 ⟨rfl, hb⟩
  have B0 := Lib.hid hb
  clear hb
  have K1 := Lib.hid (H1.out w0 B0.out)
  go_wp2_with fail
  refine K1.out.mono ?_
  rintro e w1 ⟨rfl, hb⟩
  have B1 := Lib.hid (B0.out.trans (hb.mono B0.out.size))
  clear hb
  have K2 := Lib.hid (H2.out w1 B1.out)
  go_wp2_with fail
  refine K2.out.mono ?_
  rintro e w2 ⟨rfl, hb⟩
  have B2 := Lib.hid (B1.out.trans (hb.mono B1.out.size))
  clear hb
  have K3 := Lib.hid (H3.out w2 B2.out)
  go_wp2_with fail
  refine K3.out.mono ?_
  rintro e w3 ⟨rfl, hb⟩
  have B3 := Lib.hid (B2.out.trans (hb.mono B2.out.size))
  clear hb
  have K4 := Lib.hid (H4.out w3 B3.out)
  go_wp2_with fail
  refine K4.out.mono ?_
  rintro e w4 ⟨rfl, hb⟩
  have B4 := Lib.hid (B3.out.trans (hb.mono B3.out.size))
  clear hb
  have K5 := Lib.hid (H5.out w4 B4.out)
  go_wp2_with fail
  refine K5.out.mono ?_
  rintro e w5 ⟨rfl, hb⟩
  have B5 := Lib.hid (B4.out.trans (hb.mono B4.out.size))
  clear hb
  have K6 := Lib.hid (H6.out w5 B5.out)
  go_wp2_with fail
  refine K6.out.mono ?_
  rintro e w6 ⟨rfl, hb⟩
  have B6 := Lib.hid (B5.out.trans (hb.mono B5.out.size))
  clear hb
  go_wp2_with (go_at_call 19; refine (lnum13_c _ _).mono ?_; rintro e w' ⟨rfl, rfl⟩)
  all_goals (go_ret; exact ⟨rfl, B6.out⟩)
set_option maxHeartbeats 4000000 in
set_option maxRecDepth 100000 in
theorem sides9 {s t : ByteArray} {w : World} {q1 q2 : Int} {b1 b2 : Bool} {k3 k4 : Int} {a3 a4 : ByteArray} (hl : 16384 < s.size) (hs : s.size ≤ 1048576) (ht : t.size ≤ 1048576) (hal : Calls Tryd.prog 21 #[] w fun e w' => e = .returned (.bool true) ∧ Below w.heap.size w w') (hF : SidesF s t w b1 b2 0 61 k3 k4 a3 a4 q1 q2 0 61) :
    Calls Tryd.prog 7 #[.string s, .string t] w fun e w' => e = .returned (.bool true) ∧ Below w.heap.size w w' := by
  have hlI : decide ((16384 : Int) < (s.size : Int)) = true := by simp; omega
  have hcat1 : ∀ W, (Op.stringOp .add t s).run Tryd.prog W = .ok (.string (t ++ s)) W := fun W => run_string_add_sum W t s (by omega)
  have hcat2 : ∀ W, (Op.stringOp .add s t).run Tryd.prog W = .ok (.string (s ++ t)) W := fun W => run_string_add_sum W s t (by omega)
  obtain ⟨P, hP⟩ : ∃ P, t ++ s = P := ⟨_, rfl⟩
  obtain ⟨Q, hQ⟩ : ∃ Q, s ++ t = Q := ⟨_, rfl⟩
  obtain ⟨c1, c2, c3, c4, c5, c6⟩ := hF
  rw [hP] at c1 c3 hcat1
  rw [hQ] at c2 c4 hcat2
  have HA := Lib.hid hal
  have H1 := Lib.hid c1
  have H2 := Lib.hid c2
  have H3 := Lib.hid c3
  have H4 := Lib.hid c4
  have H5 := Lib.hid c5
  have H6 := Lib.hid c6
  clear hal c1 c2 c3 c4 c5 c6 hP hQ
  go_enter Tryd.func7, Tryd.ntmps7
  go_wp2_with fail
  refine HA.out.mono ?_
  rintro e w0 ⟨rfl, hb⟩
  have B0 := Lib.hid hb
  clear hb
  have K1 := Lib.hid (H1.out w0 B0.out)
  go_wp2_with fail
  refine K1.out.mono ?_
  rintro e w1 ⟨rfl, hb⟩
  have B1 := Lib.hid (B0.out.trans (hb.mono B0.out.size))
  clear hb
  have K2 := Lib.hid (H2.out w1 B1.out)
  go_wp2_with fail
  refine K2.out.mono ?_
  rintro e w2 ⟨rfl, hb⟩
  have B2 := Lib.hid (B1.out.trans (hb.mono B1.out.size))
  clear hb
  have K3 := Lib.hid (H3.out w2 B2.out)
  go_wp2_with fail
  refine K3.out.mono ?_
  rintro e w3 ⟨rfl, hb⟩
  have B3 := Lib.hid (B2.out.trans (hb.mono B2.out.size))
  clear hb
  have K4 := Lib.hid (H4.out w3 B3.out)
  go_wp2_with fail
  refine K4.out.mono ?_
  rintro e w4 ⟨rfl, hb⟩
  have B4 := Lib.hid (B3.out.trans (hb.mono B3.out.size))
  clear hb
  have K5 := Lib.hid (H5.out w4 B4.out)
  go_wp2_with fail
  refine K5.out.mono ?_
  rintro e w5 ⟨rfl, hb⟩
  have B5 := Lib.hid (B4.out.trans (hb.mono B4.out.size))
  clear hb
  have K6 := Lib.hid (H6.out w5 B5.out)
  go_wp2_with fail
  refine K6.out.mono ?_
  rintro e w6 ⟨rfl, hb⟩
  have B6 := Lib.hid (B5.out.trans (hb.mono B5.out.size))
  clear hb
  go_wp2_with (go_at_call 19; refine (lnum13_c _ _).mono ?_; rintro e w' ⟨rfl, rfl⟩)
  all_goals (go_ret; exact ⟨rfl, B6.out⟩)
set_option maxHeartbeats 4000000 in
set_option maxRecDepth 100000 in
theorem sides10 {s t : ByteArray} {w : World} {q1 q2 : Int} {b1 b2 : Bool} {k3 k4 : Int} {a3 a4 : ByteArray} (hl : 16384 < s.size) (hs : s.size ≤ 1048576) (ht : t.size ≤ 1048576) (hal : Calls Tryd.prog 21 #[] w fun e w' => e = .returned (.bool true) ∧ Below w.heap.size w w') (hF : SidesF s t w b1 b2 61 0 k3 k4 a3 a4 q1 q2 0 0) :
    Calls Tryd.prog 7 #[.string s, .string t] w fun e w' => e = .returned (.bool true) ∧ Below w.heap.size w w' := by
  have hlI : decide ((16384 : Int) < (s.size : Int)) = true := by simp; omega
  have hcat1 : ∀ W, (Op.stringOp .add t s).run Tryd.prog W = .ok (.string (t ++ s)) W := fun W => run_string_add_sum W t s (by omega)
  have hcat2 : ∀ W, (Op.stringOp .add s t).run Tryd.prog W = .ok (.string (s ++ t)) W := fun W => run_string_add_sum W s t (by omega)
  obtain ⟨P, hP⟩ : ∃ P, t ++ s = P := ⟨_, rfl⟩
  obtain ⟨Q, hQ⟩ : ∃ Q, s ++ t = Q := ⟨_, rfl⟩
  obtain ⟨c1, c2, c3, c4, c5, c6⟩ := hF
  rw [hP] at c1 c3 hcat1
  rw [hQ] at c2 c4 hcat2
  have HA := Lib.hid hal
  have H1 := Lib.hid c1
  have H2 := Lib.hid c2
  have H3 := Lib.hid c3
  have H4 := Lib.hid c4
  have H5 := Lib.hid c5
  have H6 := Lib.hid c6
  clear hal c1 c2 c3 c4 c5 c6 hP hQ
  go_enter Tryd.func7, Tryd.ntmps7
  go_wp2_with fail
  refine HA.out.mono ?_
  rintro e w0 ⟨rfl, hb⟩
  have B0 := Lib.hid hb
  clear hb
  have K1 := Lib.hid (H1.out w0 B0.out)
  go_wp2_with fail
  refine K1.out.mono ?_
  rintro e w1 ⟨rfl, hb⟩
  have B1 := Lib.hid (B0.out.trans (hb.mono B0.out.size))
  clear hb
  have K2 := Lib.hid (H2.out w1 B1.out)
  go_wp2_with fail
  refine K2.out.mono ?_
  rintro e w2 ⟨rfl, hb⟩
  have B2 := Lib.hid (B1.out.trans (hb.mono B1.out.size))
  clear hb
  have K3 := Lib.hid (H3.out w2 B2.out)
  go_wp2_with fail
  refine K3.out.mono ?_
  rintro e w3 ⟨rfl, hb⟩
  have B3 := Lib.hid (B2.out.trans (hb.mono B2.out.size))
  clear hb
  have K4 := Lib.hid (H4.out w3 B3.out)
  go_wp2_with fail
  refine K4.out.mono ?_
  rintro e w4 ⟨rfl, hb⟩
  have B4 := Lib.hid (B3.out.trans (hb.mono B3.out.size))
  clear hb
  have K5 := Lib.hid (H5.out w4 B4.out)
  go_wp2_with fail
  refine K5.out.mono ?_
  rintro e w5 ⟨rfl, hb⟩
  have B5 := Lib.hid (B4.out.trans (hb.mono B4.out.size))
  clear hb
  have K6 := Lib.hid (H6.out w5 B5.out)
  go_wp2_with fail
  refine K6.out.mono ?_
  rintro e w6 ⟨rfl, hb⟩
  have B6 := Lib.hid (B5.out.trans (hb.mono B5.out.size))
  clear hb
  go_wp2_with (go_at_call 19; refine (lnum13_c _ _).mono ?_; rintro e w' ⟨rfl, rfl⟩)
  all_goals (go_ret; exact ⟨rfl, B6.out⟩)
set_option maxHeartbeats 4000000 in
set_option maxRecDepth 100000 in
theorem sides11 {s t : ByteArray} {w : World} {q1 q2 : Int} {b1 b2 : Bool} {k3 k4 : Int} {a3 a4 : ByteArray} (hl : 16384 < s.size) (hs : s.size ≤ 1048576) (ht : t.size ≤ 1048576) (hal : Calls Tryd.prog 21 #[] w fun e w' => e = .returned (.bool true) ∧ Below w.heap.size w w') (hF : SidesF s t w b1 b2 61 0 k3 k4 a3 a4 q1 q2 0 61) :
    Calls Tryd.prog 7 #[.string s, .string t] w fun e w' => e = .returned (.bool true) ∧ Below w.heap.size w w' := by
  have hlI : decide ((16384 : Int) < (s.size : Int)) = true := by simp; omega
  have hcat1 : ∀ W, (Op.stringOp .add t s).run Tryd.prog W = .ok (.string (t ++ s)) W := fun W => run_string_add_sum W t s (by omega)
  have hcat2 : ∀ W, (Op.stringOp .add s t).run Tryd.prog W = .ok (.string (s ++ t)) W := fun W => run_string_add_sum W s t (by omega)
  obtain ⟨P, hP⟩ : ∃ P, t ++ s = P := ⟨_, rfl⟩
  obtain ⟨Q, hQ⟩ : ∃ Q, s ++ t = Q := ⟨_, rfl⟩
  obtain ⟨c1, c2, c3, c4, c5, c6⟩ := hF
  rw [hP] at c1 c3 hcat1
  rw [hQ] at c2 c4 hcat2
  have HA := Lib.hid hal
  have H1 := Lib.hid c1
  have H2 := Lib.hid c2
  have H3 := Lib.hid c3
  have H4 := Lib.hid c4
  have H5 := Lib.hid c5
  have H6 := Lib.hid c6
  clear hal c1 c2 c3 c4 c5 c6 hP hQ
  go_enter Tryd.func7, Tryd.ntmps7
  go_wp2_with fail
  refine HA.out.mono ?_
  rintro e w0 ⟨rfl, hb⟩
  have B0 := Lib.hid hb
  clear hb
  have K1 := Lib.hid (H1.out w0 B0.out)
  go_wp2_with fail
  refine K1.out.mono ?_
  rintro e w1 ⟨rfl, hb⟩
  have B1 := Lib.hid (B0.out.trans (hb.mono B0.out.size))
  clear hb
  have K2 := Lib.hid (H2.out w1 B1.out)
  go_wp2_with fail
  refine K2.out.mono ?_
  rintro e w2 ⟨rfl, hb⟩
  have B2 := Lib.hid (B1.out.trans (hb.mono B1.out.size))
  clear hb
  have K3 := Lib.hid (H3.out w2 B2.out)
  go_wp2_with fail
  refine K3.out.mono ?_
  rintro e w3 ⟨rfl, hb⟩
  have B3 := Lib.hid (B2.out.trans (hb.mono B2.out.size))
  clear hb
  have K4 := Lib.hid (H4.out w3 B3.out)
  go_wp2_with fail
  refine K4.out.mono ?_
  rintro e w4 ⟨rfl, hb⟩
  have B4 := Lib.hid (B3.out.trans (hb.mono B3.out.size))
  clear hb
  have K5 := Lib.hid (H5.out w4 B4.out)
  go_wp2_with fail
  refine K5.out.mono ?_
  rintro e w5 ⟨rfl, hb⟩
  have B5 := Lib.hid (B4.out.trans (hb.mono B4.out.size))
  clear hb
  have K6 := Lib.hid (H6.out w5 B5.out)
  go_wp2_with fail
  refine K6.out.mono ?_
  rintro e w6 ⟨rfl, hb⟩
  have B6 := Lib.hid (B5.out.trans (hb.mono B5.out.size))
  clear hb
  go_wp2_with (go_at_call 19; refine (lnum13_c _ _).mono ?_; rintro e w' ⟨rfl, rfl⟩)
  all_goals (go_ret; exact ⟨rfl, B6.out⟩)
set_option maxHeartbeats 4000000 in
set_option maxRecDepth 100000 in
theorem sides12 {s t : ByteArray} {w : World} {q1 q2 : Int} {b1 b2 : Bool} {k3 k4 : Int} {a3 a4 : ByteArray} (hl : 16384 < s.size) (hs : s.size ≤ 1048576) (ht : t.size ≤ 1048576) (hal : Calls Tryd.prog 21 #[] w fun e w' => e = .returned (.bool true) ∧ Below w.heap.size w w') (hF : SidesF s t w b1 b2 61 61 k3 k4 a3 a4 q1 q2 0 0) :
    Calls Tryd.prog 7 #[.string s, .string t] w fun e w' => e = .returned (.bool true) ∧ Below w.heap.size w w' := by
  have hlI : decide ((16384 : Int) < (s.size : Int)) = true := by simp; omega
  have hcat1 : ∀ W, (Op.stringOp .add t s).run Tryd.prog W = .ok (.string (t ++ s)) W := fun W => run_string_add_sum W t s (by omega)
  have hcat2 : ∀ W, (Op.stringOp .add s t).run Tryd.prog W = .ok (.string (s ++ t)) W := fun W => run_string_add_sum W s t (by omega)
  obtain ⟨P, hP⟩ : ∃ P, t ++ s = P := ⟨_, rfl⟩
  obtain ⟨Q, hQ⟩ : ∃ Q, s ++ t = Q := ⟨_, rfl⟩
  obtain ⟨c1, c2, c3, c4, c5, c6⟩ := hF
  rw [hP] at c1 c3 hcat1
  rw [hQ] at c2 c4 hcat2
  have HA := Lib.hid hal
  have H1 := Lib.hid c1
  have H2 := Lib.hid c2
  have H3 := Lib.hid c3
  have H4 := Lib.hid c4
  have H5 := Lib.hid c5
  have H6 := Lib.hid c6
  clear hal c1 c2 c3 c4 c5 c6 hP hQ
  go_enter Tryd.func7, Tryd.ntmps7
  go_wp2_with fail
  refine HA.out.mono ?_
  rintro e w0 ⟨rfl, hb⟩
  have B0 := Lib.hid hb
  clear hb
  have K1 := Lib.hid (H1.out w0 B0.out)
  go_wp2_with fail
  refine K1.out.mono ?_
  rintro e w1 ⟨rfl, hb⟩
  have B1 := Lib.hid (B0.out.trans (hb.mono B0.out.size))
  clear hb
  have K2 := Lib.hid (H2.out w1 B1.out)
  go_wp2_with fail
  refine K2.out.mono ?_
  rintro e w2 ⟨rfl, hb⟩
  have B2 := Lib.hid (B1.out.trans (hb.mono B1.out.size))
  clear hb
  have K3 := Lib.hid (H3.out w2 B2.out)
  go_wp2_with fail
  refine K3.out.mono ?_
  rintro e w3 ⟨rfl, hb⟩
  have B3 := Lib.hid (B2.out.trans (hb.mono B2.out.size))
  clear hb
  have K4 := Lib.hid (H4.out w3 B3.out)
  go_wp2_with fail
  refine K4.out.mono ?_
  rintro e w4 ⟨rfl, hb⟩
  have B4 := Lib.hid (B3.out.trans (hb.mono B3.out.size))
  clear hb
  have K5 := Lib.hid (H5.out w4 B4.out)
  go_wp2_with fail
  refine K5.out.mono ?_
  rintro e w5 ⟨rfl, hb⟩
  have B5 := Lib.hid (B4.out.trans (hb.mono B4.out.size))
  clear hb
  have K6 := Lib.hid (H6.out w5 B5.out)
  go_wp2_with fail
  refine K6.out.mono ?_
  rintro e w6 ⟨rfl, hb⟩
  have B6 := Lib.hid (B5.out.trans (hb.mono B5.out.size))
  clear hb
  go_wp2_with (go_at_call 19; refine (lnum13_c _ _).mono ?_; rintro e w' ⟨rfl, rfl⟩)
  all_goals (go_ret; exact ⟨rfl, B6.out⟩)
set_option maxHeartbeats 4000000 in
set_option maxRecDepth 100000 in
theorem sides13 {s t : ByteArray} {w : World} {q1 q2 : Int} {b1 b2 : Bool} {k3 k4 : Int} {a3 a4 : ByteArray} (hl : 16384 < s.size) (hs : s.size ≤ 1048576) (ht : t.size ≤ 1048576) (hal : Calls Tryd.prog 21 #[] w fun e w' => e = .returned (.bool true) ∧ Below w.heap.size w w') (hF : SidesF s t w b1 b2 61 61 k3 k4 a3 a4 q1 q2 0 61) :
    Calls Tryd.prog 7 #[.string s, .string t] w fun e w' => e = .returned (.bool true) ∧ Below w.heap.size w w' := by
  have hlI : decide ((16384 : Int) < (s.size : Int)) = true := by simp; omega
  have hcat1 : ∀ W, (Op.stringOp .add t s).run Tryd.prog W = .ok (.string (t ++ s)) W := fun W => run_string_add_sum W t s (by omega)
  have hcat2 : ∀ W, (Op.stringOp .add s t).run Tryd.prog W = .ok (.string (s ++ t)) W := fun W => run_string_add_sum W s t (by omega)
  obtain ⟨P, hP⟩ : ∃ P, t ++ s = P := ⟨_, rfl⟩
  obtain ⟨Q, hQ⟩ : ∃ Q, s ++ t = Q := ⟨_, rfl⟩
  obtain ⟨c1, c2, c3, c4, c5, c6⟩ := hF
  rw [hP] at c1 c3 hcat1
  rw [hQ] at c2 c4 hcat2
  have HA := Lib.hid hal
  have H1 := Lib.hid c1
  have H2 := Lib.hid c2
  have H3 := Lib.hid c3
  have H4 := Lib.hid c4
  have H5 := Lib.hid c5
  have H6 := Lib.hid c6
  clear hal c1 c2 c3 c4 c5 c6 hP hQ
  go_enter Tryd.func7, Tryd.ntmps7
  go_wp2_with fail
  refine HA.out.mono ?_
  rintro e w0 ⟨rfl, hb⟩
  have B0 := Lib.hid hb
  clear hb
  have K1 := Lib.hid (H1.out w0 B0.out)
  go_wp2_with fail
  refine K1.out.mono ?_
  rintro e w1 ⟨rfl, hb⟩
  have B1 := Lib.hid (B0.out.trans (hb.mono B0.out.size))
  clear hb
  have K2 := Lib.hid (H2.out w1 B1.out)
  go_wp2_with fail
  refine K2.out.mono ?_
  rintro e w2 ⟨rfl, hb⟩
  have B2 := Lib.hid (B1.out.trans (hb.mono B1.out.size))
  clear hb
  have K3 := Lib.hid (H3.out w2 B2.out)
  go_wp2_with fail
  refine K3.out.mono ?_
  rintro e w3 ⟨rfl, hb⟩
  have B3 := Lib.hid (B2.out.trans (hb.mono B2.out.size))
  clear hb
  have K4 := Lib.hid (H4.out w3 B3.out)
  go_wp2_with fail
  refine K4.out.mono ?_
  rintro e w4 ⟨rfl, hb⟩
  have B4 := Lib.hid (B3.out.trans (hb.mono B3.out.size))
  clear hb
  have K5 := Lib.hid (H5.out w4 B4.out)
  go_wp2_with fail
  refine K5.out.mono ?_
  rintro e w5 ⟨rfl, hb⟩
  have B5 := Lib.hid (B4.out.trans (hb.mono B4.out.size))
  clear hb
  have K6 := Lib.hid (H6.out w5 B5.out)
  go_wp2_with fail
  refine K6.out.mono ?_
  rintro e w6 ⟨rfl, hb⟩
  have B6 := Lib.hid (B5.out.trans (hb.mono B5.out.size))
  clear hb
  go_wp2_with (go_at_call 19; refine (lnum13_c _ _).mono ?_; rintro e w' ⟨rfl, rfl⟩)
  all_goals (go_ret; exact ⟨rfl, B6.out⟩)
set_option maxHeartbeats 4000000 in
set_option maxRecDepth 100000 in
theorem sides14 {s t : ByteArray} {w : World} {q1 q2 : Int} {b1 b2 : Bool} {k3 k4 : Int} {a3 a4 : ByteArray} (hl : s.size ≤ 16384) (hs : s.size ≤ 1048576) (ht : t.size ≤ 1048576) (hal : Calls Tryd.prog 21 #[] w fun e w' => e = .returned (.bool true) ∧ Below w.heap.size w w') (hF : SidesF s t w b1 b2 61 61 k3 k4 a3 a4 q1 q2 0 61) :
    Calls Tryd.prog 7 #[.string s, .string t] w fun e w' => e = .returned (.bool true) ∧ Below w.heap.size w w' := by
  have hlI : decide ((16384 : Int) < (s.size : Int)) = false := by simp; omega
  have hcat1 : ∀ W, (Op.stringOp .add t s).run Tryd.prog W = .ok (.string (t ++ s)) W := fun W => run_string_add_sum W t s (by omega)
  have hcat2 : ∀ W, (Op.stringOp .add s t).run Tryd.prog W = .ok (.string (s ++ t)) W := fun W => run_string_add_sum W s t (by omega)
  obtain ⟨P, hP⟩ : ∃ P, t ++ s = P := ⟨_, rfl⟩
  obtain ⟨Q, hQ⟩ : ∃ Q, s ++ t = Q := ⟨_, rfl⟩
  obtain ⟨c1, c2, c3, c4, c5, c6⟩ := hF
  rw [hP] at c1 c3 hcat1
  rw [hQ] at c2 c4 hcat2
  have HA := Lib.hid hal
  have H1 := Lib.hid c1
  have H2 := Lib.hid c2
  have H3 := Lib.hid c3
  have H4 := Lib.hid c4
  have H5 := Lib.hid c5
  have H6 := Lib.hid c6
  clear hal c1 c2 c3 c4 c5 c6 hP hQ
  go_enter Tryd.func7, Tryd.ntmps7
  go_wp2_with fail
  refine HA.out.mono ?_
  rintro e w0 ⟨rfl, hb⟩
  have B0 := Lib.hid hb
  clear hb
  have K1 := Lib.hid (H1.out w0 B0.out)
  go_wp2_with fail
  refine K1.out.mono ?_
  rintro e w1 ⟨rfl, hb⟩
  have B1 := Lib.hid (B0.out.trans (hb.mono B0.out.size))
  clear hb
  have K2 := Lib.hid (H2.out w1 B1.out)
  go_wp2_with fail
  refine K2.out.mono ?_
  rintro e w2 ⟨rfl, hb⟩
  have B2 := Lib.hid (B1.out.trans (hb.mono B1.out.size))
  clear hb
  have K3 := Lib.hid (H3.out w2 B2.out)
  go_wp2_with fail
  refine K3.out.mono ?_
  rintro e w3 ⟨rfl, hb⟩
  have B3 := Lib.hid (B2.out.trans (hb.mono B2.out.size))
  clear hb
  have K4 := Lib.hid (H4.out w3 B3.out)
  go_wp2_with fail
  refine K4.out.mono ?_
  rintro e w4 ⟨rfl, hb⟩
  have B4 := Lib.hid (B3.out.trans (hb.mono B3.out.size))
  clear hb
  have K5 := Lib.hid (H5.out w4 B4.out)
  go_wp2_with fail
  refine K5.out.mono ?_
  rintro e w5 ⟨rfl, hb⟩
  have B5 := Lib.hid (B4.out.trans (hb.mono B4.out.size))
  clear hb
  have K6 := Lib.hid (H6.out w5 B5.out)
  go_wp2_with fail
  refine K6.out.mono ?_
  rintro e w6 ⟨rfl, hb⟩
  have B6 := Lib.hid (B5.out.trans (hb.mono B5.out.size))
  clear hb
  go_wp2_with (go_at_call 19; refine (lnum13_c _ _).mono ?_; rintro e w' ⟨rfl, rfl⟩)
  all_goals (go_ret; exact ⟨rfl, B6.out⟩)
theorem errX_two (a b : ByteArray) : errX [a, b] = if isT a.data.toList = true ∧ isT b.data.toList = true then 0 else 61 := by
  unfold errX
  simp
theorem said2 (xs : List ByteArray) (b : Bool) : (saidB xs b).2 = 0 ∨ (saidB xs b).2 = 61 := by
  rcases errX_cases xs with h | h
  · rw [saidB_ok h]; exact .inl rfl
  · rw [saidB_no h]; exact .inr rfl
theorem textsSides_c {m : Int} (s t : ByteArray) (w : World) (hT : Tabs w) (hm : w.cell? ⟨0, 0, none⟩ = some (.int .i64 m)) (hs : s.size ≤ 1048576) (ht : t.size ≤ 1048576) :
    Calls Tryd.prog 7 #[.string s, .string t] w fun e w' => e = .returned (.bool true) ∧ Below w.heap.size w w' := by
  have hal := alive13_c w hT hm
  have hF := sides_f s t w hT hs ht
  rcases errT_cases s.data.toList with ⟨hs0, hsT⟩ | ⟨hs0, hsT⟩
  · rcases Nat.lt_or_ge 16384 s.size with hl | hl
    · rcases said2 [t ++ s, t] (Lib.hasPrefix (t ++ s).data.toList t.data.toList) with h1 | h1 <;> rcases said2 [s ++ t, t] (Lib.hasSuffix (s ++ t).data.toList t.data.toList) with h2 | h2 <;> rcases errT_cases t.data.toList with ⟨ht0, -⟩ | ⟨ht0, -⟩ <;> rw [h1, h2, hs0, ht0] at hF
      · exact sides6 hl hs ht hal hF
      · exact sides7 hl hs ht hal hF
      · exact sides8 hl hs ht hal hF
      · exact sides9 hl hs ht hal hF
      · exact sides10 hl hs ht hal hF
      · exact sides11 hl hs ht hal hF
      · exact sides12 hl hs ht hal hF
      · exact sides13 hl hs ht hal hF
    · rcases errT_cases t.data.toList with ⟨ht0, htT⟩ | ⟨ht0, htT⟩
      · have e1 : errX [t ++ s, t] = 0 := by rw [errX_two, app_list, if_pos ⟨isT_append htT hsT, htT⟩]
        have e2 : errX [s ++ t, t] = 0 := by rw [errX_two, app_list, if_pos ⟨isT_append hsT htT, htT⟩]
        have e3 : s.data.toList.length ≤ 16384 := by rw [← sizeT_list]; exact hl
        have e4 : (⟨s.data.toList.toArray⟩ : ByteArray) = s := by simp
        rw [saidB_ok e1, saidB_ok e2, wrote_ok e1, wrote_ok e2, app_list, app_list, pre_self, suf_self, trimP_self, trimS_self, tell_ok e3, e4, hs0, ht0] at hF
        exact sides1 hl hs ht hal hF
      · have e1 : errX [t ++ s, t] = 61 := errX_no (x := t) (by simp) htT
        have e2 : errX [s ++ t, t] = 61 := errX_no (x := t) (by simp) htT
        rw [saidB_no e1, saidB_no e2, hs0, ht0] at hF
        exact sides14 hl hs ht hal hF
  · rcases said2 [t ++ s, t] (Lib.hasPrefix (t ++ s).data.toList t.data.toList) with h1 | h1 <;> rcases said2 [s ++ t, t] (Lib.hasSuffix (s ++ t).data.toList t.data.toList) with h2 | h2 <;> rw [h1, h2, hs0] at hF
    · exact sides2 hs ht hal hF
    · exact sides3 hs ht hal hF
    · exact sides4 hs ht hal hF
    · exact sides5 hs ht hal hF
end Go.Proofs.YtdacdppmgcaioaaDoor
