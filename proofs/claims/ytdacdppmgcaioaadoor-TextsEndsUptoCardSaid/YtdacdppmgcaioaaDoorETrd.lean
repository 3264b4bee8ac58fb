/-
  The reference: Begins, Ends, TrimLeft, TrimRight.
-/
import Derived.Test.YtdacdppmgcaioaaDoorETrb
set_option linter.unusedVariables false
set_option linter.unusedSimpArgs false
namespace Go.Proofs.YtdacdppmgcaioaaDoor
open Go.RowKit Go.Lib

theorem whole_s {A : Option Addr} {c : Nat} (S : ByteArray) (w : World) (h : RdO w A S.data.toList) :
    Calls Tryd.prog 42 #[.slice A S.size c] w fun e w' => e = .returned (.tuple #[.string (tell S.data.toList).1, .int .i64 (tell S.data.toList).2]) ∧ w' = w := by
  have h2 := whole_c (c := c) w h
  rwa [← sizeT_list] at h2
theorem hcvT (S : ByteArray) (W : World) : (convert 9 62 (.string S)).run Tryd.prog W = .ok (.slice (some ⟨W.heap.size, 0, none⟩) S.size (grownCap W S.size 0 5)) (Go.Lib.bytesWorld W 5 S) :=
  Go.Lib.run_convert_string_bytes (P := Tryd.prog) W 9 62 5 S Tryd.underlying9 Tryd.underlying62 Tryd.underlying5
set_option maxHeartbeats 1000000 in
set_option maxRecDepth 100000 in
theorem rBegins_c (s t : ByteArray) (w : World) (hs : s.size ≤ 140737488355328) (ht : t.size ≤ 140737488355328) :
    Calls Tryd.prog 23 #[.string s, .string t] w fun e w' => e = .returned (.tuple #[.bool (saidB [s, t] (Lib.hasPrefix s.data.toList t.data.toList)).1, .int .i64 (saidB [s, t] (Lib.hasPrefix s.data.toList t.data.toList)).2]) ∧ Below w.heap.size w w' := by
  have hck := rChecks2_c s t w hs ht
  obtain ⟨E, hE⟩ : ∃ E, errX [s, t] = E := ⟨_, rfl⟩
  have hc := errX_cases [s, t]
  rw [hE] at hck hc
  have HC := Lib.hid hck
  clear hck
  rcases hc with rfl | rfl
  · rw [saidB_ok hE]
    clear hE
    go_enter Tryd.func23, Tryd.ntmps23
    go_wp2_with fail
    refine HC.out.mono ?_
    rintro e w1 ⟨rfl, hb1⟩
    have HB := Lib.hid hb1
    clear hb1
    go_wp2_with fail
    refine (begins_c s t _ (by omega)).mono ?_
    rintro e w2 ⟨rfl, rfl⟩
    go_wp2_with fail
    go_ret2
    exact ⟨rfl, HB.out⟩
  · rw [saidB_no hE]
    clear hE
    go_enter Tryd.func23, Tryd.ntmps23
    go_wp2_with fail
    refine HC.out.mono ?_
    rintro e w1 ⟨rfl, hb1⟩
    have HB := Lib.hid hb1
    clear hb1
    go_wp2_with fail
    go_ret2
    exact ⟨rfl, HB.out⟩
set_option maxHeartbeats 1000000 in
set_option maxRecDepth 100000 in
theorem rEnds_c (s t : ByteArray) (w : World) (hs : s.size ≤ 140737488355328) (ht : t.size ≤ 140737488355328) :
    Calls Tryd.prog 25 #[.string s, .string t] w fun e w' => e = .returned (.tuple #[.bool (saidB [s, t] (Lib.hasSuffix s.data.toList t.data.toList)).1, .int .i64 (saidB [s, t] (Lib.hasSuffix s.data.toList t.data.toList)).2]) ∧ Below w.heap.size w w' := by
  have hck := rChecks2_c s t w hs ht
  obtain ⟨E, hE⟩ : ∃ E, errX [s, t] = E := ⟨_, rfl⟩
  have hc := errX_cases [s, t]
  rw [hE] at hck hc
  have HC := Lib.hid hck
  clear hck
  rcases hc with rfl | rfl
  · rw [saidB_ok hE]
    clear hE
    go_enter Tryd.func25, Tryd.ntmps25
    go_wp2_with fail
    refine HC.out.mono ?_
    rintro e w1 ⟨rfl, hb1⟩
    have HB := Lib.hid hb1
    clear hb1
    go_wp2_with fail
    refine (ends_c s t _ (by omega) (by omega)).mono ?_
    rintro e w2 ⟨rfl, rfl⟩
    go_wp2_with fail
    go_ret2
    exact ⟨rfl, HB.out⟩
  · rw [saidB_no hE]
    clear hE
    go_enter Tryd.func25, Tryd.ntmps25
    go_wp2_with fail
    refine HC.out.mono ?_
    rintro e w1 ⟨rfl, hb1⟩
    have HB := Lib.hid hb1
    clear hb1
    go_wp2_with fail
    go_ret2
    exact ⟨rfl, HB.out⟩
set_option maxHeartbeats 2000000 in
set_option maxRecDepth 100000 in
theorem rTrimLeft_c (s t : ByteArray) (w : World) (hs : s.size ≤ 140737488355328) (ht : t.size ≤ 140737488355328) :
    Calls Tryd.prog 27 #[.string s, .string t] w fun e w' => e = .returned (.tuple #[.string (wrote [s, t] (Lib.trimPrefix s.data.toList t.data.toList)).1, .int .i64 (wrote [s, t] (Lib.trimPrefix s.data.toList t.data.toList)).2]) ∧ Below w.heap.size w w' := by
  have hck := rChecks2_c s t w hs ht
  obtain ⟨E, hE⟩ : ∃ E, errX [s, t] = E := ⟨_, rfl⟩
  have hc := errX_cases [s, t]
  rw [hE] at hck hc
  have HC := Lib.hid hck
  clear hck
  rcases hc with rfl | rfl
  · rw [wrote_ok hE]
    clear hE
    have hbg := fun W => begins_c s t W (by omega)
    by_cases hp : Lib.hasPrefix s.data.toList t.data.toList = true
    · have hle : t.size ≤ s.size := by
        have h := pre_val s t
        rw [hp] at h
        have h2 := (Bool.and_eq_true _ _).mp h.symm
        simpa using h2.1
      have hS : (s.extract t.size s.size).data.toList = Lib.trimPrefix s.data.toList t.data.toList := by
        unfold Lib.trimPrefix
        rw [if_pos hp]
        rw [ext_drop, ← sizeT_list]
      rw [hp] at hbg
      obtain ⟨X, hX⟩ : ∃ X, s.extract t.size s.size = X := ⟨_, rfl⟩
      rw [hX] at hS
      rw [← hS]
      have hcv := hcvT X
      have HW := Lib.hid (fun W => whole_s (c := grownCap W X.size 0 5) X (Go.Lib.bytesWorld W 5 X) (rdo_conv W X))
      have HBG := Lib.hid hbg
      clear hbg hp hS
      go_enter Tryd.func27, Tryd.ntmps27
      go_wp2_with fail
      refine HC.out.mono ?_
      rintro e w1 ⟨rfl, hb1⟩
      have HB := Lib.hid (hb1.trans ((bytesBelowT w1 X).mono hb1.size))
      clear hb1
      go_wp2_with fail
      refine (HBG.out _).mono ?_
      rintro e w2 ⟨rfl, rfl⟩
      go_wp2_with fail
      refine (HW.out _).mono ?_
      rintro e w2 ⟨rfl, rfl⟩
      go_wp2_with fail
      go_ret2
      exact ⟨rfl, HB.out⟩
    · have hp : Lib.hasPrefix s.data.toList t.data.toList = false := by simpa using hp
      have hS : s.data.toList = Lib.trimPrefix s.data.toList t.data.toList := by
        unfold Lib.trimPrefix
        rw [if_neg (by rw [hp]; decide)]
      rw [hp] at hbg
      rw [← hS]
      have hcv := hcvT s
      have HW := Lib.hid (fun W => whole_s (c := grownCap W s.size 0 5) s (Go.Lib.bytesWorld W 5 s) (rdo_conv W s))
      have HBG := Lib.hid hbg
      clear hbg hp hS
      go_enter Tryd.func27, Tryd.ntmps27
      go_wp2_with fail
      refine HC.out.mono ?_
      rintro e w1 ⟨rfl, hb1⟩
      have HB := Lib.hid (hb1.trans ((bytesBelowT w1 s).mono hb1.size))
      clear hb1
      go_wp2_with fail
      refine (HBG.out _).mono ?_
      rintro e w2 ⟨rfl, rfl⟩
      go_wp2_with fail
      refine (HW.out _).mono ?_
      rintro e w2 ⟨rfl, rfl⟩
      go_wp2_with fail
      go_ret2
      exact ⟨rfl, HB.out⟩
  · rw [wrote_no hE]
    clear hE
    go_enter Tryd.func27, Tryd.ntmps27
    go_wp2_with fail
    refine HC.out.mono ?_
    rintro e w1 ⟨rfl, hb1⟩
    have HB := Lib.hid hb1
    clear hb1
    go_wp2_with fail
    go_ret2
    exact ⟨rfl, HB.out⟩
set_option maxHeartbeats 2000000 in
set_option maxRecDepth 100000 in
theorem rTrimRight_c (s t : ByteArray) (w : World) (hs : s.size ≤ 140737488355328) (ht : t.size ≤ 140737488355328) :
    Calls Tryd.prog 29 #[.string s, .string t] w fun e w' => e = .returned (.tuple #[.string (wrote [s, t] (Lib.trimSuffix s.data.toList t.data.toList)).1, .int .i64 (wrote [s, t] (Lib.trimSuffix s.data.toList t.data.toList)).2]) ∧ Below w.heap.size w w' := by
  have hck := rChecks2_c s t w hs ht
  obtain ⟨E, hE⟩ : ∃ E, errX [s, t] = E := ⟨_, rfl⟩
  have hc := errX_cases [s, t]
  rw [hE] at hck hc
  have HC := Lib.hid hck
  clear hck
  obtain ⟨d, hd⟩ : ∃ d, s.size - t.size = d := ⟨_, rfl⟩
  rcases hc with rfl | rfl
  · rw [wrote_ok hE]
    clear hE
    have hbg := fun W => ends_c s t W (by omega) (by omega)
    by_cases hp : Lib.hasSuffix s.data.toList t.data.toList = true
    · have hle : t.size ≤ s.size := by
        have h := suf_val s t
        rw [hp] at h
        have h2 := (Bool.and_eq_true _ _).mp h.symm
        simpa using h2.1
      have hS : (s.extract 0 d).data.toList = Lib.trimSuffix s.data.toList t.data.toList := by
        unfold Lib.trimSuffix
        rw [if_pos hp]
        rw [ext_take, ← sizeT_list, ← sizeT_list, hd]
      rw [hp] at hbg
      obtain ⟨X, hX⟩ : ∃ X, s.extract 0 d = X := ⟨_, rfl⟩
      rw [hX] at hS
      rw [← hS]
      have hw : IntKind.i64.wrap ((s.size : Int) - (t.size : Int)) = (d : Int) := by rw [IntWalk.i64_in _ (by omega)]; omega
      have hds : d ≤ s.size := by omega
      have hcv := hcvT X
      have HW := Lib.hid (fun W => whole_s (c := grownCap W X.size 0 5) X (Go.Lib.bytesWorld W 5 X) (rdo_conv W X))
      have HBG := Lib.hid hbg
      clear hbg hp hS
      go_enter Tryd.func29, Tryd.ntmps29
      go_wp2_with fail
      refine HC.out.mono ?_
      rintro e w1 ⟨rfl, hb1⟩
      have HB := Lib.hid (hb1.trans ((bytesBelowT w1 X).mono hb1.size))
      clear hb1
      go_wp2_with fail
      refine (HBG.out _).mono ?_
      rintro e w2 ⟨rfl, rfl⟩
      go_wp2_with fail
      refine (HW.out _).mono ?_
      rintro e w2 ⟨rfl, rfl⟩
      go_wp2_with fail
      go_ret2
      exact ⟨rfl, HB.out⟩
    · have hp : Lib.hasSuffix s.data.toList t.data.toList = false := by simpa using hp
      have hS : s.data.toList = Lib.trimSuffix s.data.toList t.data.toList := by
        unfold Lib.trimSuffix
        rw [if_neg (by rw [hp]; decide)]
      rw [hp] at hbg
      rw [← hS]
      have hcv := hcvT s
      have HW := Lib.hid (fun W => whole_s (c := grownCap W s.size 0 5) s (Go.Lib.bytesWorld W 5 s) (rdo_conv W s))
      have HBG := Lib.hid hbg
      clear hbg hp hS
      go_enter Tryd.func29, Tryd.ntmps29
      go_wp2_with fail
      refine HC.out.mono ?_
      rintro e w1 ⟨rfl, hb1⟩
      have HB := Lib.hid (hb1.trans ((bytesBelowT w1 s).mono hb1.size))
      clear hb1
      go_wp2_with fail
      refine (HBG.out _).mono ?_
      rintro e w2 ⟨rfl, rfl⟩
      go_wp2_with fail
      refine (HW.out _).mono ?_
      rintro e w2 ⟨rfl, rfl⟩
      go_wp2_with fail
      go_ret2
      exact ⟨rfl, HB.out⟩
  · rw [wrote_no hE]
    clear hE
    go_enter Tryd.func29, Tryd.ntmps29
    go_wp2_with fail
    refine HC.out.mono ?_
    rintro e w1 ⟨rfl, hb1⟩
    have HB := Lib.hid hb1
    clear hb1
    go_wp2_with fail
    go_ret2
    exact ⟨rfl, HB.out⟩
end Go.Proofs.YtdacdppmgcaioaaDoor
