/-
  strings.ContainsFunc of the closure that asks whether a character is no digit: of a text of digits alone it tells false. Pure facts of such texts.
-/
import Derived.Test.YtnfeifafocemaaaDoorCFod
import Derived.Lib.TrimByte
import Derived.Laws.RangeString
set_option linter.unusedVariables false
set_option linter.unusedSimpArgs false
namespace Go.Proofs.YtnfeifafocemaaaDoor
open Go.RowKit Go.Lib

theorem idx_in {d : UInt8} (h : d ∈ digF) : decide (0 ≤ indexByte digF d) = true := by
  obtain ⟨n, _, e⟩ := dig_at h
  rw [e]; simp
set_option maxRecDepth 100000 in
set_option maxHeartbeats 1000000 in
theorem isNone_c (d : UInt8) (w : World) (h : d ∈ digF) (h2 : d.toNat < 128) : Calls Tryd.prog 15 #[.int .i32 (d.toNat : Int)] w fun e w' => e = .returned (.bool false) ∧ w' = w := by
  have hc := Tryd.strings_ContainsRune_ascii (mk8 digF) (d.toNat : Int) w (by omega) (by omega)
  have e8 : ((d.toNat : Int)).toNat.toUInt8 = d := by simp
  rw [e8, mk8_L, idx_in h] at hc
  have HC := Lib.hid hc
  clear hc e8
  go_enter Tryd.func15, Tryd.ntmps15
  go_wp2_with fail
  refine HC.out.mono ?_
  rintro e w1 ⟨rfl, rfl⟩
  go_wp2_with fail
  go_ret
  exact ⟨rfl, rfl⟩
set_option maxRecDepth 100000 in
set_option maxHeartbeats 2000000 in
theorem indexFunc_c (s : ByteArray) (w : World) (hd : ∀ x ∈ s.data.toList, x ∈ digF ∧ x.toNat < 128) (hs : s.size ≤ 140737488355328) :
    Calls Tryd.prog 48 #[.string s, .func (.func 15) #[] #[], .bool true] w fun e w' => e = .returned (.int .i64 (-1)) ∧ Below w.heap.size w w' := by
  have hg : ∀ (i : Nat) (h : i < s.size), (s[i]'h) ∈ digF ∧ (s[i]'h).toNat < 128 := fun i h => hd _ (by
    have : s[i] = s.data.toList[i]'(by rw [Array.length_toList]; exact h) := by
      show s.data[i]'h = _
      rw [Array.getElem_toList]
    rw [this]; exact List.getElem_mem _)
  have HG := Lib.hid hg
  clear hd hg
  go_enter Tryd.func48, Tryd.ntmps48
  go_upto_region 2 with fail
  go_loopw [7, 8] (fun _ _ wr => ∃ i : Nat, i ≤ s.size ∧ wr = w.iter s i) (fun _ _ wr => s.size - wr.iterPos w.heap.size)
  case atStart => exact ⟨0, Nat.zero_le _, rfl⟩
  case round =>
    obtain ⟨i, hi, rfl⟩ := hrel
    by_cases hlt : i < s.size
    · obtain ⟨h1, h2⟩ := HG.out i hlt
      have hnx := fun ty => run_next_ascii (P := Tryd.prog) w s i ty hlt h2
      obtain ⟨d, hd⟩ : ∃ d, (s[i]'hlt) = d := ⟨_, rfl⟩
      rw [hd] at h1 h2
      simp only [hd] at hnx
      have HC := Lib.hid (isNone_c d (w.iter s (i + 1)) h1 h2)
      clear hd
      go_wp2_with (refine HC.out.mono ?_; rintro e w' ⟨rfl, rfl⟩)
      refine ⟨⟨i + 1, hlt, rfl⟩, ?_⟩
      simp [World.iterPos, World.iter_heap]
      omega
    · have hnx := fun ty => run_next_end (P := Tryd.prog) w s i ty hlt
      go_wp2_with fail
      go_ret
      exact ⟨rfl, (Below.refl _ w).alloc (Nat.le_refl _) _⟩
end Go.Proofs.YtnfeifafocemaaaDoor
