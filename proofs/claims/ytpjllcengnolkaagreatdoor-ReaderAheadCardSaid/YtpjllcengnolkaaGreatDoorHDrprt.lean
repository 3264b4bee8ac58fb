/-
  Contract of the reference's Word: digits as a text.
  Contracts of the reference's zeros and plain.
-/
import Derived.Test.YtpjllcengnolkaaGreatDoorHDa
import Derived.Test.YtpjllcengnolkaaGreatDoorHVord
import Derived.Lib.ItoaLen
set_option linter.unusedVariables false
set_option linter.unusedSimpArgs false
namespace Go.Proofs.YtpjllcengnolkaaGreatDoor
open Go.RowKit

set_option maxRecDepth 100000 in
theorem Word_c {S : Nat → Prop} {n c : Nat} {A : Option Addr} {ds : List Nat} (w : World) (h : RdI w S A n ds) (hS : ∀ b, S b → b < w.heap.size) (hx : DCan ds) (hn : n ≤ 100000) :
    Calls Tryz.prog 24 #[.slice A n c] w fun e w' => ∃ s, e = .returned (.string s) ∧ IsDec (dval ds) s ∧ Below w.heap.size w w' := by
  have HL := Lib.hid h.len
  have HX := Lib.hid hx
  clear hx
  obtain ⟨i0, hi, hz0, hz1, hz2⟩ := info_parts info8
  go_enter Tryz.func24, Tryz.ntmps24
  go_wp2
  go_loopw [3, 4] (fun bv iv wr => ∃ (k no co : Nat) (Ao : Option Addr), k ≤ n ∧ no + k = n ∧ iv = .int .i64 ((k : Int) - 1) ∧ bv = .slice Ao no co ∧ ResB wr w.heap.size Ao no co (chars ((ds.drop k).reverse)) ∧ Below w.heap.size w wr)
    (fun _ iv _ => (intOf iv + 1).toNat)
  case atStart => exact ⟨n, 0, 0, none, Nat.le_refl _, by omega, rfl, rfl, by rw [List.drop_of_length_le (by rw [HL.out]; exact Nat.le_refl _)]; exact ResB.nil _ _, Below.refl _ _⟩
  case round =>
    obtain ⟨k, no, co, Ao, hk, hno, rfl, rfl, hres, hbel⟩ := hrel
    by_cases h0 : k = 0
    · subst h0
      rw [List.drop_zero] at hres
      by_cases hn0 : n = 0
      · have hd : Hid (dval ds = 0) := by
          have : ds = [] := List.eq_nil_of_length_eq_zero (by rw [HL.out]; exact hn0)
          show _ = _
          rw [this]; rfl
        obtain rfl : no = 0 := by omega
        clear hn0 hno
        go_wp2
        go_ret
        exact ⟨_, rfl, .inl ⟨hd.out, rfl⟩, hbel⟩
      · obtain ⟨g, hA⟩ : ∃ g, Ao = some ⟨g, 0, none⟩ := by
          rcases hres.form with ⟨_, h, _⟩ | ⟨g, h, _⟩
          · omega
          · exact ⟨g, h⟩
        subst hA
        have hcv := conv_txt hres
        have hnb : ((no : Int) == 0) = false := by rw [beq_eq_false_iff_ne]; omega
        have hpos : Hid (0 < dval ds) := by
          show _ < _
          rcases Nat.eq_zero_or_pos (dval ds) with h | h
          · have := HX.out.dval_zero h
            have h2 := HL.out
            rw [this] at h2
            exact absurd h2.symm hn0
          · exact h
        clear hn0 hno
        go_wp2
        go_ret
        refine ⟨_, rfl, .inr ⟨hpos.out, ds, HX.out, rfl, ?_⟩, hbel⟩
        unfold chars
        rw [List.map_reverse]
    · obtain ⟨j, rfl⟩ : ∃ j, k = j + 1 := ⟨k - 1, by omega⟩
      obtain ⟨b, off, rfl, hSb, hcell0⟩ := h.at_ (k := j) (by omega)
      have hcell : wr.cell? ⟨b, off + j, none⟩ = some (.int .i64 (nth ds j : Int)) := (hbel.cell (p := ⟨b, off + j, none⟩) (hS _ hSb)).trans hcell0
      have hx9 := dth_lt HX.out.1 j
      have hro : ∀ o, (wr.alloc o).ownsRow w.heap.size 5 1 (.slice Ao no co) no (u8s (chars ((ds.drop (j + 1)).reverse))) := fun o => hres.own.alloc o
      obtain ⟨t, ht⟩ : ∃ t, t = nth ds j + 48 := ⟨_, rfl⟩
      have hti : 48 + (nth ds j : Int) = (t : Int) := by omega
      have htb : t ≤ 57 := by omega
      have HT := Lib.hid ht
      clear ht h0
      go_wp2_with (at_builtin; refine wpList_append_own_at _ rfl (.tmp 12) (.tmp 19) _ rfl w.heap.size 5 i0 (.int .u8 0) 1 1 Tryz.underlying22 hi hz0 hz1 hz2 rfl (by decide) (.slice Ao no co) no (u8s (chars ((ds.drop (j + 1)).reverse))) rfl (hro _) ⟨wr.heap.size, 0, none⟩ 1 1 [.int .u8 (t : Int)] rfl rfl (cell_new1 _ _ _ _ rfl) (by simp [Value.oneCell']) (by unfold maxLen; omega) (by omega) (by simp; have := hbel.size; omega) ?_; intro v1 w1 hown1 hg1 _ hat1)
      obtain ⟨g', cap', hv'⟩ := ownsRow_succ hown1
      subst hv'
      have hs := ResB.snoc hres.len hres.l32 (by omega) hown1
      rw [HT.out, ← chars_rev ds (by rw [HL.out]; omega)] at hs
      exact ⟨⟨j, no + 1, _, _, by omega, by omega, by go_num, rfl, hs, hres.below_append hbel hbel.size hg1⟩, by simp [intOf]⟩

end Go.Proofs.YtpjllcengnolkaaGreatDoor

namespace Go.Proofs.YtpjllcengnolkaaGreatDoor
open Go.RowKit

theorem ResB.one (w : World) (x : Nat) (hx : x < 256) : ResB (w.alloc (.cells #[.int .u8 (x : Int)] 5)) w.heap.size (some ⟨w.heap.size, 0, none⟩) 1 1 [x] := by
  refine ⟨rfl, L8.one hx, ?_⟩
  have h := World.ownsRow_lit (base := w.heap.size) (e := 5) (size := 1) w #[.int .u8 (x : Int)] 1 (Nat.le_refl _) (by unfold maxLen; omega) (by simp)
  show World.ownsRow _ _ _ _ _ _ [Value.int .u8 (x : Int)]
  simpa using h
end Go.Proofs.YtpjllcengnolkaaGreatDoor
