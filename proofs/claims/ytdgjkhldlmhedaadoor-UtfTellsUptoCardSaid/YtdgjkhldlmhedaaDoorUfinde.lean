/-
  Contract of utf.Find where one of both is no text.
-/
import Derived.Test.YtdgjkhldlmhedaaDoorUmatches
set_option linter.unusedVariables false
set_option linter.unusedSimpArgs false
namespace Go.Proofs.YtdgjkhldlmhedaaDoor
open Go.RowKit Go.Lib

set_option maxRecDepth 100000 in
set_option maxHeartbeats 1000000 in
theorem Find_no (S T : List UInt8) (w : World) (hT : Tabs w) (hs : S.length ≤ 16777216) (ht : T.length ≤ 16777216) (hno : ¬ (isT S = true ∧ isT T = true)) :
    Calls Tryd.prog 17 #[.string (mk8 S), .string (mk8 T)] w fun e w' => e = .returned (.tuple #[.slice none 0 0, .int .i64 61]) ∧ Below w.heap.size w w' := by
  have hC1 := fun V (h : Tabs V) => Check_c (mk8 S) V h (by rw [mk8_size]; omega)
  have hC2 := fun V (h : Tabs V) => Check_c (mk8 T) V h (by rw [mk8_size]; omega)
  rw [mk8_L] at hC1 hC2
  have hE : errT S = 61 ∨ (errT S = 0 ∧ errT T = 61) := by
    by_cases h1 : isT S = true
    · right
      have h2 : ¬ isT T = true := fun h => hno ⟨h1, h⟩
      exact ⟨by unfold errT; rw [if_pos h1], by unfold errT; rw [if_neg h2]⟩
    · left; unfold errT; rw [if_neg h1]
  generalize badAt S = B1 at hC1
  generalize badAt T = B2 at hC2
  generalize errT S = E1 at *
  generalize errT T = E2 at *
  generalize mk8 S = s1 at *
  generalize mk8 T = s2 at *
  have hb0 : Below w.heap.size w ((w.alloc (.cells #[.string s1] 9)).alloc (.cells #[.string s1, .string s2] 9)) := ((Below.refl _ w).alloc (Nat.le_refl _) _).alloc (by simp) _
  have hlit := World.alloc_heap_new (w.alloc (.cells #[.string s1] 9)) (.cells #[.string s1, .string s2] 9)
  rw [World.size_alloc] at hlit
  have hc0 : (w.alloc (.cells #[.string s1] 9)).cell? ⟨w.heap.size, 0, none⟩ = some (.string s1) := (Boxed.new w 9 (.string s1)).cell
  have HC1 := Lib.hid hC1
  have HC2 := Lib.hid hC2
  have HB0 := Lib.hid hb0
  have HLIT := Lib.hid hlit
  have HT := Lib.hid hT
  have HE := Lib.hid hE
  clear hC1 hC2 hb0 hlit hT hE hno
  go_enter Tryd.func17, Tryd.ntmps17
  go_wp2
  obtain ⟨W1, hW1⟩ : ∃ W1, ((w.alloc (.cells #[.string s1] 9)).alloc (.cells #[.string s1, .string s2] 9)) = W1 := ⟨_, rfl⟩
  have hz1 : W1.heap.size = w.heap.size + 2 := by rw [← hW1]; simp
  rw [hW1] at HB0 HLIT ⊢
  clear hW1 hc0
  go_loopw [18] (fun i wr => ∃ k : Nat, k ≤ 1 ∧ i = .int .i64 (k : Int) ∧ Hid (k = 1 → E1 = 0) ∧ Below W1.heap.size W1 wr) (fun i _ => 2 - (RowKit.intOf i).toNat)
  case atStart => exact ⟨0, by omega, rfl, fun h => absurd h (by omega), Below.refl _ _⟩
  case round =>
    obtain ⟨k, hk, rfl, hke, hbel⟩ := hrel
    have hzr := hbel.size
    have hl1 : wr.heap[w.heap.size + 1]? = some (.cells #[.string s1, .string s2] 9) := (hbel.block _ (by omega)).trans HLIT.out
    have hbw : Below w.heap.size w wr := HB0.out.trans (hbel.mono (by omega))
    have hTr : Tabs wr := HT.out.below hbw
    have hcc0 : wr.cell? ⟨w.heap.size + 1, 0, none⟩ = some (.string s1) := by unfold World.cell?; rw [hl1]; rfl
    have hcc1 : wr.cell? ⟨w.heap.size + 1, 1, none⟩ = some (.string s2) := by unfold World.cell?; rw [hl1]; rfl
    have HTR := Lib.hid hTr
    have HBEL := Lib.hid hbel
    have HBW := Lib.hid hbw
    clear hTr hbel hbw hl1
    by_cases h0 : k = 0
    · subst h0
      go_wp2_with fail
      refine (HC1.out wr HTR.out).mono ?_
      rintro e w2 ⟨rfl, hb2⟩
      have HB2 := Lib.hid hb2
      clear hb2
      by_cases hE1 : E1 = 0
      · subst hE1
        go_wp2
        exact ⟨⟨1, by omega, by go_num, (by first | trivial | (intro _; rfl) | (intro _; trivial)), HBEL.out.trans (HB2.out.mono HBEL.out.size)⟩, by simp [RowKit.intOf]⟩
      · have e1 : E1 = 61 := by rcases HE.out with h | ⟨h, _⟩ <;> omega
        subst e1
        clear hE1
        go_wp2
        go_ret2
        exact ⟨rfl, HBW.out.trans (HB2.out.mono HBW.out.size)⟩
    · have h1 : k = 1 := by omega
      subst h1
      have e2 : E2 = 61 := by
        have h3 := hke.out rfl
        rcases HE.out with h | ⟨_, h⟩
        · omega
        · exact h
      subst e2
      clear h0 hke
      go_wp2_with fail
      refine (HC2.out wr HTR.out).mono ?_
      rintro e w2 ⟨rfl, hb2⟩
      have HB2 := Lib.hid hb2
      clear hb2
      go_wp2
      go_ret2
      exact ⟨rfl, HBW.out.trans (HB2.out.mono HBW.out.size)⟩
end Go.Proofs.YtdgjkhldlmhedaaDoor
