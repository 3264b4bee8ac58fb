/-
  Contract of Split.
-/
import Derived.Test.YtdacdppmgcaioaaDoorLTcu
set_option linter.unusedVariables false
set_option linter.unusedSimpArgs false
namespace Go.Proofs.YtdacdppmgcaioaaDoor
open Go.RowKit Go.Lib

/-- The parts that Split tells of a text that is not empty. -/
def splitP (sep L : List UInt8) : List (List UInt8) := if sep = [] then cutP nxCh L else cutP (nxOf sep) L
/-- What Split comes to. -/
def SplitE (s sep : ByteArray) (w0 : Nat) (e : Ending) (w' : World) : Prop :=
  (errX [s, sep] = 61 ∧ e = .returned (.tuple #[.slice none 0 0, .int .i64 61])) ∨
    (errX [s, sep] = 0 ∧ s = ⟨#[]⟩ ∧ e = .returned (.tuple #[.slice none 0 0, .int .i64 0])) ∨
    (errX [s, sep] = 0 ∧ s ≠ ⟨#[]⟩ ∧ CutE (splitP sep.data.toList s.data.toList) w0 e w')
theorem toList_ne {s : ByteArray} (h : s ≠ ⟨#[]⟩) : s.data.toList ≠ [] := fun e => h (by
  have : s.data = #[] := by apply Array.ext'; simpa using e
  cases s; simp_all)
theorem CutE.up {ps : List (List UInt8)} {a b : Nat} {e : Ending} {w' : World} (h : CutE ps b e w') (hab : a ≤ b) : CutE ps a e w' := by
  rcases h with ⟨h1, g, c, xs, h2, h3, h4, h5, h7, h6⟩ | h
  · exact .inl ⟨h1, g, c, xs, h2, by omega, h4, h5, h7, h6⟩
  · exact .inr h
set_option maxHeartbeats 2000000 in
set_option maxRecDepth 100000 in
theorem Split_c {m : Int} (s sep : ByteArray) (w : World) (hT : Tabs w) (hm : w.cell? ⟨0, 0, none⟩ = some (.int .i64 m)) (hs : s.size ≤ 4294967280) (ht : sep.size ≤ 140737488355328) :
    Calls Tryd.prog 11 #[.string s, .string sep] w fun e w' => SplitE s sep w.heap.size e w' ∧ Below w.heap.size w w' := by
  have hck := check2_c s sep w hT (by omega) ht
  have hmlt := cell_lt hm
  obtain ⟨E, hE⟩ : ∃ E, errX [s, sep] = E := ⟨_, rfl⟩
  have hc := errX_cases [s, sep]
  rw [hE] at hck hc
  have HC := Lib.hid hck
  have HE := Lib.hid hE
  clear hck
  rcases hc with rfl | rfl
  · by_cases hse : s = ⟨#[]⟩
    · subst hse
      clear hE hT
      go_enter Tryd.func11, Tryd.ntmps11
      go_wp2_with fail
      refine HC.out.mono ?_
      rintro e w1 ⟨rfl, hb1⟩
      have HB := Lib.hid hb1
      clear hb1
      go_wp2_with fail
      go_ret2
      exact ⟨.inr (.inl ⟨HE.out, rfl, rfl⟩), HB.out⟩
    · have hsb : s.toList.isEmpty = false := ne_emptyT hse
      have HSE := Lib.hid hse
      obtain ⟨B, hB⟩ : ∃ B, w.heap.size = B := ⟨_, rfl⟩
      have HT := Lib.hid hT
      have HM := Lib.hid hm
      have HBB := Lib.hid hB
      rw [hB] at hmlt
      clear hE hse hT hm hB
      by_cases hpe : sep = ⟨#[]⟩
      · subst hpe
        go_enter Tryd.func11, Tryd.ntmps11
        go_wp2_with fail
        refine HC.out.mono ?_
        rintro e w1 ⟨rfl, hb1⟩
        have HB := Lib.hid hb1
        clear hb1
        go_wp2_with fail
        refine (placeOf_c _ _).mono ?_
        rintro e w2 ⟨rfl, rfl⟩
        have hb2 : Below w.heap.size w (w1.alloc (.cells #[.string ⟨#[]⟩] 9)) := HB.out.alloc HB.out.size _
        have hT2 : Tabs (w1.alloc (.cells #[.string ⟨#[]⟩] 9)) := HT.out.below hb2
        have hcut := cut_c (fn := 45) (caps := #[]) nxCh_goes s _ hT2 hs (fun ar W => by kernel_rfl) (between_c _ hT2 rfl)
        have hup : w.heap.size ≤ (w1.alloc (.cells #[.string ⟨#[]⟩] 9)).heap.size := hb2.size
        have HCU := Lib.hid hcut
        have HB2 := Lib.hid hb2
        have HUP := Lib.hid hup
        clear hT2 hb2 hcut hup
        go_wp2_with fail
        refine HCU.out.mono ?_
        rintro e w3 ⟨hcE, hb3⟩
        have hE3 : SplitE s ⟨#[]⟩ w.heap.size e w3 := .inr (.inr ⟨HE.out, HSE.out, by
          unfold splitP
          rw [if_pos rfl]
          exact hcE.up HUP.out⟩)
        have HE3 := Lib.hid hE3
        have HB3 := Lib.hid (HB2.out.trans (hb3.mono HUP.out))
        rcases hcE with ⟨-, g, c, xs, -, -, -, rfl, -⟩ | ⟨-, rfl⟩
        · clear hE3 hb3
          go_wp2_with fail
          go_ret2
          exact ⟨HE3.out, HB3.out⟩
        · clear hE3 hb3
          go_wp2_with fail
          go_ret2
          exact ⟨HE3.out, HB3.out⟩
      · have hpb : sep.toList.isEmpty = false := ne_emptyT hpe
        have HPE := Lib.hid hpe
        clear hpe
        go_enter Tryd.func11, Tryd.ntmps11
        go_wp2_with fail
        refine HC.out.mono ?_
        rintro e w1 ⟨rfl, hb1⟩
        have HB := Lib.hid hb1
        clear hb1
        go_wp2_with fail
        refine (placeOf_c _ _).mono ?_
        rintro e w2 ⟨rfl, rfl⟩
        have hb2 : Below w.heap.size w (w1.alloc (.cells #[.string sep] 9)) := HB.out.alloc HB.out.size _
        have hnew := World.alloc_heap_new w1 (.cells #[.string sep] 9)
        have hT2 : Tabs (w1.alloc (.cells #[.string sep] 9)) := HT.out.below hb2
        have hm2 : (w1.alloc (.cells #[.string sep] 9)).cell? ⟨0, 0, none⟩ = some (.int .i64 m) := (hb2.cell (p := ⟨0, 0, none⟩) (by have := HBB.out; show 0 < _; omega)).trans HM.out
        have hup : w.heap.size ≤ (w1.alloc (.cells #[.string sep] 9)).heap.size := hb2.size
        have hcut := cut_c (fn := 71) (caps := #[.pointer (some ⟨w1.heap.size, 0, none⟩)]) (nxOf_goes sep.data.toList) s _ hT2 hs (fun ar W => by kernel_rfl) (placeOf1_c sep _ ht hm2 hnew (by rw [World.size_alloc]; omega) (Nat.le_refl _) (by have := HBB.out; omega))
        have HCU := Lib.hid hcut
        have HB2 := Lib.hid hb2
        have HUP := Lib.hid hup
        clear hT2 hb2 hcut hup hm2 hnew
        go_wp2_with fail
        refine HCU.out.mono ?_
        rintro e w3 ⟨hcE, hb3⟩
        have hE3 : SplitE s sep w.heap.size e w3 := .inr (.inr ⟨HE.out, HSE.out, by
          unfold splitP
          rw [if_neg (toList_ne HPE.out)]
          exact hcE.up HUP.out⟩)
        have HE3 := Lib.hid hE3
        have HB3 := Lib.hid (HB2.out.trans (hb3.mono HUP.out))
        rcases hcE with ⟨-, g, c, xs, -, -, -, rfl, -⟩ | ⟨-, rfl⟩
        · clear hE3 hb3
          go_wp2_with fail
          go_ret2
          exact ⟨HE3.out, HB3.out⟩
        · clear hE3 hb3
          go_wp2_with fail
          go_ret2
          exact ⟨HE3.out, HB3.out⟩
  · clear hE hT hmlt
    go_enter Tryd.func11, Tryd.ntmps11
    go_wp2_with fail
    refine HC.out.mono ?_
    rintro e w1 ⟨rfl, hb1⟩
    have HB := Lib.hid hb1
    clear hb1
    go_wp2_with fail
    go_ret2
    exact ⟨.inl ⟨HE.out, rfl⟩, HB.out⟩
end Go.Proofs.YtdacdppmgcaioaaDoor
