/-
  The walk of the law UtfCuts: it returns true, whatever the text and the place are.
-/
import Derived.Test.YtdgjkhldlmhedaaDoorUalive
import Derived.Laws.Concat
set_option linter.unusedVariables false
set_option linter.unusedSimpArgs false
namespace Go.Proofs.YtdgjkhldlmhedaaDoor
open Go.RowKit Go.Lib

theorem mk8_cat (a b : List UInt8) : mk8 a ++ mk8 b = mk8 (a ++ b) := by
  have h : (mk8 a ++ mk8 b).data.toList = a ++ b := by
    rw [ByteArray.data_append, Array.toList_append]; rfl
  rw [← mk8_of (mk8 a ++ mk8 b), h]
theorem sliceT_head {L : List UInt8} (h : isT L = true) {m : Nat} (hm : m ≤ (chars L).length) : sliceT L 0 (m : Int) = enc ((chars L).take m) := by
  have h1 : wi ((chars L).length : Int) 0 = 0 := by unfold wi; omega
  have h2 : bnd2 ((chars L).length : Int) 0 (m : Int) = (m : Int) := by unfold bnd2; rw [h1]; unfold wi; omega
  unfold sliceT
  rw [if_pos h, h1, h2]
  simp
theorem sliceT_tail {L : List UInt8} (h : isT L = true) {m : Nat} (hm : m ≤ (chars L).length) : sliceT L (m : Int) ((chars L).length : Int) = enc ((chars L).drop m) := by
  have h1 : wi ((chars L).length : Int) (m : Int) = (m : Int) := by unfold wi; omega
  have h2 : bnd2 ((chars L).length : Int) (m : Int) ((chars L).length : Int) = ((chars L).length : Int) := by unfold bnd2; rw [h1]; unfold wi; omega
  unfold sliceT
  rw [if_pos h, h1, h2]
  simp
  rw [List.take_of_length_le (by rw [List.length_drop]; omega)]
theorem cntT_enc {cs : List Int} (h : ∀ c ∈ cs, isCh c) : cntT (enc cs) = cs.length := by
  unfold cntT
  rw [if_pos (isT_enc h), pcs_text h, List.length_map]
theorem errT_enc {cs : List Int} (h : ∀ c ∈ cs, isCh c) : errT (enc cs) = 0 := by
  unfold errT
  rw [if_pos (isT_enc h)]

set_option maxRecDepth 100000 in
set_option maxHeartbeats 1000000 in
theorem UtfCuts_c (L : List UInt8) (z : Int) (w : World) (hT : Tabs w) (hs : L.length ≤ 140737488355328) (hz : -9223372036854775808 ≤ z ∧ z ≤ 9223372036854775807) :
    Calls Tryd.prog 7 #[.string (mk8 L), .int .i64 z] w fun e w' => e = .returned (.bool true) ∧ Below w.heap.size w w' := by
  have hA := fun V (h : Tabs V) => alive4_c V h
  have hC := fun V (h : Tabs V) => Count_c (mk8 L) V h (by rw [mk8_size]; exact hs)
  rw [mk8_L] at hC
  by_cases hok : isT L = true
  · have e1 : errT L = 0 := by unfold errT; rw [if_pos hok]
    have e2 : cntT L = (chars L).length := by unfold cntT; rw [if_pos hok, chars_len]
    have hnl : (chars L).length ≤ L.length := by rw [chars_len]; exact pcs_len L
    rw [e1, e2] at hC
    obtain ⟨n, hn⟩ : ∃ n, n = (chars L).length := ⟨_, rfl⟩
    rw [← hn] at hC hnl
    obtain ⟨r1, hr1⟩ : ∃ r1, z.tmod ((n : Int) + 1) = r1 := ⟨_, rfl⟩
    have hr1b : -((n : Int) + 1) < r1 ∧ r1 < (n : Int) + 1 := by
      rw [← hr1]
      have h1 := Int.tmod_lt_of_pos z (show (0 : Int) < (n : Int) + 1 by omega)
      have h2 := Int.lt_tmod_of_pos z (show (0 : Int) < (n : Int) + 1 by omega)
      omega
    obtain ⟨m, hm⟩ : ∃ m : Nat, (r1 + (n : Int) + 1).tmod ((n : Int) + 1) = (m : Int) := by
      refine ⟨((r1 + (n : Int) + 1).tmod ((n : Int) + 1)).toNat, ?_⟩
      have := Int.tmod_nonneg ((n : Int) + 1) (show (0 : Int) ≤ r1 + (n : Int) + 1 by omega)
      omega
    have hmb : m ≤ n := by
      have h1 := Int.tmod_lt_of_pos (r1 + (n : Int) + 1) (show (0 : Int) < (n : Int) + 1 by omega)
      omega
    have hch := chars_ch hok
    have hS1 := fun V (h : Tabs V) => Slice_c L 0 (m : Int) V h hs ⟨by omega, by omega⟩ ⟨by omega, by omega⟩
    have hS2 := fun V (h : Tabs V) => Slice_c L (m : Int) (n : Int) V h hs ⟨by omega, by omega⟩ ⟨by omega, by omega⟩
    rw [e1, sliceT_head hok (by omega)] at hS1
    rw [e1] at hS2
    rw [show sliceT L (m : Int) (n : Int) = enc ((chars L).drop m) by rw [hn]; exact sliceT_tail hok (by omega)] at hS2
    have hcht : ∀ c ∈ (chars L).take m, isCh c := fun c hc => hch c (List.mem_of_mem_take hc)
    have hcl : (enc ((chars L).take m)).length ≤ L.length := by
      have h1 := congrArg List.length (enc_take (chars L) m)
      rw [List.length_take, enc_chars hok] at h1; omega
    have hC2 := fun V (h : Tabs V) => Count_c (mk8 (enc ((chars L).take m))) V h (by rw [mk8_size]; omega)
    rw [mk8_L, cntT_enc hcht, errT_enc hcht, show ((chars L).take m).length = m by rw [List.length_take]; omega] at hC2
    have hcat : mk8 (enc ((chars L).take m)) ++ mk8 (enc ((chars L).drop m)) = mk8 L := by
      rw [mk8_cat, ← enc_append, List.take_append_drop, enc_chars hok]
    have hsa : (mk8 (enc ((chars L).take m))).size ≤ 140737488355328 := by rw [mk8_size]; omega
    have hsb : (mk8 (enc ((chars L).drop m))).size ≤ 140737488355328 := by
      rw [mk8_size]
      have h1 := congrArg List.length (enc_drop (chars L) m)
      rw [List.length_drop, enc_chars hok] at h1; omega
    generalize mk8 (enc ((chars L).take m)) = SA at *
    generalize mk8 (enc ((chars L).drop m)) = SB at *
    generalize mk8 L = S at *
    have hn1 : IntKind.i64.wrap ((n : Int) + 1) = (n : Int) + 1 := IntWalk.i64_in _ (by omega)
    have hadd : ∀ W, (Op.stringOp .add SA SB).run Tryd.prog W = .ok (.string S) W := fun W => by rw [run_string_add_sum W SA SB (by omega), hcat]
    have hw1 : IntKind.i64.wrap (r1 + (n : Int)) = r1 + (n : Int) := IntWalk.i64_in _ (by omega)
    have hw2 : IntKind.i64.wrap (r1 + (n : Int) + 1) = r1 + (n : Int) + 1 := IntWalk.i64_in _ (by omega)
    have HA := Lib.hid hA
    have HC := Lib.hid hC
    have HS1 := Lib.hid hS1
    have HS2 := Lib.hid hS2
    have HC2 := Lib.hid hC2
    have HT := Lib.hid hT
    clear hA hC hS1 hS2 hC2 hT e1 e2 hcht hcl hch hok hs hn
    obtain ⟨hz1, hz2⟩ := hz
    obtain ⟨hrb1, hrb2⟩ := hr1b
    go_enter Tryd.func7, Tryd.ntmps7
    go_wp2_with fail
    refine (HA.out w HT.out).mono ?_
    rintro e w1 ⟨rfl, hb1⟩
    go_wp2_with fail
    refine (HC.out w1 (HT.out.below hb1)).mono ?_
    rintro e w2 ⟨rfl, hb2⟩
    have hb2 := hb1.trans (hb2.mono hb1.size)
    go_wp2_with (first
      | (go_at_call 19; refine (num4_c _ _).mono ?_; rintro e w' ⟨rfl, rfl⟩)
      | fail)
    refine (HS1.out w2 (HT.out.below hb2)).mono ?_
    rintro e w3 ⟨rfl, hb3⟩
    have hb3 := hb2.trans (hb3.mono hb2.size)
    go_wp2_with fail
    refine (HS2.out w3 (HT.out.below hb3)).mono ?_
    rintro e w4 ⟨rfl, hb4⟩
    have hb4 := hb3.trans (hb4.mono hb3.size)
    go_wp2_with fail
    refine (HC2.out w4 (HT.out.below hb4)).mono ?_
    rintro e w5 ⟨rfl, hb5⟩
    have hb5 := hb4.trans (hb5.mono hb4.size)
    go_wp2_with (go_at_call 19; refine (num4_c _ _).mono ?_; rintro e w' ⟨rfl, rfl⟩)
    go_ret
    exact ⟨rfl, hb5⟩
  · have e1 : errT L = 61 := by unfold errT; rw [if_neg hok]
    have e2 : cntT L = 0 := by unfold cntT; rw [if_neg hok]
    rw [e1, e2] at hC
    generalize mk8 L = S at *
    have HA := Lib.hid hA
    have HC := Lib.hid hC
    have HT := Lib.hid hT
    clear hA hC hT e1 e2 hok hs hz
    go_enter Tryd.func7, Tryd.ntmps7
    go_wp2_with fail
    refine (HA.out w HT.out).mono ?_
    rintro e w1 ⟨rfl, hb1⟩
    go_wp2_with fail
    refine (HC.out w1 (HT.out.below hb1)).mono ?_
    rintro e w2 ⟨rfl, hb2⟩
    have hb2 := hb1.trans (hb2.mono hb1.size)
    go_wp2_with (go_at_call 19; refine (num4_c _ _).mono ?_; rintro e w' ⟨rfl, rfl⟩)
    go_ret
    exact ⟨rfl, hb2⟩
end Go.Proofs.YtdgjkhldlmhedaaDoor
