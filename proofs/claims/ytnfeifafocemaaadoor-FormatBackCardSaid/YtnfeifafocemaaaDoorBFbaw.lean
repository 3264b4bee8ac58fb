/-
  The walk of FormatBack.
-/
import Derived.Test.YtnfeifafocemaaaDoorBFaw
set_option linter.unusedVariables false
set_option linter.unusedSimpArgs false
namespace Go.Proofs.YtnfeifafocemaaaDoor
open Go.RowKit Go.Lib

/-- What Base64 tells is the digits of some text that may be. -/
theorem rw_cases (L : List UInt8) : ∃ (L2 : List UInt8) (E : Int), rwF L (enc64 L) = (mk8 (enc64 L2), E) ∧ isT L2 = true ∧ (enc64 L2).length ≤ 16384 ∧ ((E = 0 ∧ L2 = L) ∨ (E ≠ 0 ∧ L2 = [])) := by
  have h0 : isT ([] : List UInt8) = true := by kernel_rfl
  have e0 : mk8 (enc64 []) = ⟨#[]⟩ := by kernel_rfl
  have l0 : (enc64 []).length ≤ 16384 := by decide
  unfold rwF
  by_cases h : isT L = true
  · rw [if_pos h]
    by_cases hl : (enc64 L).length ≤ 16384
    · exact ⟨L, 0, tellF_ok hl, h, hl, .inl ⟨rfl, rfl⟩⟩
    · exact ⟨[], 5, by rw [tellF_no (by omega), e0], h0, l0, .inr ⟨by decide, rfl⟩⟩
  · rw [if_neg h]
    exact ⟨[], 61, by rw [e0], h0, l0, .inr ⟨by decide, rfl⟩⟩
set_option maxHeartbeats 2000000 in
set_option maxRecDepth 100000 in
theorem formatBack_c (s : ByteArray) (w : World) (hT : Tabs w) (hs : s.size ≤ 140737488355328) : Calls Tryd.prog 3 #[.string s] w fun e w' => e = .returned (.bool true) ∧ Below w.heap.size w w' := by
  obtain ⟨L, hL⟩ : ∃ L, s.data.toList = L := ⟨_, rfl⟩
  have hsz : s.size = L.length := by rw [← hL, Array.length_toList]; rfl
  obtain ⟨L2, E, hR, h2, hl2, hc⟩ := rw_cases L
  have hbs := fun W (hW : Tabs W) => base64_c s W hW hs
  rw [hL] at hbs
  rw [hR] at hbs
  have hub := fun W (hW : Tabs W) => unbase64_c L2 W hW h2 hl2
  have hlen := (enc_left L2).2.2
  have hmz := mk8_size (enc64 L2)
  obtain ⟨T, hTT⟩ : ∃ T, mk8 (enc64 L2) = T := ⟨_, rfl⟩
  rw [hTT] at hbs hub hmz
  have HB := Lib.hid hbs
  have HA := Lib.hid (alive14_c w hT)
  have HT := Lib.hid hT
  have hll : L.length ≤ 140737488355328 := by omega
  rcases hc with ⟨rfl, rfl⟩ | ⟨hE, rfl⟩
  · have hsm : mk8 L2 = s := by rw [← hL]; exact mk8_of s
    rw [hsm] at hub
    rw [hlen] at hmz
    have HU := Lib.hid hub
    have hw1 : IntKind.i64.wrap ((L2.length : Int) + 2) = (L2.length : Int) + 2 := IntWalk.i64_in _ (by omega)
    obtain ⟨q, hq⟩ : ∃ q, (L2.length + 2) / 3 = q := ⟨_, rfl⟩
    rw [hq] at hmz
    have hqz : ((L2.length : Int) + 2) / 3 = (q : Int) := by omega
    have hw2 : IntKind.i64.wrap ((q : Int) * 4) = (q : Int) * 4 := IntWalk.i64_in _ (by omega)
    clear hbs hub hlen hR hTT h2 hl2 hsm hq
    go_enter Tryd.func3, Tryd.ntmps3
    go_wp2_with fail
    refine HA.out.mono ?_
    rintro e w1 ⟨rfl, hb1⟩
    have HB1 := Lib.hid hb1
    clear hb1
    go_wp2_with fail
    refine (HB.out w1 (HT.out.below HB1.out)).mono ?_
    rintro e w2 ⟨rfl, hb2⟩
    have HB2 := Lib.hid (HB1.out.trans (hb2.mono HB1.out.size))
    clear hb2
    go_wp2_with fail
    refine (HU.out w2 (HT.out.below HB2.out)).mono ?_
    rintro e w3 ⟨rfl, hb3⟩
    have HB3 := Lib.hid (HB2.out.trans (hb3.mono HB2.out.size))
    clear hb3
    go_wp2_with (go_at_call 8; refine (num14_c _ _).mono ?_; rintro e w' ⟨rfl, rfl⟩)
    go_ret
    exact ⟨rfl, HB3.out⟩
  · have he0 : T = ⟨#[]⟩ := by rw [← hTT]; kernel_rfl
    subst he0
    have hEb : (E == 0) = false := by rw [beq_eq_false_iff_ne]; exact hE
    have HU := Lib.hid hub
    clear hbs hub hlen hR hTT h2 hl2 hmz
    go_enter Tryd.func3, Tryd.ntmps3
    go_wp2_with fail
    refine HA.out.mono ?_
    rintro e w1 ⟨rfl, hb1⟩
    have HB1 := Lib.hid hb1
    clear hb1
    go_wp2_with fail
    refine (HB.out w1 (HT.out.below HB1.out)).mono ?_
    rintro e w2 ⟨rfl, hb2⟩
    have HB2 := Lib.hid (HB1.out.trans (hb2.mono HB1.out.size))
    clear hb2
    go_wp2_with fail
    refine (HU.out w2 (HT.out.below HB2.out)).mono ?_
    rintro e w3 ⟨rfl, hb3⟩
    have HB3 := Lib.hid (HB2.out.trans (hb3.mono HB2.out.size))
    clear hb3
    go_wp2_with (go_at_call 8; refine (num14_c _ _).mono ?_; rintro e w' ⟨rfl, rfl⟩)
    go_ret
    exact ⟨rfl, HB3.out⟩
end Go.Proofs.YtnfeifafocemaaaDoor
