/-
  The walk of the law UtfTells: it returns true, whatever the texts and the places are.
-/
import Derived.Test.YtdgjkhldlmhedaaDoorUrfind
import Derived.Test.YtdgjkhldlmhedaaDoorUrslice
import Derived.Test.YtdgjkhldlmhedaaDoorUrmend
import Derived.Test.YtdgjkhldlmhedaaDoorUfindsw
import Derived.Lib.ConvBytes
set_option linter.unusedVariables false
set_option linter.unusedSimpArgs false
namespace Go.Proofs.YtdgjkhldlmhedaaDoor
open Go.RowKit Go.Lib

theorem RdV.bytes (w : World) (L : List UInt8) : RdV (Go.Lib.bytesWorld w 5 (mk8 L)) (fun b => b = w.heap.size) (some ⟨w.heap.size, 0, none⟩) L.length (bs8 L) := by
  refine ⟨bs8_length L, fun _ => ⟨w.heap.size, 0, rfl, rfl, fun j v hv => ?_⟩⟩
  have hj := (List.getElem?_eq_some_iff.1 hv).1
  rw [bs8_length] at hj
  have h := Go.Lib.bytesWorld_cell w 5 (mk8 L) j (by rw [mk8_size]; exact hj)
  rw [Nat.zero_add, h, mk8_L]
  rw [List.getD_eq_getElem?_getD, List.getElem?_eq_getElem hj]
  have h2 := bs8_get (List.getElem?_eq_getElem hj)
  rw [h2] at hv
  exact hv
theorem bytesBelow (w : World) (s : ByteArray) : Below w.heap.size w (Go.Lib.bytesWorld w 5 s) :=
  ⟨rfl, rfl, rfl, by rw [Go.Lib.bytesWorld_size]; omega, fun k hk => Go.Lib.bytesWorld_at_old _ _ _ _ hk⟩
theorem findT_len (S T : List UInt8) : (findT S T).length ≤ S.length + 1 := by
  unfold findT
  by_cases hbo : both S T = true
  · rw [if_pos hbo]
    unfold both at hbo
    rw [Bool.and_eq_true] at hbo
    by_cases h : T = []
    · rw [h, findN_nil]; exact Nat.zero_le _
    · have h1 := mtch_find (chars_ch hbo.1) (chars_ch hbo.2) (chars_ne hbo.2 h)
      rw [enc_chars hbo.1, enc_chars hbo.2] at h1
      rw [← h1]
      have := mtch_len (chars S) (chars T) ((chars S).length + 1 - (chars T).length)
      have h3 := pcs_len S
      rw [← chars_len] at h3
      omega
  · rw [if_neg hbo]; exact Nat.zero_le _

theorem Find_t (S T : List UInt8) (w : World) (hT : Tabs w) (hs : S.length ≤ 16777216) (ht : T.length ≤ 16777216) :
    Calls Tryd.prog 17 #[.string (mk8 S), .string (mk8 T)] w fun e w' => ∃ A n c, e = .returned (.tuple #[.slice A n c, .int .i64 (findE S T : Int)]) ∧ RowV w' w.heap.size 3 A n c (nz (findT S T)) ∧ Below w.heap.size w w' := by
  by_cases h : isT S = true ∧ isT T = true
  · have hbo : both S T = true := by unfold both; rw [h.1, h.2]; rfl
    have h1 := Find_ok (chars S) (chars T) w hT (chars_ch h.1) (chars_ch h.2) (by rw [enc_chars h.1]; exact hs) (by rw [enc_chars h.2]; exact ht)
    rw [enc_chars h.1, enc_chars h.2] at h1
    unfold findE findT
    rw [if_pos hbo, if_pos hbo]
    exact h1
  · have hbo : ¬ both S T = true := by unfold both; rw [Bool.and_eq_true]; exact h
    unfold findE findT
    rw [if_neg hbo, if_neg hbo]
    refine (Find_no S T w hT hs ht h).mono ?_
    rintro e w' ⟨rfl, hb⟩
    exact ⟨none, 0, 0, rfl, RowV.nil _ _ _, hb⟩

set_option maxRecDepth 100000 in
set_option maxHeartbeats 1000000 in
theorem UtfTells_c (L T : List UInt8) (a b : Int) (w : World) (hT : Tabs w) (hl : L.length ≤ 1048576) (ht : T.length ≤ 1048576) (ha : -9223372036854775808 ≤ a ∧ a ≤ 9223372036854775807) (hb : -9223372036854775808 ≤ b ∧ b ≤ 9223372036854775807) :
    Calls Tryd.prog 3 #[.string (mk8 L), .string (mk8 T), .int .i64 a, .int .i64 b] w fun e w' => e = .returned (.bool true) ∧ Below w.heap.size w w' := by
  have hA := fun V (h : Tabs V) => alive4_c V h
  have hC1 := fun V (h : Tabs V) => Check_c (mk8 L) V h (by rw [mk8_size]; omega)
  have hC2 := fun V => RCheck_c L V (by omega)
  have hR1 := fun V (h : Tabs V) => Runes_c (mk8 L) V h (by rw [mk8_size]; omega)
  have hR2 := fun V => RRunes_c L V (by omega)
  have hN1 := fun V (h : Tabs V) => Count_c (mk8 L) V h (by rw [mk8_size]; omega)
  have hN2 := fun V => RCount_c L V (by omega)
  have hS1 := fun V (h : Tabs V) => Slice_c L a b V h (by omega) ha hb
  have hS2 := fun V => RSlice_c L a b V (by omega) ha hb
  have hF1 := fun V (h : Tabs V) => Find_t L T V h (by omega) (by omega)
  have hF2 := fun V => RFind_c L T V (by omega) (by omega)
  rw [mk8_L] at hC1 hR1 hN1
  have hrl : (runesT L).length ≤ 1048576 := by rw [runesT_len]; unfold cntT; split <;> (have := pcs_len L; omega)
  have hfl := findT_len L T
  have hM1 := fun V (S' : Nat → Prop) A' c' n' (h : Tabs V) (h2 : RdV V S' A' n' (bs8 L)) h3 h4 => Mend_c (c0 := c') V h h2 h3 h4
  have hM2 := fun V (S' : Nat → Prop) A' c' n' (h2 : RdV V S' A' n' (bs8 L)) h4 => RMend_c (c0 := c') V h2 h4
  generalize badAt L = B at *
  generalize errT L = E at *
  generalize cntT L = N at *
  generalize mk8 (sliceT L a b) = SL at *
  generalize runesT L = R at *
  generalize findT L T = FT at *
  generalize findE L T = FE at *
  generalize mk8 (mendT L) = MM at *
  generalize mk8 T = ST at *
  have hsz : (mk8 L).size = L.length := mk8_size L
  generalize hS : mk8 L = S at *
  have HS := Lib.hid hS
  have HA := Lib.hid hA
  have HC1 := Lib.hid hC1
  have HC2 := Lib.hid hC2
  have HR1 := Lib.hid hR1
  have HR2 := Lib.hid hR2
  have HN1 := Lib.hid hN1
  have HN2 := Lib.hid hN2
  have HS1 := Lib.hid hS1
  have HS2 := Lib.hid hS2
  have HF1 := Lib.hid hF1
  have HF2 := Lib.hid hF2
  have HM1 := Lib.hid hM1
  have HM2 := Lib.hid hM2
  have HT := Lib.hid hT
  clear hA hC1 hC2 hR1 hR2 hN1 hN2 hS1 hS2 hF1 hF2 hM1 hM2 hT hS ha hb ht
  go_enter Tryd.func3, Tryd.ntmps3
  go_wp2_with fail
  refine (HC1.out w HT.out).mono ?_
  rintro e w1 ⟨rfl, hb1⟩
  go_wp2_with fail
  refine (HC2.out w1).mono ?_
  rintro e w2 ⟨rfl, hb2⟩
  have hb2 := hb1.trans (hb2.mono hb1.size)
  go_wp2_with fail
  refine (HR1.out w2 (HT.out.below hb2)).mono ?_
  rintro e w3 ⟨A1, n1, c1, rfl, r1, hb3⟩
  have HR1 := Lib.hid r1
  have hb3 := hb2.trans (hb3.mono hb2.size)
  clear r1
  go_wp2_with fail
  refine (HR2.out w3).mono ?_
  rintro e w4 ⟨A2, n2, c2, rfl, r2, hb4⟩
  have HRW1 := Lib.hid (HR1.out.below hb4 (Nat.le_refl _))
  have HRW2 := Lib.hid r2
  have hb4 := hb3.trans (hb4.mono hb3.size)
  clear r2 HR1
  go_wp2_with fail
  refine (HN1.out w4 (HT.out.below hb4)).mono ?_
  rintro e w5 ⟨rfl, hb5⟩
  have HQ1 := Lib.hid (HRW1.out.below hb5 (Nat.le_refl _))
  have HQ2 := Lib.hid (HRW2.out.below hb5 (Nat.le_refl _))
  have hb5 := hb4.trans (hb5.mono hb4.size)
  clear HRW1 HRW2
  go_wp2_with fail
  refine (HN2.out w5).mono ?_
  rintro e w6 ⟨rfl, hb6⟩
  have HRW1 := Lib.hid (HQ1.out.below hb6 (Nat.le_refl _))
  have HRW2 := Lib.hid (HQ2.out.below hb6 (Nat.le_refl _))
  have hb6 := hb5.trans (hb6.mono hb5.size)
  clear HQ1 HQ2
  go_wp2_with fail
  refine (HS1.out w6 (HT.out.below hb6)).mono ?_
  rintro e w7 ⟨rfl, hb7⟩
  have HQ1 := Lib.hid (HRW1.out.below hb7 (Nat.le_refl _))
  have HQ2 := Lib.hid (HRW2.out.below hb7 (Nat.le_refl _))
  have hb7 := hb6.trans (hb7.mono hb6.size)
  clear HRW1 HRW2
  go_wp2_with fail
  refine (HS2.out w7).mono ?_
  rintro e w8 ⟨rfl, hb8⟩
  have HRW1 := Lib.hid (HQ1.out.below hb8 (Nat.le_refl _))
  have HRW2 := Lib.hid (HQ2.out.below hb8 (Nat.le_refl _))
  have hb8 := hb7.trans (hb8.mono hb7.size)
  clear HQ1 HQ2
  go_wp2_with fail
  refine (HF1.out w8 (HT.out.below hb8)).mono ?_
  rintro e w9 ⟨A3, n3, c3, rfl, r3, hb9⟩
  have HQ1 := Lib.hid (HRW1.out.below hb9 (Nat.le_refl _))
  have HQ2 := Lib.hid (HRW2.out.below hb9 (Nat.le_refl _))
  have HQ3 := Lib.hid r3
  have hb9 := hb8.trans (hb9.mono hb8.size)
  clear HRW1 HRW2 r3
  go_wp2_with fail
  refine (HF2.out w9).mono ?_
  rintro e w10 ⟨A4, n4, c4, rfl, r4, hb10⟩
  have HRW1 := Lib.hid (HQ1.out.below hb10 (Nat.le_refl _))
  have HRW2 := Lib.hid (HQ2.out.below hb10 (Nat.le_refl _))
  have HRW3 := Lib.hid (HQ3.out.below hb10 (Nat.le_refl _))
  have HRW4 := Lib.hid r4
  have hbx := hb9.trans (hb10.mono hb9.size)
  obtain rfl : n1 = R.length := by rw [← HRW1.out.len, zs64_length]
  obtain rfl : n2 = R.length := by rw [← HRW2.out.len, zs64_length]
  obtain rfl : n3 = FT.length := by rw [← HRW3.out.len]; simp [nz, zs64_length]
  obtain rfl : n4 = FT.length := by rw [← HRW4.out.len]; simp [nz, zs64_length]
  have HBX := Lib.hid hbx
  clear HQ1 HQ2 HQ3 r4 hb1 hb2 hb3 hb4 hb5 hb6 hb7 hb8 hb9 hb10 hbx HC1 HC2 HR2 HN1 HN2 HS1 HS2 HF1 HF2
  go_wp2_with (go_at_call 19; refine (num4_c _ _).mono ?_; rintro e w' ⟨rfl, rfl⟩)
  refine (SameInts_eq w10 HRW1.out.rd HRW2.out.rd (by omega)).mono ?_
  rintro e w11 ⟨rfl, hb11⟩
  have HQ3 := Lib.hid (HRW3.out.below hb11 (Nat.le_refl _))
  have HQ4 := Lib.hid (HRW4.out.below hb11 (Nat.le_refl _))
  have HB11 := Lib.hid (HBX.out.trans (hb11.mono HBX.out.size))
  clear HRW1 HRW2 HRW3 HRW4 HBX hb11
  go_wp2_with (go_at_call 19; refine (num4_c _ _).mono ?_; rintro e w' ⟨rfl, rfl⟩)
  refine (SameInts_eq (l := FT.map fun (x : Nat) => (x : Int)) w11 HQ3.out.rd HQ4.out.rd (by omega)).mono ?_
  rintro e w12 ⟨rfl, hb12⟩
  have HB12 := Lib.hid (HB11.out.trans (hb12.mono HB11.out.size))
  clear HQ3 HQ4 HB11 hb12
  have hcv : ∀ W : World, (convert 9 41 (.string S)).run Tryd.prog W = .ok (.slice (some ⟨W.heap.size, 0, none⟩) L.length (grownCap W L.length 0 5)) (Go.Lib.bytesWorld W 5 S) := fun W => by
    have h := Go.Lib.run_convert_string_bytes (P := Tryd.prog) W 9 41 5 S Tryd.underlying9 Tryd.underlying41 Tryd.underlying5
    rw [hsz] at h
    exact h
  have hrb : ∀ W : World, RdV (Go.Lib.bytesWorld W 5 S) (fun b => b = W.heap.size) (some ⟨W.heap.size, 0, none⟩) L.length (bs8 L) := fun W => by
    have h := RdV.bytes W L
    rw [HS.out] at h
    exact h
  have HRB := Lib.hid hrb
  clear hrb
  go_wp2_with (go_at_call 19; refine (num4_c _ _).mono ?_; rintro e w' ⟨rfl, rfl⟩)
  have HB13 := Lib.hid (HB12.out.trans ((bytesBelow w12 S).mono HB12.out.size))
  refine (HM1.out (Go.Lib.bytesWorld w12 5 S) _ _ _ _ (HT.out.below HB13.out) (HRB.out w12) (fun b hb => by rw [hb, Go.Lib.bytesWorld_size]; omega) (by omega)).mono ?_
  rintro e w14 ⟨rfl, hb14⟩
  have HB14 := Lib.hid (HB13.out.trans (hb14.mono HB13.out.size))
  clear HB12 HB13 hb14
  go_wp2_with fail
  have HB15 := Lib.hid (HB14.out.trans ((bytesBelow w14 S).mono HB14.out.size))
  refine (HM2.out (Go.Lib.bytesWorld w14 5 S) _ _ _ _ (HRB.out w14) (by omega)).mono ?_
  rintro e w16 ⟨rfl, hb16⟩
  have HB16 := Lib.hid (HB15.out.trans (hb16.mono HB15.out.size))
  clear HB14 HB15 hb16
  go_wp2_with fail
  refine (HA.out w16 (HT.out.below HB16.out)).mono ?_
  rintro e w17 ⟨rfl, hb17⟩
  go_wp2
  go_ret
  exact ⟨rfl, HB16.out.trans (hb17.mono HB16.out.size)⟩
end Go.Proofs.YtdgjkhldlmhedaaDoor
