/-
  The walk of the law TextsCase.
-/
import Derived.Test.YtdacdppmgcaioaaDoorCTal
set_option linter.unusedVariables false
set_option linter.unusedSimpArgs false
namespace Go.Proofs.YtdacdppmgcaioaaDoor
open Go.RowKit Go.Lib

theorem wrote_bad {s : ByteArray} (h : errX [s] = 61 ∨ 16384 < s.size) : ∃ k : Int, k ≠ 0 ∧ ∀ out : List UInt8, out.length = s.size → wrote [s] out = (⟨#[]⟩, k) := by
  rcases errX_cases [s] with h0 | h1
  · rcases h with h | h
    · omega
    · exact ⟨5, by decide, fun out ho => by rw [wrote_ok h0, tell_no (by omega)]⟩
  · exact ⟨61, by decide, fun out _ => wrote_no h1⟩
theorem wrote_good {s : ByteArray} (h : errX [s] = 0) (hl : s.size ≤ 16384) {out : List UInt8} (ho : out.length = s.size) : wrote [s] out = (⟨out.toArray⟩, 0) := by
  rw [wrote_ok h, tell_ok (by omega)]
theorem mapL_len (f : UInt8 → UInt8) (s : ByteArray) : (s.data.toList.map f).length = s.size := by rw [List.length_map, ← sizeT_list]
theorem mapL_get (f : UInt8 → UInt8) (s : ByteArray) (i : Nat) (h : i < (⟨(s.data.toList.map f).toArray⟩ : ByteArray).size) (hi : i < s.size) : (⟨(s.data.toList.map f).toArray⟩ : ByteArray)[i]'h = f (s[i]'hi) := by
  show (s.data.toList.map f).toArray[i]'_ = f (s.data[i]'_)
  simp
theorem up_empty : wrote [⟨#[]⟩] ((⟨#[]⟩ : ByteArray).data.toList.map (lt8 97 65)) = (⟨#[]⟩, 0) := by kernel_rfl
set_option maxHeartbeats 4000000 in
set_option maxRecDepth 100000 in
theorem textsCase_c {m : Int} (s : ByteArray) (w : World) (hT : Tabs w) (hm : w.cell? ⟨0, 0, none⟩ = some (.int .i64 m)) (hs : s.size < 35184372088832) :
    Calls Tryd.prog 6 #[.string s] w fun e w' => e = .returned (.bool true) ∧ Below w.heap.size w w' := by
  have hal := alive13_c w hT hm
  have hlow := fun W (hW : Below w.heap.size w W) => Lower_c s W (hT.below hW) hs
  have hup := fun W (hW : Below w.heap.size w W) => Upper_c s W (hT.below hW) hs
  have hupA := fun (a : ByteArray) (ha : a.size < 35184372088832) W (hW : Below w.heap.size w W) => Upper_c a W (hT.below hW) ha
  have HA := Lib.hid hal
  have HUA := Lib.hid hupA
  clear hal hT hm hupA
  by_cases hbad : errX [s] = 61 ∨ 16384 < s.size
  · obtain ⟨k, hk, hwr⟩ := wrote_bad hbad
    rw [hwr _ (mapL_len _ _)] at hlow hup
    have HL := Lib.hid hlow
    have HU := Lib.hid hup
    have hk0 : (k != 0) = true := by simpa using hk
    have HUE := Lib.hid (fun W (hW : Below w.heap.size w W) => HUA.out ⟨#[]⟩ (by decide) W hW)
    rw [up_empty] at HUE
    clear hlow hup hbad hwr
    go_enter Tryd.func6, Tryd.ntmps6
    go_wp2_with fail
    refine HA.out.mono ?_
    rintro e w1 ⟨rfl, hb1⟩
    have H1 := Lib.hid (HL.out w1 hb1)
    have B1 := Lib.hid hb1
    clear hb1
    go_wp2_with fail
    refine H1.out.mono ?_
    rintro e w2 ⟨rfl, hb2⟩
    have B2 := Lib.hid (B1.out.trans (hb2.mono B1.out.size))
    have H2 := Lib.hid (HUE.out w2 B2.out)
    clear hb2
    go_wp2_with fail
    refine H2.out.mono ?_
    rintro e w3 ⟨rfl, hb3⟩
    have B3 := Lib.hid (B2.out.trans (hb3.mono B2.out.size))
    have H3 := Lib.hid (HU.out w3 B3.out)
    clear hb3
    go_wp2_with fail
    refine H3.out.mono ?_
    rintro e w4 ⟨rfl, hb4⟩
    have B4 := Lib.hid (B3.out.trans (hb4.mono B3.out.size))
    clear hb4
    go_wp2_with (go_at_call 19; refine (lnum13_c _ _).mono ?_; rintro e w' ⟨rfl, rfl⟩)
    go_ret
    exact ⟨rfl, B4.out⟩
  · have h0 : errX [s] = 0 := by
      rcases errX_cases [s] with h | h
      · exact h
      · exact absurd (.inl h) hbad
    have hl : s.size ≤ 16384 := by
      rcases Nat.lt_or_ge 16384 s.size with h | h
      · exact absurd (.inr h) hbad
      · exact h
    have hiT : isT s.data.toList = true := errX_all h0 s (by simp)
    rw [wrote_good h0 hl (mapL_len _ _)] at hlow hup
    obtain ⟨a, ha⟩ : ∃ a : ByteArray, (⟨(s.data.toList.map (lt8 65 97)).toArray⟩ : ByteArray) = a := ⟨_, rfl⟩
    obtain ⟨c, hc⟩ : ∃ c : ByteArray, (⟨(s.data.toList.map (lt8 97 65)).toArray⟩ : ByteArray) = c := ⟨_, rfl⟩
    have haL : a.data.toList = s.data.toList.map (lt8 65 97) := by rw [← ha]
    have has : a.size = s.size := by rw [sizeT_list, haL, mapL_len]
    have hcs : c.size = s.size := by rw [sizeT_list, ← hc]; show ((s.data.toList.map (lt8 97 65)).toArray.toList).length = _; rw [List.toList_toArray, mapL_len]
    have haget : ∀ i (h : i < a.size) (hi : i < s.size), a[i]'h = lt8 65 97 (s[i]'hi) := fun i h hi => by
      subst ha; exact mapL_get _ _ _ h hi
    have hcget : ∀ i (h : i < c.size) (hi : i < s.size), c[i]'h = lt8 97 65 (s[i]'hi) := fun i h hi => by
      subst hc; exact mapL_get _ _ _ h hi
    have haT : errX [a] = 0 := errX_ok (fun x hx => by
      rw [show x = a by simpa using hx, haL]
      exact (mapD_move (.inl ⟨rfl, rfl⟩) hiT).2)
    have hup2 := HUA.out a (by omega)
    rw [wrote_good haT (by omega) (mapL_len _ _), haL, List.map_map, show (lt8 97 65 ∘ lt8 65 97) = lt8 97 65 from funext lt8_up, hc] at hup2
    rw [ha] at hlow
    rw [hc] at hup
    have HL := Lib.hid hlow
    have HU := Lib.hid hup
    have HU2 := Lib.hid hup2
    have HAG := Lib.hid haget
    have HCG := Lib.hid hcget
    have hasI : (a.size : Int) = (s.size : Int) := by omega
    clear hlow hup hup2 haget hcget hbad h0 hiT ha hc haL haT
    go_enter Tryd.func6, Tryd.ntmps6
    go_wp2_with fail
    refine HA.out.mono ?_
    rintro e w1 ⟨rfl, hb1⟩
    have H1 := Lib.hid (HL.out w1 hb1)
    have B1 := Lib.hid hb1
    clear hb1
    go_wp2_with fail
    refine H1.out.mono ?_
    rintro e w2 ⟨rfl, hb2⟩
    have B2 := Lib.hid (B1.out.trans (hb2.mono B1.out.size))
    have H2 := Lib.hid (HU2.out w2 B2.out)
    clear hb2
    go_wp2_with fail
    refine H2.out.mono ?_
    rintro e w3 ⟨rfl, hb3⟩
    have B3 := Lib.hid (B2.out.trans (hb3.mono B2.out.size))
    have H3 := Lib.hid (HU.out w3 B3.out)
    clear hb3
    go_wp2_with fail
    refine H3.out.mono ?_
    rintro e w4 ⟨rfl, hb4⟩
    have B4 := Lib.hid (B3.out.trans (hb4.mono B3.out.size))
    clear hb4
    go_wp2_with (go_at_call 19; refine (lnum13_c _ _).mono ?_; rintro e w' ⟨rfl, rfl⟩)
    go_loopw [9] (fun iv wr => ∃ i : Nat, i ≤ s.size ∧ iv = .int .i64 (i : Int) ∧ wr = w4) (fun iv _ => s.size - (RowKit.intOf iv).toNat)
    case atStart => exact ⟨0, Nat.zero_le _, rfl, rfl⟩
    case round =>
      obtain ⟨i, hin, rfl, rfl⟩ := hrel
      by_cases hi : i < s.size
      · have hilt : (i : Int) < (s.size : Int) := by omega
        have hi0 : (0 : Int) ≤ (i : Int) := by omega
        have hit : ((i : Int)).toNat = i := by omega
        have hiw : IntKind.i64.wrap ((i : Int) + 1) = (i : Int) + 1 := IntWalk.i64_in _ (by omega)
        have hia : i < a.size := by omega
        have hic : i < c.size := by omega
        obtain ⟨x, hx⟩ : ∃ x, s[i]'hi = x := ⟨_, rfl⟩
        have hsx : ∀ h : i < s.size, s[i]'h = x := fun _ => hx
        have hax : ∀ h : i < a.size, a[i]'h = lt8 65 97 x := fun h => by rw [HAG.out i h hi, hx]
        have hcx : ∀ h : i < c.size, c[i]'h = lt8 97 65 x := fun h => by rw [HCG.out i h hi, hx]
        clear hx
        have hxlt : x.toNat < 256 := x.toNat_lt
        by_cases h1 : x.toNat < 65
        · have e1 : lt8 65 97 x = x := lt8_out (by omega)
          have e2 : lt8 97 65 x = x := lt8_out (by omega)
          rw [e1] at hax
          rw [e2] at hcx
          clear e1 e2
          have d0 : decide ((x.toNat : Int) < 65) = true := by simp; omega
          go_wp2_with fail
          go_roundw
          case rel => exact ⟨i + 1, by omega, by go_num, trivial⟩
          case measure => simp [RowKit.intOf]; omega
        by_cases h2 : 122 < x.toNat
        · have e1 : lt8 65 97 x = x := lt8_out (by omega)
          have e2 : lt8 97 65 x = x := lt8_out (by omega)
          rw [e1] at hax
          rw [e2] at hcx
          clear e1 e2
          have d0 : decide ((x.toNat : Int) < 65) = false := by simp; omega
          have d1 : decide (122 < (x.toNat : Int)) = true := by simp; omega
          go_wp2_with fail
          go_roundw
          case rel => exact ⟨i + 1, by omega, by go_num, trivial⟩
          case measure => simp [RowKit.intOf]; omega
        by_cases h3 : 90 < x.toNat
        · by_cases h4 : x.toNat < 97
          · have e1 : lt8 65 97 x = x := lt8_out (by omega)
            have e2 : lt8 97 65 x = x := lt8_out (by omega)
            rw [e1] at hax
            rw [e2] at hcx
            clear e1 e2
            have d0 : decide ((x.toNat : Int) < 65) = false := by simp; omega
            have d1 : decide (122 < (x.toNat : Int)) = false := by simp; omega
            have d2 : decide (90 < (x.toNat : Int)) = true := by simp; omega
            have d3 : decide ((x.toNat : Int) < 97) = true := by simp; omega
            go_wp2_with fail
            go_roundw
            case rel => exact ⟨i + 1, by omega, by go_num, trivial⟩
            case measure => simp [RowKit.intOf]; omega
          · have d0 : decide ((x.toNat : Int) < 65) = false := by simp; omega
            have d1 : decide (122 < (x.toNat : Int)) = false := by simp; omega
            have d2 : decide (90 < (x.toNat : Int)) = true := by simp; omega
            have d3 : decide ((x.toNat : Int) < 97) = false := by simp; omega
            go_wp2_with fail
            go_roundw
            case rel => exact ⟨i + 1, by omega, by go_num, trivial⟩
            case measure => simp [RowKit.intOf]; omega
        · have d0 : decide ((x.toNat : Int) < 65) = false := by simp; omega
          have d1 : decide (122 < (x.toNat : Int)) = false := by simp; omega
          have d2 : decide (90 < (x.toNat : Int)) = false := by simp; omega
          go_wp2_with fail
          go_roundw
          case rel => exact ⟨i + 1, by omega, by go_num, trivial⟩
          case measure => simp [RowKit.intOf]; omega
      · have hni : ¬ (i : Int) < (s.size : Int) := by omega
        go_wp2_with (go_at_call 19; refine (lnum13_c _ _).mono ?_; rintro e w' ⟨rfl, rfl⟩)
        go_ret
        exact ⟨rfl, B4.out⟩
end Go.Proofs.YtdacdppmgcaioaaDoor
