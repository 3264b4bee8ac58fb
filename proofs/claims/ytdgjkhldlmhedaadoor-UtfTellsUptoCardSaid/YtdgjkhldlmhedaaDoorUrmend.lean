/-
  Contract of the reference's Mend.
-/
import Derived.Test.YtdgjkhldlmhedaaDoorUrruns
import Derived.Test.YtdgjkhldlmhedaaDoorUmend
import Derived.Lib.AppendStr
set_option linter.unusedVariables false
set_option linter.unusedSimpArgs false
namespace Go.Proofs.YtdgjkhldlmhedaaDoor
open Go.RowKit Go.Lib

theorem strCells_bs8 (s : ByteArray) : strCells s = bs8 s.data.toList := rfl
theorem sign3 : encodeRune 65533 = [239, 191, 189] := by decide
theorem mend_snoc (pre : List (List UInt8 × Int)) (q : List UInt8) (z : Int) : enc (((pre ++ [(q, z)]).map (·.2)).map mend1) = enc ((pre.map (·.2)).map mend1) ++ encodeRune (mend1 z) := by
  rw [List.map_append, List.map_append, enc_append]
  simp [enc]
theorem mk8_part (L : List UInt8) (p d : Nat) : (mk8 L).extract p (p + d) = mk8 ((L.drop p).take d) := by
  rw [mk8_mid, List.drop_take, show p + d - p = d by omega]

set_option maxRecDepth 100000 in
set_option maxHeartbeats 1000000 in
theorem RMend_c {S : Nat → Prop} {A0 : Option Addr} {n0 c0 : Nat} {L : List UInt8} (w : World) (hr : RdV w S A0 n0 (bs8 L)) (hn : n0 ≤ 16777216) :
    Calls Tryd.prog 22 #[.slice A0 n0 c0] w fun e w' => e = .returned (.string (mk8 (mendT L))) ∧ Below w.heap.size w w' := by
  have hlen : L.length = n0 := by rw [← hr.len, bs8_length]
  have hcv := hr.conv (c := c0)
  have hsz : (mk8 L).size = L.length := mk8_size L
  have hex := mk8_rest L
  have hpt := mk8_part L
  have hF := fun p V => First_c (L.drop p) V (by rw [List.length_drop]; omega)
  have hs : L.length ≤ 16777216 := by omega
  obtain ⟨R, hR⟩ : ∃ R, R = mk8 (mendT L) := ⟨_, rfl⟩
  rw [← hR]
  have HR := Lib.hid hR
  generalize mk8 L = SS at *
  have HEX := Lib.hid hex
  have HPT := Lib.hid hpt
  have HF := Lib.hid hF
  clear hex hF hpt hR hlen hn hr
  go_enter Tryd.func22, Tryd.ntmps22
  go_wp2
  clear hcv
  go_loopw [3, 5] (fun v i wr => ∃ (p : Nat) (pre : List (List UInt8 × Int)) (A : Option Addr) (n c : Nat), i = .int .i64 (p : Int) ∧ v = .slice A n c ∧ p ≤ L.length ∧ n ≤ 4 * p ∧ Hid (AtP L p pre) ∧ RowV wr w.heap.size 5 A n c (bs8 (enc ((pre.map (·.2)).map mend1))) ∧ Below w.heap.size w wr) (fun _ i _ => L.length - (RowKit.intOf i).toNat)
  case atStart => exact ⟨0, [], none, 0, 0, rfl, rfl, Nat.zero_le _, Nat.zero_le _, AtP.zero L, RowV.nil _ _ _, Below.refl _ _⟩
  case round =>
    obtain ⟨p, pre, A, n, c, rfl, rfl, hp, hn, hat, hrow, hbel⟩ := hrel
    have HBEL := Lib.hid hbel
    have HROW := Lib.hid hrow
    clear hbel hrow
    by_cases hlt : p < L.length
    · have hexp := HEX.out p
      obtain ⟨hst, hwl⟩ := hat.out.step hlt
      have hne := drop_ne hlt
      by_cases hb : partOf (L.drop p) = -1
      · have hw1 : wid (L.drop p) = 1 := by
          rcases part_cases hne with h | h
          · exact h.2
          · exact absurd hb h.1
        have h1 := HF.out p wr
        rw [fstP_bad hb] at h1
        rw [hw1, hb] at hst
        have HFP := Lib.hid h1
        have HST := Lib.hid hst
        clear hb hst h1 hw1 hne
        obtain ⟨q, hq⟩ : ∃ q, q = (L.drop p).take 1 := ⟨_, rfl⟩
        rw [← hq] at HST
        clear hq
        go_wp2_with fail
        try rw [hexp]
        refine HFP.out.mono ?_
        rintro e w2 ⟨rfl, hb2⟩
        have hro := (HROW.out.below hb2 (Nat.le_refl _)).alloc (.cells #[.int .u8 239, .int .u8 191, .int .u8 189] 5)
        have hbel2 := HBEL.out.trans (hb2.mono HBEL.out.size)
        have hbel3 := hbel2.alloc hbel2.size (.cells #[.int .u8 239, .int .u8 191, .int .u8 189] 5)
        have hlit := (RowV.lit w2 5 [.int .u8 239, .int .u8 191, .int .u8 189] 3 rfl (by omega)).rd.cellsAt
        have HB3 := Lib.hid hbel3
        have hsz3 : w.heap.size ≤ (w2.alloc (.cells #[.int .u8 239, .int .u8 191, .int .u8 189] 5)).heap.size := hbel3.size
        have HRO := Lib.hid hro
        have HLIT := Lib.hid hlit
        clear hb2 hbel2 hbel3 hro hlit
        obtain ⟨i0, hi, hz0, hz1, hz2⟩ := info_parts info8
        go_wp2_with (at_builtin; refine wpList_append_own _ rfl (.tmp 23) (.tmp 24) _ rfl w.heap.size 5 i0 (.int .u8 0) 1 1 Tryd.underlying41 hi hz0 hz1 hz2 rfl (by decide) (.slice A n c) n (bs8 (enc ((pre.map (·.2)).map mend1))) rfl HRO.out.own ⟨w2.heap.size, 0, none⟩ 3 3 [.int .u8 239, .int .u8 191, .int .u8 189] rfl rfl HLIT.out (by simp [Value.oneCell']) (by unfold maxLen; omega) (by omega) hsz3 ?_; intro v' w3 hown3 hg3 _)
        obtain ⟨A3, c3, e3, hr3⟩ := RowV.of_row (by rw [List.length_append, HRO.out.len]; rfl) hown3
        subst e3
        go_roundw
        case rel =>
          refine ⟨p + 1, _, A3, n + 3, c3, by go_num, rfl, by omega, by omega, HST.out, ?_, HRO.out.below_self HB3.out hsz3 hg3⟩
          rw [mend_snoc, bs8_append]
          exact hr3
        case measure => simp [RowKit.intOf]; omega
      · have hpc : isCh (partOf (L.drop p)) ∧ (L.drop p).take (wid (L.drop p)) = encodeRune (partOf (L.drop p)) := by
          rcases part_cases hne with h | h
          · exact absurd h.1 hb
          · exact ⟨h.2.1, h.2.2.1⟩
        have h1 := HF.out p wr
        rw [fstP_good hne hb] at h1
        have hwg := wid_ge (L.drop p)
        have hw4 := wid_four (L.drop p)
        have hmn : mend1 (partOf (L.drop p)) = partOf (L.drop p) := by unfold mend1; rw [if_neg hb]
        have hpx := HPT.out p (wid (L.drop p))
        rw [hpc.2] at hpx
        have hel : (encodeRune (partOf (L.drop p))).length = wid (L.drop p) := by
          rw [← hpc.2, List.length_take, List.length_drop]; omega
        have HFP := Lib.hid h1
        have HST := Lib.hid hst
        have HMN := Lib.hid hmn
        have HEL := Lib.hid hel
        have HPX := Lib.hid hpx
        clear hb hst h1 hmn hne hpc hel hpx
        obtain ⟨q, hq⟩ : ∃ q, q = (L.drop p).take (wid (L.drop p)) := ⟨_, rfl⟩
        rw [← hq] at HST
        clear hq
        generalize partOf (L.drop p) = z at *
        generalize wid (L.drop p) = d at *
        have hd0 : ((d : Int) == 0) = false := by rw [beq_eq_false_iff_ne]; omega
        have hes : Hid ((SS.extract p (p + d)).size = d ∧ strCells (SS.extract p (p + d)) = bs8 (encodeRune z)) := by
          show _ ∧ _
          rw [HPX.out, mk8_size, strCells_bs8, mk8_L]
          exact ⟨HEL.out, rfl⟩
        go_wp2_with fail
        try rw [hexp]
        refine HFP.out.mono ?_
        rintro e w2 ⟨rfl, hb2⟩
        have hro := (HROW.out.below hb2 (Nat.le_refl _))
        have hbel2 := HBEL.out.trans (hb2.mono HBEL.out.size)
        have HB3 := Lib.hid hbel2
        have hsz3 : w.heap.size ≤ w2.heap.size := hbel2.size
        have HRO := Lib.hid hro
        clear hb2 hbel2 hro
        obtain ⟨i0, hi, hz0, hz1, hz2⟩ := info_parts info8
        go_wp2_with (at_builtin; refine wpList_append_own_string _ rfl (.tmp 28) (.tmp 34) _ _ rfl w.heap.size 5 i0 Tryd.underlying41 Tryd.underlying9 hi hz0 hz1 hz2 (.slice A n c) n (bs8 (enc ((pre.map (·.2)).map mend1))) rfl HRO.out.own (SS.extract p (p + d)) rfl (by rw [hes.out.1]; unfold maxLen; omega) (by rw [hes.out.1]; omega) hsz3 ?_; intro v' w3 hown3 hg3 _)
        rw [hes.out.1, hes.out.2] at hown3
        obtain ⟨A3, c3, e3, hr3⟩ := RowV.of_row (by rw [List.length_append, HRO.out.len, bs8_length, HEL.out]) hown3
        subst e3
        go_roundw
        case rel =>
          refine ⟨p + d, _, A3, n + d, c3, by go_num, rfl, by omega, by omega, HST.out, ?_, HRO.out.below_self HB3.out hsz3 hg3⟩
          rw [mend_snoc, bs8_append, HMN.out]
          exact hr3
        case measure => simp [RowKit.intOf]; omega
    · obtain rfl : p = L.length := by omega
      have hall := hat.out.end_
      have hcv := HROW.out.rd.conv (c := c)
      have hfin : mk8 (enc ((pre.map (·.2)).map mend1)) = R := by rw [HR.out]; unfold mendT chars; rw [hall]
      rw [hfin] at hcv
      clear hall hfin
      go_wp2
      go_ret
      exact ⟨rfl, HBEL.out⟩
end Go.Proofs.YtdgjkhldlmhedaaDoor
