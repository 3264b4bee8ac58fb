/-
  Contracts of the reference's Runes and Count.
-/
import Derived.Test.YtdacdppmgcaioaaDoorLUrchk
set_option linter.unusedVariables false
set_option linter.unusedSimpArgs false
namespace Go.Proofs.YtdacdppmgcaioaaDoor
open Go.RowKit Go.Lib

theorem AtP.pre_len {L : List UInt8} {p : Nat} {pre : List (List UInt8 × Int)} (h : AtP L p pre) : pre.length ≤ L.length := by
  have h1 := congrArg List.length h.cut
  rw [List.length_append] at h1
  have := pcs_len L
  omega

set_option maxRecDepth 100000 in
set_option maxHeartbeats 1000000 in
theorem RRunes_c (L : List UInt8) (w : World) (hs : L.length ≤ 16777216) : Calls Tryd.prog 76 #[.string (mk8 L)] w fun e w' => ∃ A n c, e = .returned (.tuple #[.slice A n c, .int .i64 (errT L : Int)]) ∧ RowV w' w.heap.size 3 A n c (zs64 (runesT L)) ∧ Below w.heap.size w w' := by
  have hsz : (mk8 L).size = L.length := mk8_size L
  have hex := mk8_rest L
  have hF := fun p V => First_c (L.drop p) V (by rw [List.length_drop]; omega)
  have hC := fun V => URCheck_c L V (by omega)
  generalize mk8 L = S at *
  generalize badAt L = B at *
  have HEX := Lib.hid hex
  have HF := Lib.hid hF
  have HC := Lib.hid hC
  clear hex hF hC
  by_cases hok : isT L = true
  · have e1 : errT L = 0 := by unfold errT; rw [if_pos hok]
    have e2 : runesT L = uchars L := by unfold runesT; rw [if_pos hok]
    rw [e1, e2]
    rw [e1] at HC
    have hgood := (isT_iff L).1 hok
    have HG := Lib.hid hgood
    clear e1 e2 hok hgood
    go_enter Tryd.func76, Tryd.ntmps76
    go_wp2_with fail
    refine (HC.out w).mono ?_
    rintro e w1 ⟨rfl, hb1⟩
    have HB1 := Lib.hid hb1
    clear hb1
    go_wp2
    go_loopw [6, 7] (fun v i wr => ∃ (p : Nat) (pre : List (List UInt8 × Int)) (A : Option Addr) (n c : Nat), i = .int .i64 (p : Int) ∧ v = .slice A n c ∧ p ≤ L.length ∧ n ≤ L.length ∧ Hid (AtP L p pre) ∧ RowV wr w.heap.size 3 A n c (zs64 (pre.map (·.2))) ∧ Below w.heap.size w wr) (fun _ i _ => L.length - (RowKit.intOf i).toNat)
    case atStart => exact ⟨0, [], none, 0, 0, rfl, rfl, Nat.zero_le _, Nat.zero_le _, AtP.zero L, RowV.nil _ _ _, HB1.out⟩
    case round =>
      obtain ⟨p, pre, A, n, c, rfl, rfl, hp, hn, hat, hrow, hbel⟩ := hrel
      have HBEL := Lib.hid hbel
      have HROW := Lib.hid hrow
      clear hbel hrow
      by_cases hlt : p < L.length
      · have hexp := HEX.out p
        have hb : partOf (L.drop p) ≠ -1 := by
          have h1 := HG.out ((L.drop p).take (wid (L.drop p)), partOf (L.drop p)) (by rw [hat.out.cut, pcs_cons (drop_ne hlt)]; simp)
          exact h1
        obtain ⟨hst, hwl⟩ := hat.out.step hlt
        have h1 := HF.out p wr
        rw [fstP_good (drop_ne hlt) hb] at h1
        have hwg := wid_ge (L.drop p)
        have hpl := hst.pre_len
        rw [List.length_append] at hpl
        have hnl : pre.length = n := by rw [← HROW.out.len, zs64_length, List.length_map]
        have hpl : n + 1 ≤ L.length := by simp at hpl; omega
        have HFP := Lib.hid h1
        have HST := Lib.hid hst
        clear hb hst h1 hnl
        obtain ⟨q, hq⟩ : ∃ q, q = (L.drop p).take (wid (L.drop p)) := ⟨_, rfl⟩
        rw [← hq] at HST
        clear hq
        generalize partOf (L.drop p) = z at *
        generalize wid (L.drop p) = d at *
        have hd0 : ((d : Int) == 0) = false := by rw [beq_eq_false_iff_ne]; omega
        go_wp2_with fail
        try rw [hexp]
        refine HFP.out.mono ?_
        rintro e w2 ⟨rfl, hb2⟩
        have hro := (HROW.out.below hb2 (Nat.le_refl _)).alloc (.cells #[.int .i64 z] 3)
        have hbel2 := HBEL.out.trans (hb2.mono HBEL.out.size)
        have hbel3 := hbel2.alloc hbel2.size (.cells #[.int .i64 z] 3)
        have HB3 := Lib.hid hbel3
        have hsz2 : w.heap.size ≤ w2.heap.size := hbel2.size
        have hsz3 : w.heap.size ≤ (w2.alloc (.cells #[.int .i64 z] 3)).heap.size := hbel3.size
        have HRO := Lib.hid hro
        clear hb2 hbel2 hbel3 hro
        obtain ⟨i0, hi, hz0, hz1, hz2⟩ := info_parts info64
        go_wp2_with (at_builtin; refine wpList_append_own _ rfl (.tmp 29) (.tmp 31) _ rfl w.heap.size 3 i0 (.int .i64 0) 1 8 Tryd.underlying97 hi hz0 hz1 hz2 rfl (by decide) (.slice A n c) n (zs64 (pre.map (·.2))) rfl HRO.out.own ⟨w2.heap.size, 0, none⟩ 1 1 [.int .i64 z] rfl rfl (ucell_new1 w2 _ _ _ rfl) (by simp [Value.oneCell']) (by unfold maxLen; omega) (by omega) hsz3 ?_; intro v' w3 hown3 hg3 _)
        obtain ⟨A3, c3, e3, hr3⟩ := RowV.of_row (by rw [List.length_append, HRO.out.len]; rfl) hown3
        subst e3
        go_roundw
        case rel =>
          refine ⟨p + d, _, A3, n + 1, c3, by go_num, rfl, by omega, by omega, HST.out, ?_, HRO.out.below_self HB3.out hsz3 hg3⟩
          rw [List.map_append, zs64_append]
          exact hr3
        case measure => simp [RowKit.intOf]; omega
      · obtain rfl : p = L.length := by omega
        have hall := hat.out.end_
        go_wp2
        go_ret2
        exact ⟨A, n, c, rfl, by unfold uchars; rw [hall]; exact HROW.out, HBEL.out⟩
  · have e1 : errT L = 61 := by unfold errT; rw [if_neg hok]
    have e2 : runesT L = [] := by unfold runesT; rw [if_neg hok]
    rw [e1, e2]
    rw [e1] at HC
    clear e1 e2 hok
    go_enter Tryd.func76, Tryd.ntmps76
    go_wp2_with fail
    refine (HC.out w).mono ?_
    rintro e w1 ⟨rfl, hb1⟩
    go_wp2
    go_ret2
    exact ⟨none, 0, 0, rfl, RowV.nil _ _ _, hb1⟩
end Go.Proofs.YtdacdppmgcaioaaDoor
