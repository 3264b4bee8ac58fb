/-
  The reference: Cut between characters; Split.
-/
import Derived.Test.YtdacdppmgcaioaaDoorLTcv
import Derived.Test.YtdacdppmgcaioaaDoorLUrruns
import Derived.Test.YtdacdppmgcaioaaDoorLUref
import Derived.Test.YtdacdppmgcaioaaDoorLTsp
set_option linter.unusedVariables false
set_option linter.unusedSimpArgs false
namespace Go.Proofs.YtdacdppmgcaioaaDoor
open Go.RowKit Go.Lib

theorem cutCh_pcs (L : List UInt8) : L ≠ [] → cutP nxCh L = (pcs L).map (·.1) := by
  refine text_ind (p := fun L => L ≠ [] → cutP nxCh L = (pcs L).map (·.1)) (fun h => absurd rfl h) (fun L hl ih _ => ?_) L
  rw [pcs_cons hl]
  have hw := wid_le hl
  by_cases he : wid L = L.length
  · have h0 : nxCh L = none := by unfold nxCh; rw [if_pos (.inr he)]
    rw [cutP_none h0, he, List.drop_length, pcs_nil, List.take_length]
    rfl
  · have h0 : nxCh L = some (wid L, 0) := by unfold nxCh; rw [if_neg (by rintro (h | h); exact hl h; exact he h)]
    have hd : L.drop (wid L) ≠ [] := fun h => by
      have := congrArg List.length h
      rw [List.length_drop] at this
      simp at this; omega
    rw [cutP_some nxCh_goes h0, Nat.add_zero, ih hd]
    rfl
theorem cutCh_enc {L : List UInt8} (hl : L ≠ []) (ht : isT L = true) : cutP nxCh L = (uchars L).map encodeRune := by
  rw [cutCh_pcs L hl]
  unfold uchars
  rw [List.map_map]
  exact List.map_congr_left fun p hp => (pcs_good L p hp ((isT_iff L).1 ht p hp)).2
theorem rdo_row {w : World} {base n c : Nat} {A : Option Addr} {L : List UInt8} (h : RowV w base 5 A n c (bs8 L)) : RdO w A L := fun k x hx => by
  have hk := (List.getElem?_eq_some_iff.1 hx).1
  have hn : 0 < n := by have := h.len; rw [bs8_length] at this; omega
  obtain ⟨b, off, e, -, hc⟩ := h.rd.cells hn
  exact ⟨b, off, e, hc k _ (bs8_get hx)⟩
set_option maxHeartbeats 8000000 in
set_option maxRecDepth 100000 in
theorem rCutCh_c (s : ByteArray) (w : World) (hs : s.size ≤ 1048576) (hse : s ≠ ⟨#[]⟩) (hok : isT s.data.toList = true) :
    Calls Tryd.prog 48 #[.string s, .string ⟨#[]⟩] w fun e w' => ∃ (g c : Nat) (xs : List ByteArray), xs.map dl = cutP nxCh s.data.toList ∧ w.heap.size ≤ g ∧ g < w'.heap.size ∧ e = .returned (.slice (some ⟨g, 0, none⟩) xs.length c) ∧ xs.length ≤ c ∧ RdX w' (g + 1) (some ⟨g, 0, none⟩) xs ∧ Below w.heap.size w w' := by
  obtain ⟨i0, hi, hz0, hz1, hz2⟩ := info_parts infoStr
  have hsb : s.toList.isEmpty = false := ne_emptyT hse
  have hR := RRunes_c s.data.toList w (by rw [← sizeT_list]; omega)
  rw [mk8_of] at hR
  rw [show errT s.data.toList = 0 by unfold errT; rw [if_pos hok], show runesT s.data.toList = uchars s.data.toList by unfold runesT; rw [if_pos hok]] at hR
  have hch := chars_ch hok
  have hln : (uchars s.data.toList).length ≤ s.size := by
    unfold uchars
    rw [List.length_map, sizeT_list]
    exact pcs_len _
  have hpos : uchars s.data.toList ≠ [] := fun h => by
    have h2 := enc_chars hok
    rw [h] at h2
    exact toList_ne hse h2.symm
  obtain ⟨total, htot⟩ : ∃ T, cutP nxCh s.data.toList = T := ⟨_, rfl⟩
  have hte : total = (uchars s.data.toList).map encodeRune := by rw [← htot]; exact cutCh_enc (toList_ne hse) hok
  rw [htot]
  generalize uchars s.data.toList = us at *
  obtain ⟨B, hB⟩ : ∃ B, w.heap.size = B := ⟨_, rfl⟩
  rw [hB]
  have HTO := Lib.hid hte
  have HB := Lib.hid hB
  have HR := Lib.hid hR
  have HCH := Lib.hid hch
  clear htot hB hse hok hte hR hch
  go_enter Tryd.func48, Tryd.ntmps48
  go_wp2_with fail
  refine HR.out.mono ?_
  rintro e w1 ⟨A, n, c, rfl, hrow, hb1⟩
  have hn : us.length = n := by have := hrow.len; rwa [zs64_length] at this
  have HROW := Lib.hid hrow
  have HB1 := Lib.hid hb1
  have HN := Lib.hid hn
  clear hrow hb1 hn
  go_wp2_with fail
  go_loopw [5, 8] (fun v0 iv wr => ∃ (v : Value) (i : Nat) (done : List ByteArray), v = v0 ∧ iv = .int .i64 (i : Int) ∧ i ≤ n ∧ done.length = i ∧ Hid (wr.ownsRow w1.heap.size 9 1 v done.length (done.map Value.string)) ∧ Hid (done.map dl = (us.take i).map encodeRune) ∧ Hid (Below w1.heap.size w1 wr)) (fun _ iv _ => n - (RowKit.intOf iv).toNat)
  case atStart => exact ⟨_, 0, [], rfl, rfl, Nat.zero_le _, rfl, ⟨rfl, .inl ⟨rfl, rfl⟩⟩, rfl, Below.refl _ _⟩
  case round =>
    obtain ⟨v, i, done, rfl, rfl, hin, hdl, hown, hdn, hbel⟩ := hrel
    have hgrb := row_grbX hown.out
    have hszw : w1.heap.size ≤ wr.heap.size := hbel.out.size
    by_cases hlt : i < n
    · obtain ⟨z, hz⟩ : ∃ z, us[i]? = some z := ⟨us[i]'(by rw [HN.out]; exact hlt), List.getElem?_eq_getElem (by rw [HN.out]; exact hlt)⟩
      have hic := HCH.out z (List.mem_of_getElem? hz)
      obtain ⟨b, off, rfl, hSb, hc⟩ := ((HROW.out.below hbel.out (Nat.le_refl _)).rd).at_ (zs64_get hz)
      have hO := Octets_c z wr hic
      have hnew : (us.take (i + 1)).map encodeRune = (us.take i).map encodeRune ++ [encodeRune z] := by
        rw [List.take_add_one, hz, List.map_append]; try rfl
      have hln2 : n ≤ s.size := by rw [← HN.out]; exact hln
      have HNW := Lib.hid hnew
      have HOC := Lib.hid hO
      have HOW := Lib.hid hown.out
      have HDN := Lib.hid hdn.out
      have HBE := Lib.hid hbel.out
      clear hnew hO hown hdn hbel hz hic hSb
      go_wp2_with fail
      refine HOC.out.mono ?_
      rintro e w2 ⟨m, rfl, hrow2, hb2⟩
      have hm : m = (encodeRune z).length := by have := hrow2.len; rw [bs8_length] at this; exact this.symm
      subst hm
      have hcv := conv_o (c := (encodeRune z).length) (rdo_row hrow2)
      obtain ⟨Y, hY⟩ : ∃ Y : ByteArray, Y = ⟨(encodeRune z).toArray⟩ := ⟨_, rfl⟩
      rw [← hY] at hcv
      have hYL : dl Y = encodeRune z := by subst hY; first | rfl | (show (encodeRune z).toArray.toList = _; simp)
      have HYL := Lib.hid hYL
      have hro : ∀ o, (w2.alloc o).ownsRow w1.heap.size 9 1 v done.length (done.map Value.string) := fun o => row_stayT HOW.out (fun g vs hg _ => (Below.heap_alloc _ _ _ (by have h3 := (Array.getElem?_eq_some_iff.1 hg).1; have := hb2.size; omega)).trans (hb2.block g (Array.getElem?_eq_some_iff.1 hg).1))
      have hszw2 : w1.heap.size ≤ w2.heap.size := Nat.le_trans hszw hb2.size
      have HB2 := Lib.hid (HBE.out.trans (hb2.mono hszw))
      clear hY hYL hrow2 hb2
      go_wp2_with (at_builtin; refine wpList_append_own_at _ rfl (.tmp 26) (.tmp 33) _ rfl w1.heap.size 9 i0 (.string ⟨#[]⟩) 1 16 Tryd.underlying22 hi hz0 hz1 hz2 rfl (by decide) v done.length (done.map Value.string) rfl (hro _) ⟨w2.heap.size, 0, none⟩ 1 1 [.string Y] rfl rfl (cell_one_new _ _ _) (by simp [Value.oneCell']) (by unfold maxLen; omega) (by omega) (by simp; omega) ?_; intro v1 w4 hown1 hg1 _ hat1)
      go_roundw
      case rel =>
        have hbel4 : Below w1.heap.size w1 w4 := (HB2.out.alloc hszw2 (.cells #[.string Y] 9)).grown hg1 (by simp; omega) (fun k hk => hgrb k hk)
        refine ⟨v1, i + 1, done ++ [Y], rfl, by go_num, hlt, by simp [hdl], ?_, ?_, hbel4⟩
        · show _ = _ ∧ _
          rw [show (done ++ [Y]).length = done.length + 1 by simp, show (done ++ [Y]).map Value.string = done.map Value.string ++ [.string Y] by simp]
          exact hown1
        · show _ = _
          rw [HNW.out, List.map_append, HDN.out, ← HYL.out]; rfl
      case measure => simp [RowKit.intOf]; omega
    · obtain rfl : i = n := by omega
      have hn0 : 0 < done.length := by
        rcases Nat.eq_zero_or_pos done.length with h | h
        · rw [hdl, ← HN.out] at h; exact absurd (List.length_eq_zero_iff.1 h) hpos
        · exact h
      have htot : done.map dl = total := by rw [hdn.out, HTO.out, ← HN.out, List.take_length]
      obtain ⟨g, c9, rfl, hgb, hgl, hcap⟩ : ∃ g c, v = .slice (some ⟨g, 0, none⟩) done.length c ∧ w1.heap.size ≤ g ∧ g < wr.heap.size ∧ done.length ≤ c := by
        rcases hown.out.2 with ⟨_, hz⟩ | ⟨g, cap, cur, h1, h2, h3, h5⟩
        · omega
        · exact ⟨g, cap, h1, h2, (Array.getElem?_eq_some_iff.1 h3).1, h5.1⟩
      have hrd := rdx_own hown.out (by simp) hgl
      have hbw : w.heap.size ≤ w1.heap.size := HB1.out.size
      have HB9 := Lib.hid (HB1.out.trans (hbel.out.mono hbw))
      have HRD := Lib.hid hrd
      have HT := Lib.hid htot
      clear hrd htot hown hdn hbel
      go_wp2_with fail
      go_ret
      exact ⟨g, c9, done, HT.out, by have := HB.out; omega, hgl, rfl, hcap, HRD.out, by have := HB.out; rw [← this]; exact HB9.out⟩
end Go.Proofs.YtdacdppmgcaioaaDoor
