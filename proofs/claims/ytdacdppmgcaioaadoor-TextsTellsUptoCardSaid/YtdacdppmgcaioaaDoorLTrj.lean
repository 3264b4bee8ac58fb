/-
  The reference: Join.
-/
import Derived.Test.YtdacdppmgcaioaaDoorLTmv
set_option linter.unusedVariables false
set_option linter.unusedSimpArgs false
namespace Go.Proofs.YtdacdppmgcaioaaDoor
open Go.RowKit Go.Lib

theorem join_more (sep : List UInt8) : ∀ (l2 l1 : List (List UInt8)), ∃ m, joinB sep (l1 ++ l2) = joinB sep l1 ++ m
  | [], l1 => ⟨[], by simp⟩
  | x :: l2, l1 => by
    obtain ⟨m, hm⟩ := join_more sep l2 (l1 ++ [x])
    rw [List.append_assoc] at hm
    by_cases h : l1 = []
    · subst h
      exact ⟨_, rfl⟩
    · rw [joinB_snoc _ _ _ h] at hm
      exact ⟨sep ++ x ++ m, by rw [show l1 ++ x :: l2 = l1 ++ ([x] ++ l2) by simp, hm]; simp⟩
set_option maxHeartbeats 8000000 in
set_option maxRecDepth 100000 in
theorem rJoin_c {A : Option Addr} {c : Nat} {xs : List ByteArray} (sep : ByteArray) (w : World) (hx : RdX w w.heap.size A xs) (hA : A = none → xs.length = 0 ∧ c = 0) (hxs : ∀ x ∈ xs, x.size ≤ 1048576) (hn : xs.length ≤ 1048576) (hs : sep.size ≤ 1048576) :
    Calls Tryd.prog 10 #[.slice A xs.length c, .string sep] w fun e w' => e = .returned (.tuple #[.string (wrote (xs ++ [sep]) (joinB (dl sep) (xs.map dl))).1, .int .i64 (wrote (xs ++ [sep]) (joinB (dl sep) (xs.map dl))).2]) ∧ Below w.heap.size w w' := by
  obtain ⟨i0, hi, hz0, hz1, hz2⟩ := info_parts infoStr
  obtain ⟨j0, hj, hy0, hy1, hy2⟩ := info_parts infoU8
  obtain ⟨B, hB⟩ : ∃ B, w.heap.size = B := ⟨_, rfl⟩
  obtain ⟨n, hnl⟩ : ∃ n, xs.length = n := ⟨_, rfl⟩
  have hb0 : Below w.heap.size w (w.alloc (.cells #[] 9)) := (Below.refl _ w).alloc (Nat.le_refl _) _
  have hrow0 : (w.alloc (.cells #[] 9)).ownsRow B 9 1 (.slice (some ⟨B, 0, none⟩) 0 0) 0 [] := ⟨rfl, .inr ⟨B, 0, #[], rfl, Nat.le_refl _, by rw [← hB]; exact World.alloc_heap_new w _, Nat.le_refl _, by unfold maxLen; omega, rfl, rfl⟩⟩
  have hs0 : (w.alloc (.cells #[] 9)).heap.size = B + 1 := by rw [World.size_alloc, hB]
  have hx0 : RdX (w.alloc (.cells #[] 9)) B A xs := by rw [← hB]; exact hx.below hb0
  rw [hB] at hx hb0 ⊢
  rw [hnl] at hA hn
  have htot := fun (W : World) (g c' : Nat) (hgl : g < W.heap.size) (hrd : RdX W (g + 1) (some ⟨g, 0, none⟩) (xs ++ [sep])) => rChecks_c (c := c') W (hrd.up (by omega)) (by
    intro x hx
    rcases List.mem_append.1 hx with h | h
    · have := hxs x h; omega
    · rw [show x = sep by simpa using h]; omega) (by rw [List.length_append]; simp; omega)
  have HX := Lib.hid hx
  have HX0 := Lib.hid hx0
  have HXS := Lib.hid hxs
  have HN := Lib.hid hnl
  have HB := Lib.hid hB
  have HB0 := Lib.hid hb0
  have HR0 := Lib.hid hrow0
  have HS0 := Lib.hid hs0
  have HCK := Lib.hid htot
  obtain ⟨RR, hRR⟩ : ∃ RR, wrote (xs ++ [sep]) (joinB (dl sep) (xs.map dl)) = RR := ⟨_, rfl⟩
  rw [hRR]
  have HRR := Lib.hid hRR
  rw [hnl]
  clear hx hx0 hxs hnl hb0 hrow0 hs0 htot hRR
  go_enter Tryd.func10, Tryd.ntmps10
  go_upto_region 1 with fail
  go_cut [6] from 9 to 15 (fun v wr => v = .int .i64 (errX (xs ++ [sep]) : Int) ∧ Hid (Below B w wr) ∧ Hid (B ≤ wr.heap.size))
  case first =>
    obtain ⟨W0, hW0⟩ : ∃ W0, w.alloc (.cells #[] 9) = W0 := ⟨_, rfl⟩
    have HW0 := Lib.hid hW0
    rw [hW0] at HR0 HX0 HB0 HS0
    clear hW0
    cases A with
    | none =>
      obtain ⟨rfl, rfl⟩ := hA rfl
      have hxe : xs = [] := List.length_eq_zero_iff.1 HN.out
      have hro : ∀ o, (W0.alloc o).ownsRow B 9 1 (.slice (some ⟨B, 0, none⟩) 0 0) 0 [] := fun o => row_stayT HR0.out (fun g vs hg _ => Below.heap_alloc _ _ _ (Array.getElem?_eq_some_iff.1 hg).1)
      go_wp2_with (at_builtin; first | (rw [HW0.out]; refine wpList_append_own_none rfl (.tmp 9) (.tmp 10) _ rfl B 9 i0 1 Tryd.underlying22 hi (.slice (some ⟨B, 0, none⟩) 0 0) 0 [] rfl HR0.out rfl ?_) | (refine wpList_append_own_at _ rfl (.tmp 11) (.tmp 13) _ rfl B 9 i0 (.string ⟨#[]⟩) 1 16 Tryd.underlying22 hi hz0 hz1 hz2 rfl (by decide) (.slice (some ⟨B, 0, none⟩) 0 0) 0 [] rfl (hro _) ⟨W0.heap.size, 0, none⟩ 1 1 [.string sep] rfl rfl (cell_one_new _ _ _) (by simp [Value.oneCell']) (by unfold maxLen; omega) (by omega) (by have := HS0.out; simp; omega) ?_; intro v2 w5 hown2 hg2 _ hat2))
      have hs0 := HS0.out
      have hown2' : w5.ownsRow B 9 1 v2 (xs ++ [sep]).length ((xs ++ [sep]).map Value.string) := by
        rw [List.length_append, HN.out, List.map_append]
        rw [hxe]; exact hown2
      obtain ⟨g, c', rfl, hgl⟩ : ∃ g c', v2 = .slice (some ⟨g, 0, none⟩) (xs ++ [sep]).length c' ∧ g < w5.heap.size := by
        rcases hown2'.2 with ⟨_, hz⟩ | ⟨g, cap, cur, h1, h2, h3, _⟩
        · rw [List.length_append] at hz; simp at hz
        · exact ⟨g, cap, h1, (Array.getElem?_eq_some_iff.1 h3).1⟩
      have hbel5 : Below B w w5 := by
        have h1 : Below B w W0 := HB0.out.mono (by have := HB.out; omega)
        exact (h1.alloc (by omega) (.cells #[.string sep] 9)).grown hg2 (by simp; omega) (fun k hk => row_grbX HR0.out k hk)
      have hsz5 : B ≤ w5.heap.size := by have := hbel5.size; have := HB.out; omega
      have HK := Lib.hid (HCK.out w5 g c' hgl (rdx_own hown2' rfl hgl))
      have HB5 := Lib.hid hbel5
      clear hown2 hown2' hg2 hbel5
      refine HK.out.mono ?_
      rintro e w6 ⟨rfl, hb6⟩
      have HB6 := Lib.hid (HB5.out.trans (hb6.mono hsz5))
      have hsz6 : B ≤ w6.heap.size := by have := hb6.size; omega
      clear hb6
      go_wp2_with fail
      go_meet
      exact ⟨by rw [hxe]; rfl, HB6.out, hsz6⟩
    | some ad =>
      go_wp2_with (at_builtin; first | (rw [HW0.out]; refine wpList_append_own_at _ rfl (.tmp 9) (.tmp 10) _ rfl B 9 i0 (.string ⟨#[]⟩) 1 16 Tryd.underlying22 hi hz0 hz1 hz2 rfl (by decide) (.slice (some ⟨B, 0, none⟩) 0 0) 0 [] rfl HR0.out ad n c (xs.map Value.string) rfl (by rw [List.length_map, HN.out, Nat.mul_one]) (news_of HX0.out rfl) (one_cells xs) (by unfold maxLen; omega) (by omega) (by have := HS0.out; omega) ?_; intro v1 w4 hown1 hg1 _ hat1) | (refine wpList_append_own_at _ rfl (.tmp 11) (.tmp 13) _ rfl B 9 i0 (.string ⟨#[]⟩) 1 16 Tryd.underlying22 hi hz0 hz1 hz2 rfl (by decide) v1 (0 + n) ([] ++ xs.map Value.string) rfl (row_stayT hown1 (fun g vs hg _ => Below.heap_alloc _ _ _ (Array.getElem?_eq_some_iff.1 hg).1)) ⟨w4.heap.size, 0, none⟩ 1 1 [.string sep] rfl rfl (cell_one_new _ _ _) (by simp [Value.oneCell']) (by unfold maxLen; omega) (by omega) (by have := hg1.size; have := HS0.out; simp; omega) ?_; intro v2 w5 hown2 hg2 _ hat2))
      have hs0 := HS0.out
      have hbel4 : Below B w w4 := (HB0.out.mono (by have := HB.out; omega)).grown hg1 (by omega) (fun k hk => row_grbX HR0.out k hk)
      have hs4 : B ≤ w4.heap.size := by have := hg1.size; omega
      have hown2' : w5.ownsRow B 9 1 v2 (xs ++ [sep]).length ((xs ++ [sep]).map Value.string) := by
        rw [List.length_append, HN.out, List.map_append]
        simpa using hown2
      obtain ⟨g, c', rfl, hgl⟩ : ∃ g c', v2 = .slice (some ⟨g, 0, none⟩) (xs ++ [sep]).length c' ∧ g < w5.heap.size := by
        rcases hown2'.2 with ⟨_, hz⟩ | ⟨g, cap, cur, h1, h2, h3, _⟩
        · rw [List.length_append] at hz; simp at hz
        · exact ⟨g, cap, h1, (Array.getElem?_eq_some_iff.1 h3).1⟩
      have hbel5 : Below B w w5 := (hbel4.alloc hs4 (.cells #[.string sep] 9)).grown hg2 (by simp; omega) (fun k hk => row_grbX hown1 k hk)
      have hsz5 : B ≤ w5.heap.size := by have := hbel5.size; have := HB.out; omega
      have HK := Lib.hid (HCK.out w5 g c' hgl (rdx_own hown2' rfl hgl))
      have HB5 := Lib.hid hbel5
      clear hown2 hown2' hg2 hbel5
      refine HK.out.mono ?_
      rintro e w6 ⟨rfl, hb6⟩
      have HB6 := Lib.hid (HB5.out.trans (hb6.mono hsz5))
      have hsz6 : B ≤ w6.heap.size := by have := hb6.size; omega
      clear hb6
      go_wp2_with fail
      go_meet
      exact ⟨rfl, HB6.out, hsz6⟩
  case rest =>
    obtain ⟨rfl, hbel, hszw⟩ := hcut
    rename_i wc
    have HBC := Lib.hid hbel.out
    have HSC := Lib.hid hszw.out
    clear hbel hszw HB0 HR0 HS0 HX0 HCK hA
    have hc := errX_cases (xs ++ [sep])
    obtain ⟨E, hE⟩ : ∃ E, errX (xs ++ [sep]) = E := ⟨_, rfl⟩
    rw [hE] at hc ⊢
    have HE := Lib.hid hE
    clear hE
    rcases hc with rfl | rfl
    · have HR2 := Lib.hid (show tell (joinB (dl sep) (xs.map dl)) = RR by rw [← HRR.out, wrote_ok HE.out])
      go_wp2_with fail
      go_loopw [7, 8] (fun v0 iv wr => ∃ (v : Value) (i k : Nat), v = v0 ∧ iv = .int .i64 (i : Int) ∧ i ≤ n ∧ Hid ((joinB (dl sep) ((xs.take i).map dl)).length = k) ∧ Hid (wr.ownsRow B 5 1 v k (Lib.byteCells (joinB (dl sep) ((xs.take i).map dl)))) ∧ Hid (Below B w wr) ∧ Hid (B ≤ wr.heap.size)) (fun _ iv _ => n - (RowKit.intOf iv).toNat)
      case atStart => exact ⟨_, 0, 0, rfl, rfl, Nat.zero_le _, rfl, ⟨rfl, .inl ⟨rfl, rfl⟩⟩, HBC.out, HSC.out⟩
      case round =>
        obtain ⟨v, i, k, rfl, rfl, hin, hk, hrow, hbel, hsz⟩ := hrel
        obtain ⟨ao, cap, rfl⟩ : ∃ ao cap, v = .slice ao k cap := by
          rcases hrow.out.2 with ⟨hv, h0⟩ | ⟨g, cap, cur, hv, _⟩
          · exact ⟨none, 0, by rw [hv, h0]⟩
          · exact ⟨_, _, hv⟩
        have hgrb := row_grb hrow.out
        by_cases hgo : i < n ∧ k ≤ 16384
        · obtain ⟨g1, g3⟩ := hgo
          have d1 : decide ((i : Int) < (n : Int)) = true := decide_eq_true (by omega)
          have d3 : decide ((k : Int) ≤ 16384) = true := decide_eq_true (by omega)
          have hilt : (i : Int) < (n : Int) := by omega
          have hi0 : (0 : Int) ≤ (i : Int) := by omega
          have hit : ((i : Int)).toNat = i := by omega
          have hiw : IntKind.i64.wrap ((i : Int) + 1) = (i : Int) + 1 := IntWalk.i64_in _ (by omega)
          obtain ⟨x, hxi⟩ : ∃ x, xs[i]? = some x := ⟨_, List.getElem?_eq_getElem (by rw [HN.out]; exact g1)⟩
          obtain ⟨g, off, rfl, hg, hcx⟩ := HX.out i x hxi
          have hxz : x.size ≤ 1048576 := HXS.out x (List.mem_of_getElem? hxi)
          have htk : (xs.take (i + 1)).map dl = (xs.take i).map dl ++ [dl x] := by rw [List.take_add_one, hxi, List.map_append]; rfl
          have hlen : ((xs.take i).map dl).length = i := by rw [List.length_map, List.length_take, HN.out]; omega
          have HTK := Lib.hid htk
          have HL := Lib.hid hlen
          have HK := Lib.hid hk.out
          have HRW := Lib.hid hrow.out
          have HBE := Lib.hid hbel.out
          have HSZ := Lib.hid hsz.out
          have HCX := Lib.hid hcx
          clear hk hrow hbel hsz htk hlen hxi hcx
          by_cases h0 : i = 0
          · subst h0
            have d0 : wr.cell? ⟨g, off, none⟩ = some (.string x) := (HBE.out.cell (p := ⟨g, off, none⟩) hg).trans (by have := HCX.out; rwa [Nat.add_zero] at this)
            have hstep : joinB (dl sep) ((xs.take (0 + 1)).map dl) = joinB (dl sep) ((xs.take 0).map dl) ++ dl x := by
              rw [HTK.out]
              have he : (xs.take 0).map dl = [] := by simp
              rw [he]; rfl
            have HST := Lib.hid hstep
            clear hstep
            go_wp2_with (at_builtin; refine Lib.wpList_append_own_string _ rfl (.tmp 35) (.tmp 39) 62 9 rfl B 5 j0 Tryd.underlying62 Tryd.underlying9 hj hy0 hy1 hy2 _ k _ rfl HRW.out x rfl (by unfold maxLen; omega) (by omega) HSZ.out ?_; intro v1 w4 hown1 hg1 _)
            go_roundw
            case rel =>
              have hbel4 : Below B w w4 := HBE.out.grown hg1 HSZ.out (fun k hk => hgrb k hk)
              refine ⟨_, _, _, _, _, _, _, _, _, _, _, _, _, _, _, _, _, _, _, _, _, _, _, _, ?_, rfl⟩
              have hbel4 : Below B w w4 := HBE.out.grown hg1 HSZ.out (fun k hk => hgrb k hk)
              refine ⟨v1, 1, k + x.size, rfl, by go_num, by omega, ?_, ?_, hbel4, by show _ ≤ _; have := hg1.size; have := HSZ.out; omega⟩
              · show _ = _
                rw [HST.out, List.length_append, HK.out, sizeT_list x]
              · show _ ∧ _
                rw [HST.out, byteCells_appT, show dl x = x.data.toList from rfl, ← strCells_bytesT]
                exact hown1
            case measure => simp [RowKit.intOf]; omega
          · have hi1 : decide ((0 : Int) < (i : Int)) = true := decide_eq_true (by omega)
            have hiI : (0 : Int) < (i : Int) := by omega
            have d0 : ∀ W, Below B w W → W.cell? ⟨g, off + i, none⟩ = some (.string x) := fun W hW => (hW.cell (p := ⟨g, off + i, none⟩) hg).trans HCX.out
            have hstep : joinB (dl sep) ((xs.take (i + 1)).map dl) = joinB (dl sep) ((xs.take i).map dl) ++ dl sep ++ dl x := by
              rw [HTK.out, joinB_snoc _ _ _ (fun he => h0 (by rw [← HL.out, he]; rfl))]
            have HST := Lib.hid hstep
            have HD0 := Lib.hid d0
            clear hstep d0
            go_wp2_with (at_builtin; first | (refine Lib.wpList_append_own_string _ rfl (.tmp 32) (.tmp 33) 62 9 rfl B 5 j0 Tryd.underlying62 Tryd.underlying9 hj hy0 hy1 hy2 _ k _ rfl HRW.out sep rfl (by unfold maxLen; omega) (by omega) HSZ.out ?_; intro v1 w4 hown1 hg1 _; have hbel4 : Below B w w4 := HBE.out.grown hg1 HSZ.out (fun k hk => hgrb k hk); have hs4 : B ≤ w4.heap.size := Nat.le_trans HSZ.out hg1.size; have e0 : w4.cell? ⟨g, off + i, none⟩ = some (.string x) := HD0.out w4 hbel4) | (refine Lib.wpList_append_own_string _ rfl (.tmp 35) (.tmp 39) 62 9 rfl B 5 j0 Tryd.underlying62 Tryd.underlying9 hj hy0 hy1 hy2 v1 (k + sep.size) _ rfl hown1 x rfl (by unfold maxLen; omega) (by omega) hs4 ?_; intro v2 w5 hown2 hg2 _))
            go_roundw
            case rel =>
              refine ⟨_, _, _, _, _, _, _, _, _, _, _, _, _, _, _, _, _, _, _, _, _, _, _, _, ?_, rfl⟩
              have hbel5 : Below B w w5 := hbel4.grown hg2 hs4 (fun k hk => row_grbX hown1 k hk)
              refine ⟨v2, i + 1, k + sep.size + x.size, rfl, by go_num, by omega, ?_, ?_, hbel5, by show _ ≤ _; have := hg2.size; omega⟩
              · show _ = _
                rw [HST.out, List.length_append, List.length_append, HK.out, sizeT_list x, sizeT_list sep]
              · show _ ∧ _
                rw [HST.out, byteCells_appT, byteCells_appT, show dl x = x.data.toList from rfl, show dl sep = sep.data.toList from rfl, ← strCells_bytesT, ← strCells_bytesT]
                exact hown2
            case measure => simp [RowKit.intOf]; omega
        · have hfin : tell (joinB (dl sep) ((xs.take i).map dl)) = RR := by
            rw [← HR2.out]
            by_cases g1 : i < n
            · obtain ⟨m, hm⟩ := join_more (dl sep) ((xs.drop i).map dl) ((xs.take i).map dl)
              rw [← List.map_append, List.take_append_drop] at hm
              rw [hm]
              exact tell_more (by rw [hk.out]; omega)
            · rw [show i = xs.length by rw [HN.out]; omega, List.take_length]
          have hwh := whole_c (c := cap) wr (rdo_own hrow.out hk.out.symm)
          rw [hfin, hk.out] at hwh
          have HW := Lib.hid hwh
          have HBE := Lib.hid hbel.out
          clear hwh hk hrow hbel hsz hfin HR2 HRR
          by_cases g1 : i < n
          · have d1 : decide ((i : Int) < (n : Int)) = true := decide_eq_true (by omega)
            have d3 : decide ((k : Int) ≤ 16384) = false := decide_eq_false (by omega)
            go_wp2_with fail
            refine HW.out.mono ?_
            rintro e w5 ⟨rfl, rfl⟩
            go_wp2_with fail
            go_ret2
            exact ⟨rfl, HBE.out⟩
          · have d1 : decide ((i : Int) < (n : Int)) = false := decide_eq_false (by omega)
            go_wp2_with fail
            refine HW.out.mono ?_
            rintro e w5 ⟨rfl, rfl⟩
            go_wp2_with fail
            go_ret2
            exact ⟨rfl, HBE.out⟩
    · have HR2 := Lib.hid (show RR = (⟨#[]⟩, 61) by rw [← HRR.out, wrote_no HE.out])
      clear HRR
      go_wp2_with fail
      go_ret2
      exact ⟨by rw [HR2.out]; rfl, HBC.out⟩
end Go.Proofs.YtdacdppmgcaioaaDoor
