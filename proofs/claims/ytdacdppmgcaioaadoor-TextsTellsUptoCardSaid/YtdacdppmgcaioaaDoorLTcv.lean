/-
  The reference: Cut at a text that is not empty, walked.
-/
import Derived.Test.YtdacdppmgcaioaaDoorLTct
set_option linter.unusedVariables false
set_option linter.unusedSimpArgs false
namespace Go.Proofs.YtdacdppmgcaioaaDoor
open Go.RowKit Go.Lib

theorem rCutNone_c (sep : ByteArray) (w : World) : Calls Tryd.prog 48 #[.string ⟨#[]⟩, .string sep] w fun e w' => e = .returned (.slice none 0 0) ∧ w' = w := by
  go_enter Tryd.func48, Tryd.ntmps48
  go_wp2_with fail
  go_ret
  exact ⟨rfl, rfl⟩
theorem row_grbX {w : World} {B n : Nat} {v : Value} {xs : List Value} {e : TypeId} (h : w.ownsRow B e 1 v n xs) : ∀ g, v.ownBlock = some g → B ≤ g := fun g e => by
  rcases h.2 with ⟨h, _⟩ | ⟨g2, cap, cur, h, e2, e3, _⟩
  · rw [h] at e; simp [Value.ownBlock] at e
  · rw [h] at e; simp only [Value.ownBlock, Option.some.injEq] at e
    omega
set_option maxHeartbeats 8000000 in
set_option maxRecDepth 100000 in
theorem rCut_c (s sep : ByteArray) (w : World) (hs : s.size ≤ 1048576) (ht : sep.size ≤ 1048576) (hse : s ≠ ⟨#[]⟩) (hpe : sep ≠ ⟨#[]⟩) :
    Calls Tryd.prog 48 #[.string s, .string sep] w fun e w' => ∃ (g c : Nat) (xs : List ByteArray), xs.map dl = cutP (nxOf sep.data.toList) s.data.toList ∧ w.heap.size ≤ g ∧ g < w'.heap.size ∧ e = .returned (.slice (some ⟨g, 0, none⟩) xs.length c) ∧ xs.length ≤ c ∧ RdX w' (g + 1) (some ⟨g, 0, none⟩) xs ∧ Below w.heap.size w w' := by
  obtain ⟨i0, hi, hz0, hz1, hz2⟩ := info_parts infoStr
  have hsb : s.toList.isEmpty = false := ne_emptyT hse
  have hpb : sep.toList.isEmpty = false := ne_emptyT hpe
  have hpl := toList_ne hpe
  have hm0 : 0 < sep.size := by
    rcases Nat.eq_zero_or_pos sep.size with h | h
    · exact absurd (List.length_eq_zero_iff.1 (by rw [← sizeT_list]; exact h)) hpl
    · exact h
  obtain ⟨B, hB⟩ : ∃ B, w.heap.size = B := ⟨_, rfl⟩
  rw [hB]
  obtain ⟨total, htot⟩ : ∃ T, cutP (nxOf sep.data.toList) s.data.toList = T := ⟨_, rfl⟩
  rw [htot]
  have HTO := Lib.hid htot
  have HB := Lib.hid hB
  have HPL := Lib.hid hpl
  clear htot hB hpl hse hpe
  go_enter Tryd.func48, Tryd.ntmps48
  go_wp2_with fail
  go_loopw [5, 9, 10] (fun v0 fv iv wr => ∃ (v : Value) (f i : Nat) (done : List ByteArray), v = v0 ∧ fv = .int .i64 (f : Int) ∧ iv = .int .i64 (i : Int) ∧ f ≤ s.size ∧ Hid (wr.ownsRow B 9 1 v done.length (done.map Value.string)) ∧ done.length ≤ f ∧ ((i ≤ s.size ∧ f ≤ i ∧ Hid (total = done.map dl ++ headApp (segT s.data.toList f i) (cutP (nxOf sep.data.toList) (s.data.toList.drop i)))) ∨ (i = s.size + 1 ∧ Hid (total = done.map dl ++ [s.data.toList.drop f]))) ∧ Hid (Below B w wr) ∧ Hid (B ≤ wr.heap.size)) (fun _ _ iv _ => s.size + 1 - (RowKit.intOf iv).toNat)
  case atStart => exact ⟨_, 0, 0, [], rfl, rfl, rfl, Nat.zero_le _, ⟨rfl, .inl ⟨rfl, rfl⟩⟩, Nat.le_refl _, .inl ⟨Nat.zero_le _, Nat.le_refl _, by show _ = _; rw [segT_self, headApp_nil, List.drop_zero, HTO.out]; rfl⟩, Below.refl _ _, by show B ≤ _; rw [HB.out]; omega⟩
  case round =>
    obtain ⟨v, f, i, done, rfl, rfl, rfl, hfs, hrow, hdf, hst, hbel, hsz⟩ := hrel
    have hgrb := row_grbX hrow.out
    have hro : ∀ o, (wr.alloc o).ownsRow B 9 1 v done.length (done.map Value.string) := fun o => row_stayT hrow.out (fun g vs hg _ => Below.heap_alloc _ _ _ (Array.getElem?_eq_some_iff.1 hg).1)
    have hszw := hsz.out
    have HRW := Lib.hid hrow.out
    have HBE := Lib.hid hbel.out
    clear hrow hbel hsz
    rcases hst with ⟨hin, hfi, hst⟩ | ⟨rfl, hst⟩
    · have hinI : (i : Int) ≤ (s.size : Int) := by omega
      have hf0 : (0 : Int) ≤ (f : Int) := by omega
      have hi0 : (0 : Int) ≤ (i : Int) := by omega
      have hw : IntKind.i64.wrap ((s.size : Int) - (i : Int)) = ((s.size - i : Nat) : Int) := by rw [IntWalk.i64_in _ (by omega)]; omega
      have hw2 : IntKind.i64.wrap ((i : Int) + (sep.size : Int)) = ((i + sep.size : Nat) : Int) := by rw [IntWalk.i64_in _ (by omega)]; omega
      have hiw : IntKind.i64.wrap ((i : Int) + 1) = (i : Int) + 1 := IntWalk.i64_in _ (by omega)
      obtain ⟨D, hD⟩ : ∃ D, s.size - i = D := ⟨_, rfl⟩
      rw [hD] at hw
      have hpt := hasPrefix_of_take (s.data.toList.drop i) sep.data.toList
      have HST := Lib.hid hst.out
      -- the round where nothing is cut
      have hmiss : Lib.hasPrefix (s.data.toList.drop i) sep.data.toList = false → (i + 1 ≤ s.size ∧ f ≤ i + 1 ∧ Hid (total = done.map dl ++ headApp (segT s.data.toList f (i + 1)) (cutP (nxOf sep.data.toList) (s.data.toList.drop (i + 1))))) ∨ (i + 1 = s.size + 1 ∧ Hid (total = done.map dl ++ [s.data.toList.drop f])) := fun hp => by
        by_cases hlt : i < s.size
        · refine .inl ⟨by omega, by omega, ?_⟩
          show _ = _
          have hd := drop_at hlt
          rw [hd] at hp
          rw [HST.out, hd, cut_miss HPL.out hp, headApp_app, ← segT_snoc hfi (by
            have h2 : i < s.data.toList.length := by rw [← sizeT_list]; exact hlt
            rw [List.getElem?_eq_getElem h2]; rfl)]
        · obtain rfl : i = s.size := by omega
          refine .inr ⟨rfl, ?_⟩
          show _ = _
          rw [HST.out, List.drop_of_length_le (by rw [← sizeT_list]; omega), cut_end]
          show _ ++ [segT s.data.toList f s.size ++ []] = _
          rw [List.append_nil, sizeT_list s, segT_all]
      have HMI := Lib.hid hmiss
      clear hmiss hst
      by_cases hroom : sep.size ≤ D
      · have d1 : decide ((sep.size : Int) ≤ (D : Int)) = true := decide_eq_true (by omega)
        have d1' : decide ((sep.size : Int) ≤ (s.size : Int) - (i : Int)) = true := decide_eq_true (by omega)
        have hI2s : (i + sep.size) ≤ s.size := by omega
        have hiI2 : i ≤ (i + sep.size) := by omega
        obtain ⟨X, hX⟩ : ∃ X, s.extract i (i + sep.size) = X := ⟨_, rfl⟩
        have hXL : X.data.toList = (s.data.toList.drop i).take sep.data.toList.length := by
          rw [← hX, segT_ext s i (i + sep.size) hI2s, ← sizeT_list]
          unfold segT
          rw [show i + sep.size - i = sep.size by omega]
        by_cases hx : X = sep
        · have hxb : (X.toList == sep.toList) = true := by rw [hx]; simp
          have hp : Lib.hasPrefix (s.data.toList.drop i) sep.data.toList = true := by
            rw [← hpt, ← hXL, hx]
            simp
            omega
          obtain ⟨Y, hY⟩ : ∃ Y, s.extract f i = Y := ⟨_, rfl⟩
          have hYL : dl Y = segT s.data.toList f i := by rw [← hY]; exact segT_ext s f i hin
          have hnew : total = (done ++ [Y]).map dl ++ headApp (segT s.data.toList (i + sep.size) (i + sep.size)) (cutP (nxOf sep.data.toList) (s.data.toList.drop (i + sep.size))) := by
            rw [HST.out, cut_hit HPL.out hp, segT_self, headApp_nil, List.drop_drop, ← sizeT_list, List.map_append]
            show _ ++ (segT s.data.toList f i ++ []) :: _ = _
            rw [List.append_nil, ← hYL]
            simp
          have HN := Lib.hid hnew
          clear hnew hp hXL hpt hx hYL HMI HST
          go_wp2_with (at_builtin; refine wpList_append_own_at _ rfl (.tmp 58) (.tmp 63) _ rfl B 9 i0 (.string ⟨#[]⟩) 1 16 Tryd.underlying22 hi hz0 hz1 hz2 rfl (by decide) v done.length (done.map Value.string) rfl (hro _) ⟨wr.heap.size, 0, none⟩ 1 1 [.string Y] rfl rfl (cell_one_new _ _ _) (by simp [Value.oneCell']) (by unfold maxLen; omega) (by omega) (by simp; omega) ?_; intro v1 w4 hown1 hg1 _ hat1)
          go_roundw
          case rel =>
            have hbel4 : Below B w w4 := (HBE.out.alloc hszw (.cells #[.string Y] 9)).grown hg1 (by simp; omega) (fun k hk => hgrb k hk)
            refine ⟨v1, i + sep.size, i + sep.size, done ++ [Y], rfl, by simp, by simp, hI2s, ?_, by simp; omega, .inl ⟨hI2s, Nat.le_refl _, HN.out⟩, hbel4, by show _ ≤ _; have h9 := hg1.size; rw [World.size_alloc] at h9; omega⟩
            show _ = _ ∧ _
            rw [show (done ++ [Y]).length = done.length + 1 by simp, show (done ++ [Y]).map Value.string = done.map Value.string ++ [.string Y] by simp]
            exact hown1
          case measure => simp [RowKit.intOf]; omega
        · have hxb : (X.toList == sep.toList) = false := neq_list hx
          have hp : Lib.hasPrefix (s.data.toList.drop i) sep.data.toList = false := by
            rw [← hpt, ← hXL]
            have : (X.data.toList == sep.data.toList) = false := beq_eq_false_iff_ne.2 (fun e => hx (ByteArray.ext (Array.ext' e)))
            rw [this, Bool.and_false]
          have HM2 := Lib.hid (HMI.out hp)
          clear hp hXL hpt hx HMI HST
          go_wp2_with fail
          go_roundw
          case rel => exact ⟨v, f, i + 1, done, rfl, rfl, by go_num, hfs, HRW.out, hdf, HM2.out, HBE.out, hszw⟩
          case measure => simp [RowKit.intOf]; omega
      · have d1 : decide ((sep.size : Int) ≤ (D : Int)) = false := decide_eq_false (by omega)
        have d1' : decide ((sep.size : Int) ≤ (s.size : Int) - (i : Int)) = false := decide_eq_false (by omega)
        have hp : Lib.hasPrefix (s.data.toList.drop i) sep.data.toList = false := by
          rw [← hpt, decide_eq_false (by rw [List.length_drop, ← sizeT_list, ← sizeT_list]; omega), Bool.false_and]
        have HM2 := Lib.hid (HMI.out hp)
        clear hp hpt HMI HST
        go_wp2_with fail
        go_roundw
        case rel => exact ⟨v, f, i + 1, done, rfl, rfl, by go_num, hfs, HRW.out, hdf, HM2.out, HBE.out, hszw⟩
        case measure => simp [RowKit.intOf]; omega
    · have hni : ¬ ((s.size + 1 : Nat) : Int) ≤ (s.size : Int) := by omega
      have hf0 : (0 : Int) ≤ (f : Int) := by omega
      obtain ⟨Y, hY⟩ : ∃ Y, s.extract f s.size = Y := ⟨_, rfl⟩
      have hYL : dl Y = s.data.toList.drop f := by rw [← hY]; exact ext_drop s f
      have HN := Lib.hid (show (done ++ [Y]).map dl = total by rw [hst.out, List.map_append, ← hYL]; rfl)
      clear hst hYL
      go_wp2_with (at_builtin; refine wpList_append_own_at _ rfl (.tmp 72) (.tmp 76) _ rfl B 9 i0 (.string ⟨#[]⟩) 1 16 Tryd.underlying22 hi hz0 hz1 hz2 rfl (by decide) v done.length (done.map Value.string) rfl (hro _) ⟨wr.heap.size, 0, none⟩ 1 1 [.string Y] rfl rfl (cell_one_new _ _ _) (by simp [Value.oneCell']) (by unfold maxLen; omega) (by omega) (by simp; omega) ?_; intro v1 w4 hown1 hg1 _ hat1)
      rw [show done.map Value.string ++ [.string Y] = (done ++ [Y]).map Value.string by simp] at hown1
      obtain ⟨g, c, rfl, hgb, hgl, hcap⟩ : ∃ g c, v1 = .slice (some ⟨g, 0, none⟩) (done.length + 1) c ∧ B ≤ g ∧ g < w4.heap.size ∧ done.length + 1 ≤ c := by
        rcases hown1.2 with ⟨_, hz⟩ | ⟨g, cap, cur, h1, h2, h3, h5⟩
        · omega
        · exact ⟨g, cap, h1, h2, (Array.getElem?_eq_some_iff.1 h3).1, h5.1⟩
      have hrd := rdx_own hown1 (by simp) hgl
      have hbel4 : Below B w w4 := (HBE.out.alloc hszw (.cells #[.string Y] 9)).grown hg1 (by simp; omega) (fun k hk => hgrb k hk)
      have HRD := Lib.hid hrd
      have HB4 := Lib.hid hbel4
      clear hrd hbel4 hown1 hg1
      go_wp2_with fail
      go_ret
      exact ⟨g, c, done ++ [Y], HN.out, hgb, hgl, by simp, by simpa using hcap, HRD.out, HB4.out⟩
end Go.Proofs.YtdacdppmgcaioaaDoor
