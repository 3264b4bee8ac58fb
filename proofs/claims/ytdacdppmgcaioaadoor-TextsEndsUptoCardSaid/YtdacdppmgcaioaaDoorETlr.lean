/-
  Lines: the reference's.
-/
import Derived.Test.YtdacdppmgcaioaaDoorETln
set_option linter.unusedVariables false
set_option linter.unusedSimpArgs false
namespace Go.Proofs.YtdacdppmgcaioaaDoor
open Go.RowKit Go.Lib

theorem big_all {xs ys : List ByteArray} {ps : List (List UInt8)} (hxs : xs.map dl = ps) (hsub : ∀ y ∈ ys, y ∈ xs) (hback : ∀ x ∈ xs, x ∈ ys ∨ x = ⟨#[]⟩) :
    ((∀ x ∈ ys, x.size ≤ 16384) → ∀ p ∈ ps, p.length ≤ 16384) ∧ ((∃ x ∈ ys, 16384 < x.size) → ∃ p ∈ ps, 16384 < p.length) := by
  constructor
  · intro h p hp
    rw [← hxs] at hp
    obtain ⟨x, hx, rfl⟩ := List.mem_map.1 hp
    rcases hback x hx with h2 | rfl
    · have := h x h2
      rw [sizeT_list] at this; exact this
    · exact Nat.zero_le _
  · rintro ⟨x, hx, hl⟩
    refine ⟨dl x, by rw [← hxs]; exact List.mem_map.2 ⟨x, hsub x hx, rfl⟩, ?_⟩
    rw [sizeT_list] at hl; exact hl
theorem drop_back {xs : List ByteArray} (h : xs.getLast? = some ⟨#[]⟩) : ∀ x ∈ xs, x ∈ xs.dropLast ∨ x = ⟨#[]⟩ := fun x hx => by
  have hne : xs ≠ [] := fun e => by rw [e] at hx; cases hx
  have hl : xs.getLast hne = ⟨#[]⟩ := by
    rw [List.getLast?_eq_some_getLast hne] at h
    injection h
  have := List.dropLast_concat_getLast hne
  rw [← this] at hx
  rcases List.mem_append.1 hx with h1 | h1
  · exact .inl h1
  · exact .inr (by rw [← hl]; simpa using h1)
set_option maxHeartbeats 4000000 in
set_option maxRecDepth 100000 in
theorem rLines_c (s : ByteArray) (w : World) (hs : s.size ≤ 1048576) :
    Calls Tryd.prog 35 #[.string s] w fun e w' => LinesE s e w' ∧ Below w.heap.size w w' := by
  have hck := rChecks1_c s w (by omega)
  obtain ⟨E, hE⟩ : ∃ E, errX [s] = E := ⟨_, rfl⟩
  have hc := errX_cases [s]
  rw [hE] at hck hc
  have HC := Lib.hid hck
  have HE := Lib.hid hE
  clear hck
  rcases hc with rfl | rfl
  · by_cases hse : s = ⟨#[]⟩
    · subst hse
      have hwh := fun W => wholes_c (B := 0) (A := none) (c := 0) (xs := []) W (fun i x hx => by simp at hx) (by simp)
      have HW := Lib.hid hwh
      clear hE hwh
      go_enter Tryd.func35, Tryd.ntmps35
      go_wp2_with fail
      refine HC.out.mono ?_
      rintro e w1 ⟨rfl, hb1⟩
      have HB := Lib.hid hb1
      clear hb1
      go_wp2_with fail
      refine (rCutNone_c _ _).mono ?_
      rintro e w2 ⟨rfl, rfl⟩
      go_wp2_with fail
      refine (HW.out _).mono ?_
      rintro e w3 ⟨hW3, rfl⟩
      rcases hW3 with ⟨-, rfl⟩ | ⟨⟨x, hx, -⟩, -⟩
      · go_wp2_with fail
        go_ret2
        refine ⟨.inr (.inr ⟨HE.out, ?_, none, 0, [], ?_, rfl, fun i x hx => by simp at hx⟩), HB.out⟩
        · show ∀ p ∈ cutP (nxOf [10]) [], _
          rw [cut_end]; simp
        · show [] = linesP (cutP (nxOf [10]) [])
          rw [cut_end]; rfl
      · simp at hx
    · have hcut := fun W => rCut_c s ⟨#[10]⟩ W hs (by decide) hse (fun e => absurd (congrArg ByteArray.size e) (by decide))
      have HCU := Lib.hid hcut
      clear hE hse hcut
      go_enter Tryd.func35, Tryd.ntmps35
      go_wp2_with fail
      refine HC.out.mono ?_
      rintro e w1 ⟨rfl, hb1⟩
      have HB := Lib.hid hb1
      clear hb1
      go_wp2_with fail
      refine (HCU.out w1).mono ?_
      rintro e w3 ⟨g, c, xs, hxs, hgb, hgl, rfl, hcap, hrd, hb3⟩
      have HB3 := Lib.hid (HB.out.trans (hb3.mono HB.out.size))
      clear hb3
      have hne : xs ≠ [] := fun e => by
        have h2 := hxs
        rw [e] at h2
        exact cutP_ne (nxOf [10]) s.data.toList h2.symm
      obtain ⟨k, hk⟩ : ∃ k, xs.length = k + 1 := ⟨xs.length - 1, by
        have : xs.length ≠ 0 := fun h => hne (List.length_eq_zero_iff.1 h)
        omega⟩
      obtain ⟨x, hx1, hx2⟩ := last_get hk
      have hll := lines_last hx2
      have hkb : k ≤ 1048577 := by
        have h1 : xs.length = (cutP (nxOf [10]) s.data.toList).length := by rw [← show xs.map dl = cutP (nxOf [10]) s.data.toList from hxs, List.length_map]
        have h2 := cutP_len (nxOf_goes [10]) _ s.data.toList (Nat.le_refl _)
        rw [← sizeT_list] at h2
        omega
      obtain ⟨g2, off, hae, -, hcx⟩ := hrd k x hx1
      injection hae with hae; injection hae with hg2 ho2
      subst hg2 ho2
      rw [Nat.zero_add] at hcx
      have hw : IntKind.i64.wrap (((k + 1 : Nat) : Int) - 1) = (k : Int) := by rw [IntWalk.i64_in _ (by omega)]; omega
      have hwk : IntKind.i64.wrap ((k : Int) + 1 - 1) = (k : Int) := by rw [IntWalk.i64_in _ (by omega)]; omega
      have hk0 : decide ((0 : Int) < ((k + 1 : Nat) : Int)) = true := decide_eq_true (by omega)
      have hkI : (0 : Int) ≤ (k : Int) := by omega
      have hkk : ((k : Int)).toNat = k := by omega
      have HRD := Lib.hid hrd
      have HXS := Lib.hid (show xs.map dl = cutP (nxOf [10]) s.data.toList from hxs)
      have HLL := Lib.hid hll
      have HK := Lib.hid hk
      rw [hk] at hcap ⊢
      have hkc : k ≤ c := by omega
      by_cases hxe : x = ⟨#[]⟩
      · subst hxe
        have hba := big_all (ys := xs.dropLast) HXS.out (fun y hy => (List.dropLast_prefix xs).subset hy) (drop_back hx2)
        have hwh := wholes_c (c := c) w3 (rdx_dropLast hrd) (by rw [List.length_dropLast, hk]; omega)
        rw [List.length_dropLast, hk, Nat.add_sub_cancel] at hwh
        have HW := Lib.hid hwh
        have HBA := Lib.hid hba
        clear hrd hxs hll hne hx1 hx2 hwh hba hk
        go_wp2_with fail
        refine HW.out.mono ?_
        rintro e w4 ⟨hW4, rfl⟩
        rcases hW4 with ⟨hall, rfl⟩ | ⟨hbig, rfl⟩
        · have HA := Lib.hid hall
          clear hall
          go_wp2_with fail
          go_ret2
          refine ⟨.inr (.inr ⟨HE.out, HBA.out.1 HA.out, some ⟨g, 0, none⟩, c, xs.dropLast, ?_, ?_, (rdx_dropLast HRD.out).up (by omega)⟩), HB3.out⟩
          · rw [← HXS.out, HLL.out]; simp
          · rw [List.length_dropLast, HK.out, Nat.add_sub_cancel]; rfl
        · have HBI := Lib.hid hbig
          clear hbig
          go_wp2_with fail
          go_ret2
          exact ⟨.inr (.inl ⟨HE.out, HBA.out.2 HBI.out, rfl⟩), HB3.out⟩
      · have hxb : x.toList.isEmpty = false := ne_emptyT hxe
        have hba := big_all (ys := xs) HXS.out (fun y hy => hy) (fun y hy => .inl hy)
        have hwh := wholes_c (c := c) w3 hrd (by rw [hk]; omega)
        rw [hk] at hwh
        have HW := Lib.hid hwh
        have HBA := Lib.hid hba
        clear hrd hxs hll hne hx1 hx2 hwh hba hk
        go_wp2_with fail
        refine HW.out.mono ?_
        rintro e w4 ⟨hW4, rfl⟩
        rcases hW4 with ⟨hall, rfl⟩ | ⟨hbig, rfl⟩
        · have HA := Lib.hid hall
          clear hall
          go_wp2_with fail
          go_ret2
          refine ⟨.inr (.inr ⟨HE.out, HBA.out.1 HA.out, some ⟨g, 0, none⟩, c, xs, ?_, ?_, HRD.out.up (by omega)⟩), HB3.out⟩
          · rw [← HXS.out, HLL.out, if_neg hxe]
          · rw [HK.out]; rfl
        · have HBI := Lib.hid hbig
          clear hbig
          go_wp2_with fail
          go_ret2
          exact ⟨.inr (.inl ⟨HE.out, HBA.out.2 HBI.out, rfl⟩), HB3.out⟩
  · clear hE
    go_enter Tryd.func35, Tryd.ntmps35
    go_wp2_with fail
    refine HC.out.mono ?_
    rintro e w1 ⟨rfl, hb1⟩
    have HB := Lib.hid hb1
    clear hb1
    go_wp2_with fail
    go_ret2
    exact ⟨.inl ⟨HE.out, rfl⟩, HB.out⟩
end Go.Proofs.YtdacdppmgcaioaaDoor
