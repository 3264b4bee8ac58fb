/-
  The walk of bolterlaw06.OrderKeeps.
-/
import Derived.Test.YtjjpagdnjafgaaaGreatDoorKOix
import Derived.Test.YtjjpagdnjafgaaaGreatDoorKOrr
set_option linter.unusedVariables false
set_option linter.unusedSimpArgs false
namespace Go.Proofs.YtjjpagdnjafgaaaGreatDoor
open Go.RowKit

set_option maxRecDepth 100000 in
set_option maxHeartbeats 4000000 in
theorem orderKeeps_c {A : Option Addr} {n c : Nat} {l : List VT} (w : World) (hT : Tabs w) (hl : RdL w (fun b => b < w.heap.size) A n l) (hsz : underL l ≤ 21474836) :
    Calls Tryz.prog 9 #[.slice A n c] w fun e w' => e = .returned (.bool true) ∧ Below w.heap.size w w' := by
  have HT := Lib.hid hT
  have HL := Lib.hid hl
  have HLN := Lib.hid hl.1
  have hnb0 := hl.2.1
  have hnb : n ≤ 21474836 := by have := underL_len l; have := hl.1; omega
  have HSZ := Lib.hid hsz
  have HA := alive6_c w hT
  clear hT hl hsz hnb0
  go_enter Tryz.func9, Tryz.ntmps9
  go_wp2_with fail
  refine HA.mono ?_
  rintro e' w1 ⟨rfl, hb1⟩
  clear HA
  have HC2 := sort_c (c := c) w1 (HT.out.below hb1) (HL.out.stay hb1 fun b h => h) (fun b hb => Nat.lt_of_lt_of_le hb hb1.size) HSZ.out
  have HB1 := Lib.hid hb1
  clear hb1
  go_wp2_with fail
  refine HC2.mono ?_
  rintro e' w2 ⟨hb2, hres⟩
  clear HC2
  have HB2 := Lib.hid (HB1.out.trans (hb2.mono HB1.out.size))
  have h12 := hb2.size
  clear hb2
  rcases hres with ⟨hE, rfl⟩ | ⟨hE, LA, lc, ps, rfl, hpl, hlc, hr⟩
  · obtain ⟨E, hEE⟩ : ∃ E, itemsE l l = E := ⟨_, rfl⟩
    rw [hEE] at hE ⊢
    have hE1 : ((E : Int) == 0) = false := by rw [beq_eq_false_iff_ne]; omega
    clear hE hEE
    go_wp2_with (first | (go_at_call 43; refine (lnum6_c _ _).mono ?_; rintro e' w' ⟨rfl, rfl⟩))
    go_ret
    exact ⟨rfl, HB2.out⟩
  · obtain ⟨s, hs⟩ : ∃ s, pickV l ps = s := ⟨_, rfl⟩
    have herr : ∀ x ∈ l, errV x = 0 := (itemsE_zero hE).1
    have hperm : s.Perm l := hs ▸ pickV_perm hpl.1
    have herr2 : ∀ x ∈ s, errV x = 0 := fun x hx => herr x (hperm.mem_iff.1 hx)
    have hsn : s.length = n := by rw [hperm.length_eq]; exact HLN.out
    have hle : ∀ i j x y, i < j → s[i]? = some x → s[j]? = some y → ordV x y ≤ 0 := fun i j x y hij hx hy => placed_le hpl hij (by rw [hs]; exact hx) (by rw [hs]; exact hy)
    have hag : Placed s (List.range s.length) := hs ▸ placed_again hpl
    have hus : underL s ≤ 21474836 := by rw [underL_perm hperm]; exact HSZ.out
    rw [hs] at hr
    have HR := Lib.hid (hr.more fun b hb => hb.2)
    have HERR := Lib.hid herr
    have HERR2 := Lib.hid herr2
    have HPERM := Lib.hid hperm
    have HSN := Lib.hid hsn
    have HLE := Lib.hid hle
    have HAG := Lib.hid hag
    have HUS := Lib.hid hus
    clear herr hperm herr2 hsn hle hag hus hr hs hpl hE
    go_wp2_with (first | (go_at_call 43; refine (lnum6_c _ _).mono ?_; rintro e' w' ⟨rfl, rfl⟩))
    go_loopw [5] (fun iv wr => ∃ j : Nat, j ≤ n ∧ iv = .int .i64 (j : Int) ∧ Below w2.heap.size w2 wr) (fun iv _ => n - (RowKit.intOf iv).toNat)
    case atStart => exact ⟨0, Nat.zero_le _, rfl, Below.refl _ _⟩
    case round =>
      obtain ⟨j, hj, rfl, hbel⟩ := hrel
      have hb0r := HB2.out.trans (hbel.mono HB2.out.size)
      have HBEL := Lib.hid hbel
      have HB0R := Lib.hid hb0r
      clear hbel hb0r
      by_cases hjn : j < n
      · have hjlt : (j : Int) < (n : Int) := by omega
        have hj0 : (0 : Int) ≤ (j : Int) := by omega
        have hjt : ((j : Int)).toNat = j := by omega
        have hjw : IntKind.i64.wrap ((j : Int) + 1) = (j : Int) + 1 := IntWalk.i64_in _ (by omega)
        obtain ⟨b, off, x, cs, rfl, hSb, hx, h7, hcells, hvx⟩ := HL.out.at_ hjn
        obtain ⟨k2, neg2, A2, n2, c2, e2, t2, LA2, ln2, lc2, KA2, kn2, kc2, rfl⟩ := hvx.seven
        have hex := HERR.out x (List.mem_of_getElem? hx)
        have HVX := Lib.hid hvx
        have HCELLS := Lib.hid hcells
        have HX := Lib.hid hx
        clear hx h7 hcells hvx
        have d0 : wr.cell? ⟨b, off + j * 7, none⟩ = some (.int .i64 k2) := (HB0R.out.cell (p := ⟨b, off + (j * 7 + 0), none⟩) hSb).trans (HCELLS.out 0 (by omega))
        have d1 : wr.cell? ⟨b, off + j * 7 + 1, none⟩ = some (.bool neg2) := (HB0R.out.cell (p := ⟨b, off + (j * 7 + 1), none⟩) hSb).trans (HCELLS.out 1 (by omega))
        have d2 : wr.cell? ⟨b, off + j * 7 + 2, none⟩ = some (.slice A2 n2 c2) := (HB0R.out.cell (p := ⟨b, off + (j * 7 + 2), none⟩) hSb).trans (HCELLS.out 2 (by omega))
        have d3 : wr.cell? ⟨b, off + j * 7 + 3, none⟩ = some (.int .i64 e2) := (HB0R.out.cell (p := ⟨b, off + (j * 7 + 3), none⟩) hSb).trans (HCELLS.out 3 (by omega))
        have d4 : wr.cell? ⟨b, off + j * 7 + 4, none⟩ = some (.string t2) := (HB0R.out.cell (p := ⟨b, off + (j * 7 + 4), none⟩) hSb).trans (HCELLS.out 4 (by omega))
        have d5 : wr.cell? ⟨b, off + j * 7 + 5, none⟩ = some (.slice LA2 ln2 lc2) := (HB0R.out.cell (p := ⟨b, off + (j * 7 + 5), none⟩) hSb).trans (HCELLS.out 5 (by omega))
        have d6 : wr.cell? ⟨b, off + j * 7 + 6, none⟩ = some (.slice KA2 kn2 kc2) := (HB0R.out.cell (p := ⟨b, off + (j * 7 + 6), none⟩) hSb).trans (HCELLS.out 6 (by omega))
        have HC1 := oindex_c (c := c) (v := x) wr (HT.out.below HB0R.out) ((HL.out.stay HB0R.out fun b h => h).more fun b hb => Nat.lt_of_lt_of_le hb HB0R.out.size) ((HVX.out.keep fun p hp => HB0R.out.cell hp).more fun b hb => Nat.lt_of_lt_of_le hb HB0R.out.size) (first_behind HERR.out hex) hnb
        obtain ⟨Z, hZ⟩ : ∃ Z, countZ x l = Z := ⟨_, rfl⟩
        rw [hZ] at HC1
        have hZ2 : countZ x s = Z := by rw [countZ_perm HPERM.out]; exact hZ
        have HZ2 := Lib.hid hZ2
        clear hZ hZ2
        go_wp2_with fail
        refine HC1.mono ?_
        rintro e' w5 ⟨P1, co1, rfl, hb5⟩
        clear HC1 d0 d1 d2 d3 d4 d5 d6
        have HB05 := Lib.hid (HB0R.out.trans (hb5.mono HB0R.out.size))
        have HBR5 := Lib.hid (HBEL.out.trans (hb5.mono HBEL.out.size))
        clear hb5
        have d0 : w5.cell? ⟨b, off + j * 7, none⟩ = some (.int .i64 k2) := (HB05.out.cell (p := ⟨b, off + (j * 7 + 0), none⟩) hSb).trans (HCELLS.out 0 (by omega))
        have d1 : w5.cell? ⟨b, off + j * 7 + 1, none⟩ = some (.bool neg2) := (HB05.out.cell (p := ⟨b, off + (j * 7 + 1), none⟩) hSb).trans (HCELLS.out 1 (by omega))
        have d2 : w5.cell? ⟨b, off + j * 7 + 2, none⟩ = some (.slice A2 n2 c2) := (HB05.out.cell (p := ⟨b, off + (j * 7 + 2), none⟩) hSb).trans (HCELLS.out 2 (by omega))
        have d3 : w5.cell? ⟨b, off + j * 7 + 3, none⟩ = some (.int .i64 e2) := (HB05.out.cell (p := ⟨b, off + (j * 7 + 3), none⟩) hSb).trans (HCELLS.out 3 (by omega))
        have d4 : w5.cell? ⟨b, off + j * 7 + 4, none⟩ = some (.string t2) := (HB05.out.cell (p := ⟨b, off + (j * 7 + 4), none⟩) hSb).trans (HCELLS.out 4 (by omega))
        have d5 : w5.cell? ⟨b, off + j * 7 + 5, none⟩ = some (.slice LA2 ln2 lc2) := (HB05.out.cell (p := ⟨b, off + (j * 7 + 5), none⟩) hSb).trans (HCELLS.out 5 (by omega))
        have d6 : w5.cell? ⟨b, off + j * 7 + 6, none⟩ = some (.slice KA2 kn2 kc2) := (HB05.out.cell (p := ⟨b, off + (j * 7 + 6), none⟩) hSb).trans (HCELLS.out 6 (by omega))
        have HC2 := oindex_c (c := lc) (v := x) w5 (HT.out.below HB05.out) ((HR.out.stay HBR5.out fun b h => h).more fun b hb => Nat.lt_of_lt_of_le hb HBR5.out.size) ((HVX.out.keep fun p hp => HB05.out.cell hp).more fun b hb => Nat.lt_of_lt_of_le hb HB05.out.size) (first_behind HERR2.out hex) hnb
        rw [HZ2.out] at HC2
        go_wp2_with fail
        refine HC2.mono ?_
        rintro e' w6 ⟨P2, co2, rfl, hb6⟩
        clear HC2 d0 d1 d2 d3 d4 d5 d6
        have HB06 := Lib.hid (HB05.out.trans (hb6.mono HB05.out.size))
        have HBR6 := Lib.hid (HBR5.out.trans (hb6.mono HBR5.out.size))
        clear hb6 HX HCELLS
        by_cases hz : j = 0
        · subst hz
          go_upto_region 11 with fail
          refine wp_region_held_drew (S := fun _ => True) (by kernel_rfl) trivial (fun hHeld => ?_)
          (try simp only [List.size_toArray, List.length_cons, List.length_nil, Nat.reduceAdd, Array.replicate_succ, Array.replicate_zero, List.push_toArray, List.append_toArray, List.nil_append, List.cons_append])
          refine wpAnyH_take (i := 0) (oi := ⟨_, _, _, _, _, _⟩) (v := ?_) rfl (by kernel_rfl) (by kernel_rfl) (by kernel_rfl) (fun _ _ _ h => h) (Or.inl ⟨by rfl, ?_⟩) (by assumption) ?_
          rotate_left
          · intro w hSw
            (try dsimp only at hSw)
            go_split_ands
            go_simp
            try with_reducible rfl
          try simp only [Act.put, List.setIfInBounds_toArray, List.set_cons_zero, List.set_cons_succ]
          refine wpAnyH_take (i := 2) (oi := ⟨_, _, _, _, _, _⟩) (v := ?_) rfl (by kernel_rfl) (by kernel_rfl) (by kernel_rfl) (fun _ _ _ h => h) (Or.inl ⟨by rfl, ?_⟩) (by assumption) ?_
          rotate_left
          · intro w hSw
            (try dsimp only at hSw)
            go_split_ands
            go_simp
            try with_reducible rfl
          try simp only [Act.put, List.setIfInBounds_toArray, List.set_cons_zero, List.set_cons_succ]
          refine wpAnyH_ready (rs := [1]) (by kernel_rfl) (by simp) (AllReadyH.cons (o := ⟨_, _, _, _, _, _⟩) rfl (fun K hK => ?_) AllReadyH.nil)
          go_simp
          refine (lnum6_c _ _).mono ?_
          rintro e' w' ⟨rfl, rfl⟩
          (try dsimp only)
          refine hK.out _ _ (trivial) (fun hHeld2 => ?_)
          clear hK K hHeld
          try simp only [Act.put, List.setIfInBounds_toArray, List.set_cons_zero, List.set_cons_succ]
          refine wpAnyH_ready (rs := [3]) (by kernel_rfl) (by simp) (AllReadyH.cons (o := ⟨_, _, _, _, _, _⟩) rfl (fun K hK => ?_) AllReadyH.nil)
          go_simp
          refine (lnum6_c _ _).mono ?_
          rintro e' w' ⟨rfl, rfl⟩
          (try dsimp only)
          refine hK.out _ _ (trivial) (fun hHeld3 => ?_)
          clear hK K hHeld2
          try simp only [Act.put, List.setIfInBounds_toArray, List.set_cons_zero, List.set_cons_succ]
          refine wpAnyH_take (i := 4) (oi := ⟨_, _, _, _, _, _⟩) (v := ?_) rfl (by kernel_rfl) (by kernel_rfl) (by kernel_rfl) (fun _ _ _ h => h) (Or.inl ⟨by rfl, ?_⟩) (by assumption) ?_
          rotate_left
          · intro w hSw
            (try dsimp only at hSw)
            go_split_ands
            go_simp
            try with_reducible rfl
          try simp only [Act.put, List.setIfInBounds_toArray, List.set_cons_zero, List.set_cons_succ]
          refine wpAnyH_take (i := 5) (oi := ⟨_, _, _, _, _, _⟩) (v := ?_) rfl (by kernel_rfl) (by kernel_rfl) (by kernel_rfl) (fun _ _ _ h => h) (Or.inl ⟨by rfl, ?_⟩) (by assumption) ?_
          rotate_left
          · intro w hSw
            (try dsimp only at hSw)
            go_split_ands
            go_simp
            try with_reducible rfl
          try simp only [Act.put, List.setIfInBounds_toArray, List.set_cons_zero, List.set_cons_succ]
          refine wpAnyH_take (i := 6) (oi := ⟨_, _, _, _, _, _⟩) (v := ?_) rfl (by kernel_rfl) (by kernel_rfl) (by kernel_rfl) (fun _ _ _ h => h) (Or.inl ⟨by rfl, ?_⟩) (by assumption) ?_
          rotate_left
          · intro w hSw
            (try dsimp only at hSw)
            go_split_ands
            go_simp
            try with_reducible rfl
          try simp only [Act.put, List.setIfInBounds_toArray, List.set_cons_zero, List.set_cons_succ]
          refine wpAnyH_take (i := 7) (oi := ⟨_, _, _, _, _, _⟩) (v := ?_) rfl (by kernel_rfl) (by kernel_rfl) (by kernel_rfl) (fun _ _ _ h => h) (Or.inl ⟨by rfl, ?_⟩) (by assumption) ?_
          rotate_left
          · intro w hSw
            (try dsimp only at hSw)
            go_split_ands
            go_simp
            try with_reducible rfl
          try simp only [Act.put, List.setIfInBounds_toArray, List.set_cons_zero, List.set_cons_succ]
          refine wpAnyH_take (i := 8) (oi := ⟨_, _, _, _, _, _⟩) (v := ?_) rfl (by kernel_rfl) (by kernel_rfl) (by kernel_rfl) (fun _ _ _ h => h) (Or.inl ⟨by rfl, ?_⟩) (by assumption) ?_
          rotate_left
          · intro w hSw
            (try dsimp only at hSw)
            go_split_ands
            go_simp
            try with_reducible rfl
          try simp only [Act.put, List.setIfInBounds_toArray, List.set_cons_zero, List.set_cons_succ]
          refine wpAnyH_take (i := 9) (oi := ⟨_, _, _, _, _, _⟩) (v := ?_) rfl (by kernel_rfl) (by kernel_rfl) (by kernel_rfl) (fun _ _ _ h => h) (Or.inl ⟨by rfl, ?_⟩) (by assumption) ?_
          rotate_left
          · intro w hSw
            (try dsimp only at hSw)
            go_split_ands
            go_simp
            try with_reducible rfl
          try simp only [Act.put, List.setIfInBounds_toArray, List.set_cons_zero, List.set_cons_succ]
          refine wpAnyH_take (i := 10) (oi := ⟨_, _, _, _, _, _⟩) (v := ?_) rfl (by kernel_rfl) (by kernel_rfl) (by kernel_rfl) (fun _ _ _ h => h) (Or.inl ⟨by rfl, ?_⟩) (by assumption) ?_
          rotate_left
          · intro w hSw
            (try dsimp only at hSw)
            go_split_ands
            go_simp
            try with_reducible rfl
          try simp only [Act.put, List.setIfInBounds_toArray, List.set_cons_zero, List.set_cons_succ]
          refine wpAnyH_take (i := 11) (oi := ⟨_, _, _, _, _, _⟩) (v := ?_) rfl (by kernel_rfl) (by kernel_rfl) (by kernel_rfl) (fun _ _ _ h => h) (Or.inl ⟨by rfl, ?_⟩) (by assumption) ?_
          rotate_left
          · intro w hSw
            (try dsimp only at hSw)
            go_split_ands
            go_simp
            try with_reducible rfl
          try simp only [Act.put, List.setIfInBounds_toArray, List.set_cons_zero, List.set_cons_succ]
          refine wpAnyH_take (i := 12) (oi := ⟨_, _, _, _, _, _⟩) (v := ?_) rfl (by kernel_rfl) (by kernel_rfl) (by kernel_rfl) (fun _ _ _ h => h) (Or.inl ⟨by rfl, ?_⟩) (by assumption) ?_
          rotate_left
          · intro w hSw
            (try dsimp only at hSw)
            go_split_ands
            go_simp
            try with_reducible rfl
          try simp only [Act.put, List.setIfInBounds_toArray, List.set_cons_zero, List.set_cons_succ]
          refine wpAnyH_take (i := 13) (oi := ⟨_, _, _, _, _, _⟩) (v := ?_) rfl (by kernel_rfl) (by kernel_rfl) (by kernel_rfl) (fun _ _ _ h => h) (Or.inl ⟨by rfl, ?_⟩) (by assumption) ?_
          rotate_left
          · intro w hSw
            (try dsimp only at hSw)
            go_split_ands
            go_simp
            try with_reducible rfl
          try simp only [Act.put, List.setIfInBounds_toArray, List.set_cons_zero, List.set_cons_succ]
          refine wpAnyH_take (i := 14) (oi := ⟨_, _, _, _, _, _⟩) (v := ?_) rfl (by kernel_rfl) (by kernel_rfl) (by kernel_rfl) (fun _ _ _ h => h) (Or.inl ⟨by rfl, ?_⟩) (by assumption) ?_
          rotate_left
          · intro w hSw
            (try dsimp only at hSw)
            go_split_ands
            go_simp
            try with_reducible rfl
          try simp only [Act.put, List.setIfInBounds_toArray, List.set_cons_zero, List.set_cons_succ]
          refine wpAnyH_take (i := 15) (oi := ⟨_, _, _, _, _, _⟩) (v := ?_) rfl (by kernel_rfl) (by kernel_rfl) (by kernel_rfl) (fun _ _ _ h => h) (Or.inl ⟨by rfl, ?_⟩) (by assumption) ?_
          rotate_left
          · intro w hSw
            (try dsimp only at hSw)
            go_split_ands
            go_simp
            try with_reducible rfl
          try simp only [Act.put, List.setIfInBounds_toArray, List.set_cons_zero, List.set_cons_succ]
          refine wpAnyH_take (i := 16) (oi := ⟨_, _, _, _, _, _⟩) (v := ?_) rfl (by kernel_rfl) (by kernel_rfl) (by kernel_rfl) (fun _ _ _ h => h) (Or.inl ⟨by rfl, ?_⟩) (by assumption) ?_
          rotate_left
          · intro w hSw
            (try dsimp only at hSw)
            go_split_ands
            go_simp
            try with_reducible rfl
          try simp only [Act.put, List.setIfInBounds_toArray, List.set_cons_zero, List.set_cons_succ]
          refine wpAnyH_take (i := 17) (oi := ⟨_, _, _, _, _, _⟩) (v := undef) rfl (by kernel_rfl) (by kernel_rfl) (by kernel_rfl) (fun _ _ _ h => h) (Or.inr ⟨by rfl, rfl⟩) (by assumption) ?_
          try simp only [Act.put, List.setIfInBounds_toArray, List.set_cons_zero, List.set_cons_succ]
          refine wpAnyH_take (i := 18) (oi := ⟨_, _, _, _, _, _⟩) (v := undef) rfl (by kernel_rfl) (by kernel_rfl) (by kernel_rfl) (fun _ _ _ h => h) (Or.inr ⟨by rfl, rfl⟩) (by assumption) ?_
          try simp only [Act.put, List.setIfInBounds_toArray, List.set_cons_zero, List.set_cons_succ]
          refine wpAnyH_take (i := 19) (oi := ⟨_, _, _, _, _, _⟩) (v := undef) rfl (by kernel_rfl) (by kernel_rfl) (by kernel_rfl) (fun _ _ _ h => h) (Or.inr ⟨by rfl, rfl⟩) (by assumption) ?_
          try simp only [Act.put, List.setIfInBounds_toArray, List.set_cons_zero, List.set_cons_succ]
          refine wpAnyH_take (i := 20) (oi := ⟨_, _, _, _, _, _⟩) (v := undef) rfl (by kernel_rfl) (by kernel_rfl) (by kernel_rfl) (fun _ _ _ h => h) (Or.inr ⟨by rfl, rfl⟩) (by assumption) ?_
          try simp only [Act.put, List.setIfInBounds_toArray, List.set_cons_zero, List.set_cons_succ]
          refine wpAnyH_take (i := 21) (oi := ⟨_, _, _, _, _, _⟩) (v := undef) rfl (by kernel_rfl) (by kernel_rfl) (by kernel_rfl) (fun _ _ _ h => h) (Or.inr ⟨by rfl, rfl⟩) (by assumption) ?_
          try simp only [Act.put, List.setIfInBounds_toArray, List.set_cons_zero, List.set_cons_succ]
          refine wpAnyH_take (i := 22) (oi := ⟨_, _, _, _, _, _⟩) (v := undef) rfl (by kernel_rfl) (by kernel_rfl) (by kernel_rfl) (fun _ _ _ h => h) (Or.inr ⟨by rfl, rfl⟩) (by assumption) ?_
          try simp only [Act.put, List.setIfInBounds_toArray, List.set_cons_zero, List.set_cons_succ]
          refine wpAnyH_take (i := 23) (oi := ⟨_, _, _, _, _, _⟩) (v := undef) rfl (by kernel_rfl) (by kernel_rfl) (by kernel_rfl) (fun _ _ _ h => h) (Or.inr ⟨by rfl, rfl⟩) (by assumption) ?_
          try simp only [Act.put, List.setIfInBounds_toArray, List.set_cons_zero, List.set_cons_succ]
          refine wpAnyH_take (i := 24) (oi := ⟨_, _, _, _, _, _⟩) (v := undef) rfl (by kernel_rfl) (by kernel_rfl) (by kernel_rfl) (fun _ _ _ h => h) (Or.inr ⟨by rfl, rfl⟩) (by assumption) ?_
          try simp only [Act.put, List.setIfInBounds_toArray, List.set_cons_zero, List.set_cons_succ]
          refine wpAnyH_take (i := 25) (oi := ⟨_, _, _, _, _, _⟩) (v := undef) rfl (by kernel_rfl) (by kernel_rfl) (by kernel_rfl) (fun _ _ _ h => h) (Or.inr ⟨by rfl, rfl⟩) (by assumption) ?_
          try simp only [Act.put, List.setIfInBounds_toArray, List.set_cons_zero, List.set_cons_succ]
          refine wpAnyH_take (i := 26) (oi := ⟨_, _, _, _, _, _⟩) (v := undef) rfl (by kernel_rfl) (by kernel_rfl) (by kernel_rfl) (fun _ _ _ h => h) (Or.inr ⟨by rfl, rfl⟩) (by assumption) ?_
          try simp only [Act.put, List.setIfInBounds_toArray, List.set_cons_zero, List.set_cons_succ]
          refine wpAnyH_take (i := 27) (oi := ⟨_, _, _, _, _, _⟩) (v := undef) rfl (by kernel_rfl) (by kernel_rfl) (by kernel_rfl) (fun _ _ _ h => h) (Or.inr ⟨by rfl, rfl⟩) (by assumption) ?_
          try simp only [Act.put, List.setIfInBounds_toArray, List.set_cons_zero, List.set_cons_succ]
          refine wpAnyH_take (i := 28) (oi := ⟨_, _, _, _, _, _⟩) (v := ?_) rfl (by kernel_rfl) (by kernel_rfl) (by kernel_rfl) (fun _ _ _ h => h) (Or.inl ⟨by rfl, ?_⟩) (by assumption) ?_
          rotate_left
          · intro w hSw
            (try dsimp only at hSw)
            go_split_ands
            go_simp
            try with_reducible rfl
          try simp only [Act.put, List.setIfInBounds_toArray, List.set_cons_zero, List.set_cons_succ]
          refine wpAnyH_take (i := 29) (oi := ⟨_, _, _, _, _, _⟩) (v := ?_) rfl (by kernel_rfl) (by kernel_rfl) (by kernel_rfl) (fun _ _ _ h => h) (Or.inl ⟨by rfl, ?_⟩) (by assumption) ?_
          rotate_left
          · intro w hSw
            (try dsimp only at hSw)
            go_split_ands
            go_simp
            try with_reducible rfl
          try simp only [Act.put, List.setIfInBounds_toArray, List.set_cons_zero, List.set_cons_succ]
          refine wpAnyH_done (by kernel_rfl) ?_ _
          go_wp2_with fail
          go_roundw
          case rel => exact ⟨0 + 1, by omega, by go_num, HBR6.out.drew⟩
          case measure => simp [RowKit.intOf]; omega
        · obtain ⟨i, hi⟩ : ∃ i, j = i + 1 := ⟨j - 1, by omega⟩
          subst hi
          clear hz
          have hin : i < n := by omega
          have hjp : (0 : Int) < ((i + 1 : Nat) : Int) := by omega
          have hiw : IntKind.i64.wrap (((i + 1 : Nat) : Int) - 1) = (i : Int) := by
            rw [show ((i + 1 : Nat) : Int) - 1 = (i : Int) by omega]; exact IntWalk.i64_in _ (by omega)
          have hi0 : (0 : Int) ≤ (i : Int) := by omega
          have hiw2 : IntKind.i64.wrap (i : Int) = (i : Int) := IntWalk.i64_in _ (by omega)
          have hj3 : (0 : Int) ≤ (i : Int) + 1 := by omega
          have hj4 : (i : Int) + 1 < (n : Int) := by omega
          have hj5 : ((i : Int) + 1).toNat = i + 1 := by omega
          have hj6 : (0 : Int) < (i : Int) + 1 := by omega
          have hilt : (i : Int) < (n : Int) := by omega
          have hit : ((i : Int)).toNat = i := by omega
          obtain ⟨g, go, y, cs3, rfl, hSg, hy, h73, hc3, hv3⟩ := HR.out.at_ hin
          obtain ⟨g', go', z, cs4, hA2, -, hz, h74, hc4, hv4⟩ := HR.out.at_ hjn
          injection hA2 with hA2
          injection hA2 with hA3 hA4
          subst hA3
          subst hA4
          obtain ⟨k3, neg3, A3, n3, c3, e3, t3, LA3, ln3, lc3, KA3, kn3, kc3, rfl⟩ := hv3.seven
          obtain ⟨k4, neg4, A4, n4, c4, e4, t4, LA4, ln4, lc4, KA4, kn4, kc4, rfl⟩ := hv4.seven
          have hyz := HLE.out i (i + 1) y z (by omega) hy hz
          have hfy := fine_ok hv3 (HERR2.out y (List.mem_of_getElem? hy))
          have hfz := fine_ok hv4 (HERR2.out z (List.mem_of_getElem? hz))
          have hSS : ∀ W, Below w6.heap.size w6 W → W.cell? ⟨g, go + i * 7, none⟩ = some (.int .i64 k3) ∧ W.cell? ⟨g, go + i * 7 + 1, none⟩ = some (.bool neg3) ∧ W.cell? ⟨g, go + i * 7 + 2, none⟩ = some (.slice A3 n3 c3) ∧ W.cell? ⟨g, go + i * 7 + 3, none⟩ = some (.int .i64 e3) ∧ W.cell? ⟨g, go + i * 7 + 4, none⟩ = some (.string t3) ∧ W.cell? ⟨g, go + i * 7 + 5, none⟩ = some (.slice LA3 ln3 lc3) ∧ W.cell? ⟨g, go + i * 7 + 6, none⟩ = some (.slice KA3 kn3 kc3) ∧ W.cell? ⟨g, go + (i + 1) * 7, none⟩ = some (.int .i64 k4) ∧ W.cell? ⟨g, go + (i + 1) * 7 + 1, none⟩ = some (.bool neg4) ∧ W.cell? ⟨g, go + (i + 1) * 7 + 2, none⟩ = some (.slice A4 n4 c4) ∧ W.cell? ⟨g, go + (i + 1) * 7 + 3, none⟩ = some (.int .i64 e4) ∧ W.cell? ⟨g, go + (i + 1) * 7 + 4, none⟩ = some (.string t4) ∧ W.cell? ⟨g, go + (i + 1) * 7 + 5, none⟩ = some (.slice LA4 ln4 lc4) ∧ W.cell? ⟨g, go + (i + 1) * 7 + 6, none⟩ = some (.slice KA4 kn4 kc4) := fun W hW => by
            have hww := HBR6.out.trans (hW.mono HBR6.out.size)
            exact ⟨(hww.cell (p := ⟨g, go + (i * 7 + 0), none⟩) hSg).trans (hc3 0 (by omega)), (hww.cell (p := ⟨g, go + (i * 7 + 1), none⟩) hSg).trans (hc3 1 (by omega)), (hww.cell (p := ⟨g, go + (i * 7 + 2), none⟩) hSg).trans (hc3 2 (by omega)), (hww.cell (p := ⟨g, go + (i * 7 + 3), none⟩) hSg).trans (hc3 3 (by omega)), (hww.cell (p := ⟨g, go + (i * 7 + 4), none⟩) hSg).trans (hc3 4 (by omega)), (hww.cell (p := ⟨g, go + (i * 7 + 5), none⟩) hSg).trans (hc3 5 (by omega)), (hww.cell (p := ⟨g, go + (i * 7 + 6), none⟩) hSg).trans (hc3 6 (by omega)), (hww.cell (p := ⟨g, go + ((i + 1) * 7 + 0), none⟩) hSg).trans (hc4 0 (by omega)), (hww.cell (p := ⟨g, go + ((i + 1) * 7 + 1), none⟩) hSg).trans (hc4 1 (by omega)), (hww.cell (p := ⟨g, go + ((i + 1) * 7 + 2), none⟩) hSg).trans (hc4 2 (by omega)), (hww.cell (p := ⟨g, go + ((i + 1) * 7 + 3), none⟩) hSg).trans (hc4 3 (by omega)), (hww.cell (p := ⟨g, go + ((i + 1) * 7 + 4), none⟩) hSg).trans (hc4 4 (by omega)), (hww.cell (p := ⟨g, go + ((i + 1) * 7 + 5), none⟩) hSg).trans (hc4 5 (by omega)), (hww.cell (p := ⟨g, go + ((i + 1) * 7 + 6), none⟩) hSg).trans (hc4 6 (by omega))⟩
          have HSS := Lib.hid hSS
          have HYZ := Lib.hid hyz
          have HV3 := Lib.hid hv3
          have HV4 := Lib.hid hv4
          have HFY := Lib.hid hfy
          have HFZ := Lib.hid hfz
          clear hSS hyz hv3 hv4 hfy hfz hc3 hc4 hy hz h73 h74
          go_upto_region 11 with fail
          refine wp_region_held_drew (S := fun w' => w'.cell? ⟨g, go + i * 7, none⟩ = some (.int .i64 k3) ∧ w'.cell? ⟨g, go + i * 7 + 1, none⟩ = some (.bool neg3) ∧ w'.cell? ⟨g, go + i * 7 + 2, none⟩ = some (.slice A3 n3 c3) ∧ w'.cell? ⟨g, go + i * 7 + 3, none⟩ = some (.int .i64 e3) ∧ w'.cell? ⟨g, go + i * 7 + 4, none⟩ = some (.string t3) ∧ w'.cell? ⟨g, go + i * 7 + 5, none⟩ = some (.slice LA3 ln3 lc3) ∧ w'.cell? ⟨g, go + i * 7 + 6, none⟩ = some (.slice KA3 kn3 kc3) ∧ w'.cell? ⟨g, go + (i + 1) * 7, none⟩ = some (.int .i64 k4) ∧ w'.cell? ⟨g, go + (i + 1) * 7 + 1, none⟩ = some (.bool neg4) ∧ w'.cell? ⟨g, go + (i + 1) * 7 + 2, none⟩ = some (.slice A4 n4 c4) ∧ w'.cell? ⟨g, go + (i + 1) * 7 + 3, none⟩ = some (.int .i64 e4) ∧ w'.cell? ⟨g, go + (i + 1) * 7 + 4, none⟩ = some (.string t4) ∧ w'.cell? ⟨g, go + (i + 1) * 7 + 5, none⟩ = some (.slice LA4 ln4 lc4) ∧ w'.cell? ⟨g, go + (i + 1) * 7 + 6, none⟩ = some (.slice KA4 kn4 kc4)) (by kernel_rfl) (HSS.out _ (Below.refl _ _).drew) (fun hHeld => ?_)
          (try simp only [List.size_toArray, List.length_cons, List.length_nil, Nat.reduceAdd, Array.replicate_succ, Array.replicate_zero, List.push_toArray, List.append_toArray, List.nil_append, List.cons_append])
          refine wpAnyH_take (i := 0) (oi := ⟨_, _, _, _, _, _⟩) (v := ?_) rfl (by kernel_rfl) (by kernel_rfl) (by kernel_rfl) (fun _ _ _ h => h) (Or.inl ⟨by rfl, ?_⟩) (by assumption) ?_
          rotate_left
          · intro w hSw
            (try dsimp only at hSw)
            go_split_ands
            go_simp
            try with_reducible rfl
          try simp only [Act.put, List.setIfInBounds_toArray, List.set_cons_zero, List.set_cons_succ]
          refine wpAnyH_take (i := 2) (oi := ⟨_, _, _, _, _, _⟩) (v := ?_) rfl (by kernel_rfl) (by kernel_rfl) (by kernel_rfl) (fun _ _ _ h => h) (Or.inl ⟨by rfl, ?_⟩) (by assumption) ?_
          rotate_left
          · intro w hSw
            (try dsimp only at hSw)
            go_split_ands
            go_simp
            try with_reducible rfl
          try simp only [Act.put, List.setIfInBounds_toArray, List.set_cons_zero, List.set_cons_succ]
          refine wpAnyH_ready (rs := [1]) (by kernel_rfl) (by simp) (AllReadyH.cons (o := ⟨_, _, _, _, _, _⟩) rfl (fun K hK => ?_) AllReadyH.nil)
          go_simp
          refine (lnum6_c _ _).mono ?_
          rintro e' w' ⟨rfl, rfl⟩
          (try dsimp only)
          refine hK.out _ _ (HSS.out _ (Below.refl _ _).drew) (fun hHeld2 => ?_)
          clear hK K hHeld
          try simp only [Act.put, List.setIfInBounds_toArray, List.set_cons_zero, List.set_cons_succ]
          refine wpAnyH_ready (rs := [3]) (by kernel_rfl) (by simp) (AllReadyH.cons (o := ⟨_, _, _, _, _, _⟩) rfl (fun K hK => ?_) AllReadyH.nil)
          go_simp
          refine (lnum6_c _ _).mono ?_
          rintro e' w' ⟨rfl, rfl⟩
          (try dsimp only)
          refine hK.out _ _ (HSS.out _ (Below.refl _ _).drew) (fun hHeld3 => ?_)
          clear hK K hHeld2
          try simp only [Act.put, List.setIfInBounds_toArray, List.set_cons_zero, List.set_cons_succ]
          refine wpAnyH_take (i := 4) (oi := ⟨_, _, _, _, _, _⟩) (v := ?_) rfl (by kernel_rfl) (by kernel_rfl) (by kernel_rfl) (fun _ _ _ h => h) (Or.inl ⟨by rfl, ?_⟩) (by assumption) ?_
          rotate_left
          · intro w hSw
            (try dsimp only at hSw)
            go_split_ands
            go_simp
            try with_reducible rfl
          try simp only [Act.put, List.setIfInBounds_toArray, List.set_cons_zero, List.set_cons_succ]
          refine wpAnyH_take (i := 5) (oi := ⟨_, _, _, _, _, _⟩) (v := ?_) rfl (by kernel_rfl) (by kernel_rfl) (by kernel_rfl) (fun _ _ _ h => h) (Or.inl ⟨by rfl, ?_⟩) (by assumption) ?_
          rotate_left
          · intro w hSw
            (try dsimp only at hSw)
            go_split_ands
            go_simp
            try with_reducible rfl
          try simp only [Act.put, List.setIfInBounds_toArray, List.set_cons_zero, List.set_cons_succ]
          refine wpAnyH_take (i := 6) (oi := ⟨_, _, _, _, _, _⟩) (v := ?_) rfl (by kernel_rfl) (by kernel_rfl) (by kernel_rfl) (fun _ _ _ h => h) (Or.inl ⟨by rfl, ?_⟩) (by assumption) ?_
          rotate_left
          · intro w hSw
            (try dsimp only at hSw)
            go_split_ands
            go_simp
            try with_reducible rfl
          try simp only [Act.put, List.setIfInBounds_toArray, List.set_cons_zero, List.set_cons_succ]
          refine wpAnyH_take (i := 7) (oi := ⟨_, _, _, _, _, _⟩) (v := ?_) rfl (by kernel_rfl) (by kernel_rfl) (by kernel_rfl) (fun _ _ _ h => h) (Or.inl ⟨by rfl, ?_⟩) (by assumption) ?_
          rotate_left
          · intro w hSw
            (try dsimp only at hSw)
            go_split_ands
            go_simp
            try with_reducible rfl
          try simp only [Act.put, List.setIfInBounds_toArray, List.set_cons_zero, List.set_cons_succ]
          refine wpAnyH_take (i := 8) (oi := ⟨_, _, _, _, _, _⟩) (v := ?_) rfl (by kernel_rfl) (by kernel_rfl) (by kernel_rfl) (fun _ _ _ h => h) (Or.inl ⟨by rfl, ?_⟩) (by assumption) ?_
          rotate_left
          · intro w hSw
            (try dsimp only at hSw)
            go_split_ands
            go_simp
            try with_reducible rfl
          try simp only [Act.put, List.setIfInBounds_toArray, List.set_cons_zero, List.set_cons_succ]
          refine wpAnyH_take (i := 9) (oi := ⟨_, _, _, _, _, _⟩) (v := ?_) rfl (by kernel_rfl) (by kernel_rfl) (by kernel_rfl) (fun _ _ _ h => h) (Or.inl ⟨by rfl, ?_⟩) (by assumption) ?_
          rotate_left
          · intro w hSw
            (try dsimp only at hSw)
            go_split_ands
            go_simp
            try with_reducible rfl
          try simp only [Act.put, List.setIfInBounds_toArray, List.set_cons_zero, List.set_cons_succ]
          refine wpAnyH_take (i := 10) (oi := ⟨_, _, _, _, _, _⟩) (v := ?_) rfl (by kernel_rfl) (by kernel_rfl) (by kernel_rfl) (fun _ _ _ h => h) (Or.inl ⟨by rfl, ?_⟩) (by assumption) ?_
          rotate_left
          · intro w hSw
            (try dsimp only at hSw)
            go_split_ands
            go_simp
            try with_reducible rfl
          try simp only [Act.put, List.setIfInBounds_toArray, List.set_cons_zero, List.set_cons_succ]
          refine wpAnyH_take (i := 11) (oi := ⟨_, _, _, _, _, _⟩) (v := ?_) rfl (by kernel_rfl) (by kernel_rfl) (by kernel_rfl) (fun _ _ _ h => h) (Or.inl ⟨by rfl, ?_⟩) (by assumption) ?_
          rotate_left
          · intro w hSw
            (try dsimp only at hSw)
            go_split_ands
            go_simp
            try with_reducible rfl
          try simp only [Act.put, List.setIfInBounds_toArray, List.set_cons_zero, List.set_cons_succ]
          refine wpAnyH_take (i := 12) (oi := ⟨_, _, _, _, _, _⟩) (v := ?_) rfl (by kernel_rfl) (by kernel_rfl) (by kernel_rfl) (fun _ _ _ h => h) (Or.inl ⟨by rfl, ?_⟩) (by assumption) ?_
          rotate_left
          · intro w hSw
            (try dsimp only at hSw)
            go_split_ands
            go_simp
            try with_reducible rfl
          try simp only [Act.put, List.setIfInBounds_toArray, List.set_cons_zero, List.set_cons_succ]
          refine wpAnyH_take (i := 13) (oi := ⟨_, _, _, _, _, _⟩) (v := ?_) rfl (by kernel_rfl) (by kernel_rfl) (by kernel_rfl) (fun _ _ _ h => h) (Or.inl ⟨by rfl, ?_⟩) (by assumption) ?_
          rotate_left
          · intro w hSw
            (try dsimp only at hSw)
            go_split_ands
            go_simp
            try with_reducible rfl
          try simp only [Act.put, List.setIfInBounds_toArray, List.set_cons_zero, List.set_cons_succ]
          refine wpAnyH_take (i := 14) (oi := ⟨_, _, _, _, _, _⟩) (v := ?_) rfl (by kernel_rfl) (by kernel_rfl) (by kernel_rfl) (fun _ _ _ h => h) (Or.inl ⟨by rfl, ?_⟩) (by assumption) ?_
          rotate_left
          · intro w hSw
            (try dsimp only at hSw)
            go_split_ands
            go_simp
            try with_reducible rfl
          try simp only [Act.put, List.setIfInBounds_toArray, List.set_cons_zero, List.set_cons_succ]
          refine wpAnyH_take (i := 15) (oi := ⟨_, _, _, _, _, _⟩) (v := ?_) rfl (by kernel_rfl) (by kernel_rfl) (by kernel_rfl) (fun _ _ _ h => h) (Or.inl ⟨by rfl, ?_⟩) (by assumption) ?_
          rotate_left
          · intro w hSw
            (try dsimp only at hSw)
            go_split_ands
            go_simp
            try with_reducible rfl
          try simp only [Act.put, List.setIfInBounds_toArray, List.set_cons_zero, List.set_cons_succ]
          refine wpAnyH_take (i := 16) (oi := ⟨_, _, _, _, _, _⟩) (v := ?_) rfl (by kernel_rfl) (by kernel_rfl) (by kernel_rfl) (fun _ _ _ h => h) (Or.inl ⟨by rfl, ?_⟩) (by assumption) ?_
          rotate_left
          · intro w hSw
            (try dsimp only at hSw)
            go_split_ands
            go_simp
            try with_reducible rfl
          try simp only [Act.put, List.setIfInBounds_toArray, List.set_cons_zero, List.set_cons_succ]
          refine wpAnyH_take (i := 17) (oi := ⟨_, _, _, _, _, _⟩) (v := ?_) rfl (by kernel_rfl) (by kernel_rfl) (by kernel_rfl) (fun _ _ _ h => h) (Or.inl ⟨by rfl, ?_⟩) (by assumption) ?_
          rotate_left
          · intro w hSw
            (try dsimp only at hSw)
            go_split_ands
            go_simp
            try with_reducible rfl
          try simp only [Act.put, List.setIfInBounds_toArray, List.set_cons_zero, List.set_cons_succ]
          refine wpAnyH_take (i := 18) (oi := ⟨_, _, _, _, _, _⟩) (v := ?_) rfl (by kernel_rfl) (by kernel_rfl) (by kernel_rfl) (fun _ _ _ h => h) (Or.inl ⟨by rfl, ?_⟩) (by assumption) ?_
          rotate_left
          · intro w hSw
            (try dsimp only at hSw)
            go_split_ands
            go_simp
            try with_reducible rfl
          try simp only [Act.put, List.setIfInBounds_toArray, List.set_cons_zero, List.set_cons_succ]
          refine wpAnyH_take (i := 19) (oi := ⟨_, _, _, _, _, _⟩) (v := ?_) rfl (by kernel_rfl) (by kernel_rfl) (by kernel_rfl) (fun _ _ _ h => h) (Or.inl ⟨by rfl, ?_⟩) (by assumption) ?_
          rotate_left
          · intro w hSw
            (try dsimp only at hSw)
            go_split_ands
            go_simp
            try with_reducible rfl
          try simp only [Act.put, List.setIfInBounds_toArray, List.set_cons_zero, List.set_cons_succ]
          refine wpAnyH_take (i := 20) (oi := ⟨_, _, _, _, _, _⟩) (v := ?_) rfl (by kernel_rfl) (by kernel_rfl) (by kernel_rfl) (fun _ _ _ h => h) (Or.inl ⟨by rfl, ?_⟩) (by assumption) ?_
          rotate_left
          · intro w hSw
            (try dsimp only at hSw)
            go_split_ands
            go_simp
            try with_reducible rfl
          try simp only [Act.put, List.setIfInBounds_toArray, List.set_cons_zero, List.set_cons_succ]
          refine wpAnyH_take (i := 21) (oi := ⟨_, _, _, _, _, _⟩) (v := ?_) rfl (by kernel_rfl) (by kernel_rfl) (by kernel_rfl) (fun _ _ _ h => h) (Or.inl ⟨by rfl, ?_⟩) (by assumption) ?_
          rotate_left
          · intro w hSw
            (try dsimp only at hSw)
            go_split_ands
            go_simp
            try with_reducible rfl
          try simp only [Act.put, List.setIfInBounds_toArray, List.set_cons_zero, List.set_cons_succ]
          refine wpAnyH_take (i := 22) (oi := ⟨_, _, _, _, _, _⟩) (v := ?_) rfl (by kernel_rfl) (by kernel_rfl) (by kernel_rfl) (fun _ _ _ h => h) (Or.inl ⟨by rfl, ?_⟩) (by assumption) ?_
          rotate_left
          · intro w hSw
            (try dsimp only at hSw)
            go_split_ands
            go_simp
            try with_reducible rfl
          try simp only [Act.put, List.setIfInBounds_toArray, List.set_cons_zero, List.set_cons_succ]
          refine wpAnyH_take (i := 23) (oi := ⟨_, _, _, _, _, _⟩) (v := ?_) rfl (by kernel_rfl) (by kernel_rfl) (by kernel_rfl) (fun _ _ _ h => h) (Or.inl ⟨by rfl, ?_⟩) (by assumption) ?_
          rotate_left
          · intro w hSw
            (try dsimp only at hSw)
            go_split_ands
            go_simp
            try with_reducible rfl
          try simp only [Act.put, List.setIfInBounds_toArray, List.set_cons_zero, List.set_cons_succ]
          refine wpAnyH_take (i := 24) (oi := ⟨_, _, _, _, _, _⟩) (v := ?_) rfl (by kernel_rfl) (by kernel_rfl) (by kernel_rfl) (fun _ _ _ h => h) (Or.inl ⟨by rfl, ?_⟩) (by assumption) ?_
          rotate_left
          · intro w hSw
            (try dsimp only at hSw)
            go_split_ands
            go_simp
            try with_reducible rfl
          try simp only [Act.put, List.setIfInBounds_toArray, List.set_cons_zero, List.set_cons_succ]
          refine wpAnyH_take (i := 25) (oi := ⟨_, _, _, _, _, _⟩) (v := ?_) rfl (by kernel_rfl) (by kernel_rfl) (by kernel_rfl) (fun _ _ _ h => h) (Or.inl ⟨by rfl, ?_⟩) (by assumption) ?_
          rotate_left
          · intro w hSw
            (try dsimp only at hSw)
            go_split_ands
            go_simp
            try with_reducible rfl
          try simp only [Act.put, List.setIfInBounds_toArray, List.set_cons_zero, List.set_cons_succ]
          refine wpAnyH_ready (rs := [26]) (by kernel_rfl) (by simp) (AllReadyH.cons (o := ⟨_, _, _, _, _, _⟩) rfl (fun K hK => ?_) AllReadyH.nil)
          go_simp
          have HO := rorder_c y z (fun b => b < w2.heap.size) _ _ w6.drew HFY.out HFZ.out (HV3.out.keep fun p hp => HBR6.out.drew.cell hp) (HV4.out.keep fun p hp => HBR6.out.drew.cell hp) (fun b hb => Nat.lt_of_lt_of_le hb HBR6.out.drew.size)
          obtain ⟨Q, hQ⟩ : ∃ Q, ordV y z = Q := ⟨_, rfl⟩
          rw [hQ] at HO
          have hq0 : ¬ (0 : Int) < Q := by have := HYZ.out; omega
          refine HO.mono ?_
          rintro e' w7 ⟨rfl, hb7⟩
          have hb7' : Below w6.heap.size w6 w7 := (Below.refl _ w6).drew.trans (hb7.mono (by simp))
          (try dsimp only)
          refine hK.out _ _ (HSS.out _ hb7') (fun hHeld4 => ?_)
          clear hK K hHeld3 HO hQ
          try simp only [Act.put, List.setIfInBounds_toArray, List.set_cons_zero, List.set_cons_succ]
          refine wpAnyH_take (i := 27) (oi := ⟨_, _, _, _, _, _⟩) (v := ?_) rfl (by kernel_rfl) (by kernel_rfl) (by kernel_rfl) (fun _ _ _ h => h) (Or.inl ⟨by rfl, ?_⟩) (by assumption) ?_
          rotate_left
          · intro w hSw
            (try dsimp only at hSw)
            go_split_ands
            go_simp
            try with_reducible rfl
          try simp only [Act.put, List.setIfInBounds_toArray, List.set_cons_zero, List.set_cons_succ]
          refine wpAnyH_take (i := 28) (oi := ⟨_, _, _, _, _, _⟩) (v := ?_) rfl (by kernel_rfl) (by kernel_rfl) (by kernel_rfl) (fun _ _ _ h => h) (Or.inl ⟨by rfl, ?_⟩) (by assumption) ?_
          rotate_left
          · intro w hSw
            (try dsimp only at hSw)
            go_split_ands
            go_simp
            try with_reducible rfl
          try simp only [Act.put, List.setIfInBounds_toArray, List.set_cons_zero, List.set_cons_succ]
          refine wpAnyH_take (i := 29) (oi := ⟨_, _, _, _, _, _⟩) (v := ?_) rfl (by kernel_rfl) (by kernel_rfl) (by kernel_rfl) (fun _ _ _ h => h) (Or.inl ⟨by rfl, ?_⟩) (by assumption) ?_
          rotate_left
          · intro w hSw
            (try dsimp only at hSw)
            go_split_ands
            go_simp
            try with_reducible rfl
          try simp only [Act.put, List.setIfInBounds_toArray, List.set_cons_zero, List.set_cons_succ]
          refine wpAnyH_done (by kernel_rfl) ?_ _
          go_wp2_with fail
          go_roundw
          case rel => exact ⟨i + 1 + 1, by omega, by go_num, HBR6.out.trans (hb7'.mono HBR6.out.size)⟩
          case measure => simp [RowKit.intOf]; omega
      · have hjn2 : ¬ (j : Int) < (n : Int) := by omega
        have HC3 := sort_c (c := lc) wr (HT.out.below HB0R.out) (HR.out.stay HBEL.out fun b h => h) (fun b hb => Nat.lt_of_lt_of_le hb HBEL.out.size) HUS.out
        rw [items_of HERR2.out] at HC3
        go_wp2_with fail
        refine HC3.mono ?_
        rintro e' w3 ⟨hb3, (⟨h0, -⟩ | ⟨-, LB, lb, qs, rfl, hpl2, hlb, hr2⟩)⟩
        · exact absurd rfl h0
        have hqs := hpl2.one HAG.out
        subst hqs
        rw [pickV_range] at hr2
        have hbR3 := HBEL.out.trans (hb3.mono HBEL.out.size)
        have hb03 := HB0R.out.trans (hb3.mono HB0R.out.size)
        have HS := sameAll_c (c := lc) (d := lb) (S := fun b => b < w3.heap.size) (S' := fun b => b < w3.heap.size) w3 ((HR.out.stay hbR3 fun b h => h).more fun b hb => Nat.lt_of_lt_of_le hb hbR3.size) (hr2.more fun b hb => hb.2) (fun b h => h) (fun b h => h) (by omega) (by omega) hlc hlb
        rw [sameV_self] at HS
        have HB03 := Lib.hid hb03
        clear HC3 hb3 hpl2 hr2 hbR3 hb03
        go_wp2_with (first | (go_at_call 43; refine (lnum6_c _ _).mono ?_; rintro e' w' ⟨rfl, rfl⟩))
        refine HS.mono ?_
        rintro e' w4 ⟨rfl, hb4⟩
        have hb04 := HB03.out.trans (hb4.mono HB03.out.size)
        clear HS hb4
        go_wp2_with fail
        go_ret
        exact ⟨rfl, hb04⟩
end Go.Proofs.YtjjpagdnjafgaaaGreatDoor
