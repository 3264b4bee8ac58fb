/-
  The walk of bolterlaw06.OrderGroups.
-/
import Derived.Test.YtjjpagdnjafgaaaGreatDoorGOgr
set_option linter.unusedVariables false
set_option linter.unusedSimpArgs false
namespace Go.Proofs.YtjjpagdnjafgaaaGreatDoor
open Go.RowKit Go.Lib

theorem new7g (w : World) (v0 v1 v2 v3 v4 v5 v6 : Value) (t : TypeId) : ∀ j u, [v0, v1, v2, v3, v4, v5, v6][j]? = some u → (w.alloc (.cells #[v0, v1, v2, v3, v4, v5, v6] t)).cell? ((⟨w.heap.size, 0, none⟩ : Addr).add j) = some u := by
  intro j u hj
  rw [Addr.add_lit, Nat.zero_add]
  exact cell_at (World.alloc_heap_new w _) (by simpa using hj)

set_option maxRecDepth 100000 in
set_option maxHeartbeats 4000000 in
theorem orderGroups_c {A B : Option Addr} {n c m d : Nat} {l keys : List VT} (w : World) (hT : Tabs w) (hl : RdL w (fun b => b < w.heap.size) A n l) (hk : RdL w (fun b => b < w.heap.size) B m keys) (hsz : underL l ≤ 21474836) :
    Calls Tryz.prog 10 #[.slice A n c, .slice B m d] w fun e w' => e = .returned (.bool true) ∧ Below w.heap.size w w' := by
  have HT := Lib.hid hT
  have HL := Lib.hid hl
  have HK := Lib.hid hk
  have HSZ := Lib.hid hsz
  have HLN := Lib.hid hl.1
  have hnb : n ≤ 21474836 := by have := underL_len l; have := hl.1; omega
  have HA := alive6_c w hT
  clear hT hl hk hsz
  obtain ⟨E, hE⟩ : ∃ E, itemsE l keys = E := ⟨_, rfl⟩
  have HE := Lib.hid hE
  have hE5 : E = 0 → l.length = keys.length := fun h => (itemsE_zero (by rw [hE]; exact h)).2.2
  have HE5 := Lib.hid hE5
  clear hE hE5
  go_enter Tryz.func10, Tryz.ntmps10
  go_wp2_with fail
  refine HA.mono ?_
  rintro e' w1 ⟨rfl, hb1⟩
  clear HA
  have HC1 := groupBy_c (c := c) (d := d) w1 (HT.out.below hb1) (HL.out.stay hb1 fun b h => h) (HK.out.stay hb1 fun b h => h) (fun b hb => Nat.lt_of_lt_of_le hb hb1.size) HSZ.out
  rw [HE.out] at HC1
  have HB1 := Lib.hid hb1
  clear hb1
  go_wp2_with fail
  refine HC1.mono ?_
  rintro e' w2 ⟨hb2, hres1⟩
  clear HC1
  have hb02 := HB1.out.trans (hb2.mono HB1.out.size)
  have HC2 := sortBy_c (c := c) (d := d) w2 (HT.out.below hb02) (HL.out.stay hb02 fun b h => h) (HK.out.stay hb02 fun b h => h) (fun b hb => Nat.lt_of_lt_of_le hb hb02.size) HSZ.out
  rw [HE.out] at HC2
  have HB2 := Lib.hid hb02
  clear hb2 hb02
  by_cases hE0 : E = 0
  · subst hE0
    rcases hres1 with ⟨h0, -⟩ | ⟨-, GA, cnt, gcap, ps, rfl, hps, hcnt, hgr⟩
    · exact absurd rfl h0
    have HPS := Lib.hid hps
    have HCNT := Lib.hid hcnt
    have HGR := Lib.hid hgr
    clear hps hcnt hgr
    go_wp2_with fail
    refine HC2.mono ?_
    rintro e' w3 ⟨hb3, hres2⟩
    clear HC2
    rcases hres2 with ⟨h0, -⟩ | ⟨-, LA, lc, qs, rfl, hqs, hlc, hr3⟩
    · exact absurd rfl h0
    obtain rfl : qs = ps := hqs.one HPS.out
    have hb03 := HB2.out.trans (hb3.mono HB2.out.size)
    have HC3 := uniqueBy_c (c := c) (d := d) w3 (HT.out.below hb03) (HL.out.stay hb03 fun b h => h) (HK.out.stay hb03 fun b h => h) (fun b hb => Nat.lt_of_lt_of_le hb hb03.size) HSZ.out
    rw [HE.out] at HC3
    have HB3 := Lib.hid hb03
    have HB23 := Lib.hid hb3
    have HR3 := Lib.hid hr3
    clear hb3 hb03 hr3 hqs
    go_wp2_with fail
    refine HC3.mono ?_
    rintro e' w4 ⟨hb4, hres3⟩
    clear HC3
    rcases hres3 with ⟨h0, -⟩ | ⟨-, UA, un, uc, rs, rfl, hrs, huc, hr4⟩
    · exact absurd rfl h0
    obtain rfl : rs = qs := hrs.one HPS.out
    have HB4 := Lib.hid (HB3.out.trans (hb4.mono HB3.out.size))
    have HB24 := Lib.hid (HB23.out.trans (hb4.mono HB23.out.size))
    have HR3' := Lib.hid ((HR3.out.keep (w' := w4) fun p hp => hb4.cell hp.2).more (S' := fun b => b < w4.heap.size) fun b hb => Nat.lt_of_lt_of_le hb.2 hb4.size)
    have HR4 := Lib.hid (hr4.more (S' := fun b => b < w4.heap.size) fun b hb => hb.2)
    obtain ⟨GL, hGL⟩ : ∃ GL, grpV l keys rs = GL := ⟨_, rfl⟩
    have hgf := grp_flat l keys rs
    have hg1 := grp_firsts l keys rs
    rw [hGL] at hgf hg1
    have hgne : ∀ x ∈ GL, 0 < x.length := fun x hx => grp_ne (l := l) (keys := keys) (ps := rs) (by rw [hGL]; exact hx)
    have hcn := HCNT.out
    rw [hGL] at hcn
    have hgr := HGR.out
    rw [hGL] at hgr
    have hgr4 : ∀ (i : Nat) (x : List VT), GL[i]? = some x → ∃ (q o : Nat) (XA : Option Addr) (gn gc : Nat), GA = some ⟨q, o, none⟩ ∧ q < w4.heap.size ∧ w4.cell? ⟨q, o + i, none⟩ = some (.slice XA gn gc) ∧ gn ≤ gc ∧ RdL w4 (fun b => b < w4.heap.size) XA gn x := fun i x hx => by
      obtain ⟨q, o, XA, gn, gc, e1, e2, e3, e4, e5⟩ := hgr i x hx
      exact ⟨q, o, XA, gn, gc, e1, Nat.lt_of_lt_of_le e2.2 HB24.out.size, (HB24.out.cell (p := ⟨q, o + i, none⟩) e2.2).trans e3, e4, (e5.keep fun p hp => HB24.out.cell hp.2).more fun b hb => Nat.lt_of_lt_of_le hb.2 HB24.out.size⟩
    rw [← hg1] at hr4
    have hpsl : Hid ((pickV l rs).length = n) := by
      show _ = _
      unfold pickV
      rw [List.length_map, HPS.out.len, ← HE5.out (by first | rfl | trivial)]
      exact HLN.out
    have HGF := Lib.hid hgf
    have HG1 := Lib.hid hg1
    have HGNE := Lib.hid hgne
    have HCN := Lib.hid hcn
    have HGR4 := Lib.hid hgr4
    obtain ⟨i7, hi7, hp7, hq7, hr7⟩ := info_parts infoV7
    have hcb : cnt ≤ n := by
      have h1 : ∀ L : List (List VT), (∀ x ∈ L, 0 < x.length) → L.length ≤ L.flatten.length := by
        intro L
        induction L with
        | nil => intro _; exact Nat.le_refl _
        | cons x r ih =>
          intro h
          have h2 := h x (by simp)
          have h3 := ih (fun y hy => h y (by simp [hy]))
          rw [List.flatten_cons, List.length_append, List.length_cons]
          omega
      have h2 := h1 GL hgne
      have h3 := hpsl.out
      rw [hgf] at h2
      omega
    clear hGL hgf hg1 hgne hcn hgr hgr4 hb4 hr4 hrs HGR HCNT HB23 HR3
    go_wp2_with fail
    go_loopw [11, 12, 13] (fun av fv iv wr => ∃ (k na : Nat) (csA csF : List (List Value)), k ≤ cnt ∧ iv = .int .i64 (k : Int) ∧ Hid (Two w4 wr 53 av na csA.flatten fv k csF.flatten) ∧ Hid (na = (GL.take k).flatten.length) ∧ Hid (Reads w4 (fun b => b < w4.heap.size) csA (GL.take k).flatten) ∧ Hid (Reads w4 (fun b => b < w4.heap.size) csF (firstsV (GL.take k)))) (fun _ _ iv _ => cnt - (RowKit.intOf iv).toNat)
    case atStart => exact ⟨0, 0, [], [], Nat.zero_le _, rfl, ⟨Below.refl _ _, World.ownsRow_nil _ _ _ _, World.ownsRow_nil _ _ _ _, fun q h => by simp [Value.ownBlock] at h⟩, rfl, Reads.nil _ _, Reads.nil _ _⟩
    case round =>
      obtain ⟨k, na, csA, csF, hkc, rfl, htw, hna, hra, hrf⟩ := hrel
      have HTW := Lib.hid htw.out
      have HNA := Lib.hid hna.out
      have HRA := Lib.hid hra.out
      have HRF := Lib.hid hrf.out
      clear htw hna hra hrf
      by_cases hk : k < cnt
      · have hklt : (k : Int) < (cnt : Int) := by omega
        have hk0 : (0 : Int) ≤ (k : Int) := by omega
        have hkt : ((k : Int)).toNat = k := by omega
        have hkw : IntKind.i64.wrap ((k : Int) + 1) = (k : Int) + 1 := IntWalk.i64_in _ (by omega)
        have hkl : k < GL.length := by have := HCN.out; omega
        obtain ⟨x, hx⟩ : ∃ x, GL[k]? = some x := ⟨_, List.getElem?_eq_getElem hkl⟩
        obtain ⟨q, o, XA, gn, gc, rfl, hq, hcell, hgc, hrx⟩ := HGR4.out k x hx
        have hxl := HGNE.out x (List.mem_of_getElem? hx)
        have hgn : 0 < gn := by rw [← hrx.1]; exact hxl
        have HXN := Lib.hid hrx.1
        obtain ⟨csG, hrG, hcl, hrow⟩ := hrx.reads
        obtain ⟨b, off, rfl, hb, hfl⟩ := hrow hgn
        obtain ⟨x0, xr, hx0⟩ : ∃ x0 xr, x = x0 :: xr := by
          cases x with
          | nil => simp at hxl
          | cons a r => exact ⟨a, r, rfl⟩
        obtain ⟨c0, cr, hc0⟩ : ∃ c0 cr, csG = c0 :: cr := by
          cases csG with
          | nil => simp at hcl; omega
          | cons a r => exact ⟨a, r, rfl⟩
        have hv0 : VIn w4 (fun b => b < w4.heap.size) x0 c0 := hrG.2.2.2 0 c0 x0 (by rw [hc0]; rfl) (by rw [hx0]; rfl)
        obtain ⟨k1, neg1, A1, n1, c1, e1, t1, LA1, ln1, lc1, KA1, kn1, kc1, rfl⟩ := hv0.seven
        have htk : GL.take (k + 1) = GL.take k ++ [x] := by
          rw [List.take_add_one, hx]; rfl
        have hfit : na + gn ≤ n := by
          have h1 : ((GL.take (k + 1)).flatten).length ≤ GL.flatten.length := by
            have h2 := List.take_append_drop (k + 1) GL
            have h3 : GL.flatten = (GL.take (k + 1)).flatten ++ (GL.drop (k + 1)).flatten := by rw [← List.flatten_append, h2]
            rw [h3, List.length_append]
            omega
          rw [HGF.out, hpsl.out, htk, List.flatten_append, List.length_append, ← HNA.out] at h1
          simp at h1
          have := HXN.out
          omega
        have hSS : ∀ W, Below w4.heap.size w4 W → W.cell? ⟨q, o + k, none⟩ = some (.slice (some ⟨b, off, none⟩) gn gc) ∧ W.cell? ⟨b, off, none⟩ = some (.int .i64 k1) ∧ W.cell? ⟨b, off + 1, none⟩ = some (.bool neg1) ∧ W.cell? ⟨b, off + 2, none⟩ = some (.slice A1 n1 c1) ∧ W.cell? ⟨b, off + 3, none⟩ = some (.int .i64 e1) ∧ W.cell? ⟨b, off + 4, none⟩ = some (.string t1) ∧ W.cell? ⟨b, off + 5, none⟩ = some (.slice LA1 ln1 lc1) ∧ W.cell? ⟨b, off + 6, none⟩ = some (.slice KA1 kn1 kc1) := fun W hW => ⟨(hW.cell (p := ⟨q, o + k, none⟩) hq).trans hcell, (hW.cell (p := ⟨b, off + 0, none⟩) hb).trans (hfl 0 _ (by rw [hc0]; rfl)), (hW.cell (p := ⟨b, off + 1, none⟩) hb).trans (hfl 1 _ (by rw [hc0]; rfl)), (hW.cell (p := ⟨b, off + 2, none⟩) hb).trans (hfl 2 _ (by rw [hc0]; rfl)), (hW.cell (p := ⟨b, off + 3, none⟩) hb).trans (hfl 3 _ (by rw [hc0]; rfl)), (hW.cell (p := ⟨b, off + 4, none⟩) hb).trans (hfl 4 _ (by rw [hc0]; rfl)), (hW.cell (p := ⟨b, off + 5, none⟩) hb).trans (hfl 5 _ (by rw [hc0]; rfl)), (hW.cell (p := ⟨b, off + 6, none⟩) hb).trans (hfl 6 _ (by rw [hc0]; rfl))⟩
        have hnw : ∀ W, Below w4.heap.size w4 W → ∀ (j : Nat) (u : Value), csG.flatten[j]? = some u → W.cell? ((⟨b, off, none⟩ : Addr).add j) = some u := fun W hW j u hu => by
          rw [Addr.add_lit]
          exact (hW.cell (p := ⟨b, off + j, none⟩) hb).trans (hfl j u hu)
        have hgl : csG.flatten.length = gn * 7 := by rw [flat7_len _ hrG.2.1, hcl]
        have HSS := Lib.hid hSS
        have HNW := Lib.hid hnw
        have HGL := Lib.hid hgl
        have HRG := Lib.hid hrG
        have HV0 := Lib.hid hv0
        have HTK := Lib.hid htk
        have hx0' : x.headD (.mk 0 false [] 0 ⟨#[]⟩ [] []) = x0 := by rw [hx0]; rfl
        have HX0 := Lib.hid hx0'
        have hgn0 : ((gn : Int) == 0) = false := by rw [beq_eq_false_iff_ne]; omega
        have hgn1 : (0 : Int) < (gn : Int) := by omega
        have hgcell : wr.cell? ⟨q, o + k, none⟩ = some (.slice (some ⟨b, off, none⟩) gn gc) := (HSS.out wr HTW.out.below).1
        clear hSS hnw hgl hrG hv0 htk hfl hcell hc0 hx0 hx0' hx hrx hrow hcl hxl
        go_upto_region 12 with fail
        refine wp_region_held_drew (S := fun w' => w'.cell? ⟨q, o + k, none⟩ = some (.slice (some ⟨b, off, none⟩) gn gc) ∧ w'.cell? ⟨b, off, none⟩ = some (.int .i64 k1) ∧ w'.cell? ⟨b, off + 1, none⟩ = some (.bool neg1) ∧ w'.cell? ⟨b, off + 2, none⟩ = some (.slice A1 n1 c1) ∧ w'.cell? ⟨b, off + 3, none⟩ = some (.int .i64 e1) ∧ w'.cell? ⟨b, off + 4, none⟩ = some (.string t1) ∧ w'.cell? ⟨b, off + 5, none⟩ = some (.slice LA1 ln1 lc1) ∧ w'.cell? ⟨b, off + 6, none⟩ = some (.slice KA1 kn1 kc1)) (by kernel_rfl) (HSS.out _ HTW.out.drew.below) (fun hHeld => ?_)
        (try simp only [List.size_toArray, List.length_cons, List.length_nil, Nat.reduceAdd, Array.replicate_succ, Array.replicate_zero, List.push_toArray, List.append_toArray, List.nil_append, List.cons_append])
        refine wpAnyH_take (i := 0) (oi := ⟨_, _, _, _, _, _⟩) (v := ?_) rfl (by kernel_rfl) (by kernel_rfl) (by kernel_rfl) (fun _ _ _ h => h) (Or.inl ⟨by rfl, ?_⟩) (by assumption) ?_
        rotate_left
        · intro w hSw
          (try dsimp only at hSw)
          go_split_ands
          go_simp
          try with_reducible rfl
        try simp only [Act.put, List.setIfInBounds_toArray, List.set_cons_zero, List.set_cons_succ]
        refine wpAnyH_take (i := 1) (oi := ⟨_, _, _, _, _, _⟩) (v := ?_) rfl (by kernel_rfl) (by kernel_rfl) (by kernel_rfl) (fun _ _ _ h => h) (Or.inl ⟨by rfl, ?_⟩) (by assumption) ?_
        rotate_left
        · intro w hSw
          (try dsimp only at hSw)
          go_split_ands
          go_simp
          try with_reducible rfl
        try simp only [Act.put, List.setIfInBounds_toArray, List.set_cons_zero, List.set_cons_succ]
        refine wpAnyH_take (i := 2) (oi := ⟨_, _, _, _, _, _⟩) (v := ?_) rfl (by kernel_rfl) (by kernel_rfl) (by kernel_rfl) (fun _ _ _ h => h) (Or.inl ⟨by rfl, ?_⟩) (by assumption) ?_
        rotate_left
        · intro w hSw
          (try dsimp only at hSw)
          go_split_ands
          go_simp
          try with_reducible rfl
        try simp only [Act.put, List.setIfInBounds_toArray, List.set_cons_zero, List.set_cons_succ]
        refine wpAnyH_take (i := 3) (oi := ⟨_, _, _, _, _, _⟩) (v := ?_) rfl (by kernel_rfl) (by kernel_rfl) (by kernel_rfl) (fun _ _ _ h => h) (Or.inl ⟨by rfl, ?_⟩) (by assumption) ?_
        rotate_left
        · intro w hSw
          (try dsimp only at hSw)
          go_split_ands
          go_simp
          try with_reducible rfl
        try simp only [Act.put, List.setIfInBounds_toArray, List.set_cons_zero, List.set_cons_succ]
        refine wpAnyH_take (i := 4) (oi := ⟨_, _, _, _, _, _⟩) (v := ?_) rfl (by kernel_rfl) (by kernel_rfl) (by kernel_rfl) (fun _ _ _ h => h) (Or.inl ⟨by rfl, ?_⟩) (by assumption) ?_
        rotate_left
        · intro w hSw
          (try dsimp only at hSw)
          go_split_ands
          go_simp
          try with_reducible rfl
        try simp only [Act.put, List.setIfInBounds_toArray, List.set_cons_zero, List.set_cons_succ]
        refine wpAnyH_take (i := 6) (oi := ⟨_, _, _, _, _, _⟩) (v := ?_) rfl (by kernel_rfl) (by kernel_rfl) (by kernel_rfl) (fun _ _ _ h => h) (Or.inl ⟨by rfl, ?_⟩) (by assumption) ?_
        rotate_left
        · intro w hSw
          (try dsimp only at hSw)
          go_split_ands
          go_simp
          try with_reducible rfl
        try simp only [Act.put, List.setIfInBounds_toArray, List.set_cons_zero, List.set_cons_succ]
        refine wpAnyH_take (i := 7) (oi := ⟨_, _, _, _, _, _⟩) (v := ?_) rfl (by kernel_rfl) (by kernel_rfl) (by kernel_rfl) (fun _ _ _ h => h) (Or.inl ⟨by rfl, ?_⟩) (by assumption) ?_
        rotate_left
        · intro w hSw
          (try dsimp only at hSw)
          go_split_ands
          go_simp
          try with_reducible rfl
        try simp only [Act.put, List.setIfInBounds_toArray, List.set_cons_zero, List.set_cons_succ]
        refine wpAnyH_take (i := 8) (oi := ⟨_, _, _, _, _, _⟩) (v := ?_) rfl (by kernel_rfl) (by kernel_rfl) (by kernel_rfl) (fun _ _ _ h => h) (Or.inl ⟨by rfl, ?_⟩) (by assumption) ?_
        rotate_left
        · intro w hSw
          (try dsimp only at hSw)
          go_split_ands
          go_simp
          try with_reducible rfl
        try simp only [Act.put, List.setIfInBounds_toArray, List.set_cons_zero, List.set_cons_succ]
        refine wpAnyH_take (i := 9) (oi := ⟨_, _, _, _, _, _⟩) (v := ?_) rfl (by kernel_rfl) (by kernel_rfl) (by kernel_rfl) (fun _ _ _ h => h) (Or.inl ⟨by rfl, ?_⟩) (by assumption) ?_
        rotate_left
        · intro w hSw
          (try dsimp only at hSw)
          go_split_ands
          go_simp
          try with_reducible rfl
        try simp only [Act.put, List.setIfInBounds_toArray, List.set_cons_zero, List.set_cons_succ]
        refine wpAnyH_take (i := 10) (oi := ⟨_, _, _, _, _, _⟩) (v := ?_) rfl (by kernel_rfl) (by kernel_rfl) (by kernel_rfl) (fun _ _ _ h => h) (Or.inl ⟨by rfl, ?_⟩) (by assumption) ?_
        rotate_left
        · intro w hSw
          (try dsimp only at hSw)
          go_split_ands
          go_simp
          try with_reducible rfl
        try simp only [Act.put, List.setIfInBounds_toArray, List.set_cons_zero, List.set_cons_succ]
        refine wpAnyH_take (i := 11) (oi := ⟨_, _, _, _, _, _⟩) (v := ?_) rfl (by kernel_rfl) (by kernel_rfl) (by kernel_rfl) (fun _ _ _ h => h) (Or.inl ⟨by rfl, ?_⟩) (by assumption) ?_
        rotate_left
        · intro w hSw
          (try dsimp only at hSw)
          go_split_ands
          go_simp
          try with_reducible rfl
        try simp only [Act.put, List.setIfInBounds_toArray, List.set_cons_zero, List.set_cons_succ]
        refine wpAnyH_take (i := 12) (oi := ⟨_, _, _, _, _, _⟩) (v := ?_) rfl (by kernel_rfl) (by kernel_rfl) (by kernel_rfl) (fun _ _ _ h => h) (Or.inl ⟨by rfl, ?_⟩) (by assumption) ?_
        rotate_left
        · intro w hSw
          (try dsimp only at hSw)
          go_split_ands
          go_simp
          try with_reducible rfl
        try simp only [Act.put, List.setIfInBounds_toArray, List.set_cons_zero, List.set_cons_succ]
        refine wpAnyH_ready (rs := [5, 13]) (by kernel_rfl) (by simp) (AllReadyH.cons (o := ⟨_, _, _, _, _, _⟩) rfl (fun K hK => ?ga) (AllReadyH.cons (o := ⟨_, _, _, _, _, _⟩) rfl (fun K hK => ?gb) AllReadyH.nil))
        case' ga =>
          refine step_append_ato (base := w4.heap.size) (e := 53) (n := na) (xs := csA.flatten) (news := csG.flatten) (m := gn) (c := gc) (ad := ⟨b, off, none⟩) rfl (.tmp 46) (.tmp 50) 50 rfl Tryz.underlying50 hi7 hp7 hq7 hr7 rfl (by decide) rfl (HTW.out.drew).a rfl HGL.out (HNW.out _ (HTW.out.drew).below) HRG.out.one (by unfold maxLen; omega) (by omega) (HTW.out.drew).below.size ?_
          intro va2 X1 hown1 hg1 _ hat1
          have tw1 := (HTW.out.drew).appA hg1 hown1 hat1
          refine hK.out _ _ (HSS.out _ tw1.below) (fun hHeld2 => ?_)
          clear hK K hHeld
          try simp only [Act.put, List.setIfInBounds_toArray, List.set_cons_zero, List.set_cons_succ]
          refine wpAnyH_ready (rs := [13]) (by kernel_rfl) (by simp) (AllReadyH.cons (o := ⟨_, _, _, _, _, _⟩) rfl (fun K hK => ?_) AllReadyH.nil)
          go_simp
          have tw2 := tw1.alloc (.cells #[.int .i64 k1, .bool neg1, .slice A1 n1 c1, .int .i64 e1, .string t1, .slice LA1 ln1 lc1, .slice KA1 kn1 kc1] 53)
          refine hK.out _ _ (HSS.out _ tw2.below) (fun hHeld3 => ?_)
          clear hK K hHeld2
          try simp only [Act.put, List.setIfInBounds_toArray, List.set_cons_zero, List.set_cons_succ]
          refine wpAnyH_ready (rs := [14]) (by kernel_rfl) (by simp) (AllReadyH.cons (o := ⟨_, _, _, _, _, _⟩) rfl (fun K hK => ?_) AllReadyH.nil)
          refine step_append_ato (base := w4.heap.size) (e := 53) (n := k) (xs := csF.flatten) (news := [.int .i64 k1, .bool neg1, .slice A1 n1 c1, .int .i64 e1, .string t1, .slice LA1 ln1 lc1, .slice KA1 kn1 kc1]) (m := 1) (c := 1) (ad := ⟨X1.heap.size, 0, none⟩) rfl (.tmp 52) (.tmp 59) 50 rfl Tryz.underlying50 hi7 hp7 hq7 hr7 rfl (by decide) rfl (tw2).f rfl rfl (new7g X1 _ _ _ _ _ _ _ _) HV0.out.one.2 (by unfold maxLen; omega) (by omega) (tw2).below.size ?_
          intro vf2 X2 hown2 hg2 _ hat2
          have tw3 := (tw2).appF hg2 hown2 hat2
          refine hK.out _ _ (HSS.out _ tw3.below) (fun hHeld4 => ?_)
          clear hK K hHeld3
          try simp only [Act.put, List.setIfInBounds_toArray, List.set_cons_zero, List.set_cons_succ]
        case' gb =>
          go_simp
          have tw1 := HTW.out.drew.alloc (.cells #[.int .i64 k1, .bool neg1, .slice A1 n1 c1, .int .i64 e1, .string t1, .slice LA1 ln1 lc1, .slice KA1 kn1 kc1] 53)
          refine hK.out _ _ (HSS.out _ tw1.below) (fun hHeld2 => ?_)
          clear hK K hHeld
          try simp only [Act.put, List.setIfInBounds_toArray, List.set_cons_zero, List.set_cons_succ]
          refine wpAnyH_ready (rs := [5]) (by kernel_rfl) (by simp) (AllReadyH.cons (o := ⟨_, _, _, _, _, _⟩) rfl (fun K hK => ?_) AllReadyH.nil)
          refine step_append_ato (base := w4.heap.size) (e := 53) (n := na) (xs := csA.flatten) (news := csG.flatten) (m := gn) (c := gc) (ad := ⟨b, off, none⟩) rfl (.tmp 46) (.tmp 50) 50 rfl Tryz.underlying50 hi7 hp7 hq7 hr7 rfl (by decide) rfl (tw1).a rfl HGL.out (HNW.out _ (tw1).below) HRG.out.one (by unfold maxLen; omega) (by omega) (tw1).below.size ?_
          intro va2 X1 hown1 hg1 _ hat1
          have tw2 := (tw1).appA hg1 hown1 hat1
          refine hK.out _ _ (HSS.out _ tw2.below) (fun hHeld3 => ?_)
          clear hK K hHeld2
          try simp only [Act.put, List.setIfInBounds_toArray, List.set_cons_zero, List.set_cons_succ]
          refine wpAnyH_ready (rs := [14]) (by kernel_rfl) (by simp) (AllReadyH.cons (o := ⟨_, _, _, _, _, _⟩) rfl (fun K hK => ?_) AllReadyH.nil)
          have hnl : ∀ (j : Nat) (u : Value), [.int .i64 k1, .bool neg1, .slice A1 n1 c1, .int .i64 e1, .string t1, .slice LA1 ln1 lc1, .slice KA1 kn1 kc1][j]? = some u → X1.cell? ((⟨wr.heap.size, 0, none⟩ : Addr).add j) = some u := fun j u hu => by
            have h1 := new7g wr.drew _ _ _ _ _ _ _ 53 j u hu
            have hblk : X1.heap[wr.heap.size]? = (wr.drew.alloc (.cells #[.int .i64 k1, .bool neg1, .slice A1 n1 c1, .int .i64 e1, .string t1, .slice LA1 ln1 lc1, .slice KA1 kn1 kc1] 53)).heap[wr.heap.size]? := hg1.block wr.heap.size (by simp) (fun e => by
              have := (own_block HTW.out.a e.symm).2.1
              omega)
            rw [Addr.add_lit, Nat.zero_add] at h1 ⊢
            exact (World.cell?_of_block hblk).trans h1
          refine step_append_ato (base := w4.heap.size) (e := 53) (n := k) (xs := csF.flatten) (news := [.int .i64 k1, .bool neg1, .slice A1 n1 c1, .int .i64 e1, .string t1, .slice LA1 ln1 lc1, .slice KA1 kn1 kc1]) (m := 1) (c := 1) (ad := ⟨wr.heap.size, 0, none⟩) rfl (.tmp 52) (.tmp 59) 50 rfl Tryz.underlying50 hi7 hp7 hq7 hr7 rfl (by decide) rfl (tw2).f rfl rfl (hnl) HV0.out.one.2 (by unfold maxLen; omega) (by omega) (tw2).below.size ?_
          intro vf2 X2 hown2 hg2 _ hat2
          have tw3 := (tw2).appF hg2 hown2 hat2
          refine hK.out _ _ (HSS.out _ tw3.below) (fun hHeld4 => ?_)
          clear hK K hHeld3
          try simp only [Act.put, List.setIfInBounds_toArray, List.set_cons_zero, List.set_cons_succ]
        all_goals
          refine wpAnyH_take (i := 15) (oi := ⟨_, _, _, _, _, _⟩) (v := ?_) rfl (by kernel_rfl) (by kernel_rfl) (by kernel_rfl) (fun _ _ _ h => h) (Or.inl ⟨by rfl, ?_⟩) (by assumption) ?_
          rotate_left
          · intro w hSw
            (try dsimp only at hSw)
            go_split_ands
            go_simp
            try with_reducible rfl
          try simp only [Act.put, List.setIfInBounds_toArray, List.set_cons_zero, List.set_cons_succ]
          refine wpAnyH_take (i := 16) (oi := ⟨_, _, _, _, _, _⟩) (v := ?_) rfl (by kernel_rfl) (by kernel_rfl) (by kernel_rfl) (fun _ _ _ h => h) (Or.inl ⟨by rfl, ?_⟩) (by assumption) ?_
          rotate_left
          · intro w hSw
            (try dsimp only at hSw)
            go_split_ands
            go_simp
            try with_reducible rfl
          try simp only [Act.put, List.setIfInBounds_toArray, List.set_cons_zero, List.set_cons_succ]
          refine wpAnyH_done (by kernel_rfl) ?_ _
          have TW3 := Lib.hid tw3
          have hra2 := HRA.out.append HRG.out
          have hrf2 := HRF.out.append (Reads.single HV0.out)
          have hf1 : (GL.take (k + 1)).flatten = (GL.take k).flatten ++ x := by rw [HTK.out, List.flatten_append]; simp
          have hf2 : firstsV (GL.take (k + 1)) = firstsV (GL.take k) ++ [x0] := by
            rw [HTK.out]
            unfold firstsV
            rw [List.map_append]
            show _ ++ [x.headD _] = _
            rw [HX0.out]
          rw [← hf1] at hra2
          rw [← hf2] at hrf2
          have hnn : na + gn = (GL.take (k + 1)).flatten.length := by rw [hf1, List.length_append, ← HNA.out, HXN.out]
          have HRA2 := Lib.hid hra2
          have HRF2 := Lib.hid hrf2
          have HNN := Lib.hid hnn
          have TW4 : Hid (Two w4 X2 53 va2 (na + gn) (csA ++ csG).flatten vf2 (k + 1) (csF ++ [([.int .i64 k1, .bool neg1, .slice A1 n1 c1, .int .i64 e1, .string t1, .slice LA1 ln1 lc1, .slice KA1 kn1 kc1] : List Value)]).flatten) := by
            show Two _ _ _ _ _ _ _ _ _
            rw [List.flatten_append, List.flatten_append]
            exact TW3.out
          clear hra2 hrf2 hf1 hf2 hnn tw3 TW3 tw2 tw1 hown1 hown2 hg1 hg2 hat1 hat2 hHeld4
          go_wp2_with fail
          go_roundw
          case rel => exact ⟨k + 1, na + gn, _, _, by omega, by go_num, TW4, HNN, HRA2, HRF2⟩
          case measure => simp [RowKit.intOf]; omega
      · have hkn : ¬ (k : Int) < (cnt : Int) := by omega
        obtain rfl : k = cnt := by omega
        have htk : GL.take k = GL := List.take_of_length_le (by have := HCN.out; omega)
        have hra := HRA.out
        have hrf := HRF.out
        have hna := HNA.out
        rw [htk, HGF.out] at hra hna
        rw [htk] at hrf
        have hnn : na = n := by rw [hna]; exact hpsl.out
        subst hnn
        have hbr := HTW.out.below
        obtain ⟨VA, vac, rfl, hvac, hrda⟩ := hra.row (fun b hb => hb) hbr HTW.out.a (by omega)
        obtain ⟨VF, vfc, rfl, hvfc, hrdf⟩ := hrf.row (fun b hb => hb) hbr HTW.out.f (by omega)
        rw [HG1.out] at hrdf
        have hbw := HB4.out.trans (hbr.mono HB4.out.size)
        have HS := sameAll_c (c := vac) (d := lc) wr hrda ((HR3'.out.stay hbr fun b h => h).more (S' := fun b => b < wr.heap.size) fun b hb => Nat.lt_of_lt_of_le hb hbr.size) (fun b h => h) (fun b h => h) (by omega) (by omega) hvac hlc
        rw [sameV_self] at HS
        have HRDF := Lib.hid hrdf
        have HBR := Lib.hid hbr
        have HBW := Lib.hid hbw
        have hunk : un ≤ 1256584717458 := by have h1 := HR4.out.1; have h2 := hrdf.1; omega
        clear hra hrf hna hrda hrdf htk hbr hbw
        go_wp2_with fail
        refine HS.mono ?_
        rintro e' w5 ⟨rfl, hb5⟩
        clear HS
        have hbr5 := HBR.out.trans (hb5.mono HBR.out.size)
        have HS := sameAll_c (c := vfc) (d := uc) w5 ((HRDF.out.stay hb5 fun b h => h).more (S' := fun b => b < w5.heap.size) fun b hb => Nat.lt_of_lt_of_le hb hb5.size) ((HR4.out.stay hbr5 fun b h => h).more (S' := fun b => b < w5.heap.size) fun b hb => Nat.lt_of_lt_of_le hb hbr5.size) (fun b h => h) (fun b h => h) (by omega) hunk hvfc huc
        rw [sameV_self] at HS
        have HB5 := Lib.hid (HBW.out.trans (hb5.mono HBW.out.size))
        clear hb5 hbr5
        go_wp2_with fail
        refine HS.mono ?_
        rintro e' w6 ⟨rfl, hb6⟩
        have hb06 := HB5.out.trans (hb6.mono HB5.out.size)
        clear HS hb6
        go_wp2_with fail
        go_ret
        exact ⟨rfl, hb06⟩
  · rcases hres1 with ⟨-, rfl⟩ | ⟨h0, -⟩
    rotate_left
    · exact absurd h0 hE0
    go_wp2_with fail
    refine HC2.mono ?_
    rintro e' w3 ⟨hb3, hres2⟩
    clear HC2
    rcases hres2 with ⟨-, rfl⟩ | ⟨h0, -⟩
    rotate_left
    · exact absurd h0 hE0
    have hb03 := HB2.out.trans (hb3.mono HB2.out.size)
    have HC3 := uniqueBy_c (c := c) (d := d) w3 (HT.out.below hb03) (HL.out.stay hb03 fun b h => h) (HK.out.stay hb03 fun b h => h) (fun b hb => Nat.lt_of_lt_of_le hb hb03.size) HSZ.out
    rw [HE.out] at HC3
    have HB3 := Lib.hid hb03
    clear hb3 hb03
    go_wp2_with fail
    refine HC3.mono ?_
    rintro e' w4 ⟨hb4, hres3⟩
    clear HC3
    rcases hres3 with ⟨-, rfl⟩ | ⟨h0, -⟩
    rotate_left
    · exact absurd h0 hE0
    have HB4 := Lib.hid (HB3.out.trans (hb4.mono HB3.out.size))
    clear hb4
    have HS := fun (W : World) => sameAll_c (c := 0) (d := 0) (A := none) (B := none) W (RdL.nil W (fun b => b < W.heap.size) none) (RdL.nil W (fun b => b < W.heap.size) none) (fun b h => h) (fun b h => h) (by omega) (by omega) (by omega) (by omega)
    rw [sameV_self] at HS
    go_wp2_with fail
    go_loopw [11, 12, 13] (fun av fv iv wr => av = .slice none 0 0 ∧ fv = .slice none 0 0 ∧ iv = .int .i64 0 ∧ wr = w4) (fun _ _ _ _ => 0)
    case atStart => exact ⟨rfl, rfl, rfl, rfl⟩
    case round =>
      obtain ⟨rfl, rfl, rfl, rfl⟩ := hrel
      go_wp2_with fail
      refine (HS _).mono ?_
      rintro e' w5 ⟨rfl, hb5⟩
      go_wp2_with fail
      refine (HS _).mono ?_
      rintro e' w6 ⟨rfl, hb6⟩
      go_wp2_with fail
      go_ret
      exact ⟨rfl, HB4.out.trans ((hb5.trans (hb6.mono hb5.size)).mono HB4.out.size)⟩
end Go.Proofs.YtjjpagdnjafgaaaGreatDoor
