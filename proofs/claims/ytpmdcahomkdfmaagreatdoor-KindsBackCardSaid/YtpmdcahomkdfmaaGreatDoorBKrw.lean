/-
  Contract of the closure of kinds.Reverse.
-/
import Derived.Test.YtpmdcahomkdfmaaGreatDoorBKrb
set_option linter.unusedVariables false
set_option linter.unusedSimpArgs false
namespace Go.Proofs.YtpmdcahomkdfmaaGreatDoor
open Go.RowKit Go.Lib

theorem reverseI_c {A : Option Addr} {n c N : Nat} {zs : List Int} (w : World) (h : RowV w N 3 A n c (zs64 zs)) (hn : n ≤ 17592186044416) :
    Calls Tryz.prog 23 #[.slice A n c] w fun e w' => e = .returned (.tuple #[]) ∧ RdV w' (fun b => N ≤ b ∧ b < w'.heap.size) A n (zs64 zs.reverse) ∧ But (fun k => N ≤ k) w w' := by
  have hl : zs.length = n := by have := h.len; rwa [zs64_length] at this
  rcases h.own.2 with ⟨e, h0⟩ | ⟨g, cap, cur, e1, e2, e3, e4, e5, e6, e7⟩
  · injection e with e1 e2 e3
    subst e1 e2 e3
    refine (Tryz.slices_Reverse_int_empty none 0 w).mono ?_
    rintro e9 w9 ⟨rfl, rfl⟩
    obtain rfl : zs = [] := List.eq_nil_of_length_eq_zero hl
    exact ⟨rfl, ⟨rfl, fun h => absurd h (by omega)⟩, But.refl _ _⟩
  · injection e1 with e8 e9 e10
    subst e8 e10
    have hglt : g < w.heap.size := (Array.getElem?_eq_some_iff.1 e3).1
    have hcell : ∀ j, j < zs.length → w.cell? ⟨g, 0 + j, none⟩ = some (.int .i64 (zs.getD j 0)) := fun j hj => by
      rw [Nat.zero_add]
      refine ownsRow_cellK h.own ?_
      unfold zs64
      rw [List.getElem?_map, List.getElem?_eq_getElem hj, List.getD_eq_getElem?_getD, List.getElem?_eq_getElem hj]
      rfl
    refine (Tryz.slices_Reverse_int_cells g 0 n c zs w (by omega) (by omega) hcell (fun j _ => frozen_of_row _ _ _ _ _ e3)).mono ?_
    rintro e9 w9 ⟨rfl, q, rfl⟩
    rw [show zs.take n = zs from List.take_of_length_le (by omega)]
    have hset : ∀ (vs : List Value) (o : Nat) (Y : World), But (fun k => N ≤ k) w Y → But (fun k => N ≤ k) w (Y.setCells g o vs) := by
      intro vs
      induction vs with
      | nil => intro o Y hY; exact hY
      | cons v r ih => intro o Y hY; exact ih (o + 1) _ (hY.setCell (.inl e2) _)
    have hbut := hset (zs.reverse.map (Value.int .i64)) 0 _ ((But.refl _ w).drewN q)
    refine ⟨rfl, ⟨by rw [zs64_length, List.length_reverse]; exact hl, fun h0 => ⟨g, 0, rfl, ⟨e2, Nat.lt_of_lt_of_le hglt hbut.size⟩, fun j v hj => ?_⟩⟩, hbut⟩
    have hjl := (List.getElem?_eq_some_iff.1 hj)
    obtain ⟨hj1, hj2⟩ := hjl
    have h9 := World.cell?_setCells_in g (zs.reverse.map (Value.int .i64)) 0 (w.drewN q) (fun k hk => by
      rw [List.length_map, List.length_reverse] at hk
      have := hcell k hk
      show (w.cell? _).isSome = true
      rw [this]; rfl) j (by rw [zs64_length] at hj1; rw [List.length_map]; exact hj1)
    rw [h9]
    exact congrArg some hj2
set_option maxRecDepth 1000000 in
set_option maxHeartbeats 8000000 in
theorem reverse1_c {S : Nat → Prop} {x : VT} {cs : List Value} (vb : Nat) (w : World) (hT : Tabs w) (hok : okV x) (hx : VIn w S x cs) (hS : ∀ b, S b → b < w.heap.size) (hv : w.heap[vb]? = some (.cells cs.toArray 28)) :
    Calls Tryz.prog 21 #[.pointer (some ⟨vb, 0, none⟩)] w fun e w' => ∃ cs' : List Value, e = .returned (.tuple #[.agg cs'.toArray, .int .i64 (revE x : Int)]) ∧ VIn w' (fun b => b < w'.heap.size) (revY x) cs' ∧ Below w.heap.size w w' := by
  obtain ⟨rs, hrs⟩ : ∃ b, w.heap.size = b := ⟨_, rfl⟩
  obtain ⟨w0, hw0⟩ : ∃ y, w.alloc (.cells #[.int .i64 0, .bool false, .slice none 0 0, .int .i64 0, .string ⟨#[]⟩, .slice none 0 0, .slice none 0 0] 28) = y := ⟨_, rfl⟩
  have g0 : Below rs w w0 := by rw [← hw0]; exact (Below.refl _ w).alloc (by omega) _
  have s0 : w0.heap.size = rs + 1 := by rw [← hw0, World.size_alloc, hrs]
  have n0 : w0.heap[rs]? = some (.cells #[.int .i64 0, .bool false, .slice none 0 0, .int .i64 0, .string ⟨#[]⟩, .slice none 0 0, .slice none 0 0] 28) := by rw [← hw0, ← hrs]; exact World.alloc_heap_new w _
  have hvl := (Array.getElem?_eq_some_iff.1 hv).1
  have hv0 := (g0.block vb (by omega)).trans hv
  have hT0 : Tabs w0 := hT.below (hrs ▸ g0)
  obtain ⟨k2, neg2, xs2, e2, t2, li2, ks2, hx2⟩ : ∃ k2 neg2 xs2 e2 t2 li2 ks2, x = VT.mk k2 neg2 xs2 e2 t2 li2 ks2 := by cases x; exact ⟨_, _, _, _, _, _, _, rfl⟩
  have hvx2 := hx
  rw [hx2] at hvx2
  obtain ⟨A2, n2, c2, LA, ln, lc, KA, kn, kc, rfl, -, -, -, hli2, hks2, -, -⟩ := hvx2.parts
  obtain ⟨-, bk, bl⟩ := hvx2.bounds
  obtain ⟨y0, y1, y2, y3, y4, y5, y6⟩ := box7_of hv0
  obtain ⟨z0, z1, z2, z3, z4, z5, z6⟩ := box7_of n0
  have fz : ∀ j, w0.frozen? ⟨rs, j, none⟩ = false := fun j => frozen_of_row _ _ j _ _ n0
  have hxk : x.kind = k2 := by rw [hx2]; rfl
  have hxl : x.list = li2 := by rw [hx2]; rfl
  have hxt : x.text = t2 := by rw [hx2]; rfl
  rw [hrs] at hS ⊢
  have HB0 := Lib.hid g0
  have HW := Lib.hid hw0
  have HN0 := Lib.hid n0
  have HS0 := Lib.hid s0
  have HLI := Lib.hid (hli2.keep (w' := w0) fun p hp => g0.cell (hS _ hp))
  have HS := Lib.hid (show ∀ b, S b → b < w0.heap.size from fun b hb => by have := hS b hb; omega)
  have HSR := Lib.hid hS
  have HT0 := Lib.hid hT0
  have HOK := Lib.hid hok
  have HXK := Lib.hid hxk
  have HXL := Lib.hid hxl
  have HXT := Lib.hid hxt
  clear hx hvx2 hli2 hks2 hx2 hv hv0 n0 g0 hw0 hT hT0 hok hxk hxl hxt hS s0
  by_cases h0 : k2 = 0
  · subst h0
    have hee : revE x = 0 := by unfold revE; rw [if_pos (.inl HXK.out)]
    have hyy : revY x = listV [] := by unfold revY; rw [if_pos HXK.out]
    have hbu : ∀ W : World, (Instr.build 28 #[(0, .int .i64 5)]).run Tryz.prog W = .ok (.agg #[.int .i64 5, .bool false, .slice none 0 0, .int .i64 0, .string ⟨#[]⟩, .slice none 0 0, .slice none 0 0]) W := fun W => run_build W 28 _ _ (by kernel_rfl)
    rw [hee, hyy]
    clear hee hyy
    go_enter Tryz.func21, Tryz.ntmps21
    go_upto_region 1 with fail
    try rw [hrs]
    clear hrs
    rw [HW.out]
    go_wp2_with fail
    refine bodyPost_ret (v := .tuple #[.agg #[.int .i64 5, .bool false, .slice none 0 0, .int .i64 0, .string ⟨#[]⟩, .slice none 0 0, .slice none 0 0], .int .i64 0]) (by simp [results, Tryz.results21, go_sem, z0, z1, z2, z3, z4, z5, z6]) rfl ?_
    exact ⟨_, rfl, listV_in ⟨rfl, by omega, fun _ => [], fun h => absurd h (by omega), fun i x hx => absurd hx (by simp)⟩ (by omega) (Nat.le_refl _), below_seven HB0.out (Nat.le_refl _) _ _ _ _ _ _ _⟩
  have hk0 : (k2 == 0) = false := by simpa using h0
  by_cases h4 : k2 = 4
  · subst h4
    obtain ⟨hx4, hist, hsz⟩ := text_ofK HOK.out HXK.out
    rw [HXT.out] at hist hsz
    have hee : revE x = 0 := by unfold revE; rw [if_pos (.inr (.inl HXK.out))]
    have hyy : revY x = textV (mk8 (revT t2.data.toList)) := by unfold revY; rw [if_neg (by rw [HXK.out]; decide), if_pos HXK.out, HXT.out]
    obtain ⟨r1, r2, r3⟩ := rev_text hist
    have hru := Runes_c t2 w0 HT0.out (by omega)
    have hlr : (runesT t2.data.toList).length ≤ t2.size := by
      have e3 : runesT t2.data.toList = uchars t2.data.toList := by unfold runesT; rw [if_pos hist]
      rw [e3]
      unfold uchars
      rw [List.length_map]
      have := pcs_len t2.data.toList
      have h2 : t2.size = t2.data.toList.length := by rw [Array.length_toList]; rfl
      omega
    obtain ⟨L, hL⟩ : ∃ L, revT t2.data.toList = L := ⟨_, rfl⟩
    have hLs : L.length ≤ 16384 := by
      rw [← hL, (revT_ok hist).2.2]
      have h2 : t2.size = t2.data.toList.length := by rw [Array.length_toList]; rfl
      omega
    obtain ⟨R, hR⟩ : ∃ R, runesT t2.data.toList = R := ⟨_, rfl⟩
    rw [hL] at hyy r2
    rw [hR] at r1 r2 r3 hru hlr
    obtain ⟨E, hE⟩ : ∃ E, errT t2.data.toList = E := ⟨_, rfl⟩
    rw [hE] at hru
    rw [hee, hyy]
    have HRU := Lib.hid hru
    have H1 := Lib.hid r1
    have H2 := Lib.hid r2
    have H3 := Lib.hid r3
    have HLR := Lib.hid hlr
    have HSZ := Lib.hid hsz
    have HLS := Lib.hid hLs
    clear hee hyy hist hx4 r1 r2 r3 hru hlr hsz hL hLs hR hE
    go_enter Tryz.func21, Tryz.ntmps21
    go_upto_region 1 with fail
    try rw [hrs]
    clear hrs
    rw [HW.out]
    go_wp2_with fail
    refine HRU.out.mono ?_
    rintro e9 w1 ⟨A, n, c, rfl, hrow, hb1⟩
    have hn : n ≤ 16384 := by have := hrow.len; rw [zs64_length] at this; have := HLR.out; have := HSZ.out; omega
    have HRI := Lib.hid (reverseI_c w1 hrow (by omega))
    have HB1 := Lib.hid hb1
    have HNN := Lib.hid hn
    clear hrow hb1 hn
    go_wp2_with fail
    refine HRI.out.mono ?_
    rintro e8 w2 ⟨rfl, hrd, hbut⟩
    have HTX := Lib.hid (Text_c (c := c) w2 hrd (fun b hb => hb.2) H3.out (by have := HNN.out; omega))
    have HBUT := Lib.hid hbut
    clear hrd hbut
    go_wp2_with fail
    refine HTX.out.mono ?_
    rintro e7 w3 ⟨rfl, hb3⟩
    rw [H1.out, H2.out]
    have HB3 := Lib.hid hb3
    clear hb3
    go_wp2_with fail
    refine (etext_c _ w3).mono ?_
    rintro e6 w4 ⟨rfl, hb4⟩
    have hs0 := HS0.out
    have h12 : w1.heap.size ≤ w2.heap.size := HBUT.out.size
    have h01 : w0.heap.size ≤ w1.heap.size := HB1.out.size
    have h23 : w2.heap.size ≤ w3.heap.size := HB3.out.size
    have hb02 : Below (rs + 1) w0 w2 := (HB1.out.mono (by omega)).trans (HBUT.out.below (by omega) (fun k hk h => by have h : w0.heap.size ≤ k := h; omega))
    have hb04 : Below (rs + 1) w0 w4 := (hb02.trans (HB3.out.mono (by omega))).trans (hb4.mono (by omega))
    have hn4 := (hb04.block rs (by omega)).trans HN0.out
    obtain ⟨u0, u1, u2, u3, u4, u5, u6⟩ := box7_of hn4
    have fu : ∀ j, w4.frozen? ⟨rs, j, none⟩ = false := fun j => frozen_of_row _ _ j _ _ hn4
    have HB4 := Lib.hid (HB0.out.trans (hb04.mono (by omega)))
    clear y0 y1 y2 y3 y4 y5 y6 z0 z1 z2 z3 z4 z5 z6 fz hn4 hb04 hb02 hb4 h12 h01 h23 hs0
    go_wp2_with fail
    refine bodyPost_ret (v := .tuple #[.agg #[.int .i64 4, .bool false, .slice none 0 0, .int .i64 0, .string (mk8 L), .slice none 0 0, .slice none 0 0], .int .i64 0]) (by simp [results, Tryz.results21, go_sem, u0, u1, u2, u3, u4, u5, u6]) rfl ?_
    refine ⟨_, rfl, ?_, below_seven HB4.out (Nat.le_refl _) _ _ _ _ _ _ _⟩
    have hms : (mk8 L).size ≤ 140737488355328 := by have := HLS.out; rw [mk8_size]; omega
    exact .mk (cs := fun _ => []) (Rd.nil _ _ _) (by omega) hms ⟨rfl, fun h0 => absurd h0 (by omega)⟩ (by omega) rfl (by omega) (Nat.le_refl _) (fun h0 => absurd h0 (by omega)) (fun i x hi => by simp at hi)
  have hk4 : (k2 == 4) = false := by simpa using h4
  by_cases h5 : k2 = 5
  · subst h5
    have hee : revE x = 0 := by unfold revE; rw [if_pos (.inr (.inr HXK.out))]
    have hyy : revY x = listV li2.reverse := by unfold revY; rw [if_neg (by rw [HXK.out]; decide), if_neg (by rw [HXK.out]; decide), if_pos HXK.out, HXL.out]
    have hbu := fun A n c W => buildLK A n c W
    rw [hee, hyy]
    clear hee hyy
    have hll := HLI.out.1
    have HCL := Lib.hid (cloneV_c (c := lc) w0 HLI.out HS.out bl)
    go_enter Tryz.func21, Tryz.ntmps21
    go_upto_region 1 with fail
    try rw [hrs]
    clear hrs
    rw [HW.out]
    go_wp2_with fail
    refine HCL.out.mono ?_
    rintro e9 w1 ⟨A', c', cs, rfl, hown, h7, hvv, hb1⟩
    have HRL := Lib.hid (reverseL_c (S := S) (N := w0.heap.size) w1 hll bl hown h7 (fun i y hy => (hvv i y hy).keep fun p hp => hb1.cell (HS.out _ hp)) HS.out)
    have HB1 := Lib.hid hb1
    clear hown h7 hvv hb1
    go_wp2_with fail
    refine HRL.out.mono ?_
    rintro e8 w2 ⟨rfl, hrd, hnc, hbut⟩
    have hs0 := HS0.out
    have h12 : w1.heap.size ≤ w2.heap.size := hbut.size
    have h01 : w0.heap.size ≤ w1.heap.size := HB1.out.size
    have hb02 : Below (rs + 1) w0 w2 := (HB1.out.mono (by omega)).trans (hbut.below (by omega) (fun k hk h => by have h : w0.heap.size ≤ k := h; omega))
    have hn2 := (hb02.block rs (by omega)).trans HN0.out
    obtain ⟨u0, u1, u2, u3, u4, u5, u6⟩ := box7_of hn2
    have fu : ∀ j, w2.frozen? ⟨rs, j, none⟩ = false := fun j => frozen_of_row _ _ j _ _ hn2
    have HB2 := Lib.hid (HB0.out.trans (hb02.mono (by omega)))
    have HVL := Lib.hid (listV_in hrd bl hnc)
    have HS02 := Lib.hid (show rs + 1 ≤ w2.heap.size by omega)
    clear y0 y1 y2 y3 y4 y5 y6 z0 z1 z2 z3 z4 z5 z6 fz hn2 hb02 hbut h12 h01 hs0 hrd hnc hll
    go_wp2_with fail
    refine bodyPost_ret (v := .tuple #[.agg #[.int .i64 5, .bool false, .slice none 0 0, .int .i64 0, .string ⟨#[]⟩, .slice A' ln c', .slice none 0 0], .int .i64 0]) (by simp [results, Tryz.results21, go_sem, u0, u1, u2, u3, u4, u5, u6]) rfl ?_
    refine ⟨_, rfl, (HVL.out.keep fun q hq => cell_seven ?_ _ _ _ _ _ _ _).more fun b hb => ?_, below_seven HB2.out (Nat.le_refl _) _ _ _ _ _ _ _⟩
    · rcases hq with h | h
      · have := HSR.out _ h; omega
      · have := HS0.out; omega
    · have h2 := HS02.out
      have h3 := HSR.out
      rcases hb with h | h
      · have := h3 b h; simp [World.setCell]; omega
      · simpa [World.setCell] using h.2
  · have hk5 : (k2 == 5) = false := by simpa using h5
    have hee : revE x = 41 := by unfold revE; rw [if_neg (by rw [HXK.out]; omega)]
    have hyy : revY x = VT0 := by unfold revY; rw [if_neg (by rw [HXK.out]; omega), if_neg (by rw [HXK.out]; omega), if_neg (by rw [HXK.out]; omega)]
    rw [hee, hyy]
    clear hee hyy
    go_enter Tryz.func21, Tryz.ntmps21
    go_upto_region 1 with fail
    try rw [hrs]
    clear hrs
    rw [HW.out]
    go_wp2_with fail
    refine bodyPost_ret (v := .tuple #[.agg #[.int .i64 0, .bool false, .slice none 0 0, .int .i64 0, .string ⟨#[]⟩, .slice none 0 0, .slice none 0 0], .int .i64 41]) (by simp [results, Tryz.results21, go_sem, z0, z1, z2, z3, z4, z5, z6]) rfl ?_
    exact ⟨_, rfl, vin_zero _ _, below_seven HB0.out (Nat.le_refl _) _ _ _ _ _ _ _⟩
end Go.Proofs.YtpmdcahomkdfmaaGreatDoor
