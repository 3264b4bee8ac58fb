/-
  The walk of the law KindsKeys: it returns true, whatever the value is.
-/
import Derived.Test.YtobfeneeehmpcaaGreatDoorYKfw
set_option linter.unusedVariables false
set_option linter.unusedSimpArgs false
namespace Go.Proofs.YtobfeneeehmpcaaGreatDoor
open Go.RowKit Go.Lib

/-- The keys of a value that has some. -/
def keysI (x : VT) : List VT := if x.kind = 6 then x.keys.map textK7 else (List.range x.list.length).map fun i : Nat => numT (i : Int)
def kkE (x : VT) : Nat := WoR (errV x) (keysE x) (keysY x)
def kkV (x : VT) : VT := WoV (errV x) (keysE x) (keysY x)
def llE (x : VT) : Nat := WoR (errV x) (lenE x) (lenY x)
def llV (x : VT) : VT := WoV (errV x) (lenE x) (lenY x)
theorem kk_bad {x : VT} (h : kkE x ≠ 0) : kkV x = VT0 := by unfold kkV WoV; exact if_neg h
theorem kk_good {x : VT} (h : kkE x = 0) : okV x ∧ (x.kind = 6 ∨ x.kind = 5) ∧ kkV x = listV (keysI x) ∧ (keysI x).length = x.list.length ∧ x.list.length ≤ 16383 ∧ llE x = 0 ∧ llV x = numT (x.list.length : Int) := by
  have hv : kkV x = keysY x := by unfold kkV WoV; exact if_pos h
  unfold kkE WoR at h
  split at h
  · exact absurd h (by assumption)
  rename_i h1
  split at h
  · exact absurd h (by assumption)
  rename_i h2
  have hok : okV x := show errV x = 0 by omega
  have hk : x.kind = 6 ∨ x.kind = 5 := by
    unfold keysE at h2
    split at h2
    · exact .inl (by assumption)
    · split at h2
      · exact .inr (by assumption)
      · exact absurd h2 (by decide)
  have hle : x.list.length ≤ 16383 := by
    have := under_ok hok
    have h3 := underL_len x.list
    have h4 : under x = underL x.list := by cases x; rfl
    omega
  have hy : keysY x = listV (keysI x) := by
    unfold keysY keysI
    rcases hk with h6 | h5
    · rw [if_pos h6, if_pos h6]
    · rw [if_neg (by omega), if_pos h5, if_neg (by omega)]
  have hl : (keysI x).length = x.list.length := by
    unfold keysI
    rcases hk with h6 | h5
    · rw [if_pos h6, List.length_map]; exact (keysK hok h6).2.1
    · rw [if_neg (by omega), List.length_map, List.length_range]
  have hE : lenE x = 0 ∧ lenY x = numT (x.list.length : Int) := by
    unfold lenE lenY
    rcases hk with h6 | h5
    · rw [if_neg (by omega), if_neg (by omega), if_neg (by omega), if_neg (by omega), if_pos h6, if_neg (by omega), if_neg (by omega), if_neg (by omega), if_neg (by omega), if_pos h6]; exact ⟨rfl, rfl⟩
    · rw [if_neg (by omega), if_neg (by omega), if_neg (by omega), if_pos h5, if_neg (by omega), if_neg (by omega), if_neg (by omega), if_pos h5]; exact ⟨rfl, rfl⟩
  have hll : llE x = 0 := by
    unfold llE WoR
    rw [hE.1, hE.2, if_neg (by rw [show errV x = 0 from hok]; omega), if_neg (by omega)]
    exact okNumK (by omega)
  refine ⟨hok, hk, hv.trans hy, hl, hle, hll, ?_⟩
  have : llV x = if llE x = 0 then lenY x else VT0 := rfl
  rw [this, if_pos hll, hE.2]
theorem vin_numK {w : World} {S : Nat → Prop} {i : Nat} {cs : List Value} (h : VIn w S (numT (i : Int)) cs) : ∃ A n c LA ln lc KA kn kc, cs = [.int .i64 3, .bool false, .slice A n c, .int .i64 (stX i 0), .string ⟨#[]⟩, .slice LA ln lc, .slice KA kn kc] := by
  rw [numT_natK] at h
  obtain ⟨A, n, c, LA, ln, lc, KA, kn, kc, rfl, -⟩ := h.parts
  exact ⟨_, _, _, _, _, _, _, _, _, rfl⟩
theorem vin_textK {w : World} {S : Nat → Prop} {s : ByteArray} {cs : List Value} (h : VIn w S (textK7 s) cs) : ∃ A n c LA ln lc KA kn kc, cs = [.int .i64 4, .bool false, .slice A n c, .int .i64 0, .string s, .slice LA ln lc, .slice KA kn kc] := by
  obtain ⟨A, n, c, LA, ln, lc, KA, kn, kc, rfl, -⟩ := h.parts
  exact ⟨_, _, _, _, _, _, _, _, _, rfl⟩
/-- A value has each of its keys. -/
theorem hasItem_c {S S' : Nat → Prop} {x item : VT} {cs ds : List Value} {i : Nat} (w : World) (hT : Tabs w) (hok : okV x) (hx : VIn w S x cs) (hS : ∀ b, S b → b < w.heap.size) (hS' : ∀ b, S' b → b < w.heap.size) (hk : x.kind = 6 ∨ x.kind = 5) (hi : (keysI x)[i]? = some item) (hle : x.list.length ≤ 16383) (hy : VIn w S' item ds) :
    Calls Tryz.prog 12 #[.agg cs.toArray, .agg ds.toArray] w fun e w' => e = .returned (.tuple #[.bool true, .int .i64 0]) ∧ Below w.heap.size w w' := by
  unfold keysI at hi
  rcases hk with h6 | h5
  · rw [if_pos h6, List.getElem?_map, Option.map_eq_some_iff] at hi
    obtain ⟨s, hs, rfl⟩ := hi
    obtain ⟨A, n, c, LA, ln, lc, KA, kn, kc, rfl⟩ := vin_textK hy
    exact hasO_c w hT hok hx hS hS' h6 hs hy
  · rw [if_neg (by omega), List.getElem?_map, Option.map_eq_some_iff] at hi
    obtain ⟨q, hq, rfl⟩ := hi
    have hql : q < x.list.length := List.mem_range.1 (List.mem_of_getElem? hq)
    obtain ⟨A, n, c, LA, ln, lc, KA, kn, kc, rfl⟩ := vin_numK hy
    have h := hasL_c (i := q) w hT hok hx hS hS' h5 (by omega) hy
    rw [decide_eq_true hql] at h
    exact h
/-- There is no key behind them. -/
theorem hasNone_c {S S' : Nat → Prop} {x : VT} {cs ds : List Value} (w : World) (hT : Tabs w) (hok : okV x) (hx : VIn w S x cs) (hS : ∀ b, S b → b < w.heap.size) (hS' : ∀ b, S' b → b < w.heap.size) (hk : x.kind = 6 ∨ x.kind = 5) (hle : x.list.length ≤ 16383) (hy : VIn w S' (numT (x.list.length : Int)) ds) :
    Calls Tryz.prog 12 #[.agg cs.toArray, .agg ds.toArray] w fun e w' => (∃ E : Nat, e = .returned (.tuple #[.bool false, .int .i64 (E : Int)]) ∧ (x.kind = 6 ∨ E = 0)) ∧ Below w.heap.size w w' := by
  obtain ⟨A, n, c, LA, ln, lc, KA, kn, kc, rfl⟩ := vin_numK hy
  rcases hk with h6 | h5
  · refine (hasE_c w hT hok hx hS hS' h6 (by omega) hy).mono ?_
    rintro e w' ⟨rfl, hb⟩
    exact ⟨⟨41, rfl, .inl h6⟩, hb⟩
  · have h := hasL_c (i := x.list.length) w hT hok hx hS hS' h5 (by omega) hy
    rw [decide_eq_false (by omega)] at h
    refine h.mono ?_
    rintro e w' ⟨rfl, hb⟩
    exact ⟨⟨0, rfl, .inr rfl⟩, hb⟩
set_option maxRecDepth 4000000 in
set_option maxHeartbeats 16000000 in
theorem kindsKeys_c {S : Nat → Prop} {x : VT} {cs : List Value} (w : World) (hT : Tabs w) (hx : VIn w S x cs) (hS : ∀ b, S b → b < w.heap.size) :
    Calls Tryz.prog 4 #[.agg cs.toArray] w fun e w' => e = .returned (.bool true) ∧ Below w.heap.size w w' := by
  obtain ⟨k0, neg0, A0, n0, c0, ex0, t0, LA0, ln0, lc0, KA0, kn0, kc0, rfl, hkx, hrl0⟩ := hx.seven
  have HLX := Lib.hid hrl0.1
  clear hrl0
  obtain ⟨b0, hb0e⟩ : ∃ b, w.heap.size = b := ⟨_, rfl⟩
  obtain ⟨w0, hw0⟩ : ∃ w0, w.alloc (.cells #[.int .i64 k0, .bool neg0, .slice A0 n0 c0, .int .i64 ex0, .string t0, .slice LA0 ln0 lc0, .slice KA0 kn0 kc0] 28) = w0 := ⟨_, rfl⟩
  have hb0 : Below b0 w w0 := by rw [← hw0]; exact (Below.refl b0 w).alloc (by omega) _
  have hm0 : w0.heap[b0]? = some (.cells #[.int .i64 k0, .bool neg0, .slice A0 n0 c0, .int .i64 ex0, .string t0, .slice LA0 ln0 lc0, .slice KA0 kn0 kc0] 28) := by rw [← hw0, ← hb0e]; exact World.alloc_heap_new _ _
  have hs0 : w0.heap.size = b0 + 1 := by rw [← hw0, World.size_alloc, hb0e]
  have hx0 := (hx.keep (w' := w0) fun p hp => hb0.cell (p := p) (by have := hS _ hp; omega)).more (S' := fun b => b < b0 + 1) fun b hb => by have := hS b hb; omega
  have hTx := fun W (h : Below b0 w W) => hT.below (hb0e ▸ h)
  have HT := Lib.hid hTx
  have HW0 := Lib.hid hw0
  have HB0 := Lib.hid hb0
  have HM0 := Lib.hid hm0
  have HX0 := Lib.hid hx0
  have HS0 := Lib.hid hs0
  have HKX := Lib.hid hkx
  rw [hb0e]
  clear hx hT hS hw0 hb0 hm0 hs0 hx0 hTx hkx
  go_enter Tryz.func4, Tryz.ntmps4
  go_wp2_with fail
  try rw [hb0e]
  clear hb0e
  rw [HW0.out]
  refine (alive12_c w0 (HT.out w0 HB0.out)).mono ?_
  rintro e9 v0 ⟨rfl, hb1⟩
  rw [HS0.out] at hb1
  have HBv0 := Lib.hid (HB0.out.trans (hb1.mono (by omega)))
  have HMv0_0 := Lib.hid ((hb1.block b0 (by omega)).trans HM0.out)
  have HXv0_0 := Lib.hid (HX0.out.keep (w' := v0) fun p hp => hb1.cell (p := p) hp)
  have hsv0 : b0 + 1 ≤ v0.heap.size := by have := hb1.size; rw [HS0.out] at this; exact this
  clear hb1
  obtain ⟨y0, y1, y2, y3, y4, y5, y6⟩ := box7_of HMv0_0.out
  have hc1 : Calls Tryz.prog 10 #[.agg #[.int .i64 k0, .bool neg0, .slice A0 n0 c0, .int .i64 ex0, .string t0, .slice LA0 ln0 lc0, .slice KA0 kn0 kc0]] v0 fun e w' => WoP (kkV x) (kkE x) v0.heap.size e w' ∧ Below v0.heap.size v0 w' := keysw_c v0 (HT.out v0 HBv0.out) HXv0_0.out (fun b hb => by omega)
  obtain ⟨V1, hV1⟩ : ∃ V, kkV x = V := ⟨_, rfl⟩
  obtain ⟨E1, hE1⟩ : ∃ E, kkE x = E := ⟨_, rfl⟩
  rw [hV1, hE1] at hc1
  have HC1 := Lib.hid hc1
  have HV1 := Lib.hid hV1
  have HE1 := Lib.hid hE1
  clear hc1 hV1 hE1
  go_wp2_with fail
  refine HC1.out.mono ?_
  rintro e9 u1 ⟨⟨cs1, rfl, hv1⟩, hb1⟩
  obtain ⟨k1, neg1, A1, n1, c1, ex1, t1, LA1, ln1, lc1, KA1, kn1, kc1, rfl, -, -⟩ := hv1.seven
  have hsu1 : v0.heap.size ≤ u1.heap.size := hb1.size
  obtain ⟨b1, hb1e⟩ : ∃ b, u1.heap.size = b := ⟨_, rfl⟩
  obtain ⟨v1, hw1⟩ : ∃ W, u1.alloc (.cells #[.int .i64 k1, .bool neg1, .slice A1 n1 c1, .int .i64 ex1, .string t1, .slice LA1 ln1 lc1, .slice KA1 kn1 kc1] 28) = W := ⟨_, rfl⟩
  have ha1 : Below b1 u1 v1 := by rw [← hw1]; exact (Below.refl _ u1).alloc (by omega) _
  have hsv1' : v1.heap.size = b1 + 1 := by rw [← hw1, World.size_alloc, hb1e]
  have hba1 : Below v0.heap.size v0 v1 := hb1.trans (ha1.mono (by omega))
  have HMv1_0 := Lib.hid ((hba1.block b0 (by omega)).trans HMv0_0.out)
  have HXv1_0 := Lib.hid (HXv0_0.out.keep (w' := v1) fun p hp => hba1.cell (p := p) (by have : p.block < b0 + 1 := hp; omega))
  have HMv1_1 := Lib.hid (show v1.heap[b1]? = some (.cells #[.int .i64 k1, .bool neg1, .slice A1 n1 c1, .int .i64 ex1, .string t1, .slice LA1 ln1 lc1, .slice KA1 kn1 kc1] 28) by rw [← hw1, ← hb1e]; exact World.alloc_heap_new _ _)
  have HXv1_1 := Lib.hid ((hv1.keep (w' := v1) fun p hp => ha1.cell (p := p) (by have := hp.2; omega)).more (S' := fun b => b < b1 + 1) fun b hb => by have := hb.2; omega)
  have HBv1 := Lib.hid (HBv0.out.trans (hba1.mono (by omega)))
  have hsv1 : b1 + 1 ≤ v1.heap.size := by omega
  have hbb1 : b0 + 1 ≤ b1 := by omega
  have HW1 := Lib.hid hw1
  clear hv1 hb1 ha1 hba1 hw1 hsu1 y0 y1 y2 y3 y4 y5 y6 HC1
  go_upto_region 4 with fail
  try rw [hb1e]
  clear hb1e
  rw [HW1.out]
  obtain ⟨y0, y1, y2, y3, y4, y5, y6⟩ := box7_of HMv1_0.out
  have hc2 : Calls Tryz.prog 11 #[.agg #[.int .i64 k0, .bool neg0, .slice A0 n0 c0, .int .i64 ex0, .string t0, .slice LA0 ln0 lc0, .slice KA0 kn0 kc0]] v1 fun e w' => WoP (llV x) (llE x) v1.heap.size e w' ∧ Below v1.heap.size v1 w' := length_c v1 (HT.out v1 HBv1.out) HXv1_0.out (fun b hb => by omega)
  obtain ⟨V2, hV2⟩ : ∃ V, llV x = V := ⟨_, rfl⟩
  obtain ⟨E2, hE2⟩ : ∃ E, llE x = E := ⟨_, rfl⟩
  rw [hV2, hE2] at hc2
  have HC2 := Lib.hid hc2
  have HV2 := Lib.hid hV2
  have HE2 := Lib.hid hE2
  clear hc2 hV2 hE2
  go_wp2_with fail
  refine HC2.out.mono ?_
  rintro e9 u2 ⟨⟨cs2, rfl, hv2⟩, hb2⟩
  obtain ⟨k2, neg2, A2, n2, c2, ex2, t2, LA2, ln2, lc2, KA2, kn2, kc2, rfl, -, -⟩ := hv2.seven
  have hsu2 : v1.heap.size ≤ u2.heap.size := hb2.size
  obtain ⟨b2, hb2e⟩ : ∃ b, u2.heap.size = b := ⟨_, rfl⟩
  obtain ⟨v2, hw2⟩ : ∃ W, u2.alloc (.cells #[.int .i64 k2, .bool neg2, .slice A2 n2 c2, .int .i64 ex2, .string t2, .slice LA2 ln2 lc2, .slice KA2 kn2 kc2] 28) = W := ⟨_, rfl⟩
  have ha2 : Below b2 u2 v2 := by rw [← hw2]; exact (Below.refl _ u2).alloc (by omega) _
  have hsv2' : v2.heap.size = b2 + 1 := by rw [← hw2, World.size_alloc, hb2e]
  have hba2 : Below v1.heap.size v1 v2 := hb2.trans (ha2.mono (by omega))
  have HMv2_0 := Lib.hid ((hba2.block b0 (by omega)).trans HMv1_0.out)
  have HXv2_0 := Lib.hid (HXv1_0.out.keep (w' := v2) fun p hp => hba2.cell (p := p) (by have : p.block < b0 + 1 := hp; omega))
  have HMv2_1 := Lib.hid ((hba2.block b1 (by omega)).trans HMv1_1.out)
  have HXv2_1 := Lib.hid (HXv1_1.out.keep (w' := v2) fun p hp => hba2.cell (p := p) (by have : p.block < b1 + 1 := hp; omega))
  have HMv2_2 := Lib.hid (show v2.heap[b2]? = some (.cells #[.int .i64 k2, .bool neg2, .slice A2 n2 c2, .int .i64 ex2, .string t2, .slice LA2 ln2 lc2, .slice KA2 kn2 kc2] 28) by rw [← hw2, ← hb2e]; exact World.alloc_heap_new _ _)
  have HXv2_2 := Lib.hid ((hv2.keep (w' := v2) fun p hp => ha2.cell (p := p) (by have := hp.2; omega)).more (S' := fun b => b < b2 + 1) fun b hb => by have := hb.2; omega)
  have HBv2 := Lib.hid (HBv1.out.trans (hba2.mono (by omega)))
  have hsv2 : b2 + 1 ≤ v2.heap.size := by omega
  have hbb2 : b1 + 1 ≤ b2 := by omega
  have HW2 := Lib.hid hw2
  clear hv2 hb2 ha2 hba2 hw2 hsu2 y0 y1 y2 y3 y4 y5 y6 HC2
  go_upto_region 5 with fail
  try rw [hb2e]
  clear hb2e
  rw [HW2.out]
  by_cases hbad : E1 = 0
  case neg =>
    have hE1b : ((E1 : Int) == 0) = false := by rw [beq_eq_false_iff_ne]; omega
    have hV1 : V1 = VT0 := by rw [← HV1.out]; exact kk_bad (by rw [HE1.out]; exact hbad)
    have hx1 := HXv2_1.out
    rw [hV1] at hx1
    have hl0 := vin0_ln hx1
    subst hl0
    obtain ⟨y0, y1, y2, y3, y4, y5, y6⟩ := box7_of HMv2_1.out
    go_wp2_with (go_at_call 7; refine (lnum12_c _ _).mono ?_; rintro e w' ⟨rfl, rfl⟩)
    go_ret
    exact ⟨rfl, HBv2.out⟩
  obtain ⟨g1, g2, g3, g4, g5, g6, g7⟩ := kk_good (HE1.out.trans hbad)
  have hV1 : V1 = listV (keysI x) := by rw [← HV1.out]; exact g3
  have hE2 : E2 = 0 := by rw [← HE2.out]; exact g6
  have hV2 : V2 = numT (x.list.length : Int) := by rw [← HV2.out]; exact g7
  subst hbad hE2
  have hx1 := HXv2_1.out
  rw [hV1] at hx1
  have hli := vin_listK hx1
  have hln1 : ln1 = x.list.length := by rw [← hli.1]; exact g4
  have hx2 := HXv2_2.out
  rw [hV2] at hx2
  have HLI := Lib.hid hli
  have HX2 := Lib.hid hx2
  have G1 := Lib.hid g1
  have G2 := Lib.hid g2
  have HL1 := Lib.hid hln1
  clear hx1 hli hx2 hV1 hV2 g1 g2 g3 g4 g6 g7
  have hln16 : ln1 ≤ 16383 := by rw [hln1]; exact g5
  clear hln1
  obtain ⟨q0, q1, q2, q3, q4, q5, q6⟩ := box7_of HMv2_1.out
  go_upto_region 5 with fail
  go_wp2_with (go_at_call 7; refine (lnum12_c _ _).mono ?_; rintro e w' ⟨rfl, rfl⟩)
  clear q0 q1 q2 q3 q4 q5 q6
  go_loopw [7] (fun iv wr => ∃ i : Nat, i ≤ ln1 ∧ iv = .int .i64 (i : Int) ∧ Hid (Below (b2 + 1) v2 wr)) (fun iv _ => ln1 - (RowKit.intOf iv).toNat)
  case atStart => exact ⟨0, Nat.zero_le _, rfl, Below.refl _ _⟩
  case round =>
    obtain ⟨i, hin, rfl, HBR⟩ := hrel
    have hmr0 := (HBR.out.block b0 (by omega)).trans HMv2_0.out
    have hmr1 := (HBR.out.block b1 (by omega)).trans HMv2_1.out
    have hmr2 := (HBR.out.block b2 (by omega)).trans HMv2_2.out
    have hbw : Below b0 w wr := HBv2.out.trans (HBR.out.mono (by omega))
    have hsw : b2 + 1 ≤ wr.heap.size := by have := HBR.out.size; omega
    have HXr := Lib.hid (HXv2_0.out.keep (w' := wr) fun p hp => HBR.out.cell (p := p) (by have : p.block < b0 + 1 := hp; omega))
    have HLr := Lib.hid (HLI.out.keep (w' := wr) fun p hp => HBR.out.cell (p := p) (by have : p.block < b1 + 1 := hp; omega))
    have HMr0 := Lib.hid hmr0
    have HMr1 := Lib.hid hmr1
    have HMr2 := Lib.hid hmr2
    have HBW := Lib.hid hbw
    obtain ⟨y0, y1, y2, y3, y4, y5, y6⟩ := box7_of hmr0
    obtain ⟨q0, q1, q2, q3, q4, q5, q6⟩ := box7_of hmr1
    clear hmr0 hmr1 hmr2 hbw
    by_cases hi : i < ln1
    · have hilt : (i : Int) < (ln1 : Int) := by omega
      have hi0 : (0 : Int) ≤ (i : Int) := by omega
      have hit : ((i : Int)).toNat = i := by omega
      have hiw : IntKind.i64.wrap ((i : Int) + 1) = ((i + 1 : Nat) : Int) := by rw [IntWalk.i64_in _ (by omega)]; omega
      obtain ⟨eb, off, item, csi, rfl, hSb, hit2, h7, hcells, hvi⟩ := HLr.out.at_ hi
      obtain ⟨k3, neg3, A3, n3, c3, ex3, t3, LA3, ln3, lc3, KA3, kn3, kc3, rfl, -, -⟩ := hvi.seven
      have hSb : eb < b1 + 1 := hSb
      have hcw : ∀ a, a < 7 → wr.cell? ⟨eb, off + (i * 7 + a), none⟩ = _ := fun a ha => hcells a ha
      have d0 : wr.cell? ⟨eb, off + i * 7, none⟩ = some (.int .i64 k3) := hcw 0 (by omega)
      have d1 : wr.cell? ⟨eb, off + i * 7 + 1, none⟩ = some (.bool neg3) := hcw 1 (by omega)
      have d2 : wr.cell? ⟨eb, off + i * 7 + 2, none⟩ = some (.slice A3 n3 c3) := hcw 2 (by omega)
      have d3 : wr.cell? ⟨eb, off + i * 7 + 3, none⟩ = some (.int .i64 ex3) := hcw 3 (by omega)
      have d4 : wr.cell? ⟨eb, off + i * 7 + 4, none⟩ = some (.string t3) := hcw 4 (by omega)
      have d5 : wr.cell? ⟨eb, off + i * 7 + 5, none⟩ = some (.slice LA3 ln3 lc3) := hcw 5 (by omega)
      have d6 : wr.cell? ⟨eb, off + i * 7 + 6, none⟩ = some (.slice KA3 kn3 kc3) := hcw 6 (by omega)
      have hha := hasItem_c wr.drew ((HT.out wr HBW.out).below ((But.refl (fun _ => False) wr).drew.below (B := wr.heap.size) (Nat.le_refl _) (fun _ _ h => h))) G1.out (HXr.out.keep (w' := wr.drew) fun p hp => rfl) (S := fun b => b < b0 + 1) (fun b hb => by show b < wr.heap.size; omega) (S' := fun b => b < b1 + 1) (fun b hb => by show b < wr.heap.size; omega) G2.out hit2 g5 (hvi.keep (w' := wr.drew) fun p hp => rfl)
      have HHA := Lib.hid hha
      clear hcw hcells hit2 h7 hvi hha
      go_upto_region 10 with fail
      refine wp_region_held_drew (S := fun V => V.cell? ⟨b0, 0, none⟩ = some (.int .i64 k0) ∧ V.cell? ⟨b0, 1, none⟩ = some (.bool neg0) ∧ V.cell? ⟨b0, 2, none⟩ = some (.slice A0 n0 c0) ∧ V.cell? ⟨b0, 3, none⟩ = some (.int .i64 ex0) ∧ V.cell? ⟨b0, 4, none⟩ = some (.string t0) ∧ V.cell? ⟨b0, 5, none⟩ = some (.slice LA0 ln0 lc0) ∧ V.cell? ⟨b0, 6, none⟩ = some (.slice KA0 kn0 kc0) ∧ V.cell? ⟨b1, 5, none⟩ = some (.slice (some ⟨eb, off, none⟩) ln1 lc1) ∧ V.cell? ⟨eb, off + i * 7, none⟩ = some (.int .i64 k3) ∧ V.cell? ⟨eb, off + i * 7 + 1, none⟩ = some (.bool neg3) ∧ V.cell? ⟨eb, off + i * 7 + 2, none⟩ = some (.slice A3 n3 c3) ∧ V.cell? ⟨eb, off + i * 7 + 3, none⟩ = some (.int .i64 ex3) ∧ V.cell? ⟨eb, off + i * 7 + 4, none⟩ = some (.string t3) ∧ V.cell? ⟨eb, off + i * 7 + 5, none⟩ = some (.slice LA3 ln3 lc3) ∧ V.cell? ⟨eb, off + i * 7 + 6, none⟩ = some (.slice KA3 kn3 kc3)) (by kernel_rfl) ⟨y0, y1, y2, y3, y4, y5, y6, q5, d0, d1, d2, d3, d4, d5, d6⟩ (fun hHeld => ?_)
      (try simp only [List.size_toArray, List.length_cons, List.length_nil, Nat.reduceAdd, Array.replicate_succ, Array.replicate_zero, List.push_toArray, List.append_toArray, List.nil_append, List.cons_append])
      refine wpAnyH_take (i := 0) (oi := ⟨_, _, _, _, _, _⟩) (v := ?_) rfl (by kernel_rfl) (by kernel_rfl) (by kernel_rfl) (fun _ _ _ h => h) (Or.inl ⟨by rfl, ?_⟩) (by assumption) ?_
      rotate_left
      · intro w hSw
        (try dsimp only at hSw)
        go_split_ands
        go_simp
        try with_reducible rfl
      try simp only [Act.put, List.setIfInBounds_toArray, List.set_cons_zero, List.set_cons_succ]
      refine wpAnyH_take (i := 1) (oi := ⟨_, _, _, _, _, _⟩) (v := ?_) rfl (by kernel_rfl) (by kernel_rfl) (by kernel_rfl) (fun _ _ _ h => h) (Or.inl ⟨by rfl, ?_⟩) (by assumption) ?_
      rotate_left
      · intro w hSw
        (try dsimp only at hSw)
        go_split_ands
        go_simp
        try with_reducible rfl
      try simp only [Act.put, List.setIfInBounds_toArray, List.set_cons_zero, List.set_cons_succ]
      refine wpAnyH_take (i := 2) (oi := ⟨_, _, _, _, _, _⟩) (v := ?_) rfl (by kernel_rfl) (by kernel_rfl) (by kernel_rfl) (fun _ _ _ h => h) (Or.inl ⟨by rfl, ?_⟩) (by assumption) ?_
      rotate_left
      · intro w hSw
        (try dsimp only at hSw)
        go_split_ands
        go_simp
        try with_reducible rfl
      try simp only [Act.put, List.setIfInBounds_toArray, List.set_cons_zero, List.set_cons_succ]
      refine wpAnyH_take (i := 3) (oi := ⟨_, _, _, _, _, _⟩) (v := ?_) rfl (by kernel_rfl) (by kernel_rfl) (by kernel_rfl) (fun _ _ _ h => h) (Or.inl ⟨by rfl, ?_⟩) (by assumption) ?_
      rotate_left
      · intro w hSw
        (try dsimp only at hSw)
        go_split_ands
        go_simp
        try with_reducible rfl
      try simp only [Act.put, List.setIfInBounds_toArray, List.set_cons_zero, List.set_cons_succ]
      refine wpAnyH_take (i := 4) (oi := ⟨_, _, _, _, _, _⟩) (v := ?_) rfl (by kernel_rfl) (by kernel_rfl) (by kernel_rfl) (fun _ _ _ h => h) (Or.inl ⟨by rfl, ?_⟩) (by assumption) ?_
      rotate_left
      · intro w hSw
        (try dsimp only at hSw)
        go_split_ands
        go_simp
        try with_reducible rfl
      try simp only [Act.put, List.setIfInBounds_toArray, List.set_cons_zero, List.set_cons_succ]
      refine wpAnyH_take (i := 5) (oi := ⟨_, _, _, _, _, _⟩) (v := ?_) rfl (by kernel_rfl) (by kernel_rfl) (by kernel_rfl) (fun _ _ _ h => h) (Or.inl ⟨by rfl, ?_⟩) (by assumption) ?_
      rotate_left
      · intro w hSw
        (try dsimp only at hSw)
        go_split_ands
        go_simp
        try with_reducible rfl
      try simp only [Act.put, List.setIfInBounds_toArray, List.set_cons_zero, List.set_cons_succ]
      refine wpAnyH_ready (rs := [6]) (by kernel_rfl) (by simp) (AllReadyH.cons (o := ⟨_, _, _, _, _, _⟩) rfl (fun K hK => ?_) AllReadyH.nil)
      go_simp
      refine HHA.out.mono ?_
      rintro e9 w6 ⟨rfl, hb6⟩
      (try dsimp only)
      have hb6' : Below wr.heap.size wr w6 := ⟨hb6.os, hb6.tape, hb6.output, hb6.size, hb6.block⟩
      have k0 := fun (p : Addr) (h : p.block < wr.heap.size) => hb6'.cell (p := p) h
      refine hK _ _ ⟨(k0 ⟨b0, 0, none⟩ (by show b0 < _; omega)).trans y0, (k0 ⟨b0, 1, none⟩ (by show b0 < _; omega)).trans y1, (k0 ⟨b0, 2, none⟩ (by show b0 < _; omega)).trans y2, (k0 ⟨b0, 3, none⟩ (by show b0 < _; omega)).trans y3, (k0 ⟨b0, 4, none⟩ (by show b0 < _; omega)).trans y4, (k0 ⟨b0, 5, none⟩ (by show b0 < _; omega)).trans y5, (k0 ⟨b0, 6, none⟩ (by show b0 < _; omega)).trans y6, (k0 ⟨b1, 5, none⟩ (by show b1 < _; omega)).trans q5, (k0 ⟨eb, off + i * 7, none⟩ (by show eb < _; omega)).trans d0, (k0 ⟨eb, off + i * 7 + 1, none⟩ (by show eb < _; omega)).trans d1, (k0 ⟨eb, off + i * 7 + 2, none⟩ (by show eb < _; omega)).trans d2, (k0 ⟨eb, off + i * 7 + 3, none⟩ (by show eb < _; omega)).trans d3, (k0 ⟨eb, off + i * 7 + 4, none⟩ (by show eb < _; omega)).trans d4, (k0 ⟨eb, off + i * 7 + 5, none⟩ (by show eb < _; omega)).trans d5, (k0 ⟨eb, off + i * 7 + 6, none⟩ (by show eb < _; omega)).trans d6⟩ (fun hHeld2 => ?_)
      have HB6 := Lib.hid (HBR.out.trans (hb6'.mono hsw))
      clear hK K hb6 hb6' k0
      try simp only [Act.put, List.setIfInBounds_toArray, List.set_cons_zero, List.set_cons_succ]
      refine wpAnyH_take (i := 7) (oi := ⟨_, _, _, _, _, _⟩) (v := ?_) rfl (by kernel_rfl) (by kernel_rfl) (by kernel_rfl) (fun _ _ _ h => h) (Or.inl ⟨by rfl, ?_⟩) (by assumption) ?_
      rotate_left
      · intro w hSw
        (try dsimp only at hSw)
        go_split_ands
        go_simp
        try with_reducible rfl
      try simp only [Act.put, List.setIfInBounds_toArray, List.set_cons_zero, List.set_cons_succ]
      refine wpAnyH_take (i := 8) (oi := ⟨_, _, _, _, _, _⟩) (v := ?_) rfl (by kernel_rfl) (by kernel_rfl) (by kernel_rfl) (fun _ _ _ h => h) (Or.inl ⟨by rfl, ?_⟩) (by assumption) ?_
      rotate_left
      · intro w hSw
        (try dsimp only at hSw)
        go_split_ands
        go_simp
        try with_reducible rfl
      try simp only [Act.put, List.setIfInBounds_toArray, List.set_cons_zero, List.set_cons_succ]
      refine wpAnyH_take (i := 9) (oi := ⟨_, _, _, _, _, _⟩) (v := ?_) rfl (by kernel_rfl) (by kernel_rfl) (by kernel_rfl) (fun _ _ _ h => h) (Or.inl ⟨by rfl, ?_⟩) (by assumption) ?_
      rotate_left
      · intro w hSw
        (try dsimp only at hSw)
        go_split_ands
        go_simp
        try with_reducible rfl
      try simp only [Act.put, List.setIfInBounds_toArray, List.set_cons_zero, List.set_cons_succ]
      refine wpAnyH_take (i := 10) (oi := ⟨_, _, _, _, _, _⟩) (v := ?_) rfl (by kernel_rfl) (by kernel_rfl) (by kernel_rfl) (fun _ _ _ h => h) (Or.inl ⟨by rfl, ?_⟩) (by assumption) ?_
      rotate_left
      · intro w hSw
        (try dsimp only at hSw)
        go_split_ands
        go_simp
        try with_reducible rfl
      try simp only [Act.put, List.setIfInBounds_toArray, List.set_cons_zero, List.set_cons_succ]
      refine wpAnyH_take (i := 11) (oi := ⟨_, _, _, _, _, _⟩) (v := ?_) rfl (by kernel_rfl) (by kernel_rfl) (by kernel_rfl) (fun _ _ _ h => h) (Or.inl ⟨by rfl, ?_⟩) (by assumption) ?_
      rotate_left
      · intro w hSw
        (try dsimp only at hSw)
        go_split_ands
        go_simp
        try with_reducible rfl
      try simp only [Act.put, List.setIfInBounds_toArray, List.set_cons_zero, List.set_cons_succ]
      refine wpAnyH_done (by kernel_rfl) ?_ _
      clear hHeld hHeld2 y0 y1 y2 y3 y4 y5 y6 q0 q1 q2 q3 q4 q5 q6 d0 d1 d2 d3 d4 d5 d6
      go_wp2_with (go_at_call 7; refine (lnum12_c _ _).mono ?_; rintro e w' ⟨rfl, rfl⟩)
      go_roundw
      case rel => exact ⟨i + 1, by omega, by go_num, HB6.out⟩
      case measure => simp [RowKit.intOf]; omega
    · have hni : ¬ (i : Int) < (ln1 : Int) := by omega
      go_upto_region 13 with fail
      clear q0 q1 q2 q3 q4 q5 q6
      have hl0 : ln0 ≤ 16383 := by rw [← HLX.out]; exact g5
      refine wp_region_held_drew (S := fun V => V.cell? ⟨b0, 0, none⟩ = some (.int .i64 k0) ∧ V.cell? ⟨b0, 1, none⟩ = some (.bool neg0) ∧ V.cell? ⟨b0, 2, none⟩ = some (.slice A0 n0 c0) ∧ V.cell? ⟨b0, 3, none⟩ = some (.int .i64 ex0) ∧ V.cell? ⟨b0, 4, none⟩ = some (.string t0) ∧ V.cell? ⟨b0, 5, none⟩ = some (.slice LA0 ln0 lc0) ∧ V.cell? ⟨b0, 6, none⟩ = some (.slice KA0 kn0 kc0)) (by kernel_rfl) ⟨y0, y1, y2, y3, y4, y5, y6⟩ (fun hHeld => ?_)
      (try simp only [List.size_toArray, List.length_cons, List.length_nil, Nat.reduceAdd, Array.replicate_succ, Array.replicate_zero, List.push_toArray, List.append_toArray, List.nil_append, List.cons_append])
      refine wpAnyH_take (i := 0) (oi := ⟨_, _, _, _, _, _⟩) (v := ?_) rfl (by kernel_rfl) (by kernel_rfl) (by kernel_rfl) (fun _ _ _ h => h) (Or.inl ⟨by rfl, ?_⟩) (by assumption) ?_
      rotate_left
      · intro w hSw
        (try dsimp only at hSw)
        go_split_ands
        go_simp
        try with_reducible rfl
      try simp only [Act.put, List.setIfInBounds_toArray, List.set_cons_zero, List.set_cons_succ]
      refine wpAnyH_take (i := 1) (oi := ⟨_, _, _, _, _, _⟩) (v := ?_) rfl (by kernel_rfl) (by kernel_rfl) (by kernel_rfl) (fun _ _ _ h => h) (Or.inl ⟨by rfl, ?_⟩) (by assumption) ?_
      rotate_left
      · intro w hSw
        (try dsimp only at hSw)
        go_split_ands
        go_simp
        try with_reducible rfl
      try simp only [Act.put, List.setIfInBounds_toArray, List.set_cons_zero, List.set_cons_succ]
      refine wpAnyH_take (i := 2) (oi := ⟨_, _, _, _, _, _⟩) (v := ?_) rfl (by kernel_rfl) (by kernel_rfl) (by kernel_rfl) (fun _ _ _ h => h) (Or.inl ⟨by rfl, ?_⟩) (by assumption) ?_
      rotate_left
      · intro w hSw
        (try dsimp only at hSw)
        go_split_ands
        go_simp
        try with_reducible rfl
      try simp only [Act.put, List.setIfInBounds_toArray, List.set_cons_zero, List.set_cons_succ]
      refine wpAnyH_take (i := 3) (oi := ⟨_, _, _, _, _, _⟩) (v := ?_) rfl (by kernel_rfl) (by kernel_rfl) (by kernel_rfl) (fun _ _ _ h => h) (Or.inl ⟨by rfl, ?_⟩) (by assumption) ?_
      rotate_left
      · intro w hSw
        (try dsimp only at hSw)
        go_split_ands
        go_simp
        try with_reducible rfl
      try simp only [Act.put, List.setIfInBounds_toArray, List.set_cons_zero, List.set_cons_succ]
      refine wpAnyH_ready (rs := [4]) (by kernel_rfl) (by simp) (AllReadyH.cons (o := ⟨_, _, _, _, _, _⟩) rfl (fun K hK => ?_) AllReadyH.nil)
      go_simp
      refine (rnum_c _ (ln0 : Int) (by omega) (by omega) (numT_lenK _)).mono ?_
      rintro e9 w5 ⟨cs5, rfl, hv5, hb5'⟩
      (try dsimp only)
      have hb5 : Below wr.heap.size wr w5 := ⟨hb5'.os, hb5'.tape, hb5'.output, hb5'.size, hb5'.block⟩
      have hs5 : wr.heap.size ≤ w5.heap.size := hb5.size
      have hv5' : VIn w5 (Own' wr.heap.size w5) (numT (x.list.length : Int)) cs5 := by rw [HLX.out]; exact hv5
      obtain ⟨k5, neg5, A5, n5, c5, ex5, t5, LA5, ln5, lc5, KA5, kn5, kc5, rfl, -, -⟩ := hv5'.seven
      have HHN := Lib.hid (hasNone_c w5 (HT.out w5 (HBW.out.trans (hb5.mono (by omega)))) G1.out (HXr.out.keep (w' := w5) fun p hp => hb5.cell (p := p) (by have : p.block < b0 + 1 := hp; omega)) (S := fun b => b < b0 + 1) (fun b hb => by show b < w5.heap.size; omega) (fun b hb => hb.2) G2.out g5 hv5')
      have kp := fun (p : Addr) (h : p.block < wr.heap.size) => hb5.cell (p := p) h
      refine hK _ _ ⟨(kp ⟨b0, 0, none⟩ (by show b0 < _; omega)).trans y0, (kp ⟨b0, 1, none⟩ (by show b0 < _; omega)).trans y1, (kp ⟨b0, 2, none⟩ (by show b0 < _; omega)).trans y2, (kp ⟨b0, 3, none⟩ (by show b0 < _; omega)).trans y3, (kp ⟨b0, 4, none⟩ (by show b0 < _; omega)).trans y4, (kp ⟨b0, 5, none⟩ (by show b0 < _; omega)).trans y5, (kp ⟨b0, 6, none⟩ (by show b0 < _; omega)).trans y6⟩ (fun hHeld2 => ?_)
      have HB5 := Lib.hid (HBR.out.trans (hb5.mono hsw))
      have z0 : w5.heap[b0]? = _ := (HB5.out.block b0 (by omega)).trans HMv2_0.out
      clear hK K hb5' hb5 hv5 hv5' kp
      try simp only [Act.put, List.setIfInBounds_toArray, List.set_cons_zero, List.set_cons_succ]
      refine wpAnyH_ready (rs := [5]) (by kernel_rfl) (by simp) (AllReadyH.cons (o := ⟨_, _, _, _, _, _⟩) rfl (fun K hK => ?_) AllReadyH.nil)
      go_simp
      refine HHN.out.mono ?_
      rintro e9 w6 ⟨⟨E3, rfl, hor⟩, hb6⟩
      (try dsimp only)
      have HB6 := Lib.hid (HB5.out.trans (hb6.mono (by omega)))
      have hs6 : b2 + 1 ≤ w6.heap.size := by have := hb6.size; omega
      have x0 := (HB6.out.block b0 (by omega)).trans HMv2_0.out
      have x1 := (HB6.out.block b1 (by omega)).trans HMv2_1.out
      have x2 := (HB6.out.block b2 (by omega)).trans HMv2_2.out
      have HX6 := Lib.hid (HX2.out.keep (w' := w6) fun p hp => HB6.out.cell (p := p) (by have : p.block < b2 + 1 := hp; omega))
      clear y0 y1 y2 y3 y4 y5 y6
      obtain ⟨y0, y1, y2, y3, y4, y5, y6⟩ := box7_of x0
      obtain ⟨q0, q1, q2, q3, q4, q5, q6⟩ := box7_of x1
      obtain ⟨d0, d1, d2, d3, d4, d5, d6⟩ := box7_of x2
      refine hK _ _ ⟨y0, y1, y2, y3, y4, y5, y6⟩ (fun hHeld3 => ?_)
      clear hK K hb6 x0 x1 x2 z0 HHN
      try simp only [Act.put, List.setIfInBounds_toArray, List.set_cons_zero, List.set_cons_succ]
      refine wpAnyH_take (i := 6) (oi := ⟨_, _, _, _, _, _⟩) (v := ?_) rfl (by kernel_rfl) (by kernel_rfl) (by kernel_rfl) (fun _ _ _ h => h) (Or.inl ⟨by rfl, ?_⟩) (by assumption) ?_
      rotate_left
      · intro w hSw
        (try dsimp only at hSw)
        go_split_ands
        go_simp
        try with_reducible rfl
      try simp only [Act.put, List.setIfInBounds_toArray, List.set_cons_zero, List.set_cons_succ]
      refine wpAnyH_take (i := 7) (oi := ⟨_, _, _, _, _, _⟩) (v := ?_) rfl (by kernel_rfl) (by kernel_rfl) (by kernel_rfl) (fun _ _ _ h => h) (Or.inl ⟨by rfl, ?_⟩) (by assumption) ?_
      rotate_left
      · intro w hSw
        (try dsimp only at hSw)
        go_split_ands
        go_simp
        try with_reducible rfl
      try simp only [Act.put, List.setIfInBounds_toArray, List.set_cons_zero, List.set_cons_succ]
      refine wpAnyH_take (i := 8) (oi := ⟨_, _, _, _, _, _⟩) (v := ?_) rfl (by kernel_rfl) (by kernel_rfl) (by kernel_rfl) (fun _ _ _ h => h) (Or.inl ⟨by rfl, ?_⟩) (by assumption) ?_
      rotate_left
      · intro w hSw
        (try dsimp only at hSw)
        go_split_ands
        go_simp
        try with_reducible rfl
      try simp only [Act.put, List.setIfInBounds_toArray, List.set_cons_zero, List.set_cons_succ]
      refine wpAnyH_take (i := 9) (oi := ⟨_, _, _, _, _, _⟩) (v := ?_) rfl (by kernel_rfl) (by kernel_rfl) (by kernel_rfl) (fun _ _ _ h => h) (Or.inl ⟨by rfl, ?_⟩) (by assumption) ?_
      rotate_left
      · intro w hSw
        (try dsimp only at hSw)
        go_split_ands
        go_simp
        try with_reducible rfl
      try simp only [Act.put, List.setIfInBounds_toArray, List.set_cons_zero, List.set_cons_succ]
      refine wpAnyH_take (i := 10) (oi := ⟨_, _, _, _, _, _⟩) (v := ?_) rfl (by kernel_rfl) (by kernel_rfl) (by kernel_rfl) (fun _ _ _ h => h) (Or.inl ⟨by rfl, ?_⟩) (by assumption) ?_
      rotate_left
      · intro w hSw
        (try dsimp only at hSw)
        go_split_ands
        go_simp
        try with_reducible rfl
      try simp only [Act.put, List.setIfInBounds_toArray, List.set_cons_zero, List.set_cons_succ]
      refine wpAnyH_done (by kernel_rfl) ?_ _
      clear hHeld hHeld2 hHeld3
      have hk6 : k0 = 6 ∨ k0 = 5 ∧ E3 = 0 := by
        have h1 := HKX.out
        have h2 := G2.out
        rcases hor with h | h <;> omega
      have HNL := Lib.hid (show (ln1 : Int) = (x.list.length : Int) by have := HL1.out; omega)
      clear hor
      rcases hk6 with hk6 | hk6
      · subst hk6
        go_upto_region 14 with fail
        refine wp_region_held_drew (S := fun V => V.cell? ⟨b0, 0, none⟩ = some (.int .i64 6) ∧ V.cell? ⟨b1, 5, none⟩ = some (.slice LA1 ln1 lc1) ∧ V.cell? ⟨b2, 0, none⟩ = some (.int .i64 k2) ∧ V.cell? ⟨b2, 1, none⟩ = some (.bool neg2) ∧ V.cell? ⟨b2, 2, none⟩ = some (.slice A2 n2 c2) ∧ V.cell? ⟨b2, 3, none⟩ = some (.int .i64 ex2) ∧ V.cell? ⟨b2, 4, none⟩ = some (.string t2) ∧ V.cell? ⟨b2, 5, none⟩ = some (.slice LA2 ln2 lc2) ∧ V.cell? ⟨b2, 6, none⟩ = some (.slice KA2 kn2 kc2)) (by kernel_rfl) ⟨y0, q5, d0, d1, d2, d3, d4, d5, d6⟩ (fun hHeld => ?_)
        (try simp only [List.size_toArray, List.length_cons, List.length_nil, Nat.reduceAdd, Array.replicate_succ, Array.replicate_zero, List.push_toArray, List.append_toArray, List.nil_append, List.cons_append])
        refine wpAnyH_take (i := 0) (oi := ⟨_, _, _, _, _, _⟩) (v := ?_) rfl (by kernel_rfl) (by kernel_rfl) (by kernel_rfl) (fun _ _ _ h => h) (Or.inl ⟨by rfl, ?_⟩) (by assumption) ?_
        rotate_left
        · intro w hSw
          (try dsimp only at hSw)
          go_split_ands
          go_simp
          try with_reducible rfl
        try simp only [Act.put, List.setIfInBounds_toArray, List.set_cons_zero, List.set_cons_succ]
        refine wpAnyH_ready (rs := [1]) (by kernel_rfl) (by simp) (AllReadyH.cons (o := ⟨_, _, _, _, _, _⟩) rfl (fun K hK => ?_) AllReadyH.nil)
        go_simp
        refine (lnum12_c _ _).mono ?_
        rintro e9 w' ⟨rfl, rfl⟩
        (try dsimp only)
        refine hK _ _ ⟨y0, q5, d0, d1, d2, d3, d4, d5, d6⟩ (fun hHeld4 => ?_)
        clear hK K
        try simp only [Act.put, List.setIfInBounds_toArray, List.set_cons_zero, List.set_cons_succ]
        refine wpAnyH_take (i := 2) (oi := ⟨_, _, _, _, _, _⟩) (v := ?_) rfl (by kernel_rfl) (by kernel_rfl) (by kernel_rfl) (fun _ _ _ h => h) (Or.inl ⟨by rfl, ?_⟩) (by assumption) ?_
        rotate_left
        · intro w hSw
          (try dsimp only at hSw)
          go_split_ands
          go_simp
          try with_reducible rfl
        try simp only [Act.put, List.setIfInBounds_toArray, List.set_cons_zero, List.set_cons_succ]
        refine wpAnyH_take (i := 3) (oi := ⟨_, _, _, _, _, _⟩) (v := ?_) rfl (by kernel_rfl) (by kernel_rfl) (by kernel_rfl) (fun _ _ _ h => h) (Or.inl ⟨by rfl, ?_⟩) (by assumption) ?_
        rotate_left
        · intro w hSw
          (try dsimp only at hSw)
          go_split_ands
          go_simp
          try with_reducible rfl
        try simp only [Act.put, List.setIfInBounds_toArray, List.set_cons_zero, List.set_cons_succ]
        refine wpAnyH_take (i := 4) (oi := ⟨_, _, _, _, _, _⟩) (v := ?_) rfl (by kernel_rfl) (by kernel_rfl) (by kernel_rfl) (fun _ _ _ h => h) (Or.inl ⟨by rfl, ?_⟩) (by assumption) ?_
        rotate_left
        · intro w hSw
          (try dsimp only at hSw)
          go_split_ands
          go_simp
          try with_reducible rfl
        try simp only [Act.put, List.setIfInBounds_toArray, List.set_cons_zero, List.set_cons_succ]
        refine wpAnyH_take (i := 5) (oi := ⟨_, _, _, _, _, _⟩) (v := ?_) rfl (by kernel_rfl) (by kernel_rfl) (by kernel_rfl) (fun _ _ _ h => h) (Or.inl ⟨by rfl, ?_⟩) (by assumption) ?_
        rotate_left
        · intro w hSw
          (try dsimp only at hSw)
          go_split_ands
          go_simp
          try with_reducible rfl
        try simp only [Act.put, List.setIfInBounds_toArray, List.set_cons_zero, List.set_cons_succ]
        refine wpAnyH_take (i := 6) (oi := ⟨_, _, _, _, _, _⟩) (v := ?_) rfl (by kernel_rfl) (by kernel_rfl) (by kernel_rfl) (fun _ _ _ h => h) (Or.inl ⟨by rfl, ?_⟩) (by assumption) ?_
        rotate_left
        · intro w hSw
          (try dsimp only at hSw)
          go_split_ands
          go_simp
          try with_reducible rfl
        try simp only [Act.put, List.setIfInBounds_toArray, List.set_cons_zero, List.set_cons_succ]
        refine wpAnyH_take (i := 7) (oi := ⟨_, _, _, _, _, _⟩) (v := ?_) rfl (by kernel_rfl) (by kernel_rfl) (by kernel_rfl) (fun _ _ _ h => h) (Or.inl ⟨by rfl, ?_⟩) (by assumption) ?_
        rotate_left
        · intro w hSw
          (try dsimp only at hSw)
          go_split_ands
          go_simp
          try with_reducible rfl
        try simp only [Act.put, List.setIfInBounds_toArray, List.set_cons_zero, List.set_cons_succ]
        refine wpAnyH_ready (rs := [8]) (by kernel_rfl) (by simp) (AllReadyH.cons (o := ⟨_, _, _, _, _, _⟩) rfl (fun K hK => ?_) AllReadyH.nil)
        go_simp
        refine (rnum_c _ (ln1 : Int) (by omega) (by omega) (numT_lenK _)).mono ?_
        rintro e9 w8 ⟨cs8, rfl, hv8, hb8'⟩
        (try dsimp only)
        have hb8 : Below w6.heap.size w6 w8 := ⟨hb8'.os, hb8'.tape, hb8'.output, hb8'.size, hb8'.block⟩
        have hs8 : w6.heap.size ≤ w8.heap.size := hb8.size
        have hv8' : VIn w8 (Own' w6.heap.size w8) (numT (x.list.length : Int)) cs8 := by rw [← HNL.out]; exact hv8
        obtain ⟨k8, neg8, A8, n8, c8, ex8, t8, LA8, ln8, lc8, KA8, kn8, kc8, rfl, -, -⟩ := hv8'.seven
        have HSM := Lib.hid (same_c (numT (x.list.length : Int)) (numT (x.list.length : Int)) (fun b => b < b2 + 1) _ _ _ w8 (HX6.out.keep (w' := w8) fun p hp => hb8.cell (p := p) (by have : p.block < b2 + 1 := hp; omega)) hv8' (fun b hb => by have : b < b2 + 1 := hb; omega) (fun b hb => hb.2))
        have HB8 := Lib.hid (HB6.out.trans (hb8.mono hs6))
        have x0 := (HB8.out.block b0 (by omega)).trans HMv2_0.out
        have x1 := (HB8.out.block b1 (by omega)).trans HMv2_1.out
        have x2 := (HB8.out.block b2 (by omega)).trans HMv2_2.out
        clear y0 y1 y2 y3 y4 y5 y6 q0 q1 q2 q3 q4 q5 q6 d0 d1 d2 d3 d4 d5 d6
        obtain ⟨y0, y1, y2, y3, y4, y5, y6⟩ := box7_of x0
        obtain ⟨q0, q1, q2, q3, q4, q5, q6⟩ := box7_of x1
        obtain ⟨d0, d1, d2, d3, d4, d5, d6⟩ := box7_of x2
        refine hK _ _ ⟨y0, q5, d0, d1, d2, d3, d4, d5, d6⟩ (fun hHeld5 => ?_)
        clear hK K hb8' hb8 hv8 hv8' x0 x1 x2
        try simp only [Act.put, List.setIfInBounds_toArray, List.set_cons_zero, List.set_cons_succ]
        refine wpAnyH_ready (rs := [9]) (by kernel_rfl) (by simp) (AllReadyH.cons (o := ⟨_, _, _, _, _, _⟩) rfl (fun K hK => ?_) AllReadyH.nil)
        go_simp
        refine HSM.out.mono ?_
        rintro e9 w9 ⟨rfl, hb9⟩
        (try dsimp only)
        rw [show sameV (numT (x.list.length : Int)) (numT (x.list.length : Int)) = true from sameV_iff.2 rfl]
        have HB9 := Lib.hid (HB8.out.trans (hb9.mono (by omega)))
        have x0 := (HB9.out.block b0 (by omega)).trans HMv2_0.out
        have x1 := (HB9.out.block b1 (by omega)).trans HMv2_1.out
        have x2 := (HB9.out.block b2 (by omega)).trans HMv2_2.out
        clear y0 y1 y2 y3 y4 y5 y6 q0 q1 q2 q3 q4 q5 q6 d0 d1 d2 d3 d4 d5 d6
        obtain ⟨y0, y1, y2, y3, y4, y5, y6⟩ := box7_of x0
        obtain ⟨q0, q1, q2, q3, q4, q5, q6⟩ := box7_of x1
        obtain ⟨d0, d1, d2, d3, d4, d5, d6⟩ := box7_of x2
        refine hK _ _ ⟨y0, q5, d0, d1, d2, d3, d4, d5, d6⟩ (fun hHeld6 => ?_)
        clear hK K hb9 x0 x1 x2
        try simp only [Act.put, List.setIfInBounds_toArray, List.set_cons_zero, List.set_cons_succ]
        refine wpAnyH_take (i := 10) (oi := ⟨_, _, _, _, _, _⟩) (v := ?_) rfl (by kernel_rfl) (by kernel_rfl) (by kernel_rfl) (fun _ _ _ h => h) (Or.inl ⟨by rfl, ?_⟩) (by assumption) ?_
        rotate_left
        · intro w hSw
          (try dsimp only at hSw)
          go_split_ands
          go_simp
          try with_reducible rfl
        try simp only [Act.put, List.setIfInBounds_toArray, List.set_cons_zero, List.set_cons_succ]
        refine wpAnyH_take (i := 11) (oi := ⟨_, _, _, _, _, _⟩) (v := ?_) rfl (by kernel_rfl) (by kernel_rfl) (by kernel_rfl) (fun _ _ _ h => h) (Or.inl ⟨by rfl, ?_⟩) (by assumption) ?_
        rotate_left
        · intro w hSw
          (try dsimp only at hSw)
          go_split_ands
          go_simp
          try with_reducible rfl
        try simp only [Act.put, List.setIfInBounds_toArray, List.set_cons_zero, List.set_cons_succ]
        refine wpAnyH_take (i := 12) (oi := ⟨_, _, _, _, _, _⟩) (v := ?_) rfl (by kernel_rfl) (by kernel_rfl) (by kernel_rfl) (fun _ _ _ h => h) (Or.inl ⟨by rfl, ?_⟩) (by assumption) ?_
        rotate_left
        · intro w hSw
          (try dsimp only at hSw)
          go_split_ands
          go_simp
          try with_reducible rfl
        try simp only [Act.put, List.setIfInBounds_toArray, List.set_cons_zero, List.set_cons_succ]
        refine wpAnyH_take (i := 13) (oi := ⟨_, _, _, _, _, _⟩) (v := ?_) rfl (by kernel_rfl) (by kernel_rfl) (by kernel_rfl) (fun _ _ _ h => h) (Or.inl ⟨by rfl, ?_⟩) (by assumption) ?_
        rotate_left
        · intro w hSw
          (try dsimp only at hSw)
          go_split_ands
          go_simp
          try with_reducible rfl
        try simp only [Act.put, List.setIfInBounds_toArray, List.set_cons_zero, List.set_cons_succ]
        refine wpAnyH_take (i := 14) (oi := ⟨_, _, _, _, _, _⟩) (v := ?_) rfl (by kernel_rfl) (by kernel_rfl) (by kernel_rfl) (fun _ _ _ h => h) (Or.inl ⟨by rfl, ?_⟩) (by assumption) ?_
        rotate_left
        · intro w hSw
          (try dsimp only at hSw)
          go_split_ands
          go_simp
          try with_reducible rfl
        try simp only [Act.put, List.setIfInBounds_toArray, List.set_cons_zero, List.set_cons_succ]
        refine wpAnyH_take (i := 15) (oi := ⟨_, _, _, _, _, _⟩) (v := ?_) rfl (by kernel_rfl) (by kernel_rfl) (by kernel_rfl) (fun _ _ _ h => h) (Or.inl ⟨by rfl, ?_⟩) (by assumption) ?_
        rotate_left
        · intro w hSw
          (try dsimp only at hSw)
          go_split_ands
          go_simp
          try with_reducible rfl
        try simp only [Act.put, List.setIfInBounds_toArray, List.set_cons_zero, List.set_cons_succ]
        refine wpAnyH_take (i := 16) (oi := ⟨_, _, _, _, _, _⟩) (v := ?_) rfl (by kernel_rfl) (by kernel_rfl) (by kernel_rfl) (fun _ _ _ h => h) (Or.inl ⟨by rfl, ?_⟩) (by assumption) ?_
        rotate_left
        · intro w hSw
          (try dsimp only at hSw)
          go_split_ands
          go_simp
          try with_reducible rfl
        try simp only [Act.put, List.setIfInBounds_toArray, List.set_cons_zero, List.set_cons_succ]
        refine wpAnyH_take (i := 17) (oi := ⟨_, _, _, _, _, _⟩) (v := ?_) rfl (by kernel_rfl) (by kernel_rfl) (by kernel_rfl) (fun _ _ _ h => h) (Or.inl ⟨by rfl, ?_⟩) (by assumption) ?_
        rotate_left
        · intro w hSw
          (try dsimp only at hSw)
          go_split_ands
          go_simp
          try with_reducible rfl
        try simp only [Act.put, List.setIfInBounds_toArray, List.set_cons_zero, List.set_cons_succ]
        refine wpAnyH_take (i := 18) (oi := ⟨_, _, _, _, _, _⟩) (v := ?_) rfl (by kernel_rfl) (by kernel_rfl) (by kernel_rfl) (fun _ _ _ h => h) (Or.inl ⟨by rfl, ?_⟩) (by assumption) ?_
        rotate_left
        · intro w hSw
          (try dsimp only at hSw)
          go_split_ands
          go_simp
          try with_reducible rfl
        try simp only [Act.put, List.setIfInBounds_toArray, List.set_cons_zero, List.set_cons_succ]
        refine wpAnyH_take (i := 19) (oi := ⟨_, _, _, _, _, _⟩) (v := ?_) rfl (by kernel_rfl) (by kernel_rfl) (by kernel_rfl) (fun _ _ _ h => h) (Or.inl ⟨by rfl, ?_⟩) (by assumption) ?_
        rotate_left
        · intro w hSw
          (try dsimp only at hSw)
          go_split_ands
          go_simp
          try with_reducible rfl
        try simp only [Act.put, List.setIfInBounds_toArray, List.set_cons_zero, List.set_cons_succ]
        refine wpAnyH_take (i := 20) (oi := ⟨_, _, _, _, _, _⟩) (v := undef) rfl (by kernel_rfl) (by kernel_rfl) (by kernel_rfl) (fun _ _ _ h => h) (Or.inr ⟨by rfl, rfl⟩) (by assumption) ?_
        try simp only [Act.put, List.setIfInBounds_toArray, List.set_cons_zero, List.set_cons_succ]
        refine wpAnyH_take (i := 21) (oi := ⟨_, _, _, _, _, _⟩) (v := undef) rfl (by kernel_rfl) (by kernel_rfl) (by kernel_rfl) (fun _ _ _ h => h) (Or.inr ⟨by rfl, rfl⟩) (by assumption) ?_
        try simp only [Act.put, List.setIfInBounds_toArray, List.set_cons_zero, List.set_cons_succ]
        refine wpAnyH_take (i := 22) (oi := ⟨_, _, _, _, _, _⟩) (v := undef) rfl (by kernel_rfl) (by kernel_rfl) (by kernel_rfl) (fun _ _ _ h => h) (Or.inr ⟨by rfl, rfl⟩) (by assumption) ?_
        try simp only [Act.put, List.setIfInBounds_toArray, List.set_cons_zero, List.set_cons_succ]
        refine wpAnyH_take (i := 23) (oi := ⟨_, _, _, _, _, _⟩) (v := ?_) rfl (by kernel_rfl) (by kernel_rfl) (by kernel_rfl) (fun _ _ _ h => h) (Or.inl ⟨by rfl, ?_⟩) (by assumption) ?_
        rotate_left
        · intro w hSw
          (try dsimp only at hSw)
          go_split_ands
          go_simp
          try with_reducible rfl
        try simp only [Act.put, List.setIfInBounds_toArray, List.set_cons_zero, List.set_cons_succ]
        refine wpAnyH_take (i := 24) (oi := ⟨_, _, _, _, _, _⟩) (v := ?_) rfl (by kernel_rfl) (by kernel_rfl) (by kernel_rfl) (fun _ _ _ h => h) (Or.inl ⟨by rfl, ?_⟩) (by assumption) ?_
        rotate_left
        · intro w hSw
          (try dsimp only at hSw)
          go_split_ands
          go_simp
          try with_reducible rfl
        try simp only [Act.put, List.setIfInBounds_toArray, List.set_cons_zero, List.set_cons_succ]
        refine wpAnyH_take (i := 25) (oi := ⟨_, _, _, _, _, _⟩) (v := ?_) rfl (by kernel_rfl) (by kernel_rfl) (by kernel_rfl) (fun _ _ _ h => h) (Or.inl ⟨by rfl, ?_⟩) (by assumption) ?_
        rotate_left
        · intro w hSw
          (try dsimp only at hSw)
          go_split_ands
          go_simp
          try with_reducible rfl
        try simp only [Act.put, List.setIfInBounds_toArray, List.set_cons_zero, List.set_cons_succ]
        refine wpAnyH_done (by kernel_rfl) ?_ _
        go_wp2_with fail
        go_ret
        exact ⟨rfl, HBv2.out.trans (HB9.out.mono (by omega))⟩
      · obtain ⟨rfl, rfl⟩ := hk6
        go_upto_region 14 with fail
        refine wp_region_held_drew (S := fun V => V.cell? ⟨b0, 0, none⟩ = some (.int .i64 5) ∧ V.cell? ⟨b1, 5, none⟩ = some (.slice LA1 ln1 lc1) ∧ V.cell? ⟨b2, 0, none⟩ = some (.int .i64 k2) ∧ V.cell? ⟨b2, 1, none⟩ = some (.bool neg2) ∧ V.cell? ⟨b2, 2, none⟩ = some (.slice A2 n2 c2) ∧ V.cell? ⟨b2, 3, none⟩ = some (.int .i64 ex2) ∧ V.cell? ⟨b2, 4, none⟩ = some (.string t2) ∧ V.cell? ⟨b2, 5, none⟩ = some (.slice LA2 ln2 lc2) ∧ V.cell? ⟨b2, 6, none⟩ = some (.slice KA2 kn2 kc2)) (by kernel_rfl) ⟨y0, q5, d0, d1, d2, d3, d4, d5, d6⟩ (fun hHeld => ?_)
        (try simp only [List.size_toArray, List.length_cons, List.length_nil, Nat.reduceAdd, Array.replicate_succ, Array.replicate_zero, List.push_toArray, List.append_toArray, List.nil_append, List.cons_append])
        refine wpAnyH_take (i := 0) (oi := ⟨_, _, _, _, _, _⟩) (v := ?_) rfl (by kernel_rfl) (by kernel_rfl) (by kernel_rfl) (fun _ _ _ h => h) (Or.inl ⟨by rfl, ?_⟩) (by assumption) ?_
        rotate_left
        · intro w hSw
          (try dsimp only at hSw)
          go_split_ands
          go_simp
          try with_reducible rfl
        try simp only [Act.put, List.setIfInBounds_toArray, List.set_cons_zero, List.set_cons_succ]
        refine wpAnyH_ready (rs := [1]) (by kernel_rfl) (by simp) (AllReadyH.cons (o := ⟨_, _, _, _, _, _⟩) rfl (fun K hK => ?_) AllReadyH.nil)
        go_simp
        refine (lnum12_c _ _).mono ?_
        rintro e9 w' ⟨rfl, rfl⟩
        (try dsimp only)
        refine hK _ _ ⟨y0, q5, d0, d1, d2, d3, d4, d5, d6⟩ (fun hHeld4 => ?_)
        clear hK K
        try simp only [Act.put, List.setIfInBounds_toArray, List.set_cons_zero, List.set_cons_succ]
        refine wpAnyH_take (i := 2) (oi := ⟨_, _, _, _, _, _⟩) (v := ?_) rfl (by kernel_rfl) (by kernel_rfl) (by kernel_rfl) (fun _ _ _ h => h) (Or.inl ⟨by rfl, ?_⟩) (by assumption) ?_
        rotate_left
        · intro w hSw
          (try dsimp only at hSw)
          go_split_ands
          go_simp
          try with_reducible rfl
        try simp only [Act.put, List.setIfInBounds_toArray, List.set_cons_zero, List.set_cons_succ]
        refine wpAnyH_take (i := 3) (oi := ⟨_, _, _, _, _, _⟩) (v := ?_) rfl (by kernel_rfl) (by kernel_rfl) (by kernel_rfl) (fun _ _ _ h => h) (Or.inl ⟨by rfl, ?_⟩) (by assumption) ?_
        rotate_left
        · intro w hSw
          (try dsimp only at hSw)
          go_split_ands
          go_simp
          try with_reducible rfl
        try simp only [Act.put, List.setIfInBounds_toArray, List.set_cons_zero, List.set_cons_succ]
        refine wpAnyH_take (i := 4) (oi := ⟨_, _, _, _, _, _⟩) (v := ?_) rfl (by kernel_rfl) (by kernel_rfl) (by kernel_rfl) (fun _ _ _ h => h) (Or.inl ⟨by rfl, ?_⟩) (by assumption) ?_
        rotate_left
        · intro w hSw
          (try dsimp only at hSw)
          go_split_ands
          go_simp
          try with_reducible rfl
        try simp only [Act.put, List.setIfInBounds_toArray, List.set_cons_zero, List.set_cons_succ]
        refine wpAnyH_take (i := 5) (oi := ⟨_, _, _, _, _, _⟩) (v := ?_) rfl (by kernel_rfl) (by kernel_rfl) (by kernel_rfl) (fun _ _ _ h => h) (Or.inl ⟨by rfl, ?_⟩) (by assumption) ?_
        rotate_left
        · intro w hSw
          (try dsimp only at hSw)
          go_split_ands
          go_simp
          try with_reducible rfl
        try simp only [Act.put, List.setIfInBounds_toArray, List.set_cons_zero, List.set_cons_succ]
        refine wpAnyH_take (i := 6) (oi := ⟨_, _, _, _, _, _⟩) (v := ?_) rfl (by kernel_rfl) (by kernel_rfl) (by kernel_rfl) (fun _ _ _ h => h) (Or.inl ⟨by rfl, ?_⟩) (by assumption) ?_
        rotate_left
        · intro w hSw
          (try dsimp only at hSw)
          go_split_ands
          go_simp
          try with_reducible rfl
        try simp only [Act.put, List.setIfInBounds_toArray, List.set_cons_zero, List.set_cons_succ]
        refine wpAnyH_take (i := 7) (oi := ⟨_, _, _, _, _, _⟩) (v := ?_) rfl (by kernel_rfl) (by kernel_rfl) (by kernel_rfl) (fun _ _ _ h => h) (Or.inl ⟨by rfl, ?_⟩) (by assumption) ?_
        rotate_left
        · intro w hSw
          (try dsimp only at hSw)
          go_split_ands
          go_simp
          try with_reducible rfl
        try simp only [Act.put, List.setIfInBounds_toArray, List.set_cons_zero, List.set_cons_succ]
        refine wpAnyH_ready (rs := [8]) (by kernel_rfl) (by simp) (AllReadyH.cons (o := ⟨_, _, _, _, _, _⟩) rfl (fun K hK => ?_) AllReadyH.nil)
        go_simp
        refine (rnum_c _ (ln1 : Int) (by omega) (by omega) (numT_lenK _)).mono ?_
        rintro e9 w8 ⟨cs8, rfl, hv8, hb8'⟩
        (try dsimp only)
        have hb8 : Below w6.heap.size w6 w8 := ⟨hb8'.os, hb8'.tape, hb8'.output, hb8'.size, hb8'.block⟩
        have hs8 : w6.heap.size ≤ w8.heap.size := hb8.size
        have hv8' : VIn w8 (Own' w6.heap.size w8) (numT (x.list.length : Int)) cs8 := by rw [← HNL.out]; exact hv8
        obtain ⟨k8, neg8, A8, n8, c8, ex8, t8, LA8, ln8, lc8, KA8, kn8, kc8, rfl, -, -⟩ := hv8'.seven
        have HSM := Lib.hid (same_c (numT (x.list.length : Int)) (numT (x.list.length : Int)) (fun b => b < b2 + 1) _ _ _ w8 (HX6.out.keep (w' := w8) fun p hp => hb8.cell (p := p) (by have : p.block < b2 + 1 := hp; omega)) hv8' (fun b hb => by have : b < b2 + 1 := hb; omega) (fun b hb => hb.2))
        have HB8 := Lib.hid (HB6.out.trans (hb8.mono hs6))
        have x0 := (HB8.out.block b0 (by omega)).trans HMv2_0.out
        have x1 := (HB8.out.block b1 (by omega)).trans HMv2_1.out
        have x2 := (HB8.out.block b2 (by omega)).trans HMv2_2.out
        clear y0 y1 y2 y3 y4 y5 y6 q0 q1 q2 q3 q4 q5 q6 d0 d1 d2 d3 d4 d5 d6
        obtain ⟨y0, y1, y2, y3, y4, y5, y6⟩ := box7_of x0
        obtain ⟨q0, q1, q2, q3, q4, q5, q6⟩ := box7_of x1
        obtain ⟨d0, d1, d2, d3, d4, d5, d6⟩ := box7_of x2
        refine hK _ _ ⟨y0, q5, d0, d1, d2, d3, d4, d5, d6⟩ (fun hHeld5 => ?_)
        clear hK K hb8' hb8 hv8 hv8' x0 x1 x2
        try simp only [Act.put, List.setIfInBounds_toArray, List.set_cons_zero, List.set_cons_succ]
        refine wpAnyH_ready (rs := [9]) (by kernel_rfl) (by simp) (AllReadyH.cons (o := ⟨_, _, _, _, _, _⟩) rfl (fun K hK => ?_) AllReadyH.nil)
        go_simp
        refine HSM.out.mono ?_
        rintro e9 w9 ⟨rfl, hb9⟩
        (try dsimp only)
        rw [show sameV (numT (x.list.length : Int)) (numT (x.list.length : Int)) = true from sameV_iff.2 rfl]
        have HB9 := Lib.hid (HB8.out.trans (hb9.mono (by omega)))
        have x0 := (HB9.out.block b0 (by omega)).trans HMv2_0.out
        have x1 := (HB9.out.block b1 (by omega)).trans HMv2_1.out
        have x2 := (HB9.out.block b2 (by omega)).trans HMv2_2.out
        clear y0 y1 y2 y3 y4 y5 y6 q0 q1 q2 q3 q4 q5 q6 d0 d1 d2 d3 d4 d5 d6
        obtain ⟨y0, y1, y2, y3, y4, y5, y6⟩ := box7_of x0
        obtain ⟨q0, q1, q2, q3, q4, q5, q6⟩ := box7_of x1
        obtain ⟨d0, d1, d2, d3, d4, d5, d6⟩ := box7_of x2
        refine hK _ _ ⟨y0, q5, d0, d1, d2, d3, d4, d5, d6⟩ (fun hHeld6 => ?_)
        clear hK K hb9 x0 x1 x2
        try simp only [Act.put, List.setIfInBounds_toArray, List.set_cons_zero, List.set_cons_succ]
        refine wpAnyH_take (i := 10) (oi := ⟨_, _, _, _, _, _⟩) (v := ?_) rfl (by kernel_rfl) (by kernel_rfl) (by kernel_rfl) (fun _ _ _ h => h) (Or.inl ⟨by rfl, ?_⟩) (by assumption) ?_
        rotate_left
        · intro w hSw
          (try dsimp only at hSw)
          go_split_ands
          go_simp
          try with_reducible rfl
        try simp only [Act.put, List.setIfInBounds_toArray, List.set_cons_zero, List.set_cons_succ]
        refine wpAnyH_take (i := 11) (oi := ⟨_, _, _, _, _, _⟩) (v := ?_) rfl (by kernel_rfl) (by kernel_rfl) (by kernel_rfl) (fun _ _ _ h => h) (Or.inl ⟨by rfl, ?_⟩) (by assumption) ?_
        rotate_left
        · intro w hSw
          (try dsimp only at hSw)
          go_split_ands
          go_simp
          try with_reducible rfl
        try simp only [Act.put, List.setIfInBounds_toArray, List.set_cons_zero, List.set_cons_succ]
        refine wpAnyH_take (i := 12) (oi := ⟨_, _, _, _, _, _⟩) (v := ?_) rfl (by kernel_rfl) (by kernel_rfl) (by kernel_rfl) (fun _ _ _ h => h) (Or.inl ⟨by rfl, ?_⟩) (by assumption) ?_
        rotate_left
        · intro w hSw
          (try dsimp only at hSw)
          go_split_ands
          go_simp
          try with_reducible rfl
        try simp only [Act.put, List.setIfInBounds_toArray, List.set_cons_zero, List.set_cons_succ]
        refine wpAnyH_take (i := 13) (oi := ⟨_, _, _, _, _, _⟩) (v := ?_) rfl (by kernel_rfl) (by kernel_rfl) (by kernel_rfl) (fun _ _ _ h => h) (Or.inl ⟨by rfl, ?_⟩) (by assumption) ?_
        rotate_left
        · intro w hSw
          (try dsimp only at hSw)
          go_split_ands
          go_simp
          try with_reducible rfl
        try simp only [Act.put, List.setIfInBounds_toArray, List.set_cons_zero, List.set_cons_succ]
        refine wpAnyH_take (i := 14) (oi := ⟨_, _, _, _, _, _⟩) (v := ?_) rfl (by kernel_rfl) (by kernel_rfl) (by kernel_rfl) (fun _ _ _ h => h) (Or.inl ⟨by rfl, ?_⟩) (by assumption) ?_
        rotate_left
        · intro w hSw
          (try dsimp only at hSw)
          go_split_ands
          go_simp
          try with_reducible rfl
        try simp only [Act.put, List.setIfInBounds_toArray, List.set_cons_zero, List.set_cons_succ]
        refine wpAnyH_take (i := 15) (oi := ⟨_, _, _, _, _, _⟩) (v := ?_) rfl (by kernel_rfl) (by kernel_rfl) (by kernel_rfl) (fun _ _ _ h => h) (Or.inl ⟨by rfl, ?_⟩) (by assumption) ?_
        rotate_left
        · intro w hSw
          (try dsimp only at hSw)
          go_split_ands
          go_simp
          try with_reducible rfl
        try simp only [Act.put, List.setIfInBounds_toArray, List.set_cons_zero, List.set_cons_succ]
        refine wpAnyH_take (i := 16) (oi := ⟨_, _, _, _, _, _⟩) (v := ?_) rfl (by kernel_rfl) (by kernel_rfl) (by kernel_rfl) (fun _ _ _ h => h) (Or.inl ⟨by rfl, ?_⟩) (by assumption) ?_
        rotate_left
        · intro w hSw
          (try dsimp only at hSw)
          go_split_ands
          go_simp
          try with_reducible rfl
        try simp only [Act.put, List.setIfInBounds_toArray, List.set_cons_zero, List.set_cons_succ]
        refine wpAnyH_take (i := 17) (oi := ⟨_, _, _, _, _, _⟩) (v := ?_) rfl (by kernel_rfl) (by kernel_rfl) (by kernel_rfl) (fun _ _ _ h => h) (Or.inl ⟨by rfl, ?_⟩) (by assumption) ?_
        rotate_left
        · intro w hSw
          (try dsimp only at hSw)
          go_split_ands
          go_simp
          try with_reducible rfl
        try simp only [Act.put, List.setIfInBounds_toArray, List.set_cons_zero, List.set_cons_succ]
        refine wpAnyH_take (i := 18) (oi := ⟨_, _, _, _, _, _⟩) (v := ?_) rfl (by kernel_rfl) (by kernel_rfl) (by kernel_rfl) (fun _ _ _ h => h) (Or.inl ⟨by rfl, ?_⟩) (by assumption) ?_
        rotate_left
        · intro w hSw
          (try dsimp only at hSw)
          go_split_ands
          go_simp
          try with_reducible rfl
        try simp only [Act.put, List.setIfInBounds_toArray, List.set_cons_zero, List.set_cons_succ]
        refine wpAnyH_take (i := 19) (oi := ⟨_, _, _, _, _, _⟩) (v := ?_) rfl (by kernel_rfl) (by kernel_rfl) (by kernel_rfl) (fun _ _ _ h => h) (Or.inl ⟨by rfl, ?_⟩) (by assumption) ?_
        rotate_left
        · intro w hSw
          (try dsimp only at hSw)
          go_split_ands
          go_simp
          try with_reducible rfl
        try simp only [Act.put, List.setIfInBounds_toArray, List.set_cons_zero, List.set_cons_succ]
        refine wpAnyH_take (i := 20) (oi := ⟨_, _, _, _, _, _⟩) (v := ?_) rfl (by kernel_rfl) (by kernel_rfl) (by kernel_rfl) (fun _ _ _ h => h) (Or.inl ⟨by rfl, ?_⟩) (by assumption) ?_
        rotate_left
        · intro w hSw
          (try dsimp only at hSw)
          go_split_ands
          go_simp
          try with_reducible rfl
        try simp only [Act.put, List.setIfInBounds_toArray, List.set_cons_zero, List.set_cons_succ]
        refine wpAnyH_ready (rs := [21]) (by kernel_rfl) (by simp) (AllReadyH.cons (o := ⟨_, _, _, _, _, _⟩) rfl (fun K hK => ?_) AllReadyH.nil)
        go_simp
        refine (lnum12_c _ _).mono ?_
        rintro e9 w' ⟨rfl, rfl⟩
        (try dsimp only)
        refine hK _ _ ⟨y0, q5, d0, d1, d2, d3, d4, d5, d6⟩ (fun hHeld7 => ?_)
        clear hK K
        try simp only [Act.put, List.setIfInBounds_toArray, List.set_cons_zero, List.set_cons_succ]
        refine wpAnyH_take (i := 22) (oi := ⟨_, _, _, _, _, _⟩) (v := ?_) rfl (by kernel_rfl) (by kernel_rfl) (by kernel_rfl) (fun _ _ _ h => h) (Or.inl ⟨by rfl, ?_⟩) (by assumption) ?_
        rotate_left
        · intro w hSw
          (try dsimp only at hSw)
          go_split_ands
          go_simp
          try with_reducible rfl
        try simp only [Act.put, List.setIfInBounds_toArray, List.set_cons_zero, List.set_cons_succ]
        refine wpAnyH_take (i := 23) (oi := ⟨_, _, _, _, _, _⟩) (v := ?_) rfl (by kernel_rfl) (by kernel_rfl) (by kernel_rfl) (fun _ _ _ h => h) (Or.inl ⟨by rfl, ?_⟩) (by assumption) ?_
        rotate_left
        · intro w hSw
          (try dsimp only at hSw)
          go_split_ands
          go_simp
          try with_reducible rfl
        try simp only [Act.put, List.setIfInBounds_toArray, List.set_cons_zero, List.set_cons_succ]
        refine wpAnyH_take (i := 24) (oi := ⟨_, _, _, _, _, _⟩) (v := ?_) rfl (by kernel_rfl) (by kernel_rfl) (by kernel_rfl) (fun _ _ _ h => h) (Or.inl ⟨by rfl, ?_⟩) (by assumption) ?_
        rotate_left
        · intro w hSw
          (try dsimp only at hSw)
          go_split_ands
          go_simp
          try with_reducible rfl
        try simp only [Act.put, List.setIfInBounds_toArray, List.set_cons_zero, List.set_cons_succ]
        refine wpAnyH_take (i := 25) (oi := ⟨_, _, _, _, _, _⟩) (v := ?_) rfl (by kernel_rfl) (by kernel_rfl) (by kernel_rfl) (fun _ _ _ h => h) (Or.inl ⟨by rfl, ?_⟩) (by assumption) ?_
        rotate_left
        · intro w hSw
          (try dsimp only at hSw)
          go_split_ands
          go_simp
          try with_reducible rfl
        try simp only [Act.put, List.setIfInBounds_toArray, List.set_cons_zero, List.set_cons_succ]
        refine wpAnyH_done (by kernel_rfl) ?_ _
        go_wp2_with fail
        go_ret
        exact ⟨rfl, HBv2.out.trans (HB9.out.mono (by omega))⟩
end Go.Proofs.YtobfeneeehmpcaaGreatDoor
