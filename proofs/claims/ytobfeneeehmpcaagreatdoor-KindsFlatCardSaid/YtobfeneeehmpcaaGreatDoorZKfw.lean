/-
  The walk of the law KindsFlat: it returns true, whatever the value and the depth are.
-/
import Derived.Test.YtobfeneeehmpcaaGreatDoorZKfg
import Derived.Test.YtobfeneeehmpcaaGreatDoorZKal
import Derived.Test.YtobfeneeehmpcaaGreatDoorZKch
set_option linter.unusedVariables false
set_option linter.unusedSimpArgs false
namespace Go.Proofs.YtobfeneeehmpcaaGreatDoor
open Go.RowKit Go.Lib

theorem depthK (n : Int) : ∃ m : Nat, (Go.RowKit.wrap64 (n.tmod 20 + 20)).tmod 20 = (m : Int) ∧ m < 20 := by
  have h1 := Int.lt_tmod_of_pos n (show (0 : Int) < 20 by omega)
  have h2 := Int.tmod_lt_of_pos n (show (0 : Int) < 20 by omega)
  have hw : Go.RowKit.wrap64 (n.tmod 20 + 20) = n.tmod 20 + 20 := by unfold Go.RowKit.wrap64; omega
  have h3 := Int.tmod_nonneg (20 : Int) (show 0 ≤ n.tmod 20 + 20 by omega)
  have h4 := Int.tmod_lt_of_pos (n.tmod 20 + 20) (show (0 : Int) < 20 by omega)
  exact ⟨((n.tmod 20 + 20).tmod 20).toNat, by rw [hw]; omega, by omega⟩
theorem vin0_ln {w : World} {S : Nat → Prop} {k : Int} {neg : Bool} {e : Int} {t : ByteArray} {A LA KA : Option Addr} {n c ln lc kn kc : Nat} (h : VIn w S VT0 [.int .i64 k, .bool neg, .slice A n c, .int .i64 e, .string t, .slice LA ln lc, .slice KA kn kc]) : ln = 0 := by
  unfold VT0 at h
  cases h with
  | mk hr hn ht hks hkn hl hln hlc hrow hall => exact hl.symm
theorem vin_listK {w : World} {S : Nat → Prop} {l : List VT} {k : Int} {neg : Bool} {e : Int} {t : ByteArray} {A LA KA : Option Addr} {n c ln lc kn kc : Nat} (h : VIn w S (listV l) [.int .i64 k, .bool neg, .slice A n c, .int .i64 e, .string t, .slice LA ln lc, .slice KA kn kc]) : RdL w S LA ln l := by
  unfold listV at h
  cases h with
  | mk hr hn ht hks hkn hl hln hlc hrow hall => exact ⟨hl, by omega, _, hrow, hall⟩
/-- What Flatten tells: error and value. -/
def ffE (d : Nat) (x : VT) : Nat := WoR (errV x) (flatE x) (flatY d x)
def ffV (d : Nat) (x : VT) : VT := WoV (errV x) (flatE x) (flatY d x)
theorem ff_bad {d : Nat} {x : VT} (h : ffE d x ≠ 0) : ffV d x = VT0 := by
  unfold ffV WoV
  exact if_neg h
theorem ff_good {d : Nat} {x : VT} (h : ffE d x = 0) : okV x ∧ x.kind = 5 ∧ ffV d x = listV (flatD d x.list) ∧ okV (listV (flatD d x.list)) := by
  have hv : ffV d x = flatY d x := by unfold ffV WoV; exact if_pos h
  unfold ffE WoR at h
  split at h
  · exact absurd h (by assumption)
  rename_i h1
  split at h
  · exact absurd h (by assumption)
  rename_i h2
  have h5 : x.kind = 5 := by
    unfold flatE at h2
    split at h2
    · assumption
    · exact absurd h2 (by decide)
  have hy : flatY d x = listV (flatD d x.list) := by unfold flatY; exact if_pos h5
  exact ⟨show errV x = 0 by omega, h5, hv.trans hy, hy ▸ h⟩
theorem ff_of {d : Nat} {x : VT} (h : okV x) (h5 : x.kind = 5) : ffE d x = errV (listV (flatD d x.list)) ∧ ffV d x = if errV (listV (flatD d x.list)) = 0 then listV (flatD d x.list) else VT0 := by
  have hE : ffE d x = errV (listV (flatD d x.list)) := by
    unfold ffE WoR flatE flatY
    rw [if_neg (by rw [show errV x = 0 from h]; omega), if_pos h5, if_neg (by omega), if_pos h5]
  refine ⟨hE, ?_⟩
  have : ffV d x = if ffE d x = 0 then flatY d x else VT0 := rfl
  rw [this, hE]
  unfold flatY
  rw [if_pos h5]
/-- By one more, and by none. -/
theorem ff_more {d : Nat} {x : VT} (h : ffE d x = 0) : ffE 1 (ffV d x) = ffE (d + 1) x ∧ ffV 1 (ffV d x) = ffV (d + 1) x ∧ ffE 0 x = 0 ∧ ffV 0 x = x ∧ ∀ y ∈ flatD d x.list, okV y := by
  obtain ⟨h1, h5, hv, ho⟩ := ff_good h
  obtain ⟨a1, a2⟩ := ff_of (d := 1) ho rfl
  obtain ⟨b1, b2⟩ := ff_of (d := d + 1) h1 h5
  obtain ⟨c1, c2⟩ := ff_of (d := 0) h1 h5
  rw [show (listV (flatD d x.list)).list = flatD d x.list from rfl, flatD_one] at a1 a2
  rw [flatD_zero, ← listV_ofK h1 h5] at c1 c2
  rw [hv, a1, a2, b1, b2]
  refine ⟨rfl, rfl, c1.trans h1, by rw [c2, if_pos (show errV x = 0 from h1)], fun y hy => okV_elemK ho hy⟩
set_option maxRecDepth 4000000 in
set_option maxHeartbeats 16000000 in
theorem kindsFlat_c {S : Nat → Prop} {x : VT} {cs : List Value} (z : Int) (w : World) (hT : Tabs w) (hx : VIn w S x cs) (hS : ∀ b, S b → b < w.heap.size) (hz : -9223372036854775808 ≤ z ∧ z ≤ 9223372036854775807) :
    Calls Tryz.prog 3 #[.agg cs.toArray, .int .i64 z] w fun e w' => e = .returned (.bool true) ∧ Below w.heap.size w w' := by
  obtain ⟨k0, neg0, A0, n0, c0, ex0, t0, LA0, ln0, lc0, KA0, kn0, kc0, rfl, -, -⟩ := hx.seven
  obtain ⟨b0, hb0e⟩ : ∃ b, w.heap.size = b := ⟨_, rfl⟩
  obtain ⟨w0, hw0⟩ : ∃ w0, w.alloc (.cells #[.int .i64 k0, .bool neg0, .slice A0 n0 c0, .int .i64 ex0, .string t0, .slice LA0 ln0 lc0, .slice KA0 kn0 kc0] 28) = w0 := ⟨_, rfl⟩
  have hb0 : Below b0 w w0 := by rw [← hw0]; exact (Below.refl b0 w).alloc (by omega) _
  have hm0 : w0.heap[b0]? = some (.cells #[.int .i64 k0, .bool neg0, .slice A0 n0 c0, .int .i64 ex0, .string t0, .slice LA0 ln0 lc0, .slice KA0 kn0 kc0] 28) := by rw [← hw0, ← hb0e]; exact World.alloc_heap_new _ _
  have hs0 : w0.heap.size = b0 + 1 := by rw [← hw0, World.size_alloc, hb0e]
  have hx0 := (hx.keep (w' := w0) fun p hp => hb0.cell (p := p) (by have := hS _ hp; omega)).more (S' := fun b => b < b0 + 1) fun b hb => by have := hS b hb; omega
  have hTx := fun W (h : Below b0 w W) => hT.below (hb0e ▸ h)
  have HT := Lib.hid hTx
  have HW0 := Lib.hid hw0
  have HB0 := Lib.hid hb0
  have HM0 := Lib.hid hm0
  have HX0 := Lib.hid hx0
  have HS0 := Lib.hid hs0
  rw [hb0e]
  clear hx hT hS hw0 hb0 hm0 hs0 hx0 hTx
  go_enter Tryz.func3, Tryz.ntmps3
  go_wp2_with fail
  try rw [hb0e]
  clear hb0e
  rw [HW0.out]
  refine (alive12_c w0 (HT.out w0 HB0.out)).mono ?_
  rintro e9 v0 ⟨rfl, hb1⟩
  rw [HS0.out] at hb1
  have HBv0 := Lib.hid (HB0.out.trans (hb1.mono (by omega)))
  have HMv0_0 := Lib.hid ((hb1.block b0 (by omega)).trans HM0.out)
  have HXv0_0 := Lib.hid (HX0.out.keep (w' := v0) fun p hp => hb1.cell (p := p) hp)
  have hsv0 : b0 + 1 ≤ v0.heap.size := by have := hb1.size; rw [HS0.out] at this; exact this
  clear hb1
  obtain ⟨m, hmw, hm20⟩ := depthK z
  have hmw1 : IntKind.i64.wrap ((m : Int) + 1) = ((m + 1 : Nat) : Int) := by rw [IntWalk.i64_in _ (by omega)]; omega
  obtain ⟨y0, y1, y2, y3, y4, y5, y6⟩ := box7_of HMv0_0.out
  go_upto_region 4 with fail
  try rw [show (wrap64 (z.tmod 20 + 20)).tmod 20 = (m : Int) from hmw]
  -- call 1
  have hc1 := flatten_c m v0 (HT.out v0 HBv0.out) HXv0_0.out (fun b hb => by omega) (by omega)
  obtain ⟨V1, hV1⟩ : ∃ V, ffV m x = V := ⟨_, rfl⟩
  obtain ⟨E1, hE1⟩ : ∃ E, ffE m x = E := ⟨_, rfl⟩
  have hc1 : Calls Tryz.prog 6 #[.agg #[.int .i64 k0, .bool neg0, .slice A0 n0 c0, .int .i64 ex0, .string t0, .slice LA0 ln0 lc0, .slice KA0 kn0 kc0], .int .i64 (((m : Nat) : Int))] v0 fun e w' => WoP (ffV m x) (ffE m x) v0.heap.size e w' ∧ Below v0.heap.size v0 w' := hc1
  rw [hV1, hE1] at hc1
  have HC1 := Lib.hid hc1
  have HV1 := Lib.hid hV1
  have HE1 := Lib.hid hE1
  clear hc1 hV1 hE1
  go_wp2_with fail
  refine HC1.out.mono ?_
  rintro e9 u1 ⟨⟨cs1, rfl, hv1⟩, hb1⟩
  obtain ⟨k1, neg1, A1, n1, c1, ex1, t1, LA1, ln1, lc1, KA1, kn1, kc1, rfl, -, -⟩ := hv1.seven
  have hsu1 : v0.heap.size ≤ u1.heap.size := hb1.size
  obtain ⟨b1, hb1e⟩ : ∃ b, u1.heap.size = b := ⟨_, rfl⟩
  obtain ⟨v1, hw1⟩ : ∃ W, u1.alloc (.cells #[.int .i64 k1, .bool neg1, .slice A1 n1 c1, .int .i64 ex1, .string t1, .slice LA1 ln1 lc1, .slice KA1 kn1 kc1] 28) = W := ⟨_, rfl⟩
  have ha1 : Below b1 u1 v1 := by rw [← hw1]; exact (Below.refl _ u1).alloc (by omega) _
  have hsv1' : v1.heap.size = b1 + 1 := by rw [← hw1, World.size_alloc, hb1e]
  have hba1 : Below v0.heap.size v0 v1 := hb1.trans (ha1.mono (by omega))
  have HMv1_0 := Lib.hid ((hba1.block b0 (by omega)).trans HMv0_0.out)
  have HXv1_0 := Lib.hid (HXv0_0.out.keep (w' := v1) fun p hp => hba1.cell (p := p) (by have : p.block < b0 + 1 := hp; omega))
  have HMv1_1 := Lib.hid (show v1.heap[b1]? = some (.cells #[.int .i64 k1, .bool neg1, .slice A1 n1 c1, .int .i64 ex1, .string t1, .slice LA1 ln1 lc1, .slice KA1 kn1 kc1] 28) by rw [← hw1, ← hb1e]; exact World.alloc_heap_new _ _)
  have HXv1_1 := Lib.hid ((hv1.keep (w' := v1) fun p hp => ha1.cell (p := p) (by have := hp.2; omega)).more (S' := fun b => b < b1 + 1) fun b hb => by have := hb.2; omega)
  have HBv1 := Lib.hid (HBv0.out.trans (hba1.mono (by omega)))
  have hsv1 : b1 + 1 ≤ v1.heap.size := by omega
  have hbb1 : b0 + 1 ≤ b1 := by omega
  have HW1 := Lib.hid hw1
  clear hv1 hb1 ha1 hba1 hw1 hsu1 y0 y1 y2 y3 y4 y5 y6 HC1
  go_upto_region 5 with fail
  try rw [hb1e]
  clear hb1e
  rw [HW1.out]
  obtain ⟨y0, y1, y2, y3, y4, y5, y6⟩ := box7_of HMv1_1.out
  -- call 2
  have hc2 := flatten_c 1 v1 (HT.out v1 HBv1.out) HXv1_1.out (fun b hb => by omega) (by omega)
  obtain ⟨V2, hV2⟩ : ∃ V, ffV 1 V1 = V := ⟨_, rfl⟩
  obtain ⟨E2, hE2⟩ : ∃ E, ffE 1 V1 = E := ⟨_, rfl⟩
  have hc2 : Calls Tryz.prog 6 #[.agg #[.int .i64 k1, .bool neg1, .slice A1 n1 c1, .int .i64 ex1, .string t1, .slice LA1 ln1 lc1, .slice KA1 kn1 kc1], .int .i64 (1)] v1 fun e w' => WoP (ffV 1 V1) (ffE 1 V1) v1.heap.size e w' ∧ Below v1.heap.size v1 w' := hc2
  rw [hV2, hE2] at hc2
  have HC2 := Lib.hid hc2
  have HV2 := Lib.hid hV2
  have HE2 := Lib.hid hE2
  clear hc2 hV2 hE2
  go_wp2_with fail
  refine HC2.out.mono ?_
  rintro e9 u2 ⟨⟨cs2, rfl, hv2⟩, hb2⟩
  obtain ⟨k2, neg2, A2, n2, c2, ex2, t2, LA2, ln2, lc2, KA2, kn2, kc2, rfl, -, -⟩ := hv2.seven
  have hsu2 : v1.heap.size ≤ u2.heap.size := hb2.size
  obtain ⟨b2, hb2e⟩ : ∃ b, u2.heap.size = b := ⟨_, rfl⟩
  obtain ⟨v2, hw2⟩ : ∃ W, u2.alloc (.cells #[.int .i64 k2, .bool neg2, .slice A2 n2 c2, .int .i64 ex2, .string t2, .slice LA2 ln2 lc2, .slice KA2 kn2 kc2] 28) = W := ⟨_, rfl⟩
  have ha2 : Below b2 u2 v2 := by rw [← hw2]; exact (Below.refl _ u2).alloc (by omega) _
  have hsv2' : v2.heap.size = b2 + 1 := by rw [← hw2, World.size_alloc, hb2e]
  have hba2 : Below v1.heap.size v1 v2 := hb2.trans (ha2.mono (by omega))
  have HMv2_0 := Lib.hid ((hba2.block b0 (by omega)).trans HMv1_0.out)
  have HXv2_0 := Lib.hid (HXv1_0.out.keep (w' := v2) fun p hp => hba2.cell (p := p) (by have : p.block < b0 + 1 := hp; omega))
  have HMv2_1 := Lib.hid ((hba2.block b1 (by omega)).trans HMv1_1.out)
  have HXv2_1 := Lib.hid (HXv1_1.out.keep (w' := v2) fun p hp => hba2.cell (p := p) (by have : p.block < b1 + 1 := hp; omega))
  have HMv2_2 := Lib.hid (show v2.heap[b2]? = some (.cells #[.int .i64 k2, .bool neg2, .slice A2 n2 c2, .int .i64 ex2, .string t2, .slice LA2 ln2 lc2, .slice KA2 kn2 kc2] 28) by rw [← hw2, ← hb2e]; exact World.alloc_heap_new _ _)
  have HXv2_2 := Lib.hid ((hv2.keep (w' := v2) fun p hp => ha2.cell (p := p) (by have := hp.2; omega)).more (S' := fun b => b < b2 + 1) fun b hb => by have := hb.2; omega)
  have HBv2 := Lib.hid (HBv1.out.trans (hba2.mono (by omega)))
  have hsv2 : b2 + 1 ≤ v2.heap.size := by omega
  have hbb2 : b1 + 1 ≤ b2 := by omega
  have HW2 := Lib.hid hw2
  clear hv2 hb2 ha2 hba2 hw2 hsu2 y0 y1 y2 y3 y4 y5 y6 HC2
  go_upto_region 6 with fail
  try rw [hb2e]
  clear hb2e
  rw [HW2.out]
  obtain ⟨y0, y1, y2, y3, y4, y5, y6⟩ := box7_of HMv2_0.out
  -- call 3
  have hc3 := flatten_c (m + 1) v2 (HT.out v2 HBv2.out) HXv2_0.out (fun b hb => by omega) (by omega)
  obtain ⟨V3, hV3⟩ : ∃ V, ffV (m + 1) x = V := ⟨_, rfl⟩
  obtain ⟨E3, hE3⟩ : ∃ E, ffE (m + 1) x = E := ⟨_, rfl⟩
  have hc3 : Calls Tryz.prog 6 #[.agg #[.int .i64 k0, .bool neg0, .slice A0 n0 c0, .int .i64 ex0, .string t0, .slice LA0 ln0 lc0, .slice KA0 kn0 kc0], .int .i64 ((((m + 1) : Nat) : Int))] v2 fun e w' => WoP (ffV (m + 1) x) (ffE (m + 1) x) v2.heap.size e w' ∧ Below v2.heap.size v2 w' := hc3
  rw [hV3, hE3] at hc3
  have HC3 := Lib.hid hc3
  have HV3 := Lib.hid hV3
  have HE3 := Lib.hid hE3
  clear hc3 hV3 hE3
  go_wp2_with fail
  refine HC3.out.mono ?_
  rintro e9 u3 ⟨⟨cs3, rfl, hv3⟩, hb3⟩
  obtain ⟨k3, neg3, A3, n3, c3, ex3, t3, LA3, ln3, lc3, KA3, kn3, kc3, rfl, -, -⟩ := hv3.seven
  have hsu3 : v2.heap.size ≤ u3.heap.size := hb3.size
  obtain ⟨b3, hb3e⟩ : ∃ b, u3.heap.size = b := ⟨_, rfl⟩
  obtain ⟨v3, hw3⟩ : ∃ W, u3.alloc (.cells #[.int .i64 k3, .bool neg3, .slice A3 n3 c3, .int .i64 ex3, .string t3, .slice LA3 ln3 lc3, .slice KA3 kn3 kc3] 28) = W := ⟨_, rfl⟩
  have ha3 : Below b3 u3 v3 := by rw [← hw3]; exact (Below.refl _ u3).alloc (by omega) _
  have hsv3' : v3.heap.size = b3 + 1 := by rw [← hw3, World.size_alloc, hb3e]
  have hba3 : Below v2.heap.size v2 v3 := hb3.trans (ha3.mono (by omega))
  have HMv3_0 := Lib.hid ((hba3.block b0 (by omega)).trans HMv2_0.out)
  have HXv3_0 := Lib.hid (HXv2_0.out.keep (w' := v3) fun p hp => hba3.cell (p := p) (by have : p.block < b0 + 1 := hp; omega))
  have HMv3_1 := Lib.hid ((hba3.block b1 (by omega)).trans HMv2_1.out)
  have HXv3_1 := Lib.hid (HXv2_1.out.keep (w' := v3) fun p hp => hba3.cell (p := p) (by have : p.block < b1 + 1 := hp; omega))
  have HMv3_2 := Lib.hid ((hba3.block b2 (by omega)).trans HMv2_2.out)
  have HXv3_2 := Lib.hid (HXv2_2.out.keep (w' := v3) fun p hp => hba3.cell (p := p) (by have : p.block < b2 + 1 := hp; omega))
  have HMv3_3 := Lib.hid (show v3.heap[b3]? = some (.cells #[.int .i64 k3, .bool neg3, .slice A3 n3 c3, .int .i64 ex3, .string t3, .slice LA3 ln3 lc3, .slice KA3 kn3 kc3] 28) by rw [← hw3, ← hb3e]; exact World.alloc_heap_new _ _)
  have HXv3_3 := Lib.hid ((hv3.keep (w' := v3) fun p hp => ha3.cell (p := p) (by have := hp.2; omega)).more (S' := fun b => b < b3 + 1) fun b hb => by have := hb.2; omega)
  have HBv3 := Lib.hid (HBv2.out.trans (hba3.mono (by omega)))
  have hsv3 : b3 + 1 ≤ v3.heap.size := by omega
  have hbb3 : b2 + 1 ≤ b3 := by omega
  have HW3 := Lib.hid hw3
  clear hv3 hb3 ha3 hba3 hw3 hsu3 y0 y1 y2 y3 y4 y5 y6 HC3
  go_upto_region 7 with fail
  try rw [hb3e]
  clear hb3e
  rw [HW3.out]
  obtain ⟨y0, y1, y2, y3, y4, y5, y6⟩ := box7_of HMv3_0.out
  -- call 4
  have hc4 := flatten_c 0 v3 (HT.out v3 HBv3.out) HXv3_0.out (fun b hb => by omega) (by omega)
  obtain ⟨V4, hV4⟩ : ∃ V, ffV 0 x = V := ⟨_, rfl⟩
  obtain ⟨E4, hE4⟩ : ∃ E, ffE 0 x = E := ⟨_, rfl⟩
  have hc4 : Calls Tryz.prog 6 #[.agg #[.int .i64 k0, .bool neg0, .slice A0 n0 c0, .int .i64 ex0, .string t0, .slice LA0 ln0 lc0, .slice KA0 kn0 kc0], .int .i64 (0)] v3 fun e w' => WoP (ffV 0 x) (ffE 0 x) v3.heap.size e w' ∧ Below v3.heap.size v3 w' := hc4
  rw [hV4, hE4] at hc4
  have HC4 := Lib.hid hc4
  have HV4 := Lib.hid hV4
  have HE4 := Lib.hid hE4
  clear hc4 hV4 hE4
  go_wp2_with fail
  refine HC4.out.mono ?_
  rintro e9 u4 ⟨⟨cs4, rfl, hv4⟩, hb4⟩
  obtain ⟨k4, neg4, A4, n4, c4, ex4, t4, LA4, ln4, lc4, KA4, kn4, kc4, rfl, -, -⟩ := hv4.seven
  have hsu4 : v3.heap.size ≤ u4.heap.size := hb4.size
  obtain ⟨b4, hb4e⟩ : ∃ b, u4.heap.size = b := ⟨_, rfl⟩
  obtain ⟨v4, hw4⟩ : ∃ W, u4.alloc (.cells #[.int .i64 k4, .bool neg4, .slice A4 n4 c4, .int .i64 ex4, .string t4, .slice LA4 ln4 lc4, .slice KA4 kn4 kc4] 28) = W := ⟨_, rfl⟩
  have ha4 : Below b4 u4 v4 := by rw [← hw4]; exact (Below.refl _ u4).alloc (by omega) _
  have hsv4' : v4.heap.size = b4 + 1 := by rw [← hw4, World.size_alloc, hb4e]
  have hba4 : Below v3.heap.size v3 v4 := hb4.trans (ha4.mono (by omega))
  have HMv4_0 := Lib.hid ((hba4.block b0 (by omega)).trans HMv3_0.out)
  have HXv4_0 := Lib.hid (HXv3_0.out.keep (w' := v4) fun p hp => hba4.cell (p := p) (by have : p.block < b0 + 1 := hp; omega))
  have HMv4_1 := Lib.hid ((hba4.block b1 (by omega)).trans HMv3_1.out)
  have HXv4_1 := Lib.hid (HXv3_1.out.keep (w' := v4) fun p hp => hba4.cell (p := p) (by have : p.block < b1 + 1 := hp; omega))
  have HMv4_2 := Lib.hid ((hba4.block b2 (by omega)).trans HMv3_2.out)
  have HXv4_2 := Lib.hid (HXv3_2.out.keep (w' := v4) fun p hp => hba4.cell (p := p) (by have : p.block < b2 + 1 := hp; omega))
  have HMv4_3 := Lib.hid ((hba4.block b3 (by omega)).trans HMv3_3.out)
  have HXv4_3 := Lib.hid (HXv3_3.out.keep (w' := v4) fun p hp => hba4.cell (p := p) (by have : p.block < b3 + 1 := hp; omega))
  have HMv4_4 := Lib.hid (show v4.heap[b4]? = some (.cells #[.int .i64 k4, .bool neg4, .slice A4 n4 c4, .int .i64 ex4, .string t4, .slice LA4 ln4 lc4, .slice KA4 kn4 kc4] 28) by rw [← hw4, ← hb4e]; exact World.alloc_heap_new _ _)
  have HXv4_4 := Lib.hid ((hv4.keep (w' := v4) fun p hp => ha4.cell (p := p) (by have := hp.2; omega)).more (S' := fun b => b < b4 + 1) fun b hb => by have := hb.2; omega)
  have HBv4 := Lib.hid (HBv3.out.trans (hba4.mono (by omega)))
  have hsv4 : b4 + 1 ≤ v4.heap.size := by omega
  have hbb4 : b3 + 1 ≤ b4 := by omega
  have HW4 := Lib.hid hw4
  clear hv4 hb4 ha4 hba4 hw4 hsu4 y0 y1 y2 y3 y4 y5 y6 HC4
  go_upto_region 8 with fail
  try rw [hb4e]
  clear hb4e
  rw [HW4.out]
  by_cases hbad : E1 = 0
  case neg =>
    have hE1b : ((E1 : Int) == 0) = false := by rw [beq_eq_false_iff_ne]; omega
    have hV1 : V1 = VT0 := by rw [← HV1.out]; exact ff_bad (by rw [HE1.out]; exact hbad)
    have hx1 := HXv4_1.out
    rw [hV1] at hx1
    have hl0 := vin0_ln hx1
    subst hl0
    obtain ⟨y0, y1, y2, y3, y4, y5, y6⟩ := box7_of HMv4_1.out
    go_wp2_with (go_at_call 7; refine (lnum12_c _ _).mono ?_; rintro e w' ⟨rfl, rfl⟩)
    go_ret
    exact ⟨rfl, HBv4.out⟩
  obtain ⟨q1, q2, q3, q4, q5⟩ := ff_more (HE1.out.trans hbad)
  obtain ⟨g1, g2, g3, g4⟩ := ff_good (HE1.out.trans hbad)
  have hE23 : E2 = E3 := by rw [← HE2.out, ← HE3.out, ← HV1.out]; exact q1
  have hV23 : V2 = V3 := by rw [← HV2.out, ← HV3.out, ← HV1.out]; exact q2
  have hE4 : E4 = 0 := by rw [← HE4.out]; exact q3
  have hV4 : V4 = x := by rw [← HV4.out]; exact q4
  have hV1 : V1 = listV (flatD m x.list) := by rw [← HV1.out]; exact g3
  subst hE23 hV23 hE4 hbad
  have hx4 := HXv4_4.out
  rw [hV4] at hx4
  have hx1 := HXv4_1.out
  rw [hV1] at hx1
  have HQ5 := Lib.hid q5
  have HS23 := Lib.hid (same_c V2 V2 _ _ _ _ v4 HXv4_2.out HXv4_3.out (fun b hb => by omega) (fun b hb => by omega))
  have HX4 := Lib.hid hx4
  have HX1 := Lib.hid hx1
  clear q1 q2 q3 q4 q5 g1 g2 g3 g4 hx4 hx1 hV1 hV4
  obtain ⟨y0, y1, y2, y3, y4, y5, y6⟩ := box7_of HMv4_2.out
  obtain ⟨z0, z1, z2, z3, z4, z5, z6⟩ := box7_of HMv4_3.out
  go_wp2_with (go_at_call 7; refine (lnum12_c _ _).mono ?_; rintro e w' ⟨rfl, rfl⟩)
  refine HS23.out.mono ?_
  rintro e9 w5 ⟨rfl, hb5⟩
  rw [show sameV V2 V2 = true from sameV_iff.2 rfl]
  have HMw5_0 := Lib.hid ((hb5.block b0 (by omega)).trans HMv4_0.out)
  have HMw5_4 := Lib.hid ((hb5.block b4 (by omega)).trans HMv4_4.out)
  have HMw5_1 := Lib.hid ((hb5.block b1 (by omega)).trans HMv4_1.out)
  have HS40 := Lib.hid (same_c x x _ _ _ _ w5 (HX4.out.keep (w' := w5) fun p hp => hb5.cell (p := p) (by have : p.block < b4 + 1 := hp; omega)) (HXv4_0.out.keep (w' := w5) fun p hp => hb5.cell (p := p) (by have : p.block < b0 + 1 := hp; omega)) (fun b hb => by have := hb5.size; omega) (fun b hb => by have := hb5.size; omega))
  have HX15 := Lib.hid (HX1.out.keep (w' := w5) fun p hp => hb5.cell (p := p) (by have : p.block < b1 + 1 := hp; omega))
  have HB5 := Lib.hid (HBv4.out.trans (hb5.mono (by omega)))
  have hs5 : b4 + 1 ≤ w5.heap.size := by have := hb5.size; omega
  clear hb5 y0 y1 y2 y3 y4 y5 y6 z0 z1 z2 z3 z4 z5 z6
  obtain ⟨y0, y1, y2, y3, y4, y5, y6⟩ := box7_of HMw5_4.out
  obtain ⟨z0, z1, z2, z3, z4, z5, z6⟩ := box7_of HMw5_0.out
  go_wp2_with (go_at_call 7; refine (lnum12_c _ _).mono ?_; rintro e w' ⟨rfl, rfl⟩)
  refine HS40.out.mono ?_
  rintro e9 w6 ⟨rfl, hb6⟩
  rw [show sameV x x = true from sameV_iff.2 rfl]
  have HMw6_1 := Lib.hid ((hb6.block b1 (by omega)).trans HMw5_1.out)
  have hx16 := HX15.out.keep (w' := w6) fun p hp => hb6.cell (p := p) (by have : p.block < b1 + 1 := hp; omega)
  have hli := vin_listK hx16
  have HCK := Lib.hid (checksOk_c (c := lc1) w6 HQ5.out hli (fun b hb => by have := hb6.size; omega))
  have HB6 := Lib.hid (HB5.out.trans (hb6.mono (by omega)))
  have hs6 : b4 + 1 ≤ w6.heap.size := by have := hb6.size; omega
  clear hb6 hx16 hli y0 y1 y2 y3 y4 y5 y6 z0 z1 z2 z3 z4 z5 z6
  obtain ⟨y0, y1, y2, y3, y4, y5, y6⟩ := box7_of HMw6_1.out
  go_wp2_with fail
  refine HCK.out.mono ?_
  rintro e9 w7 ⟨rfl, hb7⟩
  go_wp2_with fail
  go_ret
  exact ⟨rfl, HB6.out.trans (hb7.mono (by omega))⟩
end Go.Proofs.YtobfeneeehmpcaaGreatDoor
