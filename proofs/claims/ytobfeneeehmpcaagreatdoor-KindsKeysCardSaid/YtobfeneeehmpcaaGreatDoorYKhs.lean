/-
  Contracts of kinds.Has: of a list and a place; of an object and one of its keys; of an object and a number.
-/
import Derived.Test.YtobfeneeehmpcaaGreatDoorYKbs
set_option linter.unusedVariables false
set_option linter.unusedSimpArgs false
namespace Go.Proofs.YtobfeneeehmpcaaGreatDoor
open Go.RowKit Go.Lib

/-- A text as a value. -/
def textK7 (s : ByteArray) : VT := .mk 4 false [] 0 s [] []
theorem okNumK {n : Nat} (h : n < 10 ^ 40) : okV (numT (n : Int)) := by
  rw [numT_natK]
  obtain ⟨h1, -, -⟩ := placeK h
  refine okOneK ?_ rfl
  unfold alone
  rw [if_neg (by show ¬ ((3 : Int) < 0 ∨ 6 < 3); omega), if_neg (by show ¬ (List.any [] _) = true; simp), if_neg (by show ¬ (List.any [] _) = true; simp), if_neg (by show ¬ (4096 < 0 ∨ 4096 < 0); omega), if_pos ?_]
  rw [fitV_mk, if_pos rfl, h1]; rfl
theorem okTextK {s : ByteArray} (h1 : isT s.data.toList = true) (h2 : s.size ≤ 16384) : okV (textK7 s) := by
  refine okOneK ?_ rfl
  unfold alone
  rw [if_neg (by show ¬ ((4 : Int) < 0 ∨ 6 < 4); omega), if_neg (by show ¬ (List.any [s] _) = true; simp [h1]), if_neg (by show ¬ (List.any [s] _) = true; simp; omega), if_neg (by show ¬ (4096 < 1 ∨ 4096 < 0); omega), if_pos ?_]
  show fitV (.mk 4 false [] 0 s [] []) = true
  rw [fitV_mk, if_neg (by decide), if_pos rfl]; rfl
/-- The keys of an object that may be: texts that may be, rising. -/
theorem keysK {x : VT} (h : okV x) (h6 : x.kind = 6) : rises x.keys = true ∧ x.keys.length = x.list.length ∧ ∀ s ∈ x.keys, isT s.data.toList = true ∧ s.size ≤ 16384 := by
  have ha := alone_of h
  have hT : ownT x = x.keys := by unfold ownT; rw [if_neg (by omega), if_pos h6]
  unfold alone at ha
  rw [hT] at ha
  split at ha
  · exact absurd ha (by decide)
  split at ha
  · exact absurd ha (by decide)
  rename_i h1
  split at ha
  · exact absurd ha (by decide)
  rename_i h2
  split at ha
  · exact absurd ha (by decide)
  split at ha
  · rename_i hf
    unfold fitV at hf
    rw [if_neg (by omega), if_neg (by omega), if_neg (by omega), if_pos h6] at hf
    simp only [Bool.and_eq_true, decide_eq_true_eq] at hf
    refine ⟨hf.1.1.1.2, hf.1.1.1.1, fun s hs => ⟨?_, ?_⟩⟩
    · rw [List.any_eq_true] at h1
      by_cases hi : isT s.data.toList = true
      · exact hi
      · exact absurd ⟨s, hs, by simpa using hi⟩ h1
    · rw [List.any_eq_true] at h2
      by_cases hi : s.size ≤ 16384
      · exact hi
      · exact absurd ⟨s, hs, by simpa using hi⟩ h2
  · exact absurd ha (by decide)
theorem row_twoK {w : World} {S : Nat → Prop} {b : Nat} {x y : VT} {cs ds : List Value} (hc : cs.length = 7) (hd : ds.length = 7) (h : w.heap[b]? = some (.cells (cs ++ ds).toArray 28)) (hb : S b) (hx : VIn w S x cs) (hy : VIn w S y ds) : RdL w S (some ⟨b, 0, none⟩) 2 [x, y] := by
  refine ⟨rfl, by omega, fun i => if i = 0 then cs else ds, fun _ => ⟨b, 0, rfl, hb, fun i hi => ⟨?_, fun j hj => ?_⟩⟩, fun i z hz => ?_⟩
  · by_cases h0 : i = 0
    · simp only [h0, if_true]; exact hc
    · simp only [h0, if_false]; exact hd
  · rw [Nat.zero_add, cell_of_heap h, List.getElem?_toArray]
    by_cases h0 : i = 0
    · subst h0
      simp only [if_true, Nat.zero_mul, Nat.zero_add]
      rw [List.getElem?_append_left (by omega)]
    · obtain rfl : i = 1 := by omega
      simp only [Nat.one_ne_zero, if_false, Nat.one_mul]
      rw [List.getElem?_append_right (by omega), hc, Nat.add_sub_cancel_left]
  · match i, hz with
    | 0, hz => rw [List.getElem?_cons_zero] at hz; injection hz with hz; rw [← hz]; exact hx
    | 1, hz =>
      have hz : some y = some z := hz
      injection hz with hz
      rw [← hz]; exact hy
theorem errK_two {x y : VT} (hx : okV x) (hy : okV y) : errK [x, y] = 0 := by
  unfold errK
  rw [if_pos (show errV x = 0 from hx)]
  exact (errK_one y).trans hy
/-- A text that an object has. -/
theorem vin_keysK {w : World} {S : Nat → Prop} {k : Int} {neg : Bool} {xs : List Nat} {e : Int} {t : ByteArray} {l : List VT} {ks : List ByteArray} {A LA KA : Option Addr} {n c ln lc kn kc : Nat} {e2 : Int} {t2 : ByteArray} {k2 : Int} {neg2 : Bool} (h : VIn w S (.mk k neg xs e t l ks) [.int .i64 k2, .bool neg2, .slice A n c, .int .i64 e2, .string t2, .slice LA ln lc, .slice KA kn kc]) : k2 = k ∧ RdT w S KA kn ks ∧ kn ≤ 8796093022208 ∧ l.length = ln ∧ ln ≤ 1256584717458 := by
  cases h with
  | mk hr hn ht hks hkn hl hln hlc hrow hall => exact ⟨rfl, hks, hkn, hl, hln⟩
set_option maxRecDepth 1000000 in
set_option maxHeartbeats 8000000 in
theorem hasE_c {S S' : Nat → Prop} {x : VT} {cs : List Value} {A2 LB KB : Option Addr} {n2 c2 i lnb lb knb kb : Nat} (w : World) (hT : Tabs w) (hok : okV x) (hx : VIn w S x cs) (hS : ∀ b, S b → b < w.heap.size) (hS' : ∀ b, S' b → b < w.heap.size) (h6 : x.kind = 6) (hi : i < 10 ^ 40) (hy : VIn w S' (numT (i : Int)) [.int .i64 3, .bool false, .slice A2 n2 c2, .int .i64 (stX i 0), .string ⟨#[]⟩, .slice LB lnb lb, .slice KB knb kb]) :
    Calls Tryz.prog 12 #[.agg cs.toArray, .agg #[.int .i64 3, .bool false, .slice A2 n2 c2, .int .i64 (stX i 0), .string ⟨#[]⟩, .slice LB lnb lb, .slice KB knb kb]] w fun e w' => e = .returned (.tuple #[.bool false, .int .i64 41]) ∧ Below w.heap.size w w' := by
  obtain ⟨k1, neg1, A1, n1, c1, ex1, t1, LA1, ln1, lc1, KA1, kn1, kc1, rfl, hk1, -⟩ := hx.seven
  have hoy := okNumK hi
  have hk6 : k1 = 6 := by rw [← hk1]; exact h6
  subst hk6
  obtain ⟨vb, hvb⟩ : ∃ b, w.heap.size = b := ⟨_, rfl⟩
  obtain ⟨w3, hw3⟩ : ∃ w3, (w.alloc (.cells #[.int .i64 6, .bool neg1, .slice A1 n1 c1, .int .i64 ex1, .string t1, .slice LA1 ln1 lc1, .slice KA1 kn1 kc1] 28)).alloc (.cells #[.int .i64 3, .bool false, .slice A2 n2 c2, .int .i64 (stX i 0), .string ⟨#[]⟩, .slice LB lnb lb, .slice KB knb kb] 28) = w3 := ⟨_, rfl⟩
  have hb3 : Below vb w w3 := by
    rw [← hw3]
    exact ((Below.refl vb w).alloc (by omega) _).alloc (by rw [World.size_alloc]; omega) _
  have hs3 : w3.heap.size = vb + 2 := by rw [← hw3, World.size_alloc, World.size_alloc]; omega
  have h0 : w3.heap[vb]? = some (.cells #[.int .i64 6, .bool neg1, .slice A1 n1 c1, .int .i64 ex1, .string t1, .slice LA1 ln1 lc1, .slice KA1 kn1 kc1] 28) := by
    rw [← hw3, Below.heap_alloc _ _ _ (by simp; omega), ← hvb]; exact World.alloc_heap_new _ _
  have h1 : w3.heap[vb + 1]? = some (.cells #[.int .i64 3, .bool false, .slice A2 n2 c2, .int .i64 (stX i 0), .string ⟨#[]⟩, .slice LB lnb lb, .slice KB knb kb] 28) := by
    rw [← hw3]
    have := World.alloc_heap_new (w.alloc (.cells #[.int .i64 6, .bool neg1, .slice A1 n1 c1, .int .i64 ex1, .string t1, .slice LA1 ln1 lc1, .slice KA1 kn1 kc1] 28)) (.cells #[.int .i64 3, .bool false, .slice A2 n2 c2, .int .i64 (stX i 0), .string ⟨#[]⟩, .slice LB lnb lb, .slice KB knb kb] 28)
    rwa [World.size_alloc, hvb] at this
  have hx3 := hx.keep (w' := w3) fun p hp => hb3.cell (p := p) (by have := hS _ hp; omega)
  have hy3 := hy.keep (w' := w3) fun p hp => hb3.cell (p := p) (by have := hS' _ hp; omega)
  have hT3 := hT.below (hvb ▸ hb3)
  obtain ⟨w4, hw4⟩ : ∃ w4, w3.alloc (.cells #[.int .i64 6, .bool neg1, .slice A1 n1 c1, .int .i64 ex1, .string t1, .slice LA1 ln1 lc1, .slice KA1 kn1 kc1, .int .i64 3, .bool false, .slice A2 n2 c2, .int .i64 (stX i 0), .string ⟨#[]⟩, .slice LB lnb lb, .slice KB knb kb] 28) = w4 := ⟨_, rfl⟩
  have hb4 : Below (vb + 2) w3 w4 := by rw [← hw4]; exact (Below.refl _ w3).alloc (by omega) _
  have hr4 : w4.heap[vb + 2]? = some (.cells #[.int .i64 6, .bool neg1, .slice A1 n1 c1, .int .i64 ex1, .string t1, .slice LA1 ln1 lc1, .slice KA1 kn1 kc1, .int .i64 3, .bool false, .slice A2 n2 c2, .int .i64 (stX i 0), .string ⟨#[]⟩, .slice LB lnb lb, .slice KB knb kb] 28) := by
    rw [← hw4, ← hs3]; exact World.alloc_heap_new _ _
  have hs4 : w4.heap.size = vb + 3 := by rw [← hw4, World.size_alloc, hs3]
  have hx4 := (hx3.keep (w' := w4) fun p hp => hb4.cell (p := p) (by have := hS _ hp; omega))
  have hy4 := (hy3.keep (w' := w4) fun p hp => hb4.cell (p := p) (by have := hS' _ hp; omega))
  have hrow := row_twoK (S := fun b => b < vb + 3) (cs := [.int .i64 6, .bool neg1, .slice A1 n1 c1, .int .i64 ex1, .string t1, .slice LA1 ln1 lc1, .slice KA1 kn1 kc1]) (ds := [.int .i64 3, .bool false, .slice A2 n2 c2, .int .i64 (stX i 0), .string ⟨#[]⟩, .slice LB lnb lb, .slice KB knb kb]) rfl rfl hr4 (by omega) (hx4.more fun b hb => by have := hS b hb; omega) (hy4.more fun b hb => by have := hS' b hb; omega)
  have hck := kcheck_c (c := 2) w4 (hT3.below (hb4.mono (by omega))) hrow (fun b hb => by omega)
  rw [errK_two hok hoy] at hck
  obtain ⟨y0, y1, y2, y3, y4, y5, y6⟩ := box7_of h0
  obtain ⟨z0, z1, z2, z3, z4, z5, z6⟩ := box7_of h1
  have HCK := Lib.hid hck
  have HW3 := Lib.hid hw3
  have HW4 := Lib.hid hw4
  have HB4 := Lib.hid (hb3.trans (hb4.mono (by omega)))
  have H0 := Lib.hid ((hb4.block vb (by omega)).trans h0)
  have H1 := Lib.hid ((hb4.block (vb + 1) (by omega)).trans h1)
  have HS4 := Lib.hid hs4
  have HX4 := Lib.hid hx4
  have HY4 := Lib.hid hy4
  have HS := Lib.hid (show ∀ b, S b → b < vb from fun b hb => by have := hS b hb; omega)
  have HS' := Lib.hid (show ∀ b, S' b → b < vb from fun b hb => by have := hS' b hb; omega)
  have hs3' := hs3
  rw [hvb]
  clear hck hw3 hw4 hb3 hb4 h0 h1 hs3 hs4 hx hx3 hx4 hy hy3 hy4 hrow hr4 hT hT3 hS hS' hok hoy
  go_enter Tryz.func12, Tryz.ntmps12
  go_upto_region 1 with fail
  try rw [hvb]
  clear hvb
  rw [HW3.out]
  go_wp2_with fail
  try rw [hs3']
  rw [HW4.out]
  refine HCK.out.mono ?_
  rintro e9 w5 ⟨rfl, hb5⟩
  rw [HS4.out] at hb5
  have hm0 := (hb5.block vb (by omega)).trans H0.out
  have hm1 := (hb5.block (vb + 1) (by omega)).trans H1.out
  have hs5 : vb + 3 ≤ w5.heap.size := by have := hb5.size; rw [HS4.out] at this; exact this
  have HX5 := Lib.hid (HX4.out.keep (w' := w5) fun p hp => hb5.cell (p := p) (by have := HS.out _ hp; omega))
  have HY5 := Lib.hid (HY4.out.keep (w' := w5) fun p hp => hb5.cell (p := p) (by have := HS'.out _ hp; omega))
  clear y0 y1 y2 y3 y4 y5 y6 z0 z1 z2 z3 z4 z5 z6 hs3'
  obtain ⟨y0, y1, y2, y3, y4, y5, y6⟩ := box7_of hm0
  obtain ⟨z0, z1, z2, z3, z4, z5, z6⟩ := box7_of hm1
  have HM0 := Lib.hid hm0
  have HB5 := Lib.hid (HB4.out.trans (hb5.mono (by omega)))
  clear hb5 hm0 hm1
  go_wp2_with fail
  go_ret2
  exact ⟨rfl, HB5.out⟩
set_option maxRecDepth 1000000 in
set_option maxHeartbeats 8000000 in
theorem hasO_c {S S' : Nat → Prop} {x : VT} {cs : List Value} {s : ByteArray} {AB LB KB : Option Addr} {i nb cb lnb lb knb kb : Nat} (w : World) (hT : Tabs w) (hok : okV x) (hx : VIn w S x cs) (hS : ∀ b, S b → b < w.heap.size) (hS' : ∀ b, S' b → b < w.heap.size) (h6 : x.kind = 6) (hs : x.keys[i]? = some s) (hy : VIn w S' (textK7 s) [.int .i64 4, .bool false, .slice AB nb cb, .int .i64 0, .string s, .slice LB lnb lb, .slice KB knb kb]) :
    Calls Tryz.prog 12 #[.agg cs.toArray, .agg #[.int .i64 4, .bool false, .slice AB nb cb, .int .i64 0, .string s, .slice LB lnb lb, .slice KB knb kb]] w fun e w' => e = .returned (.tuple #[.bool true, .int .i64 0]) ∧ Below w.heap.size w w' := by
  obtain ⟨k1, neg1, A1, n1, c1, ex1, t1, LA1, ln1, lc1, KA1, kn1, kc1, rfl, hk1, -⟩ := hx.seven
  obtain ⟨hri, -, hte⟩ := keysK hok h6
  obtain ⟨ht1, ht2⟩ := hte s (List.mem_of_getElem? hs)
  have hoy := okTextK ht1 ht2
  have hk6 : k1 = 6 := by rw [← hk1]; exact h6
  subst hk6
  obtain ⟨vb, hvb⟩ : ∃ b, w.heap.size = b := ⟨_, rfl⟩
  obtain ⟨w3, hw3⟩ : ∃ w3, (w.alloc (.cells #[.int .i64 6, .bool neg1, .slice A1 n1 c1, .int .i64 ex1, .string t1, .slice LA1 ln1 lc1, .slice KA1 kn1 kc1] 28)).alloc (.cells #[.int .i64 4, .bool false, .slice AB nb cb, .int .i64 0, .string s, .slice LB lnb lb, .slice KB knb kb] 28) = w3 := ⟨_, rfl⟩
  have hb3 : Below vb w w3 := by
    rw [← hw3]
    exact ((Below.refl vb w).alloc (by omega) _).alloc (by rw [World.size_alloc]; omega) _
  have hs3 : w3.heap.size = vb + 2 := by rw [← hw3, World.size_alloc, World.size_alloc]; omega
  have h0 : w3.heap[vb]? = some (.cells #[.int .i64 6, .bool neg1, .slice A1 n1 c1, .int .i64 ex1, .string t1, .slice LA1 ln1 lc1, .slice KA1 kn1 kc1] 28) := by
    rw [← hw3, Below.heap_alloc _ _ _ (by simp; omega), ← hvb]; exact World.alloc_heap_new _ _
  have h1 : w3.heap[vb + 1]? = some (.cells #[.int .i64 4, .bool false, .slice AB nb cb, .int .i64 0, .string s, .slice LB lnb lb, .slice KB knb kb] 28) := by
    rw [← hw3]
    have := World.alloc_heap_new (w.alloc (.cells #[.int .i64 6, .bool neg1, .slice A1 n1 c1, .int .i64 ex1, .string t1, .slice LA1 ln1 lc1, .slice KA1 kn1 kc1] 28)) (.cells #[.int .i64 4, .bool false, .slice AB nb cb, .int .i64 0, .string s, .slice LB lnb lb, .slice KB knb kb] 28)
    rwa [World.size_alloc, hvb] at this
  have hx3 := hx.keep (w' := w3) fun p hp => hb3.cell (p := p) (by have := hS _ hp; omega)
  have hy3 := hy.keep (w' := w3) fun p hp => hb3.cell (p := p) (by have := hS' _ hp; omega)
  have hT3 := hT.below (hvb ▸ hb3)
  obtain ⟨w4, hw4⟩ : ∃ w4, w3.alloc (.cells #[.int .i64 6, .bool neg1, .slice A1 n1 c1, .int .i64 ex1, .string t1, .slice LA1 ln1 lc1, .slice KA1 kn1 kc1, .int .i64 4, .bool false, .slice AB nb cb, .int .i64 0, .string s, .slice LB lnb lb, .slice KB knb kb] 28) = w4 := ⟨_, rfl⟩
  have hb4 : Below (vb + 2) w3 w4 := by rw [← hw4]; exact (Below.refl _ w3).alloc (by omega) _
  have hr4 : w4.heap[vb + 2]? = some (.cells #[.int .i64 6, .bool neg1, .slice A1 n1 c1, .int .i64 ex1, .string t1, .slice LA1 ln1 lc1, .slice KA1 kn1 kc1, .int .i64 4, .bool false, .slice AB nb cb, .int .i64 0, .string s, .slice LB lnb lb, .slice KB knb kb] 28) := by
    rw [← hw4, ← hs3]; exact World.alloc_heap_new _ _
  have hs4 : w4.heap.size = vb + 3 := by rw [← hw4, World.size_alloc, hs3]
  have hx4 := (hx3.keep (w' := w4) fun p hp => hb4.cell (p := p) (by have := hS _ hp; omega))
  have hy4 := (hy3.keep (w' := w4) fun p hp => hb4.cell (p := p) (by have := hS' _ hp; omega))
  have hrow := row_twoK (S := fun b => b < vb + 3) (cs := [.int .i64 6, .bool neg1, .slice A1 n1 c1, .int .i64 ex1, .string t1, .slice LA1 ln1 lc1, .slice KA1 kn1 kc1]) (ds := [.int .i64 4, .bool false, .slice AB nb cb, .int .i64 0, .string s, .slice LB lnb lb, .slice KB knb kb]) rfl rfl hr4 (by omega) (hx4.more fun b hb => by have := hS b hb; omega) (hy4.more fun b hb => by have := hS' b hb; omega)
  have hck := kcheck_c (c := 2) w4 (hT3.below (hb4.mono (by omega))) hrow (fun b hb => by omega)
  rw [errK_two hok hoy] at hck
  obtain ⟨y0, y1, y2, y3, y4, y5, y6⟩ := box7_of h0
  obtain ⟨z0, z1, z2, z3, z4, z5, z6⟩ := box7_of h1
  have HCK := Lib.hid hck
  have HW3 := Lib.hid hw3
  have HW4 := Lib.hid hw4
  have HB4 := Lib.hid (hb3.trans (hb4.mono (by omega)))
  have H0 := Lib.hid ((hb4.block vb (by omega)).trans h0)
  have H1 := Lib.hid ((hb4.block (vb + 1) (by omega)).trans h1)
  have HS4 := Lib.hid hs4
  have HX4 := Lib.hid hx4
  have HY4 := Lib.hid hy4
  have HS := Lib.hid (show ∀ b, S b → b < vb from fun b hb => by have := hS b hb; omega)
  have HS' := Lib.hid (show ∀ b, S' b → b < vb from fun b hb => by have := hS' b hb; omega)
  have hs3' := hs3
  rw [hvb]
  clear hck hw3 hw4 hb3 hb4 h0 h1 hs3 hs4 hx hx3 hx4 hy hy3 hy4 hrow hr4 hT hT3 hS hS' hok hoy
  go_enter Tryz.func12, Tryz.ntmps12
  go_upto_region 1 with fail
  try rw [hvb]
  clear hvb
  rw [HW3.out]
  go_wp2_with fail
  try rw [hs3']
  rw [HW4.out]
  refine HCK.out.mono ?_
  rintro e9 w5 ⟨rfl, hb5⟩
  rw [HS4.out] at hb5
  have hm0 := (hb5.block vb (by omega)).trans H0.out
  have hm1 := (hb5.block (vb + 1) (by omega)).trans H1.out
  have hs5 : vb + 3 ≤ w5.heap.size := by have := hb5.size; rw [HS4.out] at this; exact this
  have HX5 := Lib.hid (HX4.out.keep (w' := w5) fun p hp => hb5.cell (p := p) (by have := HS.out _ hp; omega))
  have HY5 := Lib.hid (HY4.out.keep (w' := w5) fun p hp => hb5.cell (p := p) (by have := HS'.out _ hp; omega))
  clear y0 y1 y2 y3 y4 y5 y6 z0 z1 z2 z3 z4 z5 z6 hs3'
  obtain ⟨y0, y1, y2, y3, y4, y5, y6⟩ := box7_of hm0
  obtain ⟨z0, z1, z2, z3, z4, z5, z6⟩ := box7_of hm1
  have HM0 := Lib.hid hm0
  have HB5 := Lib.hid (HB4.out.trans (hb5.mono (by omega)))
  clear hb5 hm0 hm1
  have hbi := fun W (hW : Below w5.heap.size w5 W) => (show Calls Tryz.prog 29 #[.slice KA1 kn1 kc1, .string s] W fun e w' => e = .returned (.tuple #[.int .i64 (i : Int), .bool true]) ∧ W = w' by
    obtain ⟨kk, ng, xs, ee, tt, li, ks, hxe⟩ : ∃ kk ng xs ee tt li ks, x = VT.mk kk ng xs ee tt li ks := by cases x; exact ⟨_, _, _, _, _, _, _, rfl⟩
    have hvx := HX5.out
    rw [hxe] at hvx hri hs
    obtain ⟨-, hrd, hkn, -⟩ := vin_keysK hvx
    exact binary_c W hri (hrd.keep fun p hp => hW.cell (p := p) (by have := HS.out _ hp; omega)) hs hkn)
  have HBI := Lib.hid (hbi w5 (Below.refl _ _))
  clear hbi
  go_wp2_with fail
  refine HBI.out.mono ?_
  rintro e9 w6 ⟨rfl, rfl⟩
  go_wp2_with fail
  go_ret2
  exact ⟨rfl, HB5.out⟩
set_option maxRecDepth 1000000 in
set_option maxHeartbeats 8000000 in
theorem hasL_c {S S' : Nat → Prop} {x : VT} {cs : List Value} {A2 LB KB : Option Addr} {n2 c2 i lnb lb knb kb : Nat} (w : World) (hT : Tabs w) (hok : okV x) (hx : VIn w S x cs) (hS : ∀ b, S b → b < w.heap.size) (hS' : ∀ b, S' b → b < w.heap.size) (h5 : x.kind = 5) (hi : i ≤ 1256584717458) (hy : VIn w S' (numT (i : Int)) [.int .i64 3, .bool false, .slice A2 n2 c2, .int .i64 (stX i 0), .string ⟨#[]⟩, .slice LB lnb lb, .slice KB knb kb]) :
    Calls Tryz.prog 12 #[.agg cs.toArray, .agg #[.int .i64 3, .bool false, .slice A2 n2 c2, .int .i64 (stX i 0), .string ⟨#[]⟩, .slice LB lnb lb, .slice KB knb kb]] w fun e w' => e = .returned (.tuple #[.bool (decide (i < x.list.length)), .int .i64 0]) ∧ Below w.heap.size w w' := by
  obtain ⟨k1, neg1, A1, n1, c1, ex1, t1, LA1, ln1, lc1, KA1, kn1, kc1, rfl, hk1, -⟩ := hx.seven
  have hoy := okNumK (n := i) (by omega)
  have hk5 : k1 = 5 := by rw [← hk1]; exact h5
  subst hk5
  have hln1 : x.list.length = ln1 ∧ ln1 ≤ 1256584717458 := by
    obtain ⟨kk, ng, xs, ee, tt, li, ks, hxe⟩ : ∃ kk ng xs ee tt li ks, x = VT.mk kk ng xs ee tt li ks := by cases x; exact ⟨_, _, _, _, _, _, _, rfl⟩
    have hvx := hx
    rw [hxe] at hvx ⊢
    obtain ⟨-, -, -, h8, h9⟩ := vin_keysK hvx
    exact ⟨h8, h9⟩
  rw [hln1.1]
  have hlnb := hln1.2
  clear hln1
  obtain ⟨R, hR⟩ : ∃ R, decide (i < ln1) = R := ⟨_, rfl⟩
  rw [hR]
  have HRR := Lib.hid hR
  clear hR
  obtain ⟨vb, hvb⟩ : ∃ b, w.heap.size = b := ⟨_, rfl⟩
  obtain ⟨w3, hw3⟩ : ∃ w3, (w.alloc (.cells #[.int .i64 5, .bool neg1, .slice A1 n1 c1, .int .i64 ex1, .string t1, .slice LA1 ln1 lc1, .slice KA1 kn1 kc1] 28)).alloc (.cells #[.int .i64 3, .bool false, .slice A2 n2 c2, .int .i64 (stX i 0), .string ⟨#[]⟩, .slice LB lnb lb, .slice KB knb kb] 28) = w3 := ⟨_, rfl⟩
  have hb3 : Below vb w w3 := by
    rw [← hw3]
    exact ((Below.refl vb w).alloc (by omega) _).alloc (by rw [World.size_alloc]; omega) _
  have hs3 : w3.heap.size = vb + 2 := by rw [← hw3, World.size_alloc, World.size_alloc]; omega
  have h0 : w3.heap[vb]? = some (.cells #[.int .i64 5, .bool neg1, .slice A1 n1 c1, .int .i64 ex1, .string t1, .slice LA1 ln1 lc1, .slice KA1 kn1 kc1] 28) := by
    rw [← hw3, Below.heap_alloc _ _ _ (by simp; omega), ← hvb]; exact World.alloc_heap_new _ _
  have h1 : w3.heap[vb + 1]? = some (.cells #[.int .i64 3, .bool false, .slice A2 n2 c2, .int .i64 (stX i 0), .string ⟨#[]⟩, .slice LB lnb lb, .slice KB knb kb] 28) := by
    rw [← hw3]
    have := World.alloc_heap_new (w.alloc (.cells #[.int .i64 5, .bool neg1, .slice A1 n1 c1, .int .i64 ex1, .string t1, .slice LA1 ln1 lc1, .slice KA1 kn1 kc1] 28)) (.cells #[.int .i64 3, .bool false, .slice A2 n2 c2, .int .i64 (stX i 0), .string ⟨#[]⟩, .slice LB lnb lb, .slice KB knb kb] 28)
    rwa [World.size_alloc, hvb] at this
  have hx3 := hx.keep (w' := w3) fun p hp => hb3.cell (p := p) (by have := hS _ hp; omega)
  have hy3 := hy.keep (w' := w3) fun p hp => hb3.cell (p := p) (by have := hS' _ hp; omega)
  have hT3 := hT.below (hvb ▸ hb3)
  obtain ⟨w4, hw4⟩ : ∃ w4, w3.alloc (.cells #[.int .i64 5, .bool neg1, .slice A1 n1 c1, .int .i64 ex1, .string t1, .slice LA1 ln1 lc1, .slice KA1 kn1 kc1, .int .i64 3, .bool false, .slice A2 n2 c2, .int .i64 (stX i 0), .string ⟨#[]⟩, .slice LB lnb lb, .slice KB knb kb] 28) = w4 := ⟨_, rfl⟩
  have hb4 : Below (vb + 2) w3 w4 := by rw [← hw4]; exact (Below.refl _ w3).alloc (by omega) _
  have hr4 : w4.heap[vb + 2]? = some (.cells #[.int .i64 5, .bool neg1, .slice A1 n1 c1, .int .i64 ex1, .string t1, .slice LA1 ln1 lc1, .slice KA1 kn1 kc1, .int .i64 3, .bool false, .slice A2 n2 c2, .int .i64 (stX i 0), .string ⟨#[]⟩, .slice LB lnb lb, .slice KB knb kb] 28) := by
    rw [← hw4, ← hs3]; exact World.alloc_heap_new _ _
  have hs4 : w4.heap.size = vb + 3 := by rw [← hw4, World.size_alloc, hs3]
  have hx4 := (hx3.keep (w' := w4) fun p hp => hb4.cell (p := p) (by have := hS _ hp; omega))
  have hy4 := (hy3.keep (w' := w4) fun p hp => hb4.cell (p := p) (by have := hS' _ hp; omega))
  have hrow := row_twoK (S := fun b => b < vb + 3) (cs := [.int .i64 5, .bool neg1, .slice A1 n1 c1, .int .i64 ex1, .string t1, .slice LA1 ln1 lc1, .slice KA1 kn1 kc1]) (ds := [.int .i64 3, .bool false, .slice A2 n2 c2, .int .i64 (stX i 0), .string ⟨#[]⟩, .slice LB lnb lb, .slice KB knb kb]) rfl rfl hr4 (by omega) (hx4.more fun b hb => by have := hS b hb; omega) (hy4.more fun b hb => by have := hS' b hb; omega)
  have hck := kcheck_c (c := 2) w4 (hT3.below (hb4.mono (by omega))) hrow (fun b hb => by omega)
  rw [errK_two hok hoy] at hck
  obtain ⟨y0, y1, y2, y3, y4, y5, y6⟩ := box7_of h0
  obtain ⟨z0, z1, z2, z3, z4, z5, z6⟩ := box7_of h1
  have HCK := Lib.hid hck
  have HW3 := Lib.hid hw3
  have HW4 := Lib.hid hw4
  have HB4 := Lib.hid (hb3.trans (hb4.mono (by omega)))
  have H0 := Lib.hid ((hb4.block vb (by omega)).trans h0)
  have H1 := Lib.hid ((hb4.block (vb + 1) (by omega)).trans h1)
  have HS4 := Lib.hid hs4
  have HX4 := Lib.hid hx4
  have HY4 := Lib.hid hy4
  have HS := Lib.hid (show ∀ b, S b → b < vb from fun b hb => by have := hS b hb; omega)
  have HS' := Lib.hid (show ∀ b, S' b → b < vb from fun b hb => by have := hS' b hb; omega)
  have hs3' := hs3
  rw [hvb]
  clear hck hw3 hw4 hb3 hb4 h0 h1 hs3 hs4 hx hx3 hx4 hy hy3 hy4 hrow hr4 hT hT3 hS hS' hok hoy
  go_enter Tryz.func12, Tryz.ntmps12
  go_upto_region 1 with fail
  try rw [hvb]
  clear hvb
  rw [HW3.out]
  go_wp2_with fail
  try rw [hs3']
  rw [HW4.out]
  refine HCK.out.mono ?_
  rintro e9 w5 ⟨rfl, hb5⟩
  rw [HS4.out] at hb5
  have hm0 := (hb5.block vb (by omega)).trans H0.out
  have hm1 := (hb5.block (vb + 1) (by omega)).trans H1.out
  have hs5 : vb + 3 ≤ w5.heap.size := by have := hb5.size; rw [HS4.out] at this; exact this
  have HX5 := Lib.hid (HX4.out.keep (w' := w5) fun p hp => hb5.cell (p := p) (by have := HS.out _ hp; omega))
  have HY5 := Lib.hid (HY4.out.keep (w' := w5) fun p hp => hb5.cell (p := p) (by have := HS'.out _ hp; omega))
  clear y0 y1 y2 y3 y4 y5 y6 z0 z1 z2 z3 z4 z5 z6 hs3'
  obtain ⟨y0, y1, y2, y3, y4, y5, y6⟩ := box7_of hm0
  obtain ⟨z0, z1, z2, z3, z4, z5, z6⟩ := box7_of hm1
  have HM0 := Lib.hid hm0
  have HB5 := Lib.hid (HB4.out.trans (hb5.mono (by omega)))
  clear hb5 hm0 hm1
  have hrd : Rd w5 S' A2 n2 (stZ i 0) ∧ n2 ≤ 35184372088832 := by
    have h9 := HY5.out
    rw [numT_natK] at h9
    cases h9 with
    | mk hr hn ht hks hkn hl hln hlc hrow hall => exact ⟨hr, hn⟩
  have hfl := floorN_c (c := c2) (n := i) w5 (by omega) hrd.1 (fun b hb => by have := HS'.out b hb; omega) (by have := hrd.2; omega)
  have HFL := Lib.hid hfl
  obtain ⟨sx, hsx⟩ : ∃ sx, stX i 0 = sx := ⟨_, rfl⟩
  have HSX := Lib.hid hsx
  rw [hsx] at HFL z3 ⊢
  clear hfl hrd hsx
  go_wp2_with fail
  refine HFL.out.mono ?_
  rintro e9 w6 ⟨A', m', c', ⟨rfl, hres⟩, hb6⟩
  obtain ⟨fb, hfb⟩ : ∃ b, w6.heap.size = b := ⟨_, rfl⟩
  obtain ⟨w7, hw7⟩ : ∃ W, w6.alloc (.cells #[.bool false, .slice A' m' c', .int .i64 sx] 24) = W := ⟨_, rfl⟩
  have hb7 : Below fb w6 w7 := by rw [← hw7]; exact (Below.refl _ w6).alloc (by omega) _
  have hm7 : w7.heap[fb]? = some (.cells #[.bool false, .slice A' m' c', .int .i64 sx] 24) := by rw [← hw7, ← hfb]; exact World.alloc_heap_new _ _
  have hs7 : w7.heap.size = fb + 1 := by rw [← hw7, World.size_alloc, hfb]
  have hsz6 := hb6.size
  have hwh := wholeK_c (c := c') (n := i) w7 (by omega) (hres.rd.keep (w' := w7) fun p hp => hb7.cell (p := p) (by have := hp.2; omega)) (fun b hb => by have := hb.2; omega) (by have h1 := hres.len; have h2 := stZ_lenK i 0 (by omega); omega)
  rw [HSX.out] at hwh
  have HWH := Lib.hid hwh
  have HW7 := Lib.hid hw7
  have HB7 := Lib.hid (HB5.out.trans ((hb6.trans (hb7.mono (by omega))).mono (by omega)))
  have hm0 := (hb7.block vb (by omega)).trans ((hb6.block vb (by omega)).trans HM0.out)
  have HM07 := Lib.hid hm0
  have hfbs : vb + 3 ≤ fb := by omega
  have f0 : w7.cell? ⟨fb, 0, none⟩ = some (.bool false) := cell_at3 hm7 rfl
  have f1 : w7.cell? ⟨fb, 1, none⟩ = some (.slice A' m' c') := cell_at3 hm7 rfl
  have f2 : w7.cell? ⟨fb, 2, none⟩ = some (.int .i64 sx) := cell_at3 hm7 rfl
  clear hwh hw7 hb6 hb7 hm7 hres hm0 y0 y1 y2 y3 y4 y5 y6 z0 z1 z2 z3 z4 z5 z6
  go_upto_region 9 with fail
  try rw [hfb]
  clear hfb
  rw [HW7.out]
  go_wp2_with fail
  refine HWH.out.mono ?_
  rintro e9 w8 ⟨rfl, hb8⟩
  have hm8 := (hb8.block vb (by omega)).trans HM07.out
  obtain ⟨y0, y1, y2, y3, y4, y5, y6⟩ := box7_of hm8
  have HB8 := Lib.hid (HB7.out.trans (hb8.mono (by omega)))
  have hi0 : (0 : Int) ≤ (i : Int) := by omega
  have hR := HRR.out
  clear hb8 hm8 f0 f1 f2
  by_cases hil : i < ln1
  · have hilI : (i : Int) < (ln1 : Int) := by omega
    rw [decide_eq_true hil] at hR
    subst hR
    go_wp2_with fail
    go_ret2
    exact ⟨rfl, HB8.out⟩
  · have hilI : ¬ (i : Int) < (ln1 : Int) := by omega
    rw [decide_eq_false hil] at hR
    subst hR
    go_wp2_with fail
    go_ret2
    exact ⟨rfl, HB8.out⟩
end Go.Proofs.YtobfeneeehmpcaaGreatDoor
