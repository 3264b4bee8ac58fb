/-
  Contract of containsKeys, given that of contains a level down.
-/
import Derived.Test.YtipomnogabnfdaaGreatDoorPKcz
import Derived.Test.YtipomnogabnfdaaGreatDoorPKix
import Derived.Test.YtipomnogabnfdaaGreatDoorPKhs
set_option linter.unusedVariables false
set_option linter.unusedSimpArgs false
namespace Go.Proofs.YtipomnogabnfdaaGreatDoor
open Go.RowKit Go.Lib

/-- contains answers conF, of trees below a size. -/
def ConS (N B0 : Nat) (w0 : World) : Prop := ∀ (x y : VT) (S S' : Nat → Prop) (cs ds : List Value) (w : World), SizeOf.sizeOf x < N → okV x → okV y → VIn w S x cs → VIn w S' y ds → (∀ b, S b → b < w.heap.size) → (∀ b, S' b → b < w.heap.size) → Below B0 w0 w → B0 ≤ w.heap.size →
  Calls Tryz.prog 17 #[.agg cs.toArray, .agg ds.toArray] w fun e w' => e = .returned (.bool (conF N x y)) ∧ Below w.heap.size w w'
theorem inner6 {x y : VT} (h : x.kind = 6 ∨ x.kind = 5) (hy : y ∈ x.list) : y ∈ x.inner := by
  cases x with
  | mk k n xs e t l ks =>
    have hk : k = 6 ∨ k = 5 := h
    rw [inner_mk]
    rcases hk with rfl | rfl <;> exact hy
set_option maxRecDepth 4000000 in
set_option maxHeartbeats 16000000 in
theorem containsKeys_c {N B0 : Nat} {w0 : World} (hC : ConS N B0 w0) {S S' : Nat → Prop} {x y : VT} {cs ds : List Value} (w : World) (hok1 : okV x) (hok2 : okV y) (hx : VIn w S x cs) (hy : VIn w S' y ds) (hS : ∀ b, S b → b < w.heap.size) (hS' : ∀ b, S' b → b < w.heap.size) (hB : Below B0 w0 w) (hB0 : B0 ≤ w.heap.size) (h6 : x.kind = 6) (h6' : y.kind = 6) (hN : SizeOf.sizeOf x < N + 1) :
    Calls Tryz.prog 45 #[.agg cs.toArray, .agg ds.toArray] w fun e w' => e = .returned (.bool ((y.keys.zip y.list).all fun q => (x.keys.zip x.list).any fun o => decide (o.1 = q.1) && conF N o.2 q.2)) ∧ Below w.heap.size w w' := by
  obtain ⟨hr1, hkl1, -⟩ := keysK hok1 h6
  obtain ⟨-, hkl2, -⟩ := keysK hok2 h6'
  have hsz1 := fun (o : VT) (ho : o ∈ x.list) => (show SizeOf.sizeOf o < N by have := size_elem ho; omega)
  have hoe1 := fun (o : VT) (ho : o ∈ x.list) => okV_elemK hok1 (inner6 (.inl h6) ho)
  have hoe2 := fun (o : VT) (ho : o ∈ y.list) => okV_elemK hok2 (inner6 (.inl h6') ho)
  obtain ⟨z1, zn1, zx1, ze1, zt1, l1, ks1⟩ := x
  obtain ⟨z2, zn2, zx2, ze2, zt2, l2, ks2⟩ := y
  have hbd1 := hx
  have hbd2 := hy
  obtain ⟨A1, n1, c1, LA1, ln1, lc1, KA1, kn1, kc1, rfl, -, -, -, hl1, hk1, -, -⟩ := hx.parts
  obtain ⟨A2, n2, c2, LA2, ln2, lc2, KA2, kn2, kc2, rfl, -, -, -, hl2, hk2, -, -⟩ := hy.parts
  obtain ⟨-, hknb1, -⟩ := hbd1.bounds
  obtain ⟨-, hknb2, -⟩ := hbd2.bounds
  clear hbd1 hbd2 hx hy hok1 hok2
  have hkl1 : ks1.length = l1.length := hkl1
  have hkl2 : ks2.length = l2.length := hkl2
  have hr1 : rises ks1 = true := hr1
  show Calls Tryz.prog 45 #[.agg #[.int .i64 z1, .bool zn1, .slice A1 n1 c1, .int .i64 ze1, .string zt1, .slice LA1 ln1 lc1, .slice KA1 kn1 kc1], .agg #[.int .i64 z2, .bool zn2, .slice A2 n2 c2, .int .i64 ze2, .string zt2, .slice LA2 ln2 lc2, .slice KA2 kn2 kc2]] w fun e w' => e = .returned (.bool ((ks2.zip l2).all (fun q : ByteArray × VT => (ks1.zip l1).any fun o => decide (o.1 = q.1) && conF N o.2 q.2))) ∧ Below w.heap.size w w'
  obtain ⟨PP, hPP⟩ : ∃ P, (fun q : ByteArray × VT => (ks1.zip l1).any fun o => decide (o.1 = q.1) && conF N o.2 q.2) = P := ⟨_, rfl⟩
  obtain ⟨R, hR⟩ : ∃ R, (ks2.zip l2).all PP = R := ⟨_, rfl⟩
  rw [hPP, hR]
  obtain ⟨vb, hvb⟩ : ∃ b, w.heap.size = b := ⟨_, rfl⟩
  obtain ⟨w3, hw3⟩ : ∃ w3, (w.alloc (.cells #[.int .i64 z1, .bool zn1, .slice A1 n1 c1, .int .i64 ze1, .string zt1, .slice LA1 ln1 lc1, .slice KA1 kn1 kc1] 28)).alloc (.cells #[.int .i64 z2, .bool zn2, .slice A2 n2 c2, .int .i64 ze2, .string zt2, .slice LA2 ln2 lc2, .slice KA2 kn2 kc2] 28) = w3 := ⟨_, rfl⟩
  have hb3 : Below vb w w3 := by
    rw [← hw3]
    exact ((Below.refl vb w).alloc (by omega) _).alloc (by rw [World.size_alloc]; omega) _
  have hs3 : w3.heap.size = vb + 2 := by rw [← hw3, World.size_alloc, World.size_alloc]; omega
  have h0 : w3.heap[vb]? = some (.cells #[.int .i64 z1, .bool zn1, .slice A1 n1 c1, .int .i64 ze1, .string zt1, .slice LA1 ln1 lc1, .slice KA1 kn1 kc1] 28) := by
    rw [← hw3, Below.heap_alloc _ _ _ (by simp; omega), ← hvb]; exact World.alloc_heap_new _ _
  have h1 : w3.heap[vb + 1]? = some (.cells #[.int .i64 z2, .bool zn2, .slice A2 n2 c2, .int .i64 ze2, .string zt2, .slice LA2 ln2 lc2, .slice KA2 kn2 kc2] 28) := by
    rw [← hw3]
    have := World.alloc_heap_new (w.alloc (.cells #[.int .i64 z1, .bool zn1, .slice A1 n1 c1, .int .i64 ze1, .string zt1, .slice LA1 ln1 lc1, .slice KA1 kn1 kc1] 28)) (.cells #[.int .i64 z2, .bool zn2, .slice A2 n2 c2, .int .i64 ze2, .string zt2, .slice LA2 ln2 lc2, .slice KA2 kn2 kc2] 28)
    rwa [World.size_alloc, hvb] at this
  have HL1 := Lib.hid (hl1.keep (w' := w3) fun p hp => hb3.cell (p := p) (by have := hS _ hp; omega))
  have HL2 := Lib.hid (hl2.keep (w' := w3) fun p hp => hb3.cell (p := p) (by have := hS' _ hp; omega))
  have HK1 := Lib.hid (hk1.keep (w' := w3) fun p hp => hb3.cell (p := p) (by have := hS _ hp; omega))
  have HK2 := Lib.hid (hk2.keep (w' := w3) fun p hp => hb3.cell (p := p) (by have := hS' _ hp; omega))
  have HS := Lib.hid (show ∀ b, S b → b < vb from fun b hb => by have := hS b hb; omega)
  have HS' := Lib.hid (show ∀ b, S' b → b < vb from fun b hb => by have := hS' b hb; omega)
  have HC := Lib.hid hC
  have HB3 := Lib.hid hb3
  have HBW := Lib.hid (hB.trans ((hvb ▸ hb3).mono hB0))
  have HR := Lib.hid hR
  have HPP := Lib.hid hPP
  have HKL1 := Lib.hid hkl1
  have HKL2 := Lib.hid hkl2
  have HR1 := Lib.hid hr1
  have HSZ1 := Lib.hid hsz1
  have HOE1 := Lib.hid hoe1
  have HOE2 := Lib.hid hoe2
  have HW3 := Lib.hid hw3
  have HS3 := Lib.hid hs3
  have H0 := Lib.hid h0
  have H1 := Lib.hid h1
  have hB0' : B0 ≤ vb + 2 := by omega
  rw [hvb]
  obtain ⟨y0, y1, y2, y3, y4, y5, y6⟩ := box7_of h0
  obtain ⟨q0, q1, q2, q3, q4, q5, q6⟩ := box7_of h1
  clear hl1 hl2 hk1 hk2 hS hS' hC hb3 hB hB0 hR hPP hkl1 hkl2 hr1 hsz1 hoe1 hoe2 hw3 h0 h1 h6 h6' hN hs3
  go_enter Tryz.func45, Tryz.ntmps45
  go_upto_region 1 with fail
  try rw [hvb]
  clear hvb
  rw [HW3.out]
  go_upto_region 2 with fail
  clear y0 y1 y2 y3 y4 y5 y6 q0 q1 q2 q3 q4 q5 q6
  go_loopw [12] (fun iv wr => ∃ i : Nat, i ≤ kn2 ∧ iv = .int .i64 (i : Int) ∧ Hid (∀ (j : Nat) (s : ByteArray) (p : VT), j < i → ks2[j]? = some s → l2[j]? = some p → PP (s, p) = true) ∧ Hid (Below (vb + 2) w3 wr)) (fun iv _ => kn2 - (RowKit.intOf iv).toNat)
  case atStart => exact ⟨0, Nat.zero_le _, rfl, fun j _ _ h => absurd h (Nat.not_lt_zero _), Below.refl _ _⟩
  case round =>
    obtain ⟨i, hin, rfl, HJ, HBR⟩ := hrel
    by_cases hi : i < kn2
    · have hilt : (i : Int) < (kn2 : Int) := by omega
      have hi0 : (0 : Int) ≤ (i : Int) := by omega
      have hit : ((i : Int)).toNat = i := by omega
      have hiw : IntKind.i64.wrap ((i : Int) + 1) = ((i + 1 : Nat) : Int) := by rw [IntWalk.i64_in _ (by omega)]; omega
      have hsw : vb + 2 ≤ wr.heap.size := by have h1 := HBR.out.size; have h2 := HS3.out; omega
      have hlr1 := HL1.out.keep (w' := wr) fun p hp => HBR.out.cell (p := p) (by have := HS.out _ hp; omega)
      have hlr2 := HL2.out.keep (w' := wr) fun p hp => HBR.out.cell (p := p) (by have := HS'.out _ hp; omega)
      have hkr1 := HK1.out.keep (w' := wr) fun p hp => HBR.out.cell (p := p) (by have := HS.out _ hp; omega)
      have hkr2 := HK2.out.keep (w' := wr) fun p hp => HBR.out.cell (p := p) (by have := HS'.out _ hp; omega)
      have x0 := (HBR.out.block vb (by omega)).trans H0.out
      have x1 := (HBR.out.block (vb + 1) (by omega)).trans H1.out
      obtain ⟨y0, y1, y2, y3, y4, y5, y6⟩ := box7_of x0
      obtain ⟨q0, q1, q2, q3, q4, q5, q6⟩ := box7_of x1
      obtain ⟨kb, ko, s, rfl, hSk, hks, hkc⟩ := hkr2.at_ hi
      have hiL : i < ln2 := by have h1 := HK2.out.1; have h2 := HL2.out.1; have h3 := HKL2.out; omega
      obtain ⟨eb2, off2, pv, cs2, rfl, hSb2, hp2, -, hcs2, hv2⟩ := hlr2.at_ hiL
      obtain ⟨k6, neg6, A6, n6, c6, ex6, t6, LA6, ln6, lc6, KA6, kn6, kc6, rfl, -, -⟩ := hv2.seven
      have hcw2 : ∀ a, a < 7 → wr.cell? ⟨eb2, off2 + (i * 7 + a), none⟩ = _ := fun a ha => hcs2 a ha
      have e0 : wr.cell? ⟨eb2, off2 + i * 7, none⟩ = some (.int .i64 k6) := hcw2 0 (by omega)
      have e1 : wr.cell? ⟨eb2, off2 + i * 7 + 1, none⟩ = some (.bool neg6) := hcw2 1 (by omega)
      have e2 : wr.cell? ⟨eb2, off2 + i * 7 + 2, none⟩ = some (.slice A6 n6 c6) := hcw2 2 (by omega)
      have e3 : wr.cell? ⟨eb2, off2 + i * 7 + 3, none⟩ = some (.int .i64 ex6) := hcw2 3 (by omega)
      have e4 : wr.cell? ⟨eb2, off2 + i * 7 + 4, none⟩ = some (.string t6) := hcw2 4 (by omega)
      have e5 : wr.cell? ⟨eb2, off2 + i * 7 + 5, none⟩ = some (.slice LA6 ln6 lc6) := hcw2 5 (by omega)
      have e6 : wr.cell? ⟨eb2, off2 + i * 7 + 6, none⟩ = some (.slice KA6 kn6 kc6) := hcw2 6 (by omega)
      have HFB := Lib.hid (binaryAny_c (s := s) (c := kc1) wr HR1.out hkr1 hknb1)
      have HKS := Lib.hid hks
      have HP2 := Lib.hid hp2
      have HV2 := Lib.hid hv2
      have HLR1 := Lib.hid hlr1
      have hSb2 := HS'.out _ hSb2
      have HBWr := Lib.hid (HBW.out.trans (HBR.out.mono hB0'))
      clear hcs2 hcw2 hp2 hv2 hlr1 hlr2 hkr1 hkr2 x0 x1 hks hSk
      go_upto_region 4 with fail
      go_wp2_with fail
      refine HFB.out.mono ?_
      rintro e9 w' ⟨⟨k, B, rfl, hB1, hB2⟩, rfl⟩
      have HB1 := Lib.hid hB1
      have HB2 := Lib.hid hB2
      clear hB1 hB2
      cases B with
      | false =>
        have hRF : R = false := by
          rw [← HR.out]
          refine zip_failK PP HKS.out HP2.out ?_
          rw [← HPP.out]
          exact zip_noneK (HB2.out rfl) fun o => conF N o pv
        subst hRF
        go_upto_region 5 with fail
        refine wp_region_held_drew (S := fun V => V.cell? ⟨vb, 5, none⟩ = some (.slice LA1 ln1 lc1)) (by kernel_rfl) y5 (fun hHeld => ?_)
        (try simp only [List.size_toArray, List.length_cons, List.length_nil, Nat.reduceAdd, Array.replicate_succ, Array.replicate_zero, List.push_toArray, List.append_toArray, List.nil_append, List.cons_append])
        refine wpAnyH_take (i := 0) (oi := ⟨_, _, _, _, _, _⟩) (v := ?_) rfl (by kernel_rfl) (by kernel_rfl) (by kernel_rfl) (fun _ _ _ h => h) (Or.inl ⟨by rfl, ?_⟩) (by assumption) ?_
        rotate_left
        · intro w hSw
          (try dsimp only at hSw)
          go_split_ands
          go_simp
          try with_reducible rfl
        try simp only [Act.put, List.setIfInBounds_toArray, List.set_cons_zero, List.set_cons_succ]
        refine wpAnyH_take (i := 1) (oi := ⟨_, _, _, _, _, _⟩) (v := ?_) rfl (by kernel_rfl) (by kernel_rfl) (by kernel_rfl) (fun _ _ _ h => h) (Or.inl ⟨by rfl, ?_⟩) (by assumption) ?_
        rotate_left
        · intro w hSw
          (try dsimp only at hSw)
          go_split_ands
          go_simp
          try with_reducible rfl
        try simp only [Act.put, List.setIfInBounds_toArray, List.set_cons_zero, List.set_cons_succ]
        refine wpAnyH_take (i := 2) (oi := ⟨_, _, _, _, _, _⟩) (v := ?_) rfl (by kernel_rfl) (by kernel_rfl) (by kernel_rfl) (fun _ _ _ h => h) (Or.inl ⟨by rfl, ?_⟩) (by assumption) ?_
        rotate_left
        · intro w hSw
          (try dsimp only at hSw)
          go_split_ands
          go_simp
          try with_reducible rfl
        try simp only [Act.put, List.setIfInBounds_toArray, List.set_cons_zero, List.set_cons_succ]
        refine wpAnyH_take (i := 3) (oi := ⟨_, _, _, _, _, _⟩) (v := undef) rfl (by kernel_rfl) (by kernel_rfl) (by kernel_rfl) (fun _ _ _ h => h) (Or.inr ⟨by rfl, rfl⟩) (by assumption) ?_
        try simp only [Act.put, List.setIfInBounds_toArray, List.set_cons_zero, List.set_cons_succ]
        refine wpAnyH_take (i := 4) (oi := ⟨_, _, _, _, _, _⟩) (v := undef) rfl (by kernel_rfl) (by kernel_rfl) (by kernel_rfl) (fun _ _ _ h => h) (Or.inr ⟨by rfl, rfl⟩) (by assumption) ?_
        try simp only [Act.put, List.setIfInBounds_toArray, List.set_cons_zero, List.set_cons_succ]
        refine wpAnyH_take (i := 5) (oi := ⟨_, _, _, _, _, _⟩) (v := undef) rfl (by kernel_rfl) (by kernel_rfl) (by kernel_rfl) (fun _ _ _ h => h) (Or.inr ⟨by rfl, rfl⟩) (by assumption) ?_
        try simp only [Act.put, List.setIfInBounds_toArray, List.set_cons_zero, List.set_cons_succ]
        refine wpAnyH_take (i := 6) (oi := ⟨_, _, _, _, _, _⟩) (v := undef) rfl (by kernel_rfl) (by kernel_rfl) (by kernel_rfl) (fun _ _ _ h => h) (Or.inr ⟨by rfl, rfl⟩) (by assumption) ?_
        try simp only [Act.put, List.setIfInBounds_toArray, List.set_cons_zero, List.set_cons_succ]
        refine wpAnyH_take (i := 7) (oi := ⟨_, _, _, _, _, _⟩) (v := undef) rfl (by kernel_rfl) (by kernel_rfl) (by kernel_rfl) (fun _ _ _ h => h) (Or.inr ⟨by rfl, rfl⟩) (by assumption) ?_
        try simp only [Act.put, List.setIfInBounds_toArray, List.set_cons_zero, List.set_cons_succ]
        refine wpAnyH_take (i := 8) (oi := ⟨_, _, _, _, _, _⟩) (v := undef) rfl (by kernel_rfl) (by kernel_rfl) (by kernel_rfl) (fun _ _ _ h => h) (Or.inr ⟨by rfl, rfl⟩) (by assumption) ?_
        try simp only [Act.put, List.setIfInBounds_toArray, List.set_cons_zero, List.set_cons_succ]
        refine wpAnyH_take (i := 9) (oi := ⟨_, _, _, _, _, _⟩) (v := undef) rfl (by kernel_rfl) (by kernel_rfl) (by kernel_rfl) (fun _ _ _ h => h) (Or.inr ⟨by rfl, rfl⟩) (by assumption) ?_
        try simp only [Act.put, List.setIfInBounds_toArray, List.set_cons_zero, List.set_cons_succ]
        refine wpAnyH_take (i := 10) (oi := ⟨_, _, _, _, _, _⟩) (v := undef) rfl (by kernel_rfl) (by kernel_rfl) (by kernel_rfl) (fun _ _ _ h => h) (Or.inr ⟨by rfl, rfl⟩) (by assumption) ?_
        try simp only [Act.put, List.setIfInBounds_toArray, List.set_cons_zero, List.set_cons_succ]
        refine wpAnyH_take (i := 11) (oi := ⟨_, _, _, _, _, _⟩) (v := undef) rfl (by kernel_rfl) (by kernel_rfl) (by kernel_rfl) (fun _ _ _ h => h) (Or.inr ⟨by rfl, rfl⟩) (by assumption) ?_
        try simp only [Act.put, List.setIfInBounds_toArray, List.set_cons_zero, List.set_cons_succ]
        refine wpAnyH_take (i := 12) (oi := ⟨_, _, _, _, _, _⟩) (v := undef) rfl (by kernel_rfl) (by kernel_rfl) (by kernel_rfl) (fun _ _ _ h => h) (Or.inr ⟨by rfl, rfl⟩) (by assumption) ?_
        try simp only [Act.put, List.setIfInBounds_toArray, List.set_cons_zero, List.set_cons_succ]
        refine wpAnyH_take (i := 13) (oi := ⟨_, _, _, _, _, _⟩) (v := undef) rfl (by kernel_rfl) (by kernel_rfl) (by kernel_rfl) (fun _ _ _ h => h) (Or.inr ⟨by rfl, rfl⟩) (by assumption) ?_
        try simp only [Act.put, List.setIfInBounds_toArray, List.set_cons_zero, List.set_cons_succ]
        refine wpAnyH_take (i := 14) (oi := ⟨_, _, _, _, _, _⟩) (v := undef) rfl (by kernel_rfl) (by kernel_rfl) (by kernel_rfl) (fun _ _ _ h => h) (Or.inr ⟨by rfl, rfl⟩) (by assumption) ?_
        try simp only [Act.put, List.setIfInBounds_toArray, List.set_cons_zero, List.set_cons_succ]
        refine wpAnyH_take (i := 15) (oi := ⟨_, _, _, _, _, _⟩) (v := ?_) rfl (by kernel_rfl) (by kernel_rfl) (by kernel_rfl) (fun _ _ _ h => h) (Or.inl ⟨by rfl, ?_⟩) (by assumption) ?_
        rotate_left
        · intro w hSw
          (try dsimp only at hSw)
          go_split_ands
          go_simp
          try with_reducible rfl
        try simp only [Act.put, List.setIfInBounds_toArray, List.set_cons_zero, List.set_cons_succ]
        refine wpAnyH_done (by kernel_rfl) ?_ _
        go_wp2_with fail
        go_ret
        exact ⟨rfl, HB3.out.trans ((HBR.out.mono (by omega)).trans ((But.refl (fun _ => False) wr).drew.below (B := vb) (by omega) (fun _ _ h => h)))⟩
      | true =>
        have hk1 := HB1.out rfl
        have hkl : k < ln1 := by have h1 := HL1.out.1; have h2 := HKL1.out; have h3 := (List.getElem?_eq_some_iff.1 hk1).1; omega
        have hklt : (k : Int) < (ln1 : Int) := by omega
        have hk0 : (0 : Int) ≤ (k : Int) := by omega
        have hkt : ((k : Int)).toNat = k := by omega
        have hiLt : (i : Int) < (ln2 : Int) := by omega
        obtain ⟨eb1, off1, ov, cs1, rfl, hSb1, hp1, -, hcs1, hv1⟩ := HLR1.out.at_ hkl
        obtain ⟨k5, neg5, A5, n5, c5, ex5, t5, LA5, ln5, lc5, KA5, kn5, kc5, rfl, -, -⟩ := hv1.seven
        have hcw1 : ∀ a, a < 7 → wr.cell? ⟨eb1, off1 + (k * 7 + a), none⟩ = _ := fun a ha => hcs1 a ha
        have d0 : wr.cell? ⟨eb1, off1 + k * 7, none⟩ = some (.int .i64 k5) := hcw1 0 (by omega)
        have d1 : wr.cell? ⟨eb1, off1 + k * 7 + 1, none⟩ = some (.bool neg5) := hcw1 1 (by omega)
        have d2 : wr.cell? ⟨eb1, off1 + k * 7 + 2, none⟩ = some (.slice A5 n5 c5) := hcw1 2 (by omega)
        have d3 : wr.cell? ⟨eb1, off1 + k * 7 + 3, none⟩ = some (.int .i64 ex5) := hcw1 3 (by omega)
        have d4 : wr.cell? ⟨eb1, off1 + k * 7 + 4, none⟩ = some (.string t5) := hcw1 4 (by omega)
        have d5 : wr.cell? ⟨eb1, off1 + k * 7 + 5, none⟩ = some (.slice LA5 ln5 lc5) := hcw1 5 (by omega)
        have d6 : wr.cell? ⟨eb1, off1 + k * 7 + 6, none⟩ = some (.slice KA5 kn5 kc5) := hcw1 6 (by omega)
        have hSb1 := HS.out _ hSb1
        have hPv : PP (s, pv) = conF N ov pv := by
          rw [← HPP.out]
          exact zip_thereK HR1.out hk1 hp1 fun o => conF N o pv
        have hcc := HC.out ov pv S S' _ _ wr.drew (HSZ1.out _ (List.mem_of_getElem? hp1)) (HOE1.out _ (List.mem_of_getElem? hp1)) (HOE2.out _ (List.mem_of_getElem? HP2.out)) (hv1.keep (w' := wr.drew) fun p hp => rfl) (HV2.out.keep (w' := wr.drew) fun p hp => rfl) (fun b hb => by have := HS.out b hb; show b < wr.heap.size; omega) (fun b hb => by have := HS'.out b hb; show b < wr.heap.size; omega) (HBWr.out.trans ((But.refl (fun _ => False) wr).drew.below (B := B0) (by omega) (fun _ _ h => h))) (by show B0 ≤ wr.heap.size; omega)
        obtain ⟨C, hCe⟩ : ∃ C, conF N ov pv = C := ⟨_, rfl⟩
        rw [hCe] at hcc hPv
        have HCC := Lib.hid hcc
        have HPV := Lib.hid hPv
        clear hcc hPv hCe hcs1 hcw1 hp1 hv1 hk1
        go_upto_region 5 with fail
        refine wp_region_held_drew (S := fun V => V.cell? ⟨vb, 5, none⟩ = some (.slice (some ⟨eb1, off1, none⟩) ln1 lc1) ∧ V.cell? ⟨vb + 1, 5, none⟩ = some (.slice (some ⟨eb2, off2, none⟩) ln2 lc2) ∧ V.cell? ⟨eb1, off1 + k * 7, none⟩ = some (.int .i64 k5) ∧ V.cell? ⟨eb1, off1 + k * 7 + 1, none⟩ = some (.bool neg5) ∧ V.cell? ⟨eb1, off1 + k * 7 + 2, none⟩ = some (.slice A5 n5 c5) ∧ V.cell? ⟨eb1, off1 + k * 7 + 3, none⟩ = some (.int .i64 ex5) ∧ V.cell? ⟨eb1, off1 + k * 7 + 4, none⟩ = some (.string t5) ∧ V.cell? ⟨eb1, off1 + k * 7 + 5, none⟩ = some (.slice LA5 ln5 lc5) ∧ V.cell? ⟨eb1, off1 + k * 7 + 6, none⟩ = some (.slice KA5 kn5 kc5) ∧ V.cell? ⟨eb2, off2 + i * 7, none⟩ = some (.int .i64 k6) ∧ V.cell? ⟨eb2, off2 + i * 7 + 1, none⟩ = some (.bool neg6) ∧ V.cell? ⟨eb2, off2 + i * 7 + 2, none⟩ = some (.slice A6 n6 c6) ∧ V.cell? ⟨eb2, off2 + i * 7 + 3, none⟩ = some (.int .i64 ex6) ∧ V.cell? ⟨eb2, off2 + i * 7 + 4, none⟩ = some (.string t6) ∧ V.cell? ⟨eb2, off2 + i * 7 + 5, none⟩ = some (.slice LA6 ln6 lc6) ∧ V.cell? ⟨eb2, off2 + i * 7 + 6, none⟩ = some (.slice KA6 kn6 kc6)) (by kernel_rfl) ⟨y5, q5, d0, d1, d2, d3, d4, d5, d6, e0, e1, e2, e3, e4, e5, e6⟩ (fun hHeld => ?_)
        (try simp only [List.size_toArray, List.length_cons, List.length_nil, Nat.reduceAdd, Array.replicate_succ, Array.replicate_zero, List.push_toArray, List.append_toArray, List.nil_append, List.cons_append])
        refine wpAnyH_take (i := 0) (oi := ⟨_, _, _, _, _, _⟩) (v := ?_) rfl (by kernel_rfl) (by kernel_rfl) (by kernel_rfl) (fun _ _ _ h => h) (Or.inl ⟨by rfl, ?_⟩) (by assumption) ?_
        rotate_left
        · intro w hSw
          (try dsimp only at hSw)
          go_split_ands
          go_simp
          try with_reducible rfl
        try simp only [Act.put, List.setIfInBounds_toArray, List.set_cons_zero, List.set_cons_succ]
        refine wpAnyH_take (i := 1) (oi := ⟨_, _, _, _, _, _⟩) (v := ?_) rfl (by kernel_rfl) (by kernel_rfl) (by kernel_rfl) (fun _ _ _ h => h) (Or.inl ⟨by rfl, ?_⟩) (by assumption) ?_
        rotate_left
        · intro w hSw
          (try dsimp only at hSw)
          go_split_ands
          go_simp
          try with_reducible rfl
        try simp only [Act.put, List.setIfInBounds_toArray, List.set_cons_zero, List.set_cons_succ]
        refine wpAnyH_take (i := 2) (oi := ⟨_, _, _, _, _, _⟩) (v := ?_) rfl (by kernel_rfl) (by kernel_rfl) (by kernel_rfl) (fun _ _ _ h => h) (Or.inl ⟨by rfl, ?_⟩) (by assumption) ?_
        rotate_left
        · intro w hSw
          (try dsimp only at hSw)
          go_split_ands
          go_simp
          try with_reducible rfl
        try simp only [Act.put, List.setIfInBounds_toArray, List.set_cons_zero, List.set_cons_succ]
        refine wpAnyH_take (i := 3) (oi := ⟨_, _, _, _, _, _⟩) (v := ?_) rfl (by kernel_rfl) (by kernel_rfl) (by kernel_rfl) (fun _ _ _ h => h) (Or.inl ⟨by rfl, ?_⟩) (by assumption) ?_
        rotate_left
        · intro w hSw
          (try dsimp only at hSw)
          go_split_ands
          go_simp
          try with_reducible rfl
        try simp only [Act.put, List.setIfInBounds_toArray, List.set_cons_zero, List.set_cons_succ]
        refine wpAnyH_take (i := 4) (oi := ⟨_, _, _, _, _, _⟩) (v := ?_) rfl (by kernel_rfl) (by kernel_rfl) (by kernel_rfl) (fun _ _ _ h => h) (Or.inl ⟨by rfl, ?_⟩) (by assumption) ?_
        rotate_left
        · intro w hSw
          (try dsimp only at hSw)
          go_split_ands
          go_simp
          try with_reducible rfl
        try simp only [Act.put, List.setIfInBounds_toArray, List.set_cons_zero, List.set_cons_succ]
        refine wpAnyH_take (i := 5) (oi := ⟨_, _, _, _, _, _⟩) (v := ?_) rfl (by kernel_rfl) (by kernel_rfl) (by kernel_rfl) (fun _ _ _ h => h) (Or.inl ⟨by rfl, ?_⟩) (by assumption) ?_
        rotate_left
        · intro w hSw
          (try dsimp only at hSw)
          go_split_ands
          go_simp
          try with_reducible rfl
        try simp only [Act.put, List.setIfInBounds_toArray, List.set_cons_zero, List.set_cons_succ]
        refine wpAnyH_take (i := 6) (oi := ⟨_, _, _, _, _, _⟩) (v := ?_) rfl (by kernel_rfl) (by kernel_rfl) (by kernel_rfl) (fun _ _ _ h => h) (Or.inl ⟨by rfl, ?_⟩) (by assumption) ?_
        rotate_left
        · intro w hSw
          (try dsimp only at hSw)
          go_split_ands
          go_simp
          try with_reducible rfl
        try simp only [Act.put, List.setIfInBounds_toArray, List.set_cons_zero, List.set_cons_succ]
        refine wpAnyH_take (i := 7) (oi := ⟨_, _, _, _, _, _⟩) (v := ?_) rfl (by kernel_rfl) (by kernel_rfl) (by kernel_rfl) (fun _ _ _ h => h) (Or.inl ⟨by rfl, ?_⟩) (by assumption) ?_
        rotate_left
        · intro w hSw
          (try dsimp only at hSw)
          go_split_ands
          go_simp
          try with_reducible rfl
        try simp only [Act.put, List.setIfInBounds_toArray, List.set_cons_zero, List.set_cons_succ]
        refine wpAnyH_take (i := 8) (oi := ⟨_, _, _, _, _, _⟩) (v := ?_) rfl (by kernel_rfl) (by kernel_rfl) (by kernel_rfl) (fun _ _ _ h => h) (Or.inl ⟨by rfl, ?_⟩) (by assumption) ?_
        rotate_left
        · intro w hSw
          (try dsimp only at hSw)
          go_split_ands
          go_simp
          try with_reducible rfl
        try simp only [Act.put, List.setIfInBounds_toArray, List.set_cons_zero, List.set_cons_succ]
        refine wpAnyH_take (i := 9) (oi := ⟨_, _, _, _, _, _⟩) (v := ?_) rfl (by kernel_rfl) (by kernel_rfl) (by kernel_rfl) (fun _ _ _ h => h) (Or.inl ⟨by rfl, ?_⟩) (by assumption) ?_
        rotate_left
        · intro w hSw
          (try dsimp only at hSw)
          go_split_ands
          go_simp
          try with_reducible rfl
        try simp only [Act.put, List.setIfInBounds_toArray, List.set_cons_zero, List.set_cons_succ]
        refine wpAnyH_take (i := 10) (oi := ⟨_, _, _, _, _, _⟩) (v := ?_) rfl (by kernel_rfl) (by kernel_rfl) (by kernel_rfl) (fun _ _ _ h => h) (Or.inl ⟨by rfl, ?_⟩) (by assumption) ?_
        rotate_left
        · intro w hSw
          (try dsimp only at hSw)
          go_split_ands
          go_simp
          try with_reducible rfl
        try simp only [Act.put, List.setIfInBounds_toArray, List.set_cons_zero, List.set_cons_succ]
        refine wpAnyH_take (i := 11) (oi := ⟨_, _, _, _, _, _⟩) (v := ?_) rfl (by kernel_rfl) (by kernel_rfl) (by kernel_rfl) (fun _ _ _ h => h) (Or.inl ⟨by rfl, ?_⟩) (by assumption) ?_
        rotate_left
        · intro w hSw
          (try dsimp only at hSw)
          go_split_ands
          go_simp
          try with_reducible rfl
        try simp only [Act.put, List.setIfInBounds_toArray, List.set_cons_zero, List.set_cons_succ]
        refine wpAnyH_take (i := 12) (oi := ⟨_, _, _, _, _, _⟩) (v := ?_) rfl (by kernel_rfl) (by kernel_rfl) (by kernel_rfl) (fun _ _ _ h => h) (Or.inl ⟨by rfl, ?_⟩) (by assumption) ?_
        rotate_left
        · intro w hSw
          (try dsimp only at hSw)
          go_split_ands
          go_simp
          try with_reducible rfl
        try simp only [Act.put, List.setIfInBounds_toArray, List.set_cons_zero, List.set_cons_succ]
        refine wpAnyH_ready (rs := [13]) (by kernel_rfl) (by simp) (AllReadyH.cons (o := ⟨_, _, _, _, _, _⟩) rfl (fun K hK => ?_) AllReadyH.nil)
        go_simp
        refine HCC.out.mono ?_
        rintro e9 w6 ⟨rfl, hb6⟩
        (try dsimp only)
        have hb6' : Below wr.heap.size wr w6 := ⟨hb6.os, hb6.tape, hb6.output, hb6.size, hb6.block⟩
        have kp := fun (p : Addr) (h : p.block < wr.heap.size) => hb6'.cell (p := p) h
        refine hK _ _ ⟨(kp ⟨vb, 5, none⟩ (by show vb < _; omega)).trans y5, (kp ⟨vb + 1, 5, none⟩ (by show vb + 1 < _; omega)).trans q5, (kp ⟨eb1, off1 + k * 7, none⟩ (by show eb1 < _; omega)).trans d0, (kp ⟨eb1, off1 + k * 7 + 1, none⟩ (by show eb1 < _; omega)).trans d1, (kp ⟨eb1, off1 + k * 7 + 2, none⟩ (by show eb1 < _; omega)).trans d2, (kp ⟨eb1, off1 + k * 7 + 3, none⟩ (by show eb1 < _; omega)).trans d3, (kp ⟨eb1, off1 + k * 7 + 4, none⟩ (by show eb1 < _; omega)).trans d4, (kp ⟨eb1, off1 + k * 7 + 5, none⟩ (by show eb1 < _; omega)).trans d5, (kp ⟨eb1, off1 + k * 7 + 6, none⟩ (by show eb1 < _; omega)).trans d6, (kp ⟨eb2, off2 + i * 7, none⟩ (by show eb2 < _; omega)).trans e0, (kp ⟨eb2, off2 + i * 7 + 1, none⟩ (by show eb2 < _; omega)).trans e1, (kp ⟨eb2, off2 + i * 7 + 2, none⟩ (by show eb2 < _; omega)).trans e2, (kp ⟨eb2, off2 + i * 7 + 3, none⟩ (by show eb2 < _; omega)).trans e3, (kp ⟨eb2, off2 + i * 7 + 4, none⟩ (by show eb2 < _; omega)).trans e4, (kp ⟨eb2, off2 + i * 7 + 5, none⟩ (by show eb2 < _; omega)).trans e5, (kp ⟨eb2, off2 + i * 7 + 6, none⟩ (by show eb2 < _; omega)).trans e6⟩ (fun hHeld2 => ?_)
        have HB6 := Lib.hid (HBR.out.trans (hb6'.mono hsw))
        clear hK K hb6 hb6' kp
        try simp only [Act.put, List.setIfInBounds_toArray, List.set_cons_zero, List.set_cons_succ]
        refine wpAnyH_take (i := 14) (oi := ⟨_, _, _, _, _, _⟩) (v := ?_) rfl (by kernel_rfl) (by kernel_rfl) (by kernel_rfl) (fun _ _ _ h => h) (Or.inl ⟨by rfl, ?_⟩) (by assumption) ?_
        rotate_left
        · intro w hSw
          (try dsimp only at hSw)
          go_split_ands
          go_simp
          try with_reducible rfl
        try simp only [Act.put, List.setIfInBounds_toArray, List.set_cons_zero, List.set_cons_succ]
        refine wpAnyH_take (i := 15) (oi := ⟨_, _, _, _, _, _⟩) (v := ?_) rfl (by kernel_rfl) (by kernel_rfl) (by kernel_rfl) (fun _ _ _ h => h) (Or.inl ⟨by rfl, ?_⟩) (by assumption) ?_
        rotate_left
        · intro w hSw
          (try dsimp only at hSw)
          go_split_ands
          go_simp
          try with_reducible rfl
        try simp only [Act.put, List.setIfInBounds_toArray, List.set_cons_zero, List.set_cons_succ]
        refine wpAnyH_done (by kernel_rfl) ?_ _
        clear hHeld hHeld2 y0 y1 y2 y3 y4 y5 y6 q0 q1 q2 q3 q4 q5 q6 d0 d1 d2 d3 d4 d5 d6 e0 e1 e2 e3 e4 e5 e6
        cases C with
        | false =>
          have hRF : R = false := by
            rw [← HR.out]
            exact zip_failK PP HKS.out HP2.out HPV.out
          subst hRF
          go_wp2_with fail
          go_ret
          exact ⟨rfl, HB3.out.trans (HB6.out.mono (by omega))⟩
        | true =>
          go_wp2_with fail
          go_roundw
          case rel =>
            refine ⟨i + 1, by omega, by go_num, fun j u v hj hu hv => ?_, HB6.out⟩
            rcases Nat.lt_or_ge j i with h | h
            · exact HJ.out j u v h hu hv
            · obtain rfl : j = i := by omega
              have e1 := hu.symm.trans HKS.out
              have e2 := hv.symm.trans HP2.out
              injection e1 with e1
              injection e2 with e2
              rw [e1, e2]; exact HPV.out
          case measure => simp [RowKit.intOf]; omega
    · have hni : ¬ (i : Int) < (kn2 : Int) := by omega
      have hRT : R = true := by
        rw [← HR.out]
        exact zip_allK HKL2.out PP fun j s o hs ho => HJ.out j s o (by have := HK2.out.1; have := (List.getElem?_eq_some_iff.1 hs).1; omega) hs ho
      subst hRT
      go_wp2_with fail
      go_ret
      exact ⟨rfl, HB3.out.trans (HBR.out.mono (by omega))⟩
end Go.Proofs.YtipomnogabnfdaaGreatDoor
