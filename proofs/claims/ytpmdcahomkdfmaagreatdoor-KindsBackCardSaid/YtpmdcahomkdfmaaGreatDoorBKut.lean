/-
  Contract of the closure of kinds.Unentries.
-/
import Derived.Test.YtpmdcahomkdfmaaGreatDoorBKue
set_option linter.unusedVariables false
set_option linter.unusedSimpArgs false
namespace Go.Proofs.YtpmdcahomkdfmaaGreatDoor
open Go.RowKit Go.Lib

set_option maxRecDepth 1000000 in
set_option maxHeartbeats 8000000 in
/-- Of what is no list. -/
theorem unent0_c {S : Nat → Prop} {x : VT} {cs : List Value} (vb : Nat) (w : World) (hx : VIn w S x cs) (h5 : x.kind ≠ 5) (hv : w.heap[vb]? = some (.cells cs.toArray 28)) :
    Calls Tryz.prog 16 #[.pointer (some ⟨vb, 0, none⟩)] w fun e w' => ∃ cs' : List Value, e = .returned (.tuple #[.agg cs'.toArray, .int .i64 41]) ∧ VIn w' (fun b => b < w'.heap.size) VT0 cs' ∧ Below w.heap.size w w' := by
  obtain ⟨rs, hrs⟩ : ∃ b, w.heap.size = b := ⟨_, rfl⟩
  obtain ⟨w0, hw0⟩ : ∃ y, w.alloc (.cells #[.int .i64 0, .bool false, .slice none 0 0, .int .i64 0, .string ⟨#[]⟩, .slice none 0 0, .slice none 0 0] 28) = y := ⟨_, rfl⟩
  have g0 : Below rs w w0 := by rw [← hw0]; exact (Below.refl _ w).alloc (by omega) _
  have n0 : w0.heap[rs]? = some (.cells #[.int .i64 0, .bool false, .slice none 0 0, .int .i64 0, .string ⟨#[]⟩, .slice none 0 0, .slice none 0 0] 28) := by rw [← hw0, ← hrs]; exact World.alloc_heap_new w _
  have hvl := (Array.getElem?_eq_some_iff.1 hv).1
  have hv0 := (g0.block vb (by omega)).trans hv
  obtain ⟨neg, A, n, c, e, t, LA, ln, lc, KA, kn, kc, rfl, -, -, -⟩ := vin_kindK hx
  obtain ⟨κ, hκ⟩ : ∃ k, x.kind = k := ⟨_, rfl⟩
  rw [hκ] at hv0 h5
  obtain ⟨y0, y1, y2, y3, y4, y5, y6⟩ := box7_of hv0
  obtain ⟨z0, z1, z2, z3, z4, z5, z6⟩ := box7_of n0
  have fz : ∀ j, w0.frozen? ⟨rs, j, none⟩ = false := fun j => frozen_of_row _ _ j _ _ n0
  have hkb : (κ == 5) = false := by simpa using h5
  have HB0 := Lib.hid g0
  have HW := Lib.hid hw0
  rw [hrs]
  clear hx hv n0 g0 hw0 hv0 hκ h5
  go_enter Tryz.func16, Tryz.ntmps16
  go_upto_region 1 with fail
  try rw [hrs]
  clear hrs
  rw [HW.out]
  go_wp2_with fail
  refine bodyPost_ret (v := .tuple #[.agg #[.int .i64 0, .bool false, .slice none 0 0, .int .i64 0, .string ⟨#[]⟩, .slice none 0 0, .slice none 0 0], .int .i64 41]) (by simp [results, Tryz.results16, go_sem, z0, z1, z2, z3, z4, z5, z6]) rfl ?_
  exact ⟨_, rfl, vin_zero _ _, below_seven HB0.out (Nat.le_refl _) _ _ _ _ _ _ _⟩
set_option maxRecDepth 1000000 in
set_option maxHeartbeats 8000000 in
theorem unent1_c {S : Nat → Prop} {ks : List ByteArray} {li : List VT} {cs : List Value} (vb : Nat) (w : World) (hT : Tabs w) (hlen : ks.length = li.length) (hx : VIn w S (listV (List.zipWith entryV ks li)) cs) (hS : ∀ b, S b → b < w.heap.size) (hu : ∀ v ∈ li, under v ≤ 21474836) (hv : w.heap[vb]? = some (.cells cs.toArray 28)) :
    Calls Tryz.prog 16 #[.pointer (some ⟨vb, 0, none⟩)] w fun e w' => ∃ cs' : List Value, e = .returned (.tuple #[.agg cs'.toArray, .int .i64 ((errO ks li : Nat) : Int)]) ∧ VIn w' (fun b => b < w'.heap.size) (resO ks li) cs' ∧ Below w.heap.size w w' := by
  obtain ⟨i7, hi7, hp7, hq7, hr7⟩ := info_parts infoV7
  obtain ⟨iS, hiS, hpS, hqS, hrS⟩ := info_parts infoS1
  obtain ⟨rs, hrs⟩ : ∃ b, w.heap.size = b := ⟨_, rfl⟩
  obtain ⟨w0, hw0⟩ : ∃ y, w.alloc (.cells #[.int .i64 0, .bool false, .slice none 0 0, .int .i64 0, .string ⟨#[]⟩, .slice none 0 0, .slice none 0 0] 28) = y := ⟨_, rfl⟩
  have g0 : Below rs w w0 := by rw [← hw0]; exact (Below.refl _ w).alloc (by omega) _
  have s0 : w0.heap.size = rs + 1 := by rw [← hw0, World.size_alloc, hrs]
  have n0 : w0.heap[rs]? = some (.cells #[.int .i64 0, .bool false, .slice none 0 0, .int .i64 0, .string ⟨#[]⟩, .slice none 0 0, .slice none 0 0] 28) := by rw [← hw0, ← hrs]; exact World.alloc_heap_new w _
  have hvl := (Array.getElem?_eq_some_iff.1 hv).1
  have hv0 := (g0.block vb (by omega)).trans hv
  obtain ⟨A, n, c, LA, ln, lc, KA, kn, kc, rfl, -, -, -, hli, -, -, hlc⟩ := VIn.parts (k := 5) (neg := false) (xs := []) (e := 0) (t := ⟨#[]⟩) (l := List.zipWith entryV ks li) (ks := []) hx
  obtain ⟨-, -, bl⟩ := hx.bounds
  have hll : ks.length = ln := by have := hli.1; rw [List.length_zipWith] at this; omega
  obtain ⟨y0, y1, y2, y3, y4, y5, y6⟩ := box7_of hv0
  rw [hrs] at hS ⊢
  obtain ⟨R, hR⟩ : ∃ R, errO ks li = R := ⟨_, rfl⟩
  obtain ⟨Y, hY⟩ : ∃ Y, resO ks li = Y := ⟨_, rfl⟩
  rw [hR, hY]
  have HLI := Lib.hid hli
  have HS := Lib.hid hS
  have HG0 := Lib.hid g0
  have HN0 := Lib.hid n0
  have HS0 := Lib.hid s0
  have HW0 := Lib.hid hw0
  have HLEN := Lib.hid hlen
  have HLL := Lib.hid hll
  have HR := Lib.hid hR
  have HY := Lib.hid hY
  have HU := Lib.hid hu
  have HT := Lib.hid (fun (X : World) (h : Below rs w X) => hT.below (hrs ▸ h))
  clear hx hli hS hv hv0 hvl n0 g0 s0 hw0 hlc hll hlen hR hY hu hT
  go_enter Tryz.func16, Tryz.ntmps16
  go_upto_region 1 with fail
  try rw [hrs]
  clear hrs
  rw [HW0.out]
  go_upto_region 6 with fail
  clear y0 y1 y2 y3 y4 y5 y6
  go_loopw [3, 4, 6, 7, 8, 16] (fun kv lv _ _ _ iv wr => ∃ (i : Nat) (KA1 LA1 : Option Addr) (kc1 lc1 : Nat), i ≤ ln ∧ kv = .slice KA1 i kc1 ∧ lv = .slice LA1 i lc1 ∧ iv = .int .i64 (i : Int) ∧ Hid (wr.ownsRow (rs + 1) 9 1 (.slice KA1 i kc1) i (strs (ks.take i))) ∧ Hid (GrowE (rs + 1) S (fun b => (Value.slice KA1 i kc1).ownBlock = some b) (.slice LA1 i lc1) (li.take i) wr) ∧ Hid (∀ b, (Value.slice LA1 i lc1).ownBlock = some b → ¬ (Value.slice KA1 i kc1).ownBlock = some b) ∧ Hid (Below (rs + 1) w0 wr)) (fun _ _ _ _ _ iv _ => ln - (RowKit.intOf iv).toNat)
  case atStart => exact ⟨0, none, none, 0, 0, Nat.zero_le _, rfl, rfl, rfl, ⟨rfl, .inl ⟨rfl, rfl⟩⟩, GrowE.nil _ _ _ _, fun b hb => absurd hb (by simp [Value.ownBlock]), Below.refl _ _⟩
  case round =>
    obtain ⟨i, K0, L0, kc0, lc0, hi, rfl, rfl, rfl, hko, hgr, hdis, hbel⟩ := hrel
    have HKO := Lib.hid hko.out
    have HGR := Lib.hid hgr.out
    have HDIS := Lib.hid hdis.out
    have HBEL := Lib.hid hbel.out
    clear hko hgr hdis hbel
    by_cases hlt : i < ln
    · have hltz : (i : Int) < (ln : Int) := by omega
      have hi0 : (0 : Int) ≤ (i : Int) := by omega
      have hit : ((i : Int)).toNat = i := by omega
      have hiw : IntKind.i64.wrap ((i : Int) + 1) = (i : Int) + 1 := IntWalk.i64_in _ (by omega)
      obtain ⟨lb, lo, y, cy, rfl, hSl, hly, h7, hcells, hvy⟩ := HLI.out.at_ hlt
      have hkl := HLL.out
      have hle := HLEN.out
      have hks : ks[i]? = some (ks[i]'(by omega)) := List.getElem?_eq_getElem (by omega)
      have hls : li[i]? = some (li[i]'(by omega)) := List.getElem?_eq_getElem (by omega)
      obtain ⟨s, hs⟩ : ∃ s, ks[i]'(by omega) = s := ⟨_, rfl⟩
      obtain ⟨v, hvv⟩ : ∃ v, li[i]'(by omega) = v := ⟨_, rfl⟩
      rw [hs] at hks
      rw [hvv] at hls
      obtain rfl : y = entryV s v := by
        rw [List.getElem?_zipWith, hks, hls] at hly
        exact (Option.some.inj hly).symm
      have huv := HU.out v (List.mem_of_getElem? hls)
      obtain ⟨neg1, A1, n1, c1, e1, t1, LA1, ln1, lc1, KA1, kn1, kc1, rfl, hl1, -, -⟩ := vin_kindK hvy
      have hk6 : (entryV s v).kind = 6 := rfl
      rw [hk6] at hvy hcells
      have hlr : lb < rs := HS.out _ hSl
      have hwk : ∀ p : Addr, p.block < rs → wr.cell? p = w.cell? p := fun p hp => (HBEL.out.cell (by omega)).trans (HG0.out.cell hp)
      have hcw : ∀ a, a < 7 → wr.cell? ⟨lb, lo + (i * 7 + a), none⟩ = _ := fun a ha => (hwk ⟨lb, lo + (i * 7 + a), none⟩ hlr).trans (hcells a ha)
      have d0 : wr.cell? ⟨lb, lo + i * 7, none⟩ = some (.int .i64 6) := hcw 0 (by omega)
      have d1 : wr.cell? ⟨lb, lo + i * 7 + 1, none⟩ = some (.bool neg1) := hcw 1 (by omega)
      have d2 : wr.cell? ⟨lb, lo + i * 7 + 2, none⟩ = some (.slice A1 n1 c1) := hcw 2 (by omega)
      have d3 : wr.cell? ⟨lb, lo + i * 7 + 3, none⟩ = some (.int .i64 e1) := hcw 3 (by omega)
      have d4 : wr.cell? ⟨lb, lo + i * 7 + 4, none⟩ = some (.string t1) := hcw 4 (by omega)
      have d5 : wr.cell? ⟨lb, lo + i * 7 + 5, none⟩ = some (.slice LA1 ln1 lc1) := hcw 5 (by omega)
      have d6 : wr.cell? ⟨lb, lo + i * 7 + 6, none⟩ = some (.slice KA1 kn1 kc1) := hcw 6 (by omega)
      have hsw : rs + 1 ≤ wr.heap.size := by have := HBEL.out.size; have := HS0.out; omega
      obtain ⟨p, hp⟩ : ∃ b, wr.heap.size = b := ⟨_, rfl⟩
      obtain ⟨w1, hw1⟩ : ∃ y, wr.alloc (.cells #[.int .i64 0, .bool false, .slice none 0 0, .int .i64 0, .string ⟨#[]⟩, .slice none 0 0, .slice none 0 0] 28) = y := ⟨_, rfl⟩
      have g1 : Below p wr w1 := by rw [← hw1]; exact (Below.refl _ wr).alloc (by omega) _
      have s1 : w1.heap.size = p + 1 := by rw [← hw1, World.size_alloc, hp]
      have n1' : w1.heap[p]? = some (.cells #[.int .i64 0, .bool false, .slice none 0 0, .int .i64 0, .string ⟨#[]⟩, .slice none 0 0, .slice none 0 0] 28) := by rw [← hw1, ← hp]; exact World.alloc_heap_new wr _
      obtain ⟨w2, hw2⟩ : ∃ y, (((((((w1.setCell ⟨p, 0, none⟩ (.int .i64 6)).setCell ⟨p, 1, none⟩ (.bool neg1)).setCell ⟨p, 2, none⟩ (.slice A1 n1 c1)).setCell ⟨p, 3, none⟩ (.int .i64 e1)).setCell ⟨p, 4, none⟩ (.string t1)).setCell ⟨p, 5, none⟩ (.slice LA1 ln1 lc1)).setCell ⟨p, 6, none⟩ (.slice KA1 kn1 kc1)) = y := ⟨_, rfl⟩
      have n2' := heap_seven n1' (.int .i64 6) (.bool neg1) (.slice A1 n1 c1) (.int .i64 e1) (.string t1) (.slice LA1 ln1 lc1) (.slice KA1 kn1 kc1)
      have g2 := below_seven g1 (Nat.le_refl p) (.int .i64 6) (.bool neg1) (.slice A1 n1 c1) (.int .i64 e1) (.string t1) (.slice LA1 ln1 lc1) (.slice KA1 kn1 kc1)
      rw [hw2] at n2' g2
      have s2 : w2.heap.size = p + 1 := by rw [← hw2]; simp [World.setCell, s1]
      obtain ⟨m0, m1, m2, m3, m4, m5, m6⟩ := box7_of n1'
      have fm : ∀ j, w1.frozen? ⟨p, j, none⟩ = false := fun j => frozen_of_row _ _ j _ _ n1'
      obtain ⟨f0, f1, f2, f3, f4, f5, f6⟩ := box7_of n2'
      have hvw : ∀ X : World, Below rs wr X → VIn X S (entryV s v) [.int .i64 6, .bool neg1, .slice A1 n1 c1, .int .i64 e1, .string t1, .slice LA1 ln1 lc1, .slice KA1 kn1 kc1] := fun X hX => hvy.keep fun q hq => (hX.cell (HS.out _ hq)).trans (hwk q (HS.out _ hq))
      have HKY := Lib.hid (ekeyOf_c w2 (hvw w2 (g2.mono (by omega))) (fun b hb => by have := HS.out b hb; omega))
      have HVW := Lib.hid hvw
      have HG2 := Lib.hid g2
      have HN2 := Lib.hid n2'
      have HS2 := Lib.hid s2
      have HW2 := Lib.hid hw2
      have HSW := Lib.hid hsw
      have HPP := Lib.hid hp
      have HKSI := Lib.hid hks
      have HLSI := Lib.hid hls
      have HKL := Lib.hid hkl
      clear hvy hcells hcw hl1 g1 s1 n1' n2' g2 s2 hw2 hvw hwk hsw hks hls hs hvv hly hk6 hkl hle h7
      go_upto_region 8 with fail
      try rw [hp]
      try rw [hw1]
      rw [HW2.out]
      clear hw1 hp m0 m1 m2 m3 m4 m5 m6 fm d0 d1 d2 d3 d4 d5 d6
      go_wp2_with fail
      refine HKY.out.mono ?_
      rintro e9 w3 ⟨rfl, hb3⟩
      rw [HS2.out] at hb3
      have hs3 : p + 1 ≤ w3.heap.size := by have := hb3.size; have := HS2.out; omega
      have hG3 : Below p wr w3 := HG2.out.trans (hb3.mono (by omega))
      obtain ⟨w4, hw4⟩ : ∃ y, w3.alloc (.cells #[.string s] 9) = y := ⟨_, rfl⟩
      have g4 : Below w3.heap.size w3 w4 := by rw [← hw4]; exact (Below.refl _ w3).alloc (Nat.le_refl _) _
      have s4 : w4.heap.size = w3.heap.size + 1 := by rw [← hw4, World.size_alloc]
      have hG4 : Below p wr w4 := hG3.trans (g4.mono (by omega))
      have hpp := HPP.out
      have hko4 := ownsRow_keepB (C := fun b => False) HKO.out (But.of (hpp ▸ hG4)) (fun _ _ h => h)
      have hgr4 := HGR.out.keep (C := _) (But.of (hpp ▸ hG4)) (fun k hk => HDIS.out k hk)
      have hn4 : w4.heap[p]? = some (.cells #[.int .i64 6, .bool neg1, .slice A1 n1 c1, .int .i64 e1, .string t1, .slice LA1 ln1 lc1, .slice KA1 kn1 kc1] 28) := (g4.block p (by omega)).trans ((hb3.block p (by omega)).trans HN2.out)
      have hz4 : ∀ (j : Nat) (u : Value), [Value.string s][j]? = some u → w4.cell? ((⟨w3.heap.size, 0, none⟩ : Addr).add j) = some u := fun j u hj => by
        have n4 : w4.heap[w3.heap.size]? = some (.cells #[.string s] 9) := by rw [← hw4]; exact World.alloc_heap_new w3 _
        rw [Addr.add_lit, Nat.zero_add, cell_of_heap n4 j, List.getElem?_toArray]; exact hj
      have hsk : ks.take (i + 1) = ks.take i ++ [s] := by rw [List.take_add_one, HKSI.out]; rfl
      have HSK := Lib.hid hsk
      have HKO4 := Lib.hid hko4
      have HGR4 := Lib.hid hgr4
      have HN4 := Lib.hid hn4
      have HZ4 := Lib.hid hz4
      have HG4 := Lib.hid hG4
      have HS4 := Lib.hid (show rs + 1 ≤ w4.heap.size ∧ p + 1 ≤ w4.heap.size from by have := HSW.out; omega)
      have HW4 := Lib.hid hw4
      have hb4 : rs + 1 ≤ w4.heap.size := HS4.out.1
      clear hb3 hs3 hG3 g4 s4 hG4 hpp hko4 hgr4 hn4 hz4 hsk f0 f1 f2 f3 f4 f5 f6 hw4
      go_wp2_with (at_builtin; rw [HW4.out]; refine wpList_append_own_at _ rfl (.tmp 29) (.tmp 31) _ rfl (rs + 1) 9 iS (.string ⟨#[]⟩) 1 16 Tryz.underlying26 hiS hpS hqS hrS rfl (by decide) (.slice K0 i kc0) i (strs (ks.take i)) rfl HKO4.out ⟨w3.heap.size, 0, none⟩ 1 1 [.string s] rfl rfl HZ4.out (by simp [Value.oneCell']) (by unfold maxLen; omega) (by omega) hb4 ?_; intro v5 w5 hown5 hg5 _ hat5; obtain ⟨g5, cap5, rfl⟩ := ownsRow_succ hown5; have hn5 := (hg5.block p (by have := HS4.out; omega) (fun e => by have := (ownsRow_lt HKO.out e.symm).2; have := HPP.out; omega)).trans HN4.out; obtain ⟨f0, f1, f2, f3, f4, f5, f6⟩ := box7_of hn5; have HOWN5 := Lib.hid hown5; have HGB5 := Lib.hid hg5; have HAT5 := Lib.hid hat5; clear hown5 hg5 hat5 hn5)
      obtain ⟨w6, hw6⟩ : ∃ y, w5.alloc (.cells #[.string ⟨#[118, 97, 108, 117, 101]⟩, .string ⟨#[118]⟩] 9) = y := ⟨_, rfl⟩
      have g6 : Below w5.heap.size w5 w6 := by rw [← hw6]; exact (Below.refl _ w5).alloc (Nat.le_refl _) _
      have s6 : w6.heap.size = w5.heap.size + 1 := by rw [← hw6, World.size_alloc]
      have n6 : w6.heap[w5.heap.size]? = some (.cells #[.string ⟨#[118, 97, 108, 117, 101]⟩, .string ⟨#[118]⟩] 9) := by rw [← hw6]; exact World.alloc_heap_new w5 _
      have hb5 : w4.heap.size ≤ w5.heap.size := HGB5.out.size
      have hG5 : Below (rs + 1) wr w5 := (HG4.out.mono (by have := HPP.out; have := HSW.out; omega)).grown HGB5.out hb4 (fun k hk => (ownsRow_lt HKO.out hk).1)
      have hG6 : Below (rs + 1) wr w6 := hG5.trans (g6.mono (by omega))
      obtain ⟨hgr5, hdis5⟩ := HGR4.out.other (k' := .slice (some ⟨g5, 0, none⟩) (i + 1) cap5) HGB5.out HAT5.out HDIS.out
      have HFV := firstVal_c w6 (HVW.out w6 (hG6.mono (by omega))) (fun b hb => by have := HS.out b hb; omega) huv (by omega) (cell_of_heap n6 0) (cell_of_heap n6 1)
      rw [hw6]
      refine HFV.mono ?_
      rintro e7 w7 ⟨cs7, rfl, hv7, hb7⟩
      obtain ⟨k7, neg7, A7, n7, c7, e7, t7, LA7, ln7, lc7, KA7, kn7, kc7, rfl, -, -⟩ := hv7.seven
      have hs7 : w6.heap.size ≤ w7.heap.size := hb7.size
      obtain ⟨w8, hw8⟩ : ∃ y, w7.alloc (.cells #[.int .i64 k7, .bool neg7, .slice A7 n7 c7, .int .i64 e7, .string t7, .slice LA7 ln7 lc7, .slice KA7 kn7 kc7] 28) = y := ⟨_, rfl⟩
      have g8 : Below w7.heap.size w7 w8 := by rw [← hw8]; exact (Below.refl _ w7).alloc (Nat.le_refl _) _
      have s8 : w8.heap.size = w7.heap.size + 1 := by rw [← hw8, World.size_alloc]
      have hz8 := new7 w7 (.int .i64 k7) (.bool neg7) (.slice A7 n7 c7) (.int .i64 e7) (.string t7) (.slice LA7 ln7 lc7) (.slice KA7 kn7 kc7) 28
      rw [hw8] at hz8
      have hG57 : Below w5.heap.size w5 w7 := g6.trans (hb7.mono (by omega))
      have hG58 : Below w5.heap.size w5 w8 := hG57.trans (g8.mono (by omega))
      obtain ⟨fs, ho5, hfl, hft⟩ := hgr5
      have hti : (li.take i).length = i := by rw [List.length_take]; have := HLEN.out; have := HLL.out; omega
      rw [hti] at ho5 hfl
      have ho8 := ownsRow_keepB (C := fun b => False) ho5 (But.of hG58) (fun _ _ h => h)
      have HO8 := Lib.hid ho8
      have HZ8 := Lib.hid hz8
      have HO5 := Lib.hid ho5
      have HFL := Lib.hid hfl
      have HFT := Lib.hid hft
      have HDIS5 := Lib.hid hdis5
      have HV7 := Lib.hid (hv7.more (S' := fun b => S b ∨ (w5.heap.size ≤ b ∧ b < w7.heap.size)) fun b hb => .inr ⟨by have := hb.1; omega, hb.2⟩)
      have HG57 := Lib.hid hG57
      have HG58 := Lib.hid hG58
      have HG8 := Lib.hid g8
      have HG5 := Lib.hid hG5
      have HW8 := Lib.hid hw8
      have HTI := Lib.hid hti
      have HS5 := Lib.hid (show rs + 1 ≤ w5.heap.size by omega)
      have hb8 : rs + 1 ≤ w8.heap.size := by omega
      have hone : ∀ u ∈ ([.int .i64 k7, .bool neg7, .slice A7 n7 c7, .int .i64 e7, .string t7, .slice LA7 ln7 lc7, .slice KA7 kn7 kc7] : List Value), u.oneCell' = true := by simp [Value.oneCell']
      clear hw6 g6 s6 n6 hG5 hG6 HFV hv7 hb7 hs7 g8 s8 hz8 hG57 hG58 ho5 hfl hft ho8 hdis5 hw8 hti hb5 f0 f1 f2 f3 f4 f5 f6
      go_wp2_with (at_builtin; rw [HW8.out]; refine wpList_append_own_at _ rfl (.tmp 33) (.tmp 37) _ rfl (rs + 1) 28 i7 (.agg #[.int .i64 0, .bool false, .slice none 0 0, .int .i64 0, .string ⟨#[]⟩, .slice none 0 0, .slice none 0 0]) 7 112 Tryz.underlying25 hi7 hp7 hq7 hr7 rfl (by decide) (.slice L0 i lc0) i (flatC fs id i) rfl HO8.out ⟨w7.heap.size, 0, none⟩ 1 1 [.int .i64 k7, .bool neg7, .slice A7 n7 c7, .int .i64 e7, .string t7, .slice LA7 ln7 lc7, .slice KA7 kn7 kc7] rfl rfl HZ8.out hone (by unfold maxLen; omega) (by omega) hb8 ?_; intro v9 w9 hown9 hg9 _ hat9; obtain ⟨g9, cap9, rfl⟩ := ownsRow_succ hown9; have HOWN9 := Lib.hid hown9; have HGB9 := Lib.hid hg9; have HAT9 := Lib.hid hat9; clear hown9 hg9 hat9)
      go_roundw
      case rel =>
        have hk5 : ∀ b, (Value.slice (some ⟨g5, 0, none⟩) (i + 1) cap5).ownBlock = some b → rs + 1 ≤ b ∧ b < w5.heap.size := fun b hb => ownsRow_lt HOWN5.out hb
        have h58 := HG58.out.size
        refine ⟨i + 1, some ⟨g5, 0, none⟩, some ⟨g9, 0, none⟩, cap5, cap9, by omega, rfl, rfl, by go_num, ?_, ?_, ?_, ?_⟩
        · show World.ownsRow _ _ _ _ _ _ _
          rw [HSK.out, show strs (ks.take i ++ [s]) = strs (ks.take i) ++ [.string s] from by unfold strs; rw [List.map_append]; rfl]
          exact ownsRow_same HOWN5.out fun b hb => (HGB9.out.block b (by have := hk5 b hb; omega) (fun e => HDIS5.out b e.symm hb)).trans (HG58.out.block b (hk5 b hb).2)
        · show GrowE _ _ _ _ _ _
          rw [List.take_add_one, HLSI.out]
          exact GrowE.push (W := w5) (W1 := w7) (W2 := w8) HTI.out HO5.out HFL.out HFT.out HG57.out HV7.out rfl HG8.out HGB9.out HOWN9.out HAT9.out HS5.out (fun b hb => by have := HS.out b hb; omega) hk5
        · intro b hb h2
          rcases HAT9.out with h3 | h3
          · exact HDIS5.out b (h3 ▸ hb) h2
          · rw [h3] at hb
            injection hb with hb
            have := hk5 b h2
            omega
        · exact HBEL.out.trans (HG5.out.trans ((HG58.out.mono HS5.out).grown HGB9.out hb8 (fun k hk => (ownsRow_lt HO8.out hk).1)))
      case measure => simp [RowKit.intOf]; omega
    · obtain rfl : i = ln := by omega
      have hkl := HLL.out
      have hle := HLEN.out
      have hko := HKO.out
      have hgr := HGR.out
      rw [show ks.take i = ks from List.take_of_length_le (by omega)] at hko
      rw [show li.take i = li from List.take_of_length_le (by omega)] at hgr
      have hsz : ∀ s ∈ ks, s.size ≤ 140737488355328 := fun s hm => by
        obtain ⟨j, hj⟩ := List.getElem?_of_mem hm
        have hjl := (List.getElem?_eq_some_iff.1 hj).1
        obtain ⟨b, off, x, cs, -, -, hx, -, -, hv⟩ := HLI.out.at_ (i := j) (by omega)
        rw [List.getElem?_zipWith, hj, List.getElem?_eq_getElem (show j < li.length by omega)] at hx
        obtain rfl := Option.some.inj hx
        exact entry_size hv
      have hrk := rdT_ownK hko hsz
      obtain ⟨hrl, hrc⟩ := hgr.rdl (by omega) (by omega)
      have hrb : Below rs w wr := HG0.out.trans (HBEL.out.mono (by omega))
      have hoc := object_c (S := fun b => b < wr.heap.size) (kc := kc0) (lc := lc0) wr (HT.out wr hrb) (hrk.more fun b hb => hb.2) (hrl.more fun b hb => hb.2) (by omega) bl (fun b hb => hb)
      rw [HR.out, HY.out] at hoc
      have HOC := Lib.hid hoc
      have hnr := (HBEL.out.block rs (by omega)).trans HN0.out
      have hsw : rs + 1 ≤ wr.heap.size := by have := HBEL.out.size; have := HS0.out; omega
      have HNR := Lib.hid hnr
      have HRB := Lib.hid hrb
      have HSW := Lib.hid hsw
      clear hko hgr hsz hrk hrl hrc hrb hoc hnr hkl hle hsw
      go_wp2_with fail
      refine HOC.out.mono ?_
      rintro e9 w9 ⟨cs9, rfl, hv9, hb9⟩
      obtain ⟨k7, neg7, A7, n7, c7, e7, t7, LA7, ln7, lc7, KA7, kn7, kc7, rfl, -, -⟩ := hv9.seven
      have hsw := HSW.out
      have hn9 := (hb9.block rs (by omega)).trans HNR.out
      obtain ⟨z0, z1, z2, z3, z4, z5, z6⟩ := box7_of hn9
      have fz : ∀ j, w9.frozen? ⟨rs, j, none⟩ = false := fun j => frozen_of_row _ _ j _ _ hn9
      have HV9 := Lib.hid hv9
      have HB9 := Lib.hid (HRB.out.trans (hb9.mono (by omega)))
      clear hv9 hb9 hn9 hsw
      go_wp2_with fail
      refine bodyPost_ret (v := .tuple #[.agg #[.int .i64 k7, .bool neg7, .slice A7 n7 c7, .int .i64 e7, .string t7, .slice LA7 ln7 lc7, .slice KA7 kn7 kc7], .int .i64 (R : Int)]) (by simp [results, Tryz.results16, go_sem, z0, z1, z2, z3, z4, z5, z6]) rfl ?_
      refine ⟨[.int .i64 k7, .bool neg7, .slice A7 n7 c7, .int .i64 e7, .string t7, .slice LA7 ln7 lc7, .slice KA7 kn7 kc7], rfl, ?_, below_seven HB9.out (Nat.le_refl _) _ _ _ _ _ _ _⟩
      have hsw := HSW.out
      refine (HV9.out.keep fun q hq => cell_seven (by have := hq.1; omega) _ _ _ _ _ _ _).more fun b hb => by simpa [World.setCell] using hb.2
end Go.Proofs.YtpmdcahomkdfmaaGreatDoor
