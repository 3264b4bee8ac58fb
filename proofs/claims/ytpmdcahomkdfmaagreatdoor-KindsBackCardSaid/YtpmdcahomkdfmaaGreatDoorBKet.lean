/-
  Contract of the closure of kinds.Entries.
-/
import Derived.Test.YtpmdcahomkdfmaaGreatDoorBKeo
import Derived.Test.YtpmdcahomkdfmaaGreatDoorBKgn
set_option linter.unusedVariables false
set_option linter.unusedSimpArgs false
namespace Go.Proofs.YtpmdcahomkdfmaaGreatDoor
open Go.RowKit Go.Lib
attribute [local go_sem] Oper.semAt_some

set_option maxRecDepth 1000000 in
set_option maxHeartbeats 8000000 in
theorem kentries1_c {S : Nat → Prop} {x : VT} {cs : List Value} (vb : Nat) (w : World) (hok : okV x) (hx : VIn w S x cs) (hS : ∀ b, S b → b < w.heap.size) (hv : w.heap[vb]? = some (.cells cs.toArray 28)) :
    Calls Tryz.prog 14 #[.pointer (some ⟨vb, 0, none⟩)] w fun e w' => ∃ cs' : List Value, e = .returned (.tuple #[.agg cs'.toArray, .int .i64 (entE x : Int)]) ∧ VIn w' (fun b => b < w'.heap.size) (entY x) cs' ∧ Below w.heap.size w w' := by
  obtain ⟨rs, hrs⟩ : ∃ b, w.heap.size = b := ⟨_, rfl⟩
  obtain ⟨w0, hw0⟩ : ∃ y, w.alloc (.cells #[.int .i64 0, .bool false, .slice none 0 0, .int .i64 0, .string ⟨#[]⟩, .slice none 0 0, .slice none 0 0] 28) = y := ⟨_, rfl⟩
  have g0 : Below rs w w0 := by rw [← hw0]; exact (Below.refl _ w).alloc (by omega) _
  have s0 : w0.heap.size = rs + 1 := by rw [← hw0, World.size_alloc, hrs]
  have n0 : w0.heap[rs]? = some (.cells #[.int .i64 0, .bool false, .slice none 0 0, .int .i64 0, .string ⟨#[]⟩, .slice none 0 0, .slice none 0 0] 28) := by rw [← hw0, ← hrs]; exact World.alloc_heap_new w _
  have hvl := (Array.getElem?_eq_some_iff.1 hv).1
  have hv0 := (g0.block vb (by omega)).trans hv
  obtain ⟨k2, neg2, xs2, e2, t2, li2, ks2, hx2⟩ : ∃ k2 neg2 xs2 e2 t2 li2 ks2, x = VT.mk k2 neg2 xs2 e2 t2 li2 ks2 := by cases x; exact ⟨_, _, _, _, _, _, _, rfl⟩
  have hvx2 := hx
  rw [hx2] at hvx2
  obtain ⟨A2, n2, c2, LA, ln, lc, KA, kn, kc, rfl, -, -, -, hli2, hks2, -, -⟩ := hvx2.parts
  obtain ⟨-, bk, bl⟩ := hvx2.bounds
  obtain ⟨y0, y1, y2, y3, y4, y5, y6⟩ := box7_of hv0
  obtain ⟨z0, z1, z2, z3, z4, z5, z6⟩ := box7_of n0
  have fz : ∀ j, w0.frozen? ⟨rs, j, none⟩ = false := fun j => frozen_of_row _ _ j _ _ n0
  rw [hrs] at hS ⊢
  by_cases h6 : k2 = 6
  case neg =>
    have hkb : (k2 == 6) = false := by simpa using h6
    have hkx : x.kind ≠ 6 := by rw [hx2]; exact h6
    have hee : entE x = 41 := by unfold entE; rw [if_neg hkx]
    have hyy : entY x = VT0 := by unfold entY; rw [if_neg hkx]
    rw [hee, hyy]
    have HB0 := Lib.hid g0
    have HW := Lib.hid hw0
    clear hx hvx2 hli2 hks2 hx2 hok hv n0 g0 hw0
    go_enter Tryz.func14, Tryz.ntmps14
    go_upto_region 1 with fail
    try rw [hrs]
    clear hrs
    rw [HW.out]
    go_wp2_with fail
    refine bodyPost_ret (v := .tuple #[.agg #[.int .i64 0, .bool false, .slice none 0 0, .int .i64 0, .string ⟨#[]⟩, .slice none 0 0, .slice none 0 0], .int .i64 41]) (by simp [results, Tryz.results14, go_sem, z0, z1, z2, z3, z4, z5, z6]) rfl ?_
    exact ⟨_, rfl, vin_zero _ _, below_seven HB0.out (Nat.le_refl _) _ _ _ _ _ _ _⟩
  subst h6
  have hkx : x.kind = 6 := by rw [hx2]; rfl
  obtain ⟨-, -, hlen⟩ := obj_okK hok hkx
  have hlen2 : ks2.length = li2.length := by rw [hx2] at hlen; exact hlen
  have hee : entE x = 0 := by unfold entE; rw [if_pos hkx]
  have hyy : entY x = listV (List.zipWith entryV ks2 li2) := by unfold entY; rw [if_pos hkx, hx2]; rfl
  rw [hee, hyy]
  obtain rfl : kn = ln := by have := hks2.1; have := hli2.1; omega
  have hkl := hks2.1
  have hll := hli2.1
  obtain ⟨w1, hw1⟩ : ∃ y, w0.alloc (.cells #[.int .i64 0, .bool false, .slice none 0 0, .int .i64 0, .string ⟨#[]⟩, .slice none 0 0, .slice none 0 0] 28) = y := ⟨_, rfl⟩
  have g1 : Below (rs + 1) w0 w1 := by rw [← hw1]; exact (Below.refl _ w0).alloc (by omega) _
  have s1 : w1.heap.size = rs + 2 := by rw [← hw1, World.size_alloc, s0]
  have n1 : w1.heap[rs + 1]? = some (.cells #[.int .i64 0, .bool false, .slice none 0 0, .int .i64 0, .string ⟨#[]⟩, .slice none 0 0, .slice none 0 0] 28) := by rw [← hw1, ← s0]; exact World.alloc_heap_new w0 _
  obtain ⟨i7, hi7, hp7, hq7, hr7⟩ := info_parts infoV7
  have hbu : ∀ W : World, (Instr.build 28 #[(0, .int .i64 5)]).run Tryz.prog W = .ok (.agg #[.int .i64 5, .bool false, .slice none 0 0, .int .i64 0, .string ⟨#[]⟩, .slice none 0 0, .slice none 0 0]) W := fun W => run_build W 28 _ _ (by kernel_rfl)
  have q0 := (g1.block rs (by omega)).trans n0
  have qv := (g1.block vb (by omega)).trans hv0
  have hb1 : Below rs w w1 := g0.trans (g1.mono (by omega))
  obtain ⟨u0, u1, u2, u3, u4, u5, u6⟩ := box7_of n1
  have fu : ∀ j, w1.frozen? ⟨rs + 1, j, none⟩ = false := fun j => frozen_of_row _ _ j _ _ n1
  obtain ⟨W2, hW2⟩ : ∃ y, ((((((w1.setCell ⟨rs + 1, 0, none⟩ (.int .i64 5)).setCell ⟨rs + 1, 1, none⟩ (.bool false)).setCell ⟨rs + 1, 2, none⟩ (.slice none 0 0)).setCell ⟨rs + 1, 3, none⟩ (.int .i64 0)).setCell ⟨rs + 1, 4, none⟩ (.string ⟨#[]⟩)).setCell ⟨rs + 1, 5, none⟩ (.slice none 0 0)).setCell ⟨rs + 1, 6, none⟩ (.slice none 0 0) = y := ⟨_, rfl⟩
  have nset := heap_seven n1 (.int .i64 5) (.bool false) (.slice none 0 0) (.int .i64 0) (.string ⟨#[]⟩) (.slice none 0 0) (.slice none 0 0)
  have hb2 := below_seven hb1 (show rs ≤ rs + 1 by omega) (.int .i64 5) (.bool false) (.slice none 0 0) (.int .i64 0) (.string ⟨#[]⟩) (.slice none 0 0) (.slice none 0 0)
  have q0' : W2.heap[rs]? = w1.heap[rs]? := by rw [← hW2]; exact heap_seven_ne (by omega) _ _ _ _ _ _ _
  have qv' : W2.heap[vb]? = w1.heap[vb]? := by rw [← hW2]; exact heap_seven_ne (by omega) _ _ _ _ _ _ _
  rw [hW2] at nset hb2
  have s2 : W2.heap.size = rs + 2 := by rw [← hW2]; simp [World.setCell, s1]
  have q0 := q0'.trans q0
  have qv := qv'.trans qv
  obtain ⟨o0, o1, o2, o3, o4, o5, o6⟩ := box7_of qv
  have HX := Lib.hid hx2
  have HLI := Lib.hid hli2
  have HKS := Lib.hid hks2
  have HB1 := Lib.hid hb2
  have HW2 := Lib.hid hW2
  have HW0 := Lib.hid hw0
  have HW1 := Lib.hid hw1
  have HS := Lib.hid hS
  have HQ0 := Lib.hid q0
  have HQV := Lib.hid qv
  have HN := Lib.hid nset
  have HZ := Lib.hid s2
  have HL2 := Lib.hid hlen2
  clear hx hvx2 hli2 hks2 hx2 hok hv hv0 n0 n1 g0 g1 hb1 hb2 hw0 hw1 hW2 hS q0 qv q0' qv' nset hkx hee hyy hlen hlen2 s1 s2
  refine (callsIn_wide (n := 0)).1 ?_
  refine callsIn_of_wp Tryz.func14 rfl trivial ?_ rfl
  simp only [Tryz.ntmps14, List.size_toArray, List.length_cons, List.length_nil, Nat.reduceAdd, Nat.reduceSub, Array.replicate_succ, Array.replicate_zero, List.push_toArray, List.append_toArray, List.nil_append, List.cons_append]
  gi_upto_region 1 with fail
  have hvr : vb < rs := by omega
  try rw [hrs]
  clear hrs hvl
  rw [HW0.out]
  have hw1 := HW1.out
  gi_upto_region 4 with fail
  rw [HW2.out]
  clear hw1 u0 u1 u2 u3 u4 u5 u6 fu z0 z1 z2 z3 z4 z5 z6 fz y0 y1 y2 y3 y4 y5 y6
  gi_upto_region 5 with fail
  gi_loopw [4, 5, 14] (fun _ _ iv wr => ∃ (i : Nat) (RA : Option Addr) (rc : Nat), i ≤ kn ∧ iv = .int .i64 (i : Int) ∧ Hid (GrowE (rs + 2) S (fun _ => False) (.slice RA i rc) ((List.zipWith entryV ks2 li2).take i) wr) ∧ Hid (wr.heap[rs + 1]? = some (.cells #[.int .i64 5, .bool false, .slice none 0 0, .int .i64 0, .string ⟨#[]⟩, .slice RA i rc, .slice none 0 0] 28)) ∧ Hid (∀ k, k < rs + 2 → k ≠ rs + 1 → wr.heap[k]? = W2.heap[k]?) ∧ Hid (Below rs w wr) ∧ Hid (rs + 2 ≤ wr.heap.size)) (fun _ _ iv _ => kn - (RowKit.intOf iv).toNat)
  case atStart => exact ⟨0, none, 0, Nat.zero_le _, rfl, GrowE.nil _ _ _ _, HN.out, fun k _ _ => rfl, HB1.out, Nat.le_of_eq HZ.out.symm⟩
  case round =>
    obtain ⟨i, RA, rc, hi, rfl, hgr, hbox, hkp, hbel, hsz⟩ := hrel
    have HGR := Lib.hid hgr.out
    have HBOX := Lib.hid hbox.out
    have HKP := Lib.hid hkp.out
    have HBEL := Lib.hid hbel.out
    have HSZ := Lib.hid hsz.out
    clear hgr hbox hkp hbel hsz
    have HZL : Hid ((List.zipWith entryV ks2 li2).length = kn) := by show _ = _; rw [List.length_zipWith]; omega
    by_cases hlt : i < kn
    · have hltz : (i : Int) < (kn : Int) := by omega
      have hi0 : (0 : Int) ≤ (i : Int) := by omega
      have hit : ((i : Int)).toNat = i := by omega
      have hiw : IntKind.i64.wrap ((i : Int) + 1) = (i : Int) + 1 := IntWalk.i64_in _ (by omega)
      obtain ⟨kb, ko, s, rfl, hSk, hks, hkc⟩ := HKS.out.at_ hlt
      obtain ⟨lb, lo, y, cy, rfl, hSl, hly, h7, hcells, hvy⟩ := HLI.out.at_ hlt
      have hss : s.size ≤ 140737488355328 := by
        obtain ⟨b', o', e', _, h2⟩ := HKS.out.2 (by omega)
        exact (h2 i s hks).2
      obtain ⟨k1, neg1, A1, n1, c1, e1, t1, LA1, ln1, lc1, KA1, kn1, kc1, rfl, -, -⟩ := hvy.seven
      have hkeepS : ∀ p : Addr, S p.block → wr.cell? p = w.cell? p := fun p hp => HBEL.out.cell (HS.out _ hp)
      have hck : wr.cell? ⟨kb, ko + i, none⟩ = some (.string s) := (hkeepS _ hSk).trans hkc
      have hcw : ∀ a, a < 7 → wr.cell? ⟨lb, lo + (i * 7 + a), none⟩ = _ := fun a ha => (hkeepS ⟨lb, lo + (i * 7 + a), none⟩ hSl).trans (hcells a ha)
      have d0 : wr.cell? ⟨lb, lo + i * 7, none⟩ = some (.int .i64 k1) := hcw 0 (by omega)
      have d1 : wr.cell? ⟨lb, lo + i * 7 + 1, none⟩ = some (.bool neg1) := hcw 1 (by omega)
      have d2 : wr.cell? ⟨lb, lo + i * 7 + 2, none⟩ = some (.slice A1 n1 c1) := hcw 2 (by omega)
      have d3 : wr.cell? ⟨lb, lo + i * 7 + 3, none⟩ = some (.int .i64 e1) := hcw 3 (by omega)
      have d4 : wr.cell? ⟨lb, lo + i * 7 + 4, none⟩ = some (.string t1) := hcw 4 (by omega)
      have d5 : wr.cell? ⟨lb, lo + i * 7 + 5, none⟩ = some (.slice LA1 ln1 lc1) := hcw 5 (by omega)
      have d6 : wr.cell? ⟨lb, lo + i * 7 + 6, none⟩ = some (.slice KA1 kn1 kc1) := hcw 6 (by omega)
      have hvb : wr.heap[vb]? = W2.heap[vb]? := HKP.out vb (by omega) (by omega)
      have v3 : wr.cell? ⟨vb, 5, none⟩ = some (.slice (some ⟨lb, lo, none⟩) kn lc) := (World.cell?_of_block hvb).trans o5
      have b3 : wr.cell? ⟨rs + 1, 5, none⟩ = some (.slice RA i rc) := cell_at3 HBOX.out rfl
      have hcall := entryOf_c s wr.drew (hvy.keep (w' := wr.drew) fun p hp => hkeepS p hp) (fun b hb => by have := HS.out b hb; have := HSZ.out; show b < wr.heap.size; omega) hss
      have HC := Lib.hid hcall
      have HVY := Lib.hid hvy
      have HKSI := Lib.hid hks
      have HLYI := Lib.hid hly
      clear hcall hvy hks hly hcw hcells h7 hkeepS hvb hkc
      gi_upto_region 7 with fail
      refine region_U (by kernel_rfl) (fun (X : World) => X.cell? ⟨rs + 1, 5, none⟩ = some (.slice RA i rc) ∧ X.cell? ⟨vb, 5, none⟩ = some (.slice (some ⟨lb, lo, none⟩) kn lc) ∧ X.cell? ⟨lb, lo + i * 7, none⟩ = some (.int .i64 k1) ∧ X.cell? ⟨lb, lo + i * 7 + 1, none⟩ = some (.bool neg1) ∧ X.cell? ⟨lb, lo + i * 7 + 2, none⟩ = some (.slice A1 n1 c1) ∧ X.cell? ⟨lb, lo + i * 7 + 3, none⟩ = some (.int .i64 e1) ∧ X.cell? ⟨lb, lo + i * 7 + 4, none⟩ = some (.string t1) ∧ X.cell? ⟨lb, lo + i * 7 + 5, none⟩ = some (.slice LA1 ln1 lc1) ∧ X.cell? ⟨lb, lo + i * 7 + 6, none⟩ = some (.slice KA1 kn1 kc1)) 12 ?_
      have hHeld : (fun (X : World) => X.cell? ⟨rs + 1, 5, none⟩ = some (.slice RA i rc) ∧ X.cell? ⟨vb, 5, none⟩ = some (.slice (some ⟨lb, lo, none⟩) kn lc) ∧ X.cell? ⟨lb, lo + i * 7, none⟩ = some (.int .i64 k1) ∧ X.cell? ⟨lb, lo + i * 7 + 1, none⟩ = some (.bool neg1) ∧ X.cell? ⟨lb, lo + i * 7 + 2, none⟩ = some (.slice A1 n1 c1) ∧ X.cell? ⟨lb, lo + i * 7 + 3, none⟩ = some (.int .i64 e1) ∧ X.cell? ⟨lb, lo + i * 7 + 4, none⟩ = some (.string t1) ∧ X.cell? ⟨lb, lo + i * 7 + 5, none⟩ = some (.slice LA1 ln1 lc1) ∧ X.cell? ⟨lb, lo + i * 7 + 6, none⟩ = some (.slice KA1 kn1 kc1)) wr.drew := ⟨b3, v3, d0, d1, d2, d3, d4, d5, d6⟩
      (try simp only [List.size_toArray, List.length_cons, List.length_nil, Nat.reduceAdd, Array.replicate_succ, Array.replicate_zero, List.push_toArray, List.append_toArray, List.nil_append, List.cons_append])
      refine wpAnyU_take (i := 0) (oi := ⟨_, _, _, _, _, _⟩) (ok := ⟨_, _, _, _, _, _⟩) (v := ?_) rfl rfl rfl (by decide) (by kernel_rfl) (by kernel_rfl) (by kernel_rfl) (by kernel_rfl) (by kernel_rfl) (fun _ _ _ h => h) ⟨by rfl, ?_⟩ (by assumption) ?_
      rotate_left
      · intro w hSw
        (try dsimp only at hSw)
        go_split_ands
        refine ⟨?_, rfl⟩
        go_simp
        try with_reducible rfl
      try simp only [Act.put, List.setIfInBounds_toArray, List.set_cons_zero, List.set_cons_succ]
      refine wpAnyU_take (i := 2) (oi := ⟨_, _, _, _, _, _⟩) (ok := ⟨_, _, _, _, _, _⟩) (v := ?_) rfl rfl rfl (by decide) (by kernel_rfl) (by kernel_rfl) (by kernel_rfl) (by kernel_rfl) (by kernel_rfl) (fun _ _ _ h => h) ⟨by rfl, ?_⟩ (by assumption) ?_
      rotate_left
      · intro w hSw
        (try dsimp only at hSw)
        go_split_ands
        refine ⟨?_, rfl⟩
        go_simp
        try with_reducible rfl
      try simp only [Act.put, List.setIfInBounds_toArray, List.set_cons_zero, List.set_cons_succ]
      refine wpAnyU_take (i := 3) (oi := ⟨_, _, _, _, _, _⟩) (ok := ⟨_, _, _, _, _, _⟩) (v := ?_) rfl rfl rfl (by decide) (by kernel_rfl) (by kernel_rfl) (by kernel_rfl) (by kernel_rfl) (by kernel_rfl) (fun _ _ _ h => h) ⟨by rfl, ?_⟩ (by assumption) ?_
      rotate_left
      · intro w hSw
        (try dsimp only at hSw)
        go_split_ands
        refine ⟨?_, rfl⟩
        go_simp
        try with_reducible rfl
      try simp only [Act.put, List.setIfInBounds_toArray, List.set_cons_zero, List.set_cons_succ]
      refine wpAnyU_take (i := 5) (oi := ⟨_, _, _, _, _, _⟩) (ok := ⟨_, _, _, _, _, _⟩) (v := ?_) rfl rfl rfl (by decide) (by kernel_rfl) (by kernel_rfl) (by kernel_rfl) (by kernel_rfl) (by kernel_rfl) (fun _ _ _ h => h) ⟨by rfl, ?_⟩ (by assumption) ?_
      rotate_left
      · intro w hSw
        (try dsimp only at hSw)
        go_split_ands
        refine ⟨?_, rfl⟩
        go_simp
        try with_reducible rfl
      try simp only [Act.put, List.setIfInBounds_toArray, List.set_cons_zero, List.set_cons_succ]
      refine wpAnyU_take (i := 1) (oi := ⟨_, _, _, _, _, _⟩) (ok := ⟨_, _, _, _, _, _⟩) (v := ?_) rfl rfl rfl (by decide) (by kernel_rfl) (by kernel_rfl) (by kernel_rfl) (by kernel_rfl) (by kernel_rfl) (fun _ _ _ h => h) ⟨by rfl, ?_⟩ (by assumption) ?_
      rotate_left
      · intro w hSw
        (try dsimp only at hSw)
        go_split_ands
        refine ⟨?_, rfl⟩
        go_simp
        try with_reducible rfl
      try simp only [Act.put, List.setIfInBounds_toArray, List.set_cons_zero, List.set_cons_succ]
      refine wpAnyU_take (i := 4) (oi := ⟨_, _, _, _, _, _⟩) (ok := ⟨_, _, _, _, _, _⟩) (v := ?_) rfl rfl rfl (by decide) (by kernel_rfl) (by kernel_rfl) (by kernel_rfl) (by kernel_rfl) (by kernel_rfl) (fun _ _ _ h => h) ⟨by rfl, ?_⟩ (by assumption) ?_
      rotate_left
      · intro w hSw
        (try dsimp only at hSw)
        go_split_ands
        refine ⟨?_, rfl⟩
        go_simp
        try with_reducible rfl
      try simp only [Act.put, List.setIfInBounds_toArray, List.set_cons_zero, List.set_cons_succ]
      refine wpAnyU_take (i := 6) (oi := ⟨_, _, _, _, _, _⟩) (ok := ⟨_, _, _, _, _, _⟩) (v := ?_) rfl rfl rfl (by decide) (by kernel_rfl) (by kernel_rfl) (by kernel_rfl) (by kernel_rfl) (by kernel_rfl) (fun _ _ _ h => h) ⟨by rfl, ?_⟩ (by assumption) ?_
      rotate_left
      · intro w hSw
        (try dsimp only at hSw)
        go_split_ands
        refine ⟨?_, rfl⟩
        go_simp
        try with_reducible rfl
      try simp only [Act.put, List.setIfInBounds_toArray, List.set_cons_zero, List.set_cons_succ]
      refine wpAnyU_take (i := 7) (oi := ⟨_, _, _, _, _, _⟩) (ok := ⟨_, _, _, _, _, _⟩) (v := ?_) rfl rfl rfl (by decide) (by kernel_rfl) (by kernel_rfl) (by kernel_rfl) (by kernel_rfl) (by kernel_rfl) (fun _ _ _ h => h) ⟨by rfl, ?_⟩ (by assumption) ?_
      rotate_left
      · intro w hSw
        (try dsimp only at hSw)
        go_split_ands
        refine ⟨?_, rfl⟩
        go_simp
        try with_reducible rfl
      try simp only [Act.put, List.setIfInBounds_toArray, List.set_cons_zero, List.set_cons_succ]
      refine wpAnyU_one (i := 8) (by kernel_rfl) (StepU.of (o := ⟨_, _, _, _, _, _⟩) rfl (by rfl) (fun K hK => ?_))
      go_simp
      refine ⟨trivial, rfl, ?_⟩
      refine (callsIn_wide.2 HC.out).mono ?_
      rintro e9 w1 ⟨lb9, kb9, rfl, hv9, hb9⟩
      have hSZr := HSZ.out
      have hkb9 : kb < rs := HS.out kb hSk
      have hlb9 : lb < rs := HS.out lb hSl
      have kp : ∀ p : Addr, p.block < wr.heap.size → w1.cell? p = wr.cell? p := fun p hp => hb9.cell hp
      have hh1 : (fun (X : World) => X.cell? ⟨rs + 1, 5, none⟩ = some (.slice RA i rc) ∧ X.cell? ⟨vb, 5, none⟩ = some (.slice (some ⟨lb, lo, none⟩) kn lc) ∧ X.cell? ⟨lb, lo + i * 7, none⟩ = some (.int .i64 k1) ∧ X.cell? ⟨lb, lo + i * 7 + 1, none⟩ = some (.bool neg1) ∧ X.cell? ⟨lb, lo + i * 7 + 2, none⟩ = some (.slice A1 n1 c1) ∧ X.cell? ⟨lb, lo + i * 7 + 3, none⟩ = some (.int .i64 e1) ∧ X.cell? ⟨lb, lo + i * 7 + 4, none⟩ = some (.string t1) ∧ X.cell? ⟨lb, lo + i * 7 + 5, none⟩ = some (.slice LA1 ln1 lc1) ∧ X.cell? ⟨lb, lo + i * 7 + 6, none⟩ = some (.slice KA1 kn1 kc1)) w1 := ⟨(kp ⟨rs + 1, 5, none⟩ (by show rs + 1 < wr.heap.size; omega)).trans b3, (kp ⟨vb, 5, none⟩ (by show vb < wr.heap.size; omega)).trans v3, (kp ⟨lb, lo + i * 7, none⟩ (by show lb < wr.heap.size; omega)).trans d0, (kp ⟨lb, lo + i * 7 + 1, none⟩ (by show lb < wr.heap.size; omega)).trans d1, (kp ⟨lb, lo + i * 7 + 2, none⟩ (by show lb < wr.heap.size; omega)).trans d2, (kp ⟨lb, lo + i * 7 + 3, none⟩ (by show lb < wr.heap.size; omega)).trans d3, (kp ⟨lb, lo + i * 7 + 4, none⟩ (by show lb < wr.heap.size; omega)).trans d4, (kp ⟨lb, lo + i * 7 + 5, none⟩ (by show lb < wr.heap.size; omega)).trans d5, (kp ⟨lb, lo + i * 7 + 6, none⟩ (by show lb < wr.heap.size; omega)).trans d6⟩
      refine hK _ _ (.inr hh1) ?_
      clear hK K
      try simp only [Act.put, List.setIfInBounds_toArray, List.set_cons_zero, List.set_cons_succ]
      have HV9 := Lib.hid hv9
      have HB9 := Lib.hid (show Below wr.heap.size wr w1 from (Below.refl _ wr).drew.trans hb9)
      have hs9 : wr.heap.size ≤ w1.heap.size := hb9.size
      have n5 := World.alloc_heap_new w1 (.cells #[.int .i64 6, .bool false, .slice none 0 0, .int .i64 0, .string ⟨#[]⟩, .slice (some ⟨lb9, 0, none⟩) 2 2, .slice (some ⟨kb9, 0, none⟩) 2 2] 28)
      have g5 : Below w1.heap.size w1 (w1.alloc (.cells #[.int .i64 6, .bool false, .slice none 0 0, .int .i64 0, .string ⟨#[]⟩, .slice (some ⟨lb9, 0, none⟩) 2 2, .slice (some ⟨kb9, 0, none⟩) 2 2] 28)) := (Below.refl _ w1).alloc (Nat.le_refl _) _
      obtain ⟨w5, hw5⟩ : ∃ y, w1.alloc (.cells #[.int .i64 6, .bool false, .slice none 0 0, .int .i64 0, .string ⟨#[]⟩, .slice (some ⟨lb9, 0, none⟩) 2 2, .slice (some ⟨kb9, 0, none⟩) 2 2] 28) = y := ⟨_, rfl⟩
      rw [hw5] at n5 g5
      have kp5 : ∀ p : Addr, p.block < wr.heap.size → w5.cell? p = w1.cell? p := fun p hp => g5.cell (by omega)
      have hh5 : (fun (X : World) => X.cell? ⟨rs + 1, 5, none⟩ = some (.slice RA i rc) ∧ X.cell? ⟨vb, 5, none⟩ = some (.slice (some ⟨lb, lo, none⟩) kn lc) ∧ X.cell? ⟨lb, lo + i * 7, none⟩ = some (.int .i64 k1) ∧ X.cell? ⟨lb, lo + i * 7 + 1, none⟩ = some (.bool neg1) ∧ X.cell? ⟨lb, lo + i * 7 + 2, none⟩ = some (.slice A1 n1 c1) ∧ X.cell? ⟨lb, lo + i * 7 + 3, none⟩ = some (.int .i64 e1) ∧ X.cell? ⟨lb, lo + i * 7 + 4, none⟩ = some (.string t1) ∧ X.cell? ⟨lb, lo + i * 7 + 5, none⟩ = some (.slice LA1 ln1 lc1) ∧ X.cell? ⟨lb, lo + i * 7 + 6, none⟩ = some (.slice KA1 kn1 kc1)) w5 := ⟨(kp5 ⟨rs + 1, 5, none⟩ (by show rs + 1 < wr.heap.size; omega)).trans hh1.1, (kp5 ⟨vb, 5, none⟩ (by show vb < wr.heap.size; omega)).trans hh1.2.1, (kp5 ⟨lb, lo + i * 7, none⟩ (by show lb < wr.heap.size; omega)).trans hh1.2.2.1, (kp5 ⟨lb, lo + i * 7 + 1, none⟩ (by show lb < wr.heap.size; omega)).trans hh1.2.2.2.1, (kp5 ⟨lb, lo + i * 7 + 2, none⟩ (by show lb < wr.heap.size; omega)).trans hh1.2.2.2.2.1, (kp5 ⟨lb, lo + i * 7 + 3, none⟩ (by show lb < wr.heap.size; omega)).trans hh1.2.2.2.2.2.1, (kp5 ⟨lb, lo + i * 7 + 4, none⟩ (by show lb < wr.heap.size; omega)).trans hh1.2.2.2.2.2.2.1, (kp5 ⟨lb, lo + i * 7 + 5, none⟩ (by show lb < wr.heap.size; omega)).trans hh1.2.2.2.2.2.2.2.1, (kp5 ⟨lb, lo + i * 7 + 6, none⟩ (by show lb < wr.heap.size; omega)).trans hh1.2.2.2.2.2.2.2.2⟩
      clear hHeld kp kp5 hb9
      refine wpAnyU_one (i := 9) (by kernel_rfl) (StepU.of (o := ⟨_, _, _, _, _, _⟩) rfl (by rfl) (fun K hK => ?_))
      go_simp
      try rw [hw5]
      refine hK _ _ (.inr hh5) ?_
      clear hK K
      try simp only [Act.put, List.setIfInBounds_toArray, List.set_cons_zero, List.set_cons_succ]
      obtain ⟨fs, ho, hfl, hft⟩ := HGR.out
      have htl : ((List.zipWith entryV ks2 li2).take i).length = i := by rw [List.length_take, HZL.out]; omega
      rw [htl] at ho hfl
      have ho5 : w5.ownsRow (rs + 2) 28 7 (.slice RA i rc) i (flatC fs id i) := ownsRow_keepB ho (But.of (HB9.out.trans (g5.mono hs9))) (fun _ _ h => h)
      obtain ⟨sb, hsb⟩ : ∃ b, w1.heap.size = b := ⟨_, rfl⟩
      have hnews : ∀ (j : Nat) (u : Value), [.int .i64 6, .bool false, .slice none 0 0, .int .i64 0, .string ⟨#[]⟩, .slice (some ⟨lb9, 0, none⟩) 2 2, .slice (some ⟨kb9, 0, none⟩) 2 2][j]? = some u → w5.cell? ((⟨sb, 0, none⟩ : Addr).add j) = some u := fun j u hj => by
        rw [Addr.add_lit, ← hsb, Nat.zero_add, cell_of_heap n5 j, List.getElem?_toArray]; exact hj
      have HO := Lib.hid ho
      have HFL := Lib.hid hfl
      have HFT := Lib.hid hft
      have HO5 := Lib.hid ho5
      have HTL := Lib.hid htl
      have HG5 := Lib.hid g5
      have HNEW := Lib.hid hnews
      try rw [hsb]
      have HSB := Lib.hid hsb
      have hsw5 : rs + 2 ≤ w5.heap.size := by have := g5.size; omega
      clear ho hfl hft ho5 htl g5 hnews n5 hsb hh1 hw5
      refine wpAnyU_one (i := 10) (by kernel_rfl) (StepU.of (o := ⟨_, _, _, _, _, _⟩) rfl (by rfl) (fun K hK => ?_))
      refine wpIn_append (base := rs + 2) (e := 28) (v := .slice RA i rc) (n := i) (xs := flatC fs id i) (news := [.int .i64 6, .bool false, .slice none 0 0, .int .i64 0, .string ⟨#[]⟩, .slice (some ⟨lb9, 0, none⟩) 2 2, .slice (some ⟨kb9, 0, none⟩) 2 2]) (m := 1) (c := 1) (ad := ⟨sb, 0, none⟩) rfl (.tmp 20) (.tmp 28) 25 rfl Tryz.underlying25 hi7 hp7 hq7 hr7 rfl (by decide) rfl HO5.out rfl rfl HNEW.out (by simp [Value.oneCell']) (by unfold maxLen; omega) (by omega) hsw5 ?_
      intro v' w6 hown6 hg6 _ hat6
      have hlt6 : ∀ k, k < rs + 2 → w6.heap[k]? = w5.heap[k]? := fun k hk => hg6.block k (by omega) (fun e => by have := (ownsRow_lt HO5.out e.symm).1; omega)
      have kp6 : ∀ p : Addr, p.block < rs + 2 → w6.cell? p = w5.cell? p := fun p hp => World.cell?_of_block (hlt6 _ hp)
      have hh6 : (fun (X : World) => X.cell? ⟨rs + 1, 5, none⟩ = some (.slice RA i rc) ∧ X.cell? ⟨vb, 5, none⟩ = some (.slice (some ⟨lb, lo, none⟩) kn lc) ∧ X.cell? ⟨lb, lo + i * 7, none⟩ = some (.int .i64 k1) ∧ X.cell? ⟨lb, lo + i * 7 + 1, none⟩ = some (.bool neg1) ∧ X.cell? ⟨lb, lo + i * 7 + 2, none⟩ = some (.slice A1 n1 c1) ∧ X.cell? ⟨lb, lo + i * 7 + 3, none⟩ = some (.int .i64 e1) ∧ X.cell? ⟨lb, lo + i * 7 + 4, none⟩ = some (.string t1) ∧ X.cell? ⟨lb, lo + i * 7 + 5, none⟩ = some (.slice LA1 ln1 lc1) ∧ X.cell? ⟨lb, lo + i * 7 + 6, none⟩ = some (.slice KA1 kn1 kc1)) w6 := ⟨(kp6 ⟨rs + 1, 5, none⟩ (by show rs + 1 < rs + 2; omega)).trans hh5.1, (kp6 ⟨vb, 5, none⟩ (by show vb < rs + 2; omega)).trans hh5.2.1, (kp6 ⟨lb, lo + i * 7, none⟩ (by show lb < rs + 2; omega)).trans hh5.2.2.1, (kp6 ⟨lb, lo + i * 7 + 1, none⟩ (by show lb < rs + 2; omega)).trans hh5.2.2.2.1, (kp6 ⟨lb, lo + i * 7 + 2, none⟩ (by show lb < rs + 2; omega)).trans hh5.2.2.2.2.1, (kp6 ⟨lb, lo + i * 7 + 3, none⟩ (by show lb < rs + 2; omega)).trans hh5.2.2.2.2.2.1, (kp6 ⟨lb, lo + i * 7 + 4, none⟩ (by show lb < rs + 2; omega)).trans hh5.2.2.2.2.2.2.1, (kp6 ⟨lb, lo + i * 7 + 5, none⟩ (by show lb < rs + 2; omega)).trans hh5.2.2.2.2.2.2.2.1, (kp6 ⟨lb, lo + i * 7 + 6, none⟩ (by show lb < rs + 2; omega)).trans hh5.2.2.2.2.2.2.2.2⟩
      refine hK _ _ (.inr hh6) ?_
      clear hK K kp6 hh5
      try simp only [Act.put, List.setIfInBounds_toArray, List.set_cons_zero, List.set_cons_succ]
      refine wpAnyU_take (i := 11) (oi := ⟨_, _, _, _, _, _⟩) (ok := ⟨_, _, _, _, _, _⟩) (v := ?_) rfl rfl rfl (by decide) (by kernel_rfl) (by kernel_rfl) (by kernel_rfl) (by kernel_rfl) (by kernel_rfl) (fun _ _ _ h => h) ⟨by rfl, ?_⟩ (by assumption) ?_
      rotate_left
      · intro w hSw
        (try dsimp only at hSw)
        go_split_ands
        refine ⟨?_, rfl⟩
        go_simp
        try with_reducible rfl
      try simp only [Act.put, List.setIfInBounds_toArray, List.set_cons_zero, List.set_cons_succ]
      have hs6 : w5.heap.size ≤ w6.heap.size := hg6.size
      have hbox6 : w6.heap[rs + 1]? = some (.cells #[.int .i64 5, .bool false, .slice none 0 0, .int .i64 0, .string ⟨#[]⟩, .slice RA i rc, .slice none 0 0] 28) := (hlt6 _ (by omega)).trans ((HG5.out.block _ (by have := HSB.out; omega)).trans ((HB9.out.block _ (by omega)).trans HBOX.out))
      have fz6 : w6.frozen? ⟨rs + 1, 5, none⟩ = false := frozen_of_row _ _ _ _ _ hbox6
      obtain ⟨RA', n', rc', rfl⟩ : ∃ RA' n' rc', v' = .slice RA' n' rc' := by
        rcases hown6.2 with ⟨e, _⟩ | ⟨g, cap, cur, e, _⟩
        · exact ⟨_, _, _, e⟩
        · exact ⟨_, _, _, e⟩
      obtain rfl : n' = i + 1 := by
        rcases hown6.2 with ⟨e, h0⟩ | ⟨g, cap, cur, e, _⟩
        · omega
        · injection e
      have hgr6 : GrowE (rs + 2) S (fun _ => False) (.slice RA' (i + 1) rc') ((List.zipWith entryV ks2 li2).take i ++ [entryV s y]) w6 :=
        GrowE.push (W := wr) (W1 := w1) (W2 := w5) HTL.out HO.out HFL.out HFT.out HB9.out HV9.out rfl (by have := HG5.out; exact this) hg6 hown6 hat6 hSZr (fun b hb => by have := HS.out b hb; omega) (fun b hb => hb.elim)
      have hzk : (List.zipWith entryV ks2 li2)[i]? = some (entryV s y) := by rw [List.getElem?_zipWith, HKSI.out, HLYI.out]
      have HGR6 : Hid (GrowE (rs + 2) S (fun _ => False) (.slice RA' (i + 1) rc') ((List.zipWith entryV ks2 li2).take (i + 1)) w6) := by
        show GrowE _ _ _ _ _ _
        rw [List.take_add_one, hzk]; exact hgr6
      have HBOX6 := Lib.hid hbox6
      have HL6 := Lib.hid (fun k (hk : k < rs + 2) => (hlt6 k hk).trans ((HG5.out.block _ (by have := HSB.out; omega)).trans (HB9.out.block _ (by omega))))
      have HB6 : Hid (Below rs w w6) := (HBEL.out.trans (HB9.out.mono (by omega))).trans ((HG5.out.mono (by have := HSB.out; omega)).grown hg6 (by have := HG5.out.size; omega) (fun k e => by have := (ownsRow_lt HO5.out e).1; omega))
      clear hown6 hg6 hat6 hgr6 hzk hbox6 hlt6
      refine wpAnyU_one (i := 12) (by kernel_rfl) (StepU.of (o := ⟨_, _, _, _, _, _⟩) rfl (by rfl) (fun K hK => ?_))
      go_simp
      refine hK _ _ (.inl rfl) ?_
      clear hK K
      try simp only [Act.put, List.setIfInBounds_toArray, List.set_cons_zero, List.set_cons_succ]
      refine wpAnyU_done (by kernel_rfl) ?_ _
      gi_wp2
      have hset := setCell_box (j := 5) HBOX6.out (.slice RA' (i + 1) rc')
      refine ⟨⟨i + 1, RA', rc', hlt, rfl, ?_, ?_, ?_, ?_, ?_⟩, by simp [RowKit.intOf]; omega⟩
      · exact HGR6.out.set (by omega) (fun h => by have := HS.out _ h; omega) _ _
      · show _ = _
        simpa using hset
      · intro k hk hne
        exact (Below.heap_setCell _ _ _ _ hne).trans ((HL6.out k hk).trans (HKP.out k hk hne))
      · exact HB6.out.setCell (p := ⟨rs + 1, 5, none⟩) (by show rs ≤ rs + 1; omega) _
      · show _ ≤ _
        simp only [World.size_setCell]; omega
    · obtain rfl : i = kn := by omega
      have hfull : (List.zipWith entryV ks2 li2).take i = List.zipWith entryV ks2 li2 := List.take_of_length_le (by rw [HZL.out]; omega)
      have hgr := HGR.out
      rw [hfull] at hgr
      obtain ⟨hrd, hrc⟩ := hgr.rdl HZL.out (by omega)
      have hvin := listV_in hrd (by omega) hrc
      have hq0 := (HKP.out rs (by omega) (by omega)).trans HQ0.out
      obtain ⟨t0, t1, t2', t3, t4, t5, t6⟩ := box7_of HBOX.out
      obtain ⟨z0, z1, z2, z3, z4, z5, z6⟩ := box7_of hq0
      have fz : ∀ j, wr.frozen? ⟨rs, j, none⟩ = false := fun j => frozen_of_row _ _ j _ _ hq0
      have HVN := Lib.hid hvin
      have HROW := Lib.hid hgr
      clear hfull hgr hrd hrc hvin hq0
      gi_wp2
      refine bodyPost_ret (v := .tuple #[.agg #[.int .i64 5, .bool false, .slice none 0 0, .int .i64 0, .string ⟨#[]⟩, .slice RA i rc, .slice none 0 0], .int .i64 0]) (by simp [results, Tryz.results14, go_sem, z0, z1, z2, z3, z4, z5, z6]) rfl ?_
      refine ⟨[.int .i64 5, .bool false, .slice none 0 0, .int .i64 0, .string ⟨#[]⟩, .slice RA i rc, .slice none 0 0], rfl, ?_, below_seven HBEL.out (Nat.le_refl _) _ _ _ _ _ _ _⟩
      refine (HVN.out.keep fun p hp => cell_seven ?_ _ _ _ _ _ _ _).more fun b hb => by simpa [World.setCell] using hb.2
      rcases hp.1 with h | h
      · have := HS.out _ h; omega
      · omega
end Go.Proofs.YtpmdcahomkdfmaaGreatDoor
