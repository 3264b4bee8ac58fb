/-
  Contracts of best, Least, Most.
  Contracts of Least and Most; what stands at the ends of the order.
-/
import Derived.Test.YtklpfgjnlheikaaGreatDoorOsor
set_option linter.unusedVariables false
set_option linter.unusedSimpArgs false
namespace Go.Proofs.YtklpfgjnlheikaaGreatDoor
open Go.RowKit

/-- The place that is left of the first k, when each that goes ahead of the one left so far takes its place. -/
def bestAt (f : Int → Bool) (l : List VT) : Nat → Nat
  | 0 => 0
  | k + 1 => if f (ordV (l[k]?.getD (.mk 0 false [] 0 ⟨#[]⟩ [] [])) (l[bestAt f l k]?.getD (.mk 0 false [] 0 ⟨#[]⟩ [] []))) then k else bestAt f l k
theorem bestAt_lt (f : Int → Bool) (l : List VT) : ∀ k, bestAt f l k = 0 ∨ bestAt f l k < k
  | 0 => .inl rfl
  | k + 1 => by
    unfold bestAt
    have := bestAt_lt f l k
    split <;> omega
theorem bestAt_step {f : Int → Bool} {l : List VT} {k o : Nat} {x y : VT} (h : bestAt f l k = o) (hx : l[k]? = some x) (hy : l[o]? = some y) : bestAt f l (k + 1) = if f (ordV x y) then k else o := by
  subst h
  simp [bestAt, hx, hy]

def lessF (z : Int) : Bool := decide (z < 0)
theorem lessF_c (z : Int) (w : World) : Calls Tryz.prog 97 #[.int .i64 z] w fun e w' => e = .returned (.bool (lessF z)) ∧ w = w' := by
  unfold lessF
  go_enter Tryz.func97, Tryz.ntmps97
  go_wp2_with fail
  go_ret
  exact ⟨rfl, rfl⟩

set_option maxRecDepth 100000 in
set_option maxHeartbeats 2000000 in
theorem bestLeast_c {S : Nat → Prop} {A : Option Addr} {n c : Nat} {l : List VT} (w : World) (hl : RdL w S A n l) (hS : ∀ b, S b → b < w.heap.size) (hf : ∀ x ∈ l, fine x) (hpos : 0 < n) :
    Calls Tryz.prog 138 #[.agg #[.slice A n c, .func (.func 90) #[] #[]], .func (.func 97) #[] #[]] w fun e w' => e = .returned (.int .i64 ((bestAt lessF l n : Nat) : Int)) ∧ Below w.heap.size w w' := by
  obtain ⟨R, hR⟩ : ∃ R, bestAt lessF l n = R := ⟨_, rfl⟩
  rw [hR]
  obtain ⟨b1, o1, hA⟩ : ∃ b1 o1, A = some ⟨b1, o1, none⟩ := by
    obtain ⟨b, off, x, cs, h, -⟩ := hl.at_ hpos
    exact ⟨b, off, h⟩
  subst hA
  have hSb1 : S b1 := by
    obtain ⟨b, off, x, cs, h, h2, -⟩ := hl.at_ hpos
    injection h with h
    injection h with h
    rw [h]; exact h2
  have HR := Lib.hid hR
  have HL := Lib.hid hl
  have HLN := Lib.hid hl.1
  have hnb := hl.2.1
  have HS := Lib.hid hS
  have HF := Lib.hid hf
  have hb1s := hS _ hSb1
  clear hl hS hf hR hSb1
  have hW1 : Below w.heap.size w (w.alloc (.cells #[.slice (some ⟨b1, o1, none⟩) n c, .func (.func 90) #[] #[]] 121)) := (Below.refl _ w).alloc (Nat.le_refl _) _
  have hm1 := World.alloc_heap_new w (.cells #[.slice (some ⟨b1, o1, none⟩) n c, .func (.func 90) #[] #[]] 121)
  have hz1 : (w.alloc (.cells #[.slice (some ⟨b1, o1, none⟩) n c, .func (.func 90) #[] #[]] 121)).heap.size = w.heap.size + 1 := by simp
  go_enter Tryz.func138, Tryz.ntmps138
  go_upto_region 1 with fail
  generalize (w.alloc (.cells #[.slice (some ⟨b1, o1, none⟩) n c, .func (.func 90) #[] #[]] 121)) = W1 at *
  have q0 : W1.cell? ⟨w.heap.size, 0, none⟩ = some (.slice (some ⟨b1, o1, none⟩) n c) := cell_at hm1 rfl
  have HM1 := Lib.hid hm1
  have HW1 := Lib.hid hW1
  clear hm1 hW1
  go_upto_region 3 with fail
  clear q0
  go_loopw [5, 11] (fun v i wr => ∃ (k o : Nat), k ≤ n ∧ i = .int .i64 (k : Int) ∧ v = .int .i64 (o : Int) ∧ Hid (bestAt lessF l k = o) ∧ Below (w.heap.size + 1) W1 wr) (fun _ i _ => n - (RowKit.intOf i).toNat)
  case atStart => exact ⟨0, 0, Nat.zero_le _, rfl, rfl, rfl, by rw [← hz1]; exact Below.refl _ _⟩
  case round =>
    obtain ⟨k, o, hkn, rfl, rfl, hbo, hbel⟩ := hrel
    have hzr := hbel.size
    have hwr : Below w.heap.size w wr := HW1.out.trans (hbel.mono (by omega))
    by_cases hk : k < n
    · have hkl : (k : Int) < (n : Int) := by omega
      have hk0 : (0 : Int) ≤ (k : Int) := by omega
      have hkt : ((k : Int)).toNat = k := by omega
      have hkw : IntKind.i64.wrap ((k : Int) + 1) = (k : Int) + 1 := IntWalk.i64_in _ (by omega)
      have hon : o < n := by
        have := bestAt_lt lessF l k
        rw [hbo.out] at this
        omega
      have hol : (o : Int) < (n : Int) := by omega
      have ho0 : (0 : Int) ≤ (o : Int) := by omega
      have hot : ((o : Int)).toNat = o := by omega
      obtain ⟨b2, o2, x, cs, hA2, hSb, hx, h71, hcc1, hvx⟩ := HL.out.at_ hk
      injection hA2 with hA2
      injection hA2 with hA3 hA4
      subst hA3
      subst hA4
      obtain ⟨b2, o2, y, ds, hA2, -, hy, h72, hcc2, hvy⟩ := HL.out.at_ hon
      injection hA2 with hA2
      injection hA2 with hA3 hA4
      subst hA3
      subst hA4
      have HC := fun W (hW : Below w.heap.size w W) => compareO_c x y S cs ds W (HF.out x (List.mem_of_getElem? hx)) (HF.out y (List.mem_of_getElem? hy)) (hvx.keep fun p hp => hW.cell (HS.out _ hp)) (hvy.keep fun p hp => hW.cell (HS.out _ hp)) (fun b hb => Nat.lt_of_lt_of_le (HS.out b hb) hW.size)
      have HHC := Lib.hid HC
      have hst := bestAt_step hbo.out hx hy
      obtain ⟨Z, hZ⟩ : ∃ Z, ordV x y = Z := ⟨_, rfl⟩
      rw [hZ] at HHC hst
      obtain ⟨bl, hbl⟩ : ∃ bl, lessF Z = bl := ⟨_, rfl⟩
      have HCL := lessF_c Z
      rw [hbl] at hst HCL
      have HST := Lib.hid hst
      obtain ⟨k1, n1, u1, e1, t1, l1, ks1⟩ := x
      obtain ⟨k2, n2, u2, e2, t2, l2, ks2⟩ := y
      obtain ⟨A1, m1, c1, LA1, lm1, lc1, KA1, km1, kc1, rfl, -⟩ := hvx.parts
      obtain ⟨A2, m2, c2, LA2, lm2, lc2, KA2, km2, kc2, rfl, -⟩ := hvy.parts
      have hcw : ∀ a, a < 7 → wr.cell? ⟨b1, o1 + (k * 7 + a), none⟩ = _ := fun a ha => (hwr.cell (p := ⟨b1, o1 + (k * 7 + a), none⟩) hb1s).trans (hcc1 a ha)
      have d0 : wr.cell? ⟨b1, o1 + k * 7, none⟩ = some (.int .i64 k1) := hcw 0 (by omega)
      have d1 : wr.cell? ⟨b1, o1 + k * 7 + 1, none⟩ = some (.bool n1) := hcw 1 (by omega)
      have d2 : wr.cell? ⟨b1, o1 + k * 7 + 2, none⟩ = some (.slice A1 m1 c1) := hcw 2 (by omega)
      have d3 : wr.cell? ⟨b1, o1 + k * 7 + 3, none⟩ = some (.int .i64 e1) := hcw 3 (by omega)
      have d4 : wr.cell? ⟨b1, o1 + k * 7 + 4, none⟩ = some (.string t1) := hcw 4 (by omega)
      have d5 : wr.cell? ⟨b1, o1 + k * 7 + 5, none⟩ = some (.slice LA1 lm1 lc1) := hcw 5 (by omega)
      have d6 : wr.cell? ⟨b1, o1 + k * 7 + 6, none⟩ = some (.slice KA1 km1 kc1) := hcw 6 (by omega)
      have hcc2' : ∀ a, a < 7 → w.cell? ⟨b1, o1 + (o * 7 + a), none⟩ = _ := hcc2
      clear hcw hvx hvy HC hZ hbl hst h71 h72 hcc1 hx hy hSb
      go_upto_region 5 with fail
      have hmx := World.alloc_heap_new wr (.cells #[.int .i64 k1, .bool n1, .slice A1 m1 c1, .int .i64 e1, .string t1, .slice LA1 lm1 lc1, .slice KA1 km1 kc1] 53)
      have hbx : Below wr.heap.size wr (wr.alloc (.cells #[.int .i64 k1, .bool n1, .slice A1 m1 c1, .int .i64 e1, .string t1, .slice LA1 lm1 lc1, .slice KA1 km1 kc1] 53)) := (Below.refl _ wr).alloc (Nat.le_refl _) _
      have hzx : (wr.alloc (.cells #[.int .i64 k1, .bool n1, .slice A1 m1 c1, .int .i64 e1, .string t1, .slice LA1 lm1 lc1, .slice KA1 km1 kc1] 53)).heap.size = wr.heap.size + 1 := by simp
      generalize (wr.alloc (.cells #[.int .i64 k1, .bool n1, .slice A1 m1 c1, .int .i64 e1, .string t1, .slice LA1 lm1 lc1, .slice KA1 km1 kc1] 53)) = W2 at *
      have hwx := hwr.trans (hbx.mono hwr.size)
      have hbelx := hbel.trans (hbx.mono (by omega))
      have hmr := (hbelx.block _ (by omega)).trans HM1.out
      clear d0 d1 d2 d3 d4 d5 d6
      have hSS : ∀ W, Below W2.heap.size W2 W → W.cell? ⟨w.heap.size, 0, none⟩ = some (.slice (some ⟨b1, o1, none⟩) n c) ∧ W.cell? ⟨w.heap.size, 1, none⟩ = some (.func (.func 90) #[] #[]) ∧ W.cell? ⟨wr.heap.size, 0, none⟩ = some (.int .i64 k1) ∧ W.cell? ⟨wr.heap.size, 1, none⟩ = some (.bool n1) ∧ W.cell? ⟨wr.heap.size, 2, none⟩ = some (.slice A1 m1 c1) ∧ W.cell? ⟨wr.heap.size, 3, none⟩ = some (.int .i64 e1) ∧ W.cell? ⟨wr.heap.size, 4, none⟩ = some (.string t1) ∧ W.cell? ⟨wr.heap.size, 5, none⟩ = some (.slice LA1 lm1 lc1) ∧ W.cell? ⟨wr.heap.size, 6, none⟩ = some (.slice KA1 km1 kc1) ∧ W.cell? ⟨b1, o1 + o * 7, none⟩ = some (.int .i64 k2) ∧ W.cell? ⟨b1, o1 + o * 7 + 1, none⟩ = some (.bool n2) ∧ W.cell? ⟨b1, o1 + o * 7 + 2, none⟩ = some (.slice A2 m2 c2) ∧ W.cell? ⟨b1, o1 + o * 7 + 3, none⟩ = some (.int .i64 e2) ∧ W.cell? ⟨b1, o1 + o * 7 + 4, none⟩ = some (.string t2) ∧ W.cell? ⟨b1, o1 + o * 7 + 5, none⟩ = some (.slice LA2 lm2 lc2) ∧ W.cell? ⟨b1, o1 + o * 7 + 6, none⟩ = some (.slice KA2 km2 kc2) := fun W hW => by
        have g1 := (hW.block _ (by omega)).trans hmr
        obtain ⟨x0, x1, x2, x3, x4, x5, x6⟩ := box7_of ((hW.block _ (by omega)).trans hmx)
        have hw9 := hwx.trans (hW.mono hwx.size)
        exact ⟨cell_at g1 rfl, cell_at g1 rfl, x0, x1, x2, x3, x4, x5, x6, (hw9.cell (p := ⟨b1, o1 + (o * 7 + 0), none⟩) hb1s).trans (hcc2' 0 (by omega)), (hw9.cell (p := ⟨b1, o1 + (o * 7 + 1), none⟩) hb1s).trans (hcc2' 1 (by omega)), (hw9.cell (p := ⟨b1, o1 + (o * 7 + 2), none⟩) hb1s).trans (hcc2' 2 (by omega)), (hw9.cell (p := ⟨b1, o1 + (o * 7 + 3), none⟩) hb1s).trans (hcc2' 3 (by omega)), (hw9.cell (p := ⟨b1, o1 + (o * 7 + 4), none⟩) hb1s).trans (hcc2' 4 (by omega)), (hw9.cell (p := ⟨b1, o1 + (o * 7 + 5), none⟩) hb1s).trans (hcc2' 5 (by omega)), (hw9.cell (p := ⟨b1, o1 + (o * 7 + 6), none⟩) hb1s).trans (hcc2' 6 (by omega))⟩
      have HSS := Lib.hid hSS
      have HBX := Lib.hid hbelx
      have HWX := Lib.hid hwx
      clear hSS hcc2 hcc2' hmr hmx hbx hbel hbelx hwx hzr
      refine wp_region_held_drew (S := fun w' => w'.cell? ⟨w.heap.size, 0, none⟩ = some (.slice (some ⟨b1, o1, none⟩) n c) ∧ w'.cell? ⟨w.heap.size, 1, none⟩ = some (.func (.func 90) #[] #[]) ∧ w'.cell? ⟨wr.heap.size, 0, none⟩ = some (.int .i64 k1) ∧ w'.cell? ⟨wr.heap.size, 1, none⟩ = some (.bool n1) ∧ w'.cell? ⟨wr.heap.size, 2, none⟩ = some (.slice A1 m1 c1) ∧ w'.cell? ⟨wr.heap.size, 3, none⟩ = some (.int .i64 e1) ∧ w'.cell? ⟨wr.heap.size, 4, none⟩ = some (.string t1) ∧ w'.cell? ⟨wr.heap.size, 5, none⟩ = some (.slice LA1 lm1 lc1) ∧ w'.cell? ⟨wr.heap.size, 6, none⟩ = some (.slice KA1 km1 kc1) ∧ w'.cell? ⟨b1, o1 + o * 7, none⟩ = some (.int .i64 k2) ∧ w'.cell? ⟨b1, o1 + o * 7 + 1, none⟩ = some (.bool n2) ∧ w'.cell? ⟨b1, o1 + o * 7 + 2, none⟩ = some (.slice A2 m2 c2) ∧ w'.cell? ⟨b1, o1 + o * 7 + 3, none⟩ = some (.int .i64 e2) ∧ w'.cell? ⟨b1, o1 + o * 7 + 4, none⟩ = some (.string t2) ∧ w'.cell? ⟨b1, o1 + o * 7 + 5, none⟩ = some (.slice LA2 lm2 lc2) ∧ w'.cell? ⟨b1, o1 + o * 7 + 6, none⟩ = some (.slice KA2 km2 kc2)) (by kernel_rfl) (HSS.out _ (Below.refl _ _).drew) (fun hHeld => ?_)
      (try simp only [List.size_toArray, List.length_cons, List.length_nil, Nat.reduceAdd, Array.replicate_succ, Array.replicate_zero, List.push_toArray, List.append_toArray, List.nil_append, List.cons_append])
      refine wpAnyH_take (i := 0) (oi := ⟨_, _, _, _, _, _⟩) (v := ?_) rfl (by kernel_rfl) (by kernel_rfl) (by kernel_rfl) (fun _ _ _ h => h) (Or.inl ⟨by rfl, ?_⟩) (by assumption) ?_
      rotate_left
      · intro w hSw
        (try dsimp only at hSw)
        go_split_ands
        go_simp
        try with_reducible rfl
      try simp only [Act.put, List.setIfInBounds_toArray, List.set_cons_zero, List.set_cons_succ]
      refine wpAnyH_take (i := 1) (oi := ⟨_, _, _, _, _, _⟩) (v := ?_) rfl (by kernel_rfl) (by kernel_rfl) (by kernel_rfl) (fun _ _ _ h => h) (Or.inl ⟨by rfl, ?_⟩) (by assumption) ?_
      rotate_left
      · intro w hSw
        (try dsimp only at hSw)
        go_split_ands
        go_simp
        try with_reducible rfl
      try simp only [Act.put, List.setIfInBounds_toArray, List.set_cons_zero, List.set_cons_succ]
      refine wpAnyH_take (i := 2) (oi := ⟨_, _, _, _, _, _⟩) (v := ?_) rfl (by kernel_rfl) (by kernel_rfl) (by kernel_rfl) (fun _ _ _ h => h) (Or.inl ⟨by rfl, ?_⟩) (by assumption) ?_
      rotate_left
      · intro w hSw
        (try dsimp only at hSw)
        go_split_ands
        go_simp
        try with_reducible rfl
      try simp only [Act.put, List.setIfInBounds_toArray, List.set_cons_zero, List.set_cons_succ]
      refine wpAnyH_take (i := 3) (oi := ⟨_, _, _, _, _, _⟩) (v := ?_) rfl (by kernel_rfl) (by kernel_rfl) (by kernel_rfl) (fun _ _ _ h => h) (Or.inl ⟨by rfl, ?_⟩) (by assumption) ?_
      rotate_left
      · intro w hSw
        (try dsimp only at hSw)
        go_split_ands
        go_simp
        try with_reducible rfl
      try simp only [Act.put, List.setIfInBounds_toArray, List.set_cons_zero, List.set_cons_succ]
      refine wpAnyH_take (i := 4) (oi := ⟨_, _, _, _, _, _⟩) (v := ?_) rfl (by kernel_rfl) (by kernel_rfl) (by kernel_rfl) (fun _ _ _ h => h) (Or.inl ⟨by rfl, ?_⟩) (by assumption) ?_
      rotate_left
      · intro w hSw
        (try dsimp only at hSw)
        go_split_ands
        go_simp
        try with_reducible rfl
      try simp only [Act.put, List.setIfInBounds_toArray, List.set_cons_zero, List.set_cons_succ]
      refine wpAnyH_take (i := 5) (oi := ⟨_, _, _, _, _, _⟩) (v := ?_) rfl (by kernel_rfl) (by kernel_rfl) (by kernel_rfl) (fun _ _ _ h => h) (Or.inl ⟨by rfl, ?_⟩) (by assumption) ?_
      rotate_left
      · intro w hSw
        (try dsimp only at hSw)
        go_split_ands
        go_simp
        try with_reducible rfl
      try simp only [Act.put, List.setIfInBounds_toArray, List.set_cons_zero, List.set_cons_succ]
      refine wpAnyH_take (i := 6) (oi := ⟨_, _, _, _, _, _⟩) (v := ?_) rfl (by kernel_rfl) (by kernel_rfl) (by kernel_rfl) (fun _ _ _ h => h) (Or.inl ⟨by rfl, ?_⟩) (by assumption) ?_
      rotate_left
      · intro w hSw
        (try dsimp only at hSw)
        go_split_ands
        go_simp
        try with_reducible rfl
      try simp only [Act.put, List.setIfInBounds_toArray, List.set_cons_zero, List.set_cons_succ]
      refine wpAnyH_take (i := 7) (oi := ⟨_, _, _, _, _, _⟩) (v := ?_) rfl (by kernel_rfl) (by kernel_rfl) (by kernel_rfl) (fun _ _ _ h => h) (Or.inl ⟨by rfl, ?_⟩) (by assumption) ?_
      rotate_left
      · intro w hSw
        (try dsimp only at hSw)
        go_split_ands
        go_simp
        try with_reducible rfl
      try simp only [Act.put, List.setIfInBounds_toArray, List.set_cons_zero, List.set_cons_succ]
      refine wpAnyH_take (i := 8) (oi := ⟨_, _, _, _, _, _⟩) (v := ?_) rfl (by kernel_rfl) (by kernel_rfl) (by kernel_rfl) (fun _ _ _ h => h) (Or.inl ⟨by rfl, ?_⟩) (by assumption) ?_
      rotate_left
      · intro w hSw
        (try dsimp only at hSw)
        go_split_ands
        go_simp
        try with_reducible rfl
      try simp only [Act.put, List.setIfInBounds_toArray, List.set_cons_zero, List.set_cons_succ]
      refine wpAnyH_ready (rs := [9]) (by kernel_rfl) (by simp) (AllReadyH.cons (o := ⟨_, _, _, _, _, _⟩) rfl (fun K hK => ?_) AllReadyH.nil)
      go_simp
      refine (HHC.out W2.drew (HWX.out.drew)).mono ?_
      rintro e' w3 ⟨rfl, hb3⟩
      (try dsimp only)
      have hb3' : Below W2.heap.size W2 w3 := (Below.refl _ W2).drew.trans (hb3.mono (by simp))
      refine hK.out _ _ (HSS.out _ hb3') (fun hHeld2 => ?_)
      clear hK K hHeld hb3
      try simp only [Act.put, List.setIfInBounds_toArray, List.set_cons_zero, List.set_cons_succ]
      refine wpAnyH_ready (rs := [10]) (by kernel_rfl) (by simp) (AllReadyH.cons (o := ⟨_, _, _, _, _, _⟩) rfl (fun K hK => ?_) AllReadyH.nil)
      go_simp
      refine (HCL w3).mono ?_
      rintro e' w' ⟨rfl, rfl⟩
      (try dsimp only)
      refine hK.out _ _ (HSS.out _ hb3') (fun hHeld3 => ?_)
      clear hK K hHeld2
      try simp only [Act.put, List.setIfInBounds_toArray, List.set_cons_zero, List.set_cons_succ]
      refine wpAnyH_done (by kernel_rfl) ?_ _
      have hb9 : Below (w.heap.size + 1) W1 w3 := HBX.out.trans (hb3'.mono (by have := HBX.out.size; omega))
      clear HSS hb3' hHeld3 HCL
      cases bl with
      | false =>
        have HN : Hid (bestAt lessF l (k + 1) = o) := Lib.hid (by have := HST.out; simpa using this)
        go_wp2_with fail
        go_roundw
        case rel => exact ⟨k + 1, o, by omega, by go_num, rfl, HN, hb9⟩
        case measure => simp [RowKit.intOf]; omega
      | true =>
        have HN : Hid (bestAt lessF l (k + 1) = k) := Lib.hid (by have := HST.out; simpa using this)
        go_wp2_with fail
        go_roundw
        case rel => exact ⟨k + 1, k, by omega, by go_num, rfl, HN, hb9⟩
        case measure => simp [RowKit.intOf]; omega
    · have hnk : ¬ (k : Int) < (n : Int) := by omega
      have hkn2 : k = n := by omega
      subst hkn2
      have HN : Hid (o = R) := Lib.hid (by rw [← hbo.out]; exact HR.out)
      clear hbo
      go_wp2_with fail
      go_ret
      refine ⟨?_, hwr⟩
      rw [← HN.out]; rfl

def moreF (z : Int) : Bool := decide (0 ≤ z)
theorem moreF_c (z : Int) (w : World) : Calls Tryz.prog 98 #[.int .i64 z] w fun e w' => e = .returned (.bool (moreF z)) ∧ w = w' := by
  unfold moreF
  go_enter Tryz.func98, Tryz.ntmps98
  go_wp2_with fail
  go_ret
  exact ⟨rfl, rfl⟩

set_option maxRecDepth 100000 in
set_option maxHeartbeats 2000000 in
theorem bestMost_c {S : Nat → Prop} {A : Option Addr} {n c : Nat} {l : List VT} (w : World) (hl : RdL w S A n l) (hS : ∀ b, S b → b < w.heap.size) (hf : ∀ x ∈ l, fine x) (hpos : 0 < n) :
    Calls Tryz.prog 138 #[.agg #[.slice A n c, .func (.func 90) #[] #[]], .func (.func 98) #[] #[]] w fun e w' => e = .returned (.int .i64 ((bestAt moreF l n : Nat) : Int)) ∧ Below w.heap.size w w' := by
  obtain ⟨R, hR⟩ : ∃ R, bestAt moreF l n = R := ⟨_, rfl⟩
  rw [hR]
  obtain ⟨b1, o1, hA⟩ : ∃ b1 o1, A = some ⟨b1, o1, none⟩ := by
    obtain ⟨b, off, x, cs, h, -⟩ := hl.at_ hpos
    exact ⟨b, off, h⟩
  subst hA
  have hSb1 : S b1 := by
    obtain ⟨b, off, x, cs, h, h2, -⟩ := hl.at_ hpos
    injection h with h
    injection h with h
    rw [h]; exact h2
  have HR := Lib.hid hR
  have HL := Lib.hid hl
  have HLN := Lib.hid hl.1
  have hnb := hl.2.1
  have HS := Lib.hid hS
  have HF := Lib.hid hf
  have hb1s := hS _ hSb1
  clear hl hS hf hR hSb1
  have hW1 : Below w.heap.size w (w.alloc (.cells #[.slice (some ⟨b1, o1, none⟩) n c, .func (.func 90) #[] #[]] 121)) := (Below.refl _ w).alloc (Nat.le_refl _) _
  have hm1 := World.alloc_heap_new w (.cells #[.slice (some ⟨b1, o1, none⟩) n c, .func (.func 90) #[] #[]] 121)
  have hz1 : (w.alloc (.cells #[.slice (some ⟨b1, o1, none⟩) n c, .func (.func 90) #[] #[]] 121)).heap.size = w.heap.size + 1 := by simp
  go_enter Tryz.func138, Tryz.ntmps138
  go_upto_region 1 with fail
  generalize (w.alloc (.cells #[.slice (some ⟨b1, o1, none⟩) n c, .func (.func 90) #[] #[]] 121)) = W1 at *
  have q0 : W1.cell? ⟨w.heap.size, 0, none⟩ = some (.slice (some ⟨b1, o1, none⟩) n c) := cell_at hm1 rfl
  have HM1 := Lib.hid hm1
  have HW1 := Lib.hid hW1
  clear hm1 hW1
  go_upto_region 3 with fail
  clear q0
  go_loopw [5, 11] (fun v i wr => ∃ (k o : Nat), k ≤ n ∧ i = .int .i64 (k : Int) ∧ v = .int .i64 (o : Int) ∧ Hid (bestAt moreF l k = o) ∧ Below (w.heap.size + 1) W1 wr) (fun _ i _ => n - (RowKit.intOf i).toNat)
  case atStart => exact ⟨0, 0, Nat.zero_le _, rfl, rfl, rfl, by rw [← hz1]; exact Below.refl _ _⟩
  case round =>
    obtain ⟨k, o, hkn, rfl, rfl, hbo, hbel⟩ := hrel
    have hzr := hbel.size
    have hwr : Below w.heap.size w wr := HW1.out.trans (hbel.mono (by omega))
    by_cases hk : k < n
    · have hkl : (k : Int) < (n : Int) := by omega
      have hk0 : (0 : Int) ≤ (k : Int) := by omega
      have hkt : ((k : Int)).toNat = k := by omega
      have hkw : IntKind.i64.wrap ((k : Int) + 1) = (k : Int) + 1 := IntWalk.i64_in _ (by omega)
      have hon : o < n := by
        have := bestAt_lt moreF l k
        rw [hbo.out] at this
        omega
      have hol : (o : Int) < (n : Int) := by omega
      have ho0 : (0 : Int) ≤ (o : Int) := by omega
      have hot : ((o : Int)).toNat = o := by omega
      obtain ⟨b2, o2, x, cs, hA2, hSb, hx, h71, hcc1, hvx⟩ := HL.out.at_ hk
      injection hA2 with hA2
      injection hA2 with hA3 hA4
      subst hA3
      subst hA4
      obtain ⟨b2, o2, y, ds, hA2, -, hy, h72, hcc2, hvy⟩ := HL.out.at_ hon
      injection hA2 with hA2
      injection hA2 with hA3 hA4
      subst hA3
      subst hA4
      have HC := fun W (hW : Below w.heap.size w W) => compareO_c x y S cs ds W (HF.out x (List.mem_of_getElem? hx)) (HF.out y (List.mem_of_getElem? hy)) (hvx.keep fun p hp => hW.cell (HS.out _ hp)) (hvy.keep fun p hp => hW.cell (HS.out _ hp)) (fun b hb => Nat.lt_of_lt_of_le (HS.out b hb) hW.size)
      have HHC := Lib.hid HC
      have hst := bestAt_step hbo.out hx hy
      obtain ⟨Z, hZ⟩ : ∃ Z, ordV x y = Z := ⟨_, rfl⟩
      rw [hZ] at HHC hst
      obtain ⟨bl, hbl⟩ : ∃ bl, moreF Z = bl := ⟨_, rfl⟩
      have HCL := moreF_c Z
      rw [hbl] at hst HCL
      have HST := Lib.hid hst
      obtain ⟨k1, n1, u1, e1, t1, l1, ks1⟩ := x
      obtain ⟨k2, n2, u2, e2, t2, l2, ks2⟩ := y
      obtain ⟨A1, m1, c1, LA1, lm1, lc1, KA1, km1, kc1, rfl, -⟩ := hvx.parts
      obtain ⟨A2, m2, c2, LA2, lm2, lc2, KA2, km2, kc2, rfl, -⟩ := hvy.parts
      have hcw : ∀ a, a < 7 → wr.cell? ⟨b1, o1 + (k * 7 + a), none⟩ = _ := fun a ha => (hwr.cell (p := ⟨b1, o1 + (k * 7 + a), none⟩) hb1s).trans (hcc1 a ha)
      have d0 : wr.cell? ⟨b1, o1 + k * 7, none⟩ = some (.int .i64 k1) := hcw 0 (by omega)
      have d1 : wr.cell? ⟨b1, o1 + k * 7 + 1, none⟩ = some (.bool n1) := hcw 1 (by omega)
      have d2 : wr.cell? ⟨b1, o1 + k * 7 + 2, none⟩ = some (.slice A1 m1 c1) := hcw 2 (by omega)
      have d3 : wr.cell? ⟨b1, o1 + k * 7 + 3, none⟩ = some (.int .i64 e1) := hcw 3 (by omega)
      have d4 : wr.cell? ⟨b1, o1 + k * 7 + 4, none⟩ = some (.string t1) := hcw 4 (by omega)
      have d5 : wr.cell? ⟨b1, o1 + k * 7 + 5, none⟩ = some (.slice LA1 lm1 lc1) := hcw 5 (by omega)
      have d6 : wr.cell? ⟨b1, o1 + k * 7 + 6, none⟩ = some (.slice KA1 km1 kc1) := hcw 6 (by omega)
      have hcc2' : ∀ a, a < 7 → w.cell? ⟨b1, o1 + (o * 7 + a), none⟩ = _ := hcc2
      clear hcw hvx hvy HC hZ hbl hst h71 h72 hcc1 hx hy hSb
      go_upto_region 5 with fail
      have hmx := World.alloc_heap_new wr (.cells #[.int .i64 k1, .bool n1, .slice A1 m1 c1, .int .i64 e1, .string t1, .slice LA1 lm1 lc1, .slice KA1 km1 kc1] 53)
      have hbx : Below wr.heap.size wr (wr.alloc (.cells #[.int .i64 k1, .bool n1, .slice A1 m1 c1, .int .i64 e1, .string t1, .slice LA1 lm1 lc1, .slice KA1 km1 kc1] 53)) := (Below.refl _ wr).alloc (Nat.le_refl _) _
      have hzx : (wr.alloc (.cells #[.int .i64 k1, .bool n1, .slice A1 m1 c1, .int .i64 e1, .string t1, .slice LA1 lm1 lc1, .slice KA1 km1 kc1] 53)).heap.size = wr.heap.size + 1 := by simp
      generalize (wr.alloc (.cells #[.int .i64 k1, .bool n1, .slice A1 m1 c1, .int .i64 e1, .string t1, .slice LA1 lm1 lc1, .slice KA1 km1 kc1] 53)) = W2 at *
      have hwx := hwr.trans (hbx.mono hwr.size)
      have hbelx := hbel.trans (hbx.mono (by omega))
      have hmr := (hbelx.block _ (by omega)).trans HM1.out
      clear d0 d1 d2 d3 d4 d5 d6
      have hSS : ∀ W, Below W2.heap.size W2 W → W.cell? ⟨w.heap.size, 0, none⟩ = some (.slice (some ⟨b1, o1, none⟩) n c) ∧ W.cell? ⟨w.heap.size, 1, none⟩ = some (.func (.func 90) #[] #[]) ∧ W.cell? ⟨wr.heap.size, 0, none⟩ = some (.int .i64 k1) ∧ W.cell? ⟨wr.heap.size, 1, none⟩ = some (.bool n1) ∧ W.cell? ⟨wr.heap.size, 2, none⟩ = some (.slice A1 m1 c1) ∧ W.cell? ⟨wr.heap.size, 3, none⟩ = some (.int .i64 e1) ∧ W.cell? ⟨wr.heap.size, 4, none⟩ = some (.string t1) ∧ W.cell? ⟨wr.heap.size, 5, none⟩ = some (.slice LA1 lm1 lc1) ∧ W.cell? ⟨wr.heap.size, 6, none⟩ = some (.slice KA1 km1 kc1) ∧ W.cell? ⟨b1, o1 + o * 7, none⟩ = some (.int .i64 k2) ∧ W.cell? ⟨b1, o1 + o * 7 + 1, none⟩ = some (.bool n2) ∧ W.cell? ⟨b1, o1 + o * 7 + 2, none⟩ = some (.slice A2 m2 c2) ∧ W.cell? ⟨b1, o1 + o * 7 + 3, none⟩ = some (.int .i64 e2) ∧ W.cell? ⟨b1, o1 + o * 7 + 4, none⟩ = some (.string t2) ∧ W.cell? ⟨b1, o1 + o * 7 + 5, none⟩ = some (.slice LA2 lm2 lc2) ∧ W.cell? ⟨b1, o1 + o * 7 + 6, none⟩ = some (.slice KA2 km2 kc2) := fun W hW => by
        have g1 := (hW.block _ (by omega)).trans hmr
        obtain ⟨x0, x1, x2, x3, x4, x5, x6⟩ := box7_of ((hW.block _ (by omega)).trans hmx)
        have hw9 := hwx.trans (hW.mono hwx.size)
        exact ⟨cell_at g1 rfl, cell_at g1 rfl, x0, x1, x2, x3, x4, x5, x6, (hw9.cell (p := ⟨b1, o1 + (o * 7 + 0), none⟩) hb1s).trans (hcc2' 0 (by omega)), (hw9.cell (p := ⟨b1, o1 + (o * 7 + 1), none⟩) hb1s).trans (hcc2' 1 (by omega)), (hw9.cell (p := ⟨b1, o1 + (o * 7 + 2), none⟩) hb1s).trans (hcc2' 2 (by omega)), (hw9.cell (p := ⟨b1, o1 + (o * 7 + 3), none⟩) hb1s).trans (hcc2' 3 (by omega)), (hw9.cell (p := ⟨b1, o1 + (o * 7 + 4), none⟩) hb1s).trans (hcc2' 4 (by omega)), (hw9.cell (p := ⟨b1, o1 + (o * 7 + 5), none⟩) hb1s).trans (hcc2' 5 (by omega)), (hw9.cell (p := ⟨b1, o1 + (o * 7 + 6), none⟩) hb1s).trans (hcc2' 6 (by omega))⟩
      have HSS := Lib.hid hSS
      have HBX := Lib.hid hbelx
      have HWX := Lib.hid hwx
      clear hSS hcc2 hcc2' hmr hmx hbx hbel hbelx hwx hzr
      refine wp_region_held_drew (S := fun w' => w'.cell? ⟨w.heap.size, 0, none⟩ = some (.slice (some ⟨b1, o1, none⟩) n c) ∧ w'.cell? ⟨w.heap.size, 1, none⟩ = some (.func (.func 90) #[] #[]) ∧ w'.cell? ⟨wr.heap.size, 0, none⟩ = some (.int .i64 k1) ∧ w'.cell? ⟨wr.heap.size, 1, none⟩ = some (.bool n1) ∧ w'.cell? ⟨wr.heap.size, 2, none⟩ = some (.slice A1 m1 c1) ∧ w'.cell? ⟨wr.heap.size, 3, none⟩ = some (.int .i64 e1) ∧ w'.cell? ⟨wr.heap.size, 4, none⟩ = some (.string t1) ∧ w'.cell? ⟨wr.heap.size, 5, none⟩ = some (.slice LA1 lm1 lc1) ∧ w'.cell? ⟨wr.heap.size, 6, none⟩ = some (.slice KA1 km1 kc1) ∧ w'.cell? ⟨b1, o1 + o * 7, none⟩ = some (.int .i64 k2) ∧ w'.cell? ⟨b1, o1 + o * 7 + 1, none⟩ = some (.bool n2) ∧ w'.cell? ⟨b1, o1 + o * 7 + 2, none⟩ = some (.slice A2 m2 c2) ∧ w'.cell? ⟨b1, o1 + o * 7 + 3, none⟩ = some (.int .i64 e2) ∧ w'.cell? ⟨b1, o1 + o * 7 + 4, none⟩ = some (.string t2) ∧ w'.cell? ⟨b1, o1 + o * 7 + 5, none⟩ = some (.slice LA2 lm2 lc2) ∧ w'.cell? ⟨b1, o1 + o * 7 + 6, none⟩ = some (.slice KA2 km2 kc2)) (by kernel_rfl) (HSS.out _ (Below.refl _ _).drew) (fun hHeld => ?_)
      (try simp only [List.size_toArray, List.length_cons, List.length_nil, Nat.reduceAdd, Array.replicate_succ, Array.replicate_zero, List.push_toArray, List.append_toArray, List.nil_append, List.cons_append])
      refine wpAnyH_take (i := 0) (oi := ⟨_, _, _, _, _, _⟩) (v := ?_) rfl (by kernel_rfl) (by kernel_rfl) (by kernel_rfl) (fun _ _ _ h => h) (Or.inl ⟨by rfl, ?_⟩) (by assumption) ?_
      rotate_left
      · intro w hSw
        (try dsimp only at hSw)
        go_split_ands
        go_simp
        try with_reducible rfl
      try simp only [Act.put, List.setIfInBounds_toArray, List.set_cons_zero, List.set_cons_succ]
      refine wpAnyH_take (i := 1) (oi := ⟨_, _, _, _, _, _⟩) (v := ?_) rfl (by kernel_rfl) (by kernel_rfl) (by kernel_rfl) (fun _ _ _ h => h) (Or.inl ⟨by rfl, ?_⟩) (by assumption) ?_
      rotate_left
      · intro w hSw
        (try dsimp only at hSw)
        go_split_ands
        go_simp
        try with_reducible rfl
      try simp only [Act.put, List.setIfInBounds_toArray, List.set_cons_zero, List.set_cons_succ]
      refine wpAnyH_take (i := 2) (oi := ⟨_, _, _, _, _, _⟩) (v := ?_) rfl (by kernel_rfl) (by kernel_rfl) (by kernel_rfl) (fun _ _ _ h => h) (Or.inl ⟨by rfl, ?_⟩) (by assumption) ?_
      rotate_left
      · intro w hSw
        (try dsimp only at hSw)
        go_split_ands
        go_simp
        try with_reducible rfl
      try simp only [Act.put, List.setIfInBounds_toArray, List.set_cons_zero, List.set_cons_succ]
      refine wpAnyH_take (i := 3) (oi := ⟨_, _, _, _, _, _⟩) (v := ?_) rfl (by kernel_rfl) (by kernel_rfl) (by kernel_rfl) (fun _ _ _ h => h) (Or.inl ⟨by rfl, ?_⟩) (by assumption) ?_
      rotate_left
      · intro w hSw
        (try dsimp only at hSw)
        go_split_ands
        go_simp
        try with_reducible rfl
      try simp only [Act.put, List.setIfInBounds_toArray, List.set_cons_zero, List.set_cons_succ]
      refine wpAnyH_take (i := 4) (oi := ⟨_, _, _, _, _, _⟩) (v := ?_) rfl (by kernel_rfl) (by kernel_rfl) (by kernel_rfl) (fun _ _ _ h => h) (Or.inl ⟨by rfl, ?_⟩) (by assumption) ?_
      rotate_left
      · intro w hSw
        (try dsimp only at hSw)
        go_split_ands
        go_simp
        try with_reducible rfl
      try simp only [Act.put, List.setIfInBounds_toArray, List.set_cons_zero, List.set_cons_succ]
      refine wpAnyH_take (i := 5) (oi := ⟨_, _, _, _, _, _⟩) (v := ?_) rfl (by kernel_rfl) (by kernel_rfl) (by kernel_rfl) (fun _ _ _ h => h) (Or.inl ⟨by rfl, ?_⟩) (by assumption) ?_
      rotate_left
      · intro w hSw
        (try dsimp only at hSw)
        go_split_ands
        go_simp
        try with_reducible rfl
      try simp only [Act.put, List.setIfInBounds_toArray, List.set_cons_zero, List.set_cons_succ]
      refine wpAnyH_take (i := 6) (oi := ⟨_, _, _, _, _, _⟩) (v := ?_) rfl (by kernel_rfl) (by kernel_rfl) (by kernel_rfl) (fun _ _ _ h => h) (Or.inl ⟨by rfl, ?_⟩) (by assumption) ?_
      rotate_left
      · intro w hSw
        (try dsimp only at hSw)
        go_split_ands
        go_simp
        try with_reducible rfl
      try simp only [Act.put, List.setIfInBounds_toArray, List.set_cons_zero, List.set_cons_succ]
      refine wpAnyH_take (i := 7) (oi := ⟨_, _, _, _, _, _⟩) (v := ?_) rfl (by kernel_rfl) (by kernel_rfl) (by kernel_rfl) (fun _ _ _ h => h) (Or.inl ⟨by rfl, ?_⟩) (by assumption) ?_
      rotate_left
      · intro w hSw
        (try dsimp only at hSw)
        go_split_ands
        go_simp
        try with_reducible rfl
      try simp only [Act.put, List.setIfInBounds_toArray, List.set_cons_zero, List.set_cons_succ]
      refine wpAnyH_take (i := 8) (oi := ⟨_, _, _, _, _, _⟩) (v := ?_) rfl (by kernel_rfl) (by kernel_rfl) (by kernel_rfl) (fun _ _ _ h => h) (Or.inl ⟨by rfl, ?_⟩) (by assumption) ?_
      rotate_left
      · intro w hSw
        (try dsimp only at hSw)
        go_split_ands
        go_simp
        try with_reducible rfl
      try simp only [Act.put, List.setIfInBounds_toArray, List.set_cons_zero, List.set_cons_succ]
      refine wpAnyH_ready (rs := [9]) (by kernel_rfl) (by simp) (AllReadyH.cons (o := ⟨_, _, _, _, _, _⟩) rfl (fun K hK => ?_) AllReadyH.nil)
      go_simp
      refine (HHC.out W2.drew (HWX.out.drew)).mono ?_
      rintro e' w3 ⟨rfl, hb3⟩
      (try dsimp only)
      have hb3' : Below W2.heap.size W2 w3 := (Below.refl _ W2).drew.trans (hb3.mono (by simp))
      refine hK.out _ _ (HSS.out _ hb3') (fun hHeld2 => ?_)
      clear hK K hHeld hb3
      try simp only [Act.put, List.setIfInBounds_toArray, List.set_cons_zero, List.set_cons_succ]
      refine wpAnyH_ready (rs := [10]) (by kernel_rfl) (by simp) (AllReadyH.cons (o := ⟨_, _, _, _, _, _⟩) rfl (fun K hK => ?_) AllReadyH.nil)
      go_simp
      refine (HCL w3).mono ?_
      rintro e' w' ⟨rfl, rfl⟩
      (try dsimp only)
      refine hK.out _ _ (HSS.out _ hb3') (fun hHeld3 => ?_)
      clear hK K hHeld2
      try simp only [Act.put, List.setIfInBounds_toArray, List.set_cons_zero, List.set_cons_succ]
      refine wpAnyH_done (by kernel_rfl) ?_ _
      have hb9 : Below (w.heap.size + 1) W1 w3 := HBX.out.trans (hb3'.mono (by have := HBX.out.size; omega))
      clear HSS hb3' hHeld3 HCL
      cases bl with
      | false =>
        have HN : Hid (bestAt moreF l (k + 1) = o) := Lib.hid (by have := HST.out; simpa using this)
        go_wp2_with fail
        go_roundw
        case rel => exact ⟨k + 1, o, by omega, by go_num, rfl, HN, hb9⟩
        case measure => simp [RowKit.intOf]; omega
      | true =>
        have HN : Hid (bestAt moreF l (k + 1) = k) := Lib.hid (by have := HST.out; simpa using this)
        go_wp2_with fail
        go_roundw
        case rel => exact ⟨k + 1, k, by omega, by go_num, rfl, HN, hb9⟩
        case measure => simp [RowKit.intOf]; omega
    · have hnk : ¬ (k : Int) < (n : Int) := by omega
      have hkn2 : k = n := by omega
      subst hkn2
      have HN : Hid (o = R) := Lib.hid (by rw [← hbo.out]; exact HR.out)
      clear hbo
      go_wp2_with fail
      go_ret
      refine ⟨?_, hwr⟩
      rw [← HN.out]; rfl

end Go.Proofs.YtklpfgjnlheikaaGreatDoor

namespace Go.Proofs.YtklpfgjnlheikaaGreatDoor
open Go.RowKit

theorem bestLess_first {l : List VT} : ∀ k, k ≤ l.length → ∀ j, j < k → j ≠ bestAt lessF l k → PlaceLt l (bestAt lessF l k) j
  | 0, _, j, hj, _ => absurd hj (Nat.not_lt_zero _)
  | k + 1, hk, j, hj, hne => by
    have ih := bestLess_first (l := l) k (by omega)
    have hb := bestAt_lt lessF l k
    obtain ⟨o, ho⟩ : ∃ o, bestAt lessF l k = o := ⟨_, rfl⟩
    rw [ho] at hb ih
    have hol : o < l.length := by omega
    have hkx : l[k]? = some l[k] := List.getElem?_eq_getElem (by omega)
    have hoy : l[o]? = some (l[o]'hol) := List.getElem?_eq_getElem _
    have hst := bestAt_step ho hkx hoy
    have an := ordV_anti l[k] (l[o]'hol)
    rw [hst] at hne ⊢
    by_cases hz : ordV l[k] (l[o]'hol) < 0
    · have hf : lessF (ordV l[k] (l[o]'hol)) = true := decide_eq_true hz
      rw [hf, if_pos rfl] at hne ⊢
      intro x y hx hy
      rw [hkx] at hx
      injection hx with hx
      subst hx
      left
      by_cases hjo : j = o
      · subst hjo
        rw [hoy] at hy
        injection hy with hy
        subst hy
        exact hz
      · have h1 := ih j (by omega) hjo _ y hoy hy
        have h3 := (ordV_both l[k] (l[o]'hol) y).1
        unfold Ord3 at h3
        omega
    · have hf : lessF (ordV l[k] (l[o]'hol)) = false := decide_eq_false hz
      rw [hf, if_neg (by simp)] at hne ⊢
      by_cases hjk : j = k
      · subst hjk
        intro x y hx hy
        rw [hoy] at hx
        injection hx with hx
        subst hx
        rw [hkx] at hy
        injection hy with hy
        subst hy
        omega
      · exact ih j (by omega) hne
theorem bestMore_last {l : List VT} : ∀ k, k ≤ l.length → ∀ j, j < k → j ≠ bestAt moreF l k → PlaceLt l j (bestAt moreF l k)
  | 0, _, j, hj, _ => absurd hj (Nat.not_lt_zero _)
  | k + 1, hk, j, hj, hne => by
    have ih := bestMore_last (l := l) k (by omega)
    have hb := bestAt_lt moreF l k
    obtain ⟨o, ho⟩ : ∃ o, bestAt moreF l k = o := ⟨_, rfl⟩
    rw [ho] at hb ih
    have hol : o < l.length := by omega
    have hkx : l[k]? = some l[k] := List.getElem?_eq_getElem (by omega)
    have hoy : l[o]? = some (l[o]'hol) := List.getElem?_eq_getElem _
    have hst := bestAt_step ho hkx hoy
    have an := ordV_anti l[k] (l[o]'hol)
    rw [hst] at hne ⊢
    by_cases hz : 0 ≤ ordV l[k] (l[o]'hol)
    · have hf : moreF (ordV l[k] (l[o]'hol)) = true := decide_eq_true hz
      rw [hf, if_pos rfl] at hne ⊢
      intro x y hx hy
      rw [hkx] at hy
      injection hy with hy
      subst hy
      by_cases hjo : j = o
      · subst hjo
        rw [hoy] at hx
        injection hx with hx
        subst hx
        omega
      · have h1 := ih j (by omega) hjo x _ hx hoy
        have h3 := (ordV_both x (l[o]'hol) l[k]).1
        unfold Ord3 at h3
        omega
    · have hf : moreF (ordV l[k] (l[o]'hol)) = false := decide_eq_false hz
      rw [hf, if_neg (by simp)] at hne ⊢
      by_cases hjk : j = k
      · subst hjk
        intro x y hx hy
        rw [hoy] at hy
        injection hy with hy
        subst hy
        rw [hkx] at hx
        injection hx with hx
        subst hx
        omega
      · exact ih j (by omega) hne
theorem first_placed {l : List VT} {ps : List Nat} (h : Placed l ps) (hpos : 0 < l.length) : ps[0]? = some (bestAt lessF l l.length) := by
  have hlen := h.len
  have hb := bestAt_lt lessF l l.length
  have hbl : bestAt lessF l l.length < l.length := by omega
  have hmem : bestAt lessF l l.length ∈ ps := h.1.mem_iff.2 (List.mem_range.2 hbl)
  obtain ⟨i, hi⟩ := List.getElem?_of_mem hmem
  have h0 : ps[0]? = some ps[0] := List.getElem?_eq_getElem (by omega)
  have hil := (List.getElem?_eq_some_iff.1 hi).1
  by_cases hi0 : i = 0
  · rw [hi0] at hi; exact hi
  · have hp := (List.pairwise_iff_getElem.1 h.2) 0 i (by omega) hil (by omega)
    rw [(List.getElem?_eq_some_iff.1 hi).2] at hp
    by_cases he : ps[0] = bestAt lessF l l.length
    · rw [h0, he]
    · have hq := bestLess_first l.length (Nat.le_refl _) ps[0] (h.lt (List.getElem_mem _)) he
      exact (placeLt_asymm (h.lt (List.getElem_mem _)) hbl hp hq).elim
theorem last_placed {l : List VT} {ps : List Nat} (h : Placed l ps) (hpos : 0 < l.length) : ps[l.length - 1]? = some (bestAt moreF l l.length) := by
  have hlen := h.len
  have hb := bestAt_lt moreF l l.length
  have hbl : bestAt moreF l l.length < l.length := by omega
  have hmem : bestAt moreF l l.length ∈ ps := h.1.mem_iff.2 (List.mem_range.2 hbl)
  obtain ⟨i, hi⟩ := List.getElem?_of_mem hmem
  have hz : l.length - 1 < ps.length := by omega
  have h0 : ps[l.length - 1]? = some ps[l.length - 1] := List.getElem?_eq_getElem hz
  have hil := (List.getElem?_eq_some_iff.1 hi).1
  by_cases hi0 : i = l.length - 1
  · rw [hi0] at hi; exact hi
  · have hp := (List.pairwise_iff_getElem.1 h.2) i (l.length - 1) hil hz (by omega)
    rw [(List.getElem?_eq_some_iff.1 hi).2] at hp
    by_cases he : ps[l.length - 1] = bestAt moreF l l.length
    · rw [h0, he]
    · have hq := bestMore_last l.length (Nat.le_refl _) ps[l.length - 1] (h.lt (List.getElem_mem _)) he
      exact (placeLt_asymm (h.lt (List.getElem_mem _)) hbl hq hp).elim

/-- The error of Least and Most, the place that they answer. -/
def endE (l keys : List VT) : Nat := if itemsE l keys = 0 then (if keys.length = 0 then 71 else 0) else itemsE l keys
def endP (f : Int → Bool) (l keys : List VT) : Nat := if endE l keys = 0 then bestAt f keys keys.length else 0

set_option maxRecDepth 100000 in
set_option maxHeartbeats 1000000 in
theorem bestItemLeast_c {S : Nat → Prop} {A B : Option Addr} {n c m d : Nat} {l keys : List VT} (w : World) (hT : Tabs w) (hl : RdL w S A n l) (hk : RdL w S B m keys) (hS : ∀ b, S b → b < w.heap.size) :
    Calls Tryz.prog 96 #[.slice A n c, .slice B m d, .func (.func 97) #[] #[]] w fun e w' => e = .returned (.tuple #[.int .i64 ((endP lessF l keys : Nat) : Int), .int .i64 ((endE l keys : Nat) : Int)]) ∧ Below w.heap.size w w' := by
  have HC := checkItems_c (c := c) (d := d) w hT hl hk hS
  have hz := @itemsE_zero l keys
  obtain ⟨P, hP⟩ : ∃ P, endP lessF l keys = P := ⟨_, rfl⟩
  obtain ⟨R, hR⟩ : ∃ R, endE l keys = R := ⟨_, rfl⟩
  rw [hP, hR]
  unfold endP at hP
  rw [hR] at hP
  unfold endE at hR
  obtain ⟨E, hE⟩ : ∃ E, itemsE l keys = E := ⟨_, rfl⟩
  rw [hE] at HC hz hR
  have HK := Lib.hid hk
  have HKN := Lib.hid hk.1
  have HS := Lib.hid hS
  have HZ := Lib.hid hz
  rw [hk.1] at hP hR
  clear hE hl hk hS hT hz
  go_enter Tryz.func96, Tryz.ntmps96
  by_cases hE0 : E = 0
  · obtain ⟨-, ze2, -⟩ := HZ.out hE0
    rw [if_pos hE0] at hR
    subst hE0
    by_cases hm0 : m = 0
    · rw [if_pos hm0] at hR
      subst hR
      rw [if_neg (by omega)] at hP
      subst hP
      subst hm0
      go_wp2_with fail
      refine HC.mono ?_
      rintro e' w1 ⟨rfl, hb1⟩
      go_wp2_with fail
      go_ret2
      exact ⟨rfl, hb1⟩
    · rw [if_neg hm0] at hR
      subst hR
      rw [if_pos rfl] at hP
      have HPP := Lib.hid hP
      have HZ2 := Lib.hid ze2
      have hm1 : ((m : Int) == 0) = false := by rw [beq_eq_false_iff_ne]; omega
      clear hP ze2 HZ
      go_wp2_with fail
      refine HC.mono ?_
      rintro e' w1 ⟨rfl, hb1⟩
      clear HC
      go_wp2_with fail
      refine (rank_c w1).mono ?_
      rintro e' w2 ⟨rfl, hb2⟩
      have hb2' := hb1.trans (hb2.mono hb1.size)
      have HB := bestLeast_c (c := d) w2 (HK.out.stay hb2' HS.out) (fun b hb => Nat.lt_of_lt_of_le (HS.out b hb) hb2'.size) (fun x hx => by
        obtain ⟨i, hi⟩ := List.getElem?_of_mem hx
        obtain ⟨-, -, cs, -, hall⟩ := HK.out
        exact fine_ok (hall i x hi) (HZ2.out x hx)) (by omega)
      rw [HPP.out] at HB
      have HB2 := Lib.hid hb2'
      clear hb1 hb2 hb2'
      go_wp2_with fail
      refine HB.mono ?_
      rintro e' w3 ⟨rfl, hb3⟩
      go_wp2_with fail
      go_ret2
      exact ⟨rfl, HB2.out.trans (hb3.mono HB2.out.size)⟩
  · rw [if_neg hE0] at hR
    subst hR
    rw [if_neg hE0] at hP
    subst hP
    have hE1 : ((E : Int) == 0) = false := by rw [beq_eq_false_iff_ne]; omega
    go_wp2_with fail
    refine HC.mono ?_
    rintro e' w1 ⟨rfl, hb1⟩
    go_wp2_with fail
    go_ret2
    exact ⟨rfl, hb1⟩

set_option maxRecDepth 100000 in
set_option maxHeartbeats 1000000 in
theorem orderLeast_c {S : Nat → Prop} {A B : Option Addr} {n c m d : Nat} {l keys : List VT} (w : World) (hT : Tabs w) (hl : RdL w S A n l) (hk : RdL w S B m keys) (hS : ∀ b, S b → b < w.heap.size) :
    Calls Tryz.prog 50 #[.slice A n c, .slice B m d] w fun e w' => e = .returned (.tuple #[.int .i64 ((endP lessF l keys : Nat) : Int), .int .i64 ((endE l keys : Nat) : Int)]) ∧ Below w.heap.size w w' := by
  have HC := bestItemLeast_c (c := c) (d := d) w hT hl hk hS
  generalize endP lessF l keys = P at *
  generalize endE l keys = R at *
  clear hl hk hS hT
  go_enter Tryz.func50, Tryz.ntmps50
  go_wp2_with fail
  refine HC.mono ?_
  rintro e' w1 ⟨rfl, hb1⟩
  go_wp2_with fail
  go_ret2
  exact ⟨rfl, hb1⟩

set_option maxRecDepth 100000 in
set_option maxHeartbeats 1000000 in
theorem bestItemMost_c {S : Nat → Prop} {A B : Option Addr} {n c m d : Nat} {l keys : List VT} (w : World) (hT : Tabs w) (hl : RdL w S A n l) (hk : RdL w S B m keys) (hS : ∀ b, S b → b < w.heap.size) :
    Calls Tryz.prog 96 #[.slice A n c, .slice B m d, .func (.func 98) #[] #[]] w fun e w' => e = .returned (.tuple #[.int .i64 ((endP moreF l keys : Nat) : Int), .int .i64 ((endE l keys : Nat) : Int)]) ∧ Below w.heap.size w w' := by
  have HC := checkItems_c (c := c) (d := d) w hT hl hk hS
  have hz := @itemsE_zero l keys
  obtain ⟨P, hP⟩ : ∃ P, endP moreF l keys = P := ⟨_, rfl⟩
  obtain ⟨R, hR⟩ : ∃ R, endE l keys = R := ⟨_, rfl⟩
  rw [hP, hR]
  unfold endP at hP
  rw [hR] at hP
  unfold endE at hR
  obtain ⟨E, hE⟩ : ∃ E, itemsE l keys = E := ⟨_, rfl⟩
  rw [hE] at HC hz hR
  have HK := Lib.hid hk
  have HKN := Lib.hid hk.1
  have HS := Lib.hid hS
  have HZ := Lib.hid hz
  rw [hk.1] at hP hR
  clear hE hl hk hS hT hz
  go_enter Tryz.func96, Tryz.ntmps96
  by_cases hE0 : E = 0
  · obtain ⟨-, ze2, -⟩ := HZ.out hE0
    rw [if_pos hE0] at hR
    subst hE0
    by_cases hm0 : m = 0
    · rw [if_pos hm0] at hR
      subst hR
      rw [if_neg (by omega)] at hP
      subst hP
      subst hm0
      go_wp2_with fail
      refine HC.mono ?_
      rintro e' w1 ⟨rfl, hb1⟩
      go_wp2_with fail
      go_ret2
      exact ⟨rfl, hb1⟩
    · rw [if_neg hm0] at hR
      subst hR
      rw [if_pos rfl] at hP
      have HPP := Lib.hid hP
      have HZ2 := Lib.hid ze2
      have hm1 : ((m : Int) == 0) = false := by rw [beq_eq_false_iff_ne]; omega
      clear hP ze2 HZ
      go_wp2_with fail
      refine HC.mono ?_
      rintro e' w1 ⟨rfl, hb1⟩
      clear HC
      go_wp2_with fail
      refine (rank_c w1).mono ?_
      rintro e' w2 ⟨rfl, hb2⟩
      have hb2' := hb1.trans (hb2.mono hb1.size)
      have HB := bestMost_c (c := d) w2 (HK.out.stay hb2' HS.out) (fun b hb => Nat.lt_of_lt_of_le (HS.out b hb) hb2'.size) (fun x hx => by
        obtain ⟨i, hi⟩ := List.getElem?_of_mem hx
        obtain ⟨-, -, cs, -, hall⟩ := HK.out
        exact fine_ok (hall i x hi) (HZ2.out x hx)) (by omega)
      rw [HPP.out] at HB
      have HB2 := Lib.hid hb2'
      clear hb1 hb2 hb2'
      go_wp2_with fail
      refine HB.mono ?_
      rintro e' w3 ⟨rfl, hb3⟩
      go_wp2_with fail
      go_ret2
      exact ⟨rfl, HB2.out.trans (hb3.mono HB2.out.size)⟩
  · rw [if_neg hE0] at hR
    subst hR
    rw [if_neg hE0] at hP
    subst hP
    have hE1 : ((E : Int) == 0) = false := by rw [beq_eq_false_iff_ne]; omega
    go_wp2_with fail
    refine HC.mono ?_
    rintro e' w1 ⟨rfl, hb1⟩
    go_wp2_with fail
    go_ret2
    exact ⟨rfl, hb1⟩

set_option maxRecDepth 100000 in
set_option maxHeartbeats 1000000 in
theorem orderMost_c {S : Nat → Prop} {A B : Option Addr} {n c m d : Nat} {l keys : List VT} (w : World) (hT : Tabs w) (hl : RdL w S A n l) (hk : RdL w S B m keys) (hS : ∀ b, S b → b < w.heap.size) :
    Calls Tryz.prog 51 #[.slice A n c, .slice B m d] w fun e w' => e = .returned (.tuple #[.int .i64 ((endP moreF l keys : Nat) : Int), .int .i64 ((endE l keys : Nat) : Int)]) ∧ Below w.heap.size w w' := by
  have HC := bestItemMost_c (c := c) (d := d) w hT hl hk hS
  generalize endP moreF l keys = P at *
  generalize endE l keys = R at *
  clear hl hk hS hT
  go_enter Tryz.func51, Tryz.ntmps51
  go_wp2_with fail
  refine HC.mono ?_
  rintro e' w1 ⟨rfl, hb1⟩
  go_wp2_with fail
  go_ret2
  exact ⟨rfl, hb1⟩

end Go.Proofs.YtklpfgjnlheikaaGreatDoor
