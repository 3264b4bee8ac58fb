/-
  Contract of places$1: how two places of a list stand.
  The count of draws never falls: of an operation, of a step of the machine, of a call. About the model alone.
  The places of a list in order, pure; what a call does that keeps what lies below, as the library's sorting asks it.
  A list's places in order, and what the sorting hands back.
  Contract of places: a list's places in order, of like ones as they stood.
-/
import Derived.Test.YtjjpagdnjafgaaaGreatDoorGOcm
import Derived.Calls
import Derived.Test.YtjjpagdnjafgaaaGreatDoorSortf
set_option linter.unusedVariables false
set_option linter.unusedSimpArgs false
namespace Go.Proofs.YtjjpagdnjafgaaaGreatDoor
open Go.RowKit

set_option maxRecDepth 100000 in
set_option maxHeartbeats 4000000 in
theorem placeCmp_c {S : Nat → Prop} {A : Option Addr} {n c rb i j : Nat} {l : List VT} {x y : VT} (w : World) (hl : RdL w S A n l) (hS : ∀ b, S b → b < w.heap.size) (hrb : rb < w.heap.size)
    (hr0 : w.cell? ⟨rb, 0, none⟩ = some (.slice A n c)) (hr1 : w.cell? ⟨rb, 1, none⟩ = some (.func (.func 90) #[] #[])) (hf : ∀ x ∈ l, fine x) (hi : l[i]? = some x) (hj : l[j]? = some y) :
    Calls Tryz.prog 137 #[.int .i64 (i : Int), .int .i64 (j : Int), .pointer (some ⟨rb, 0, none⟩)] w fun e w' => e = .returned (.int .i64 (firstNZ [ordV x y, cmpI (i : Int) (j : Int)])) ∧ Below w.heap.size w w' := by
  have hin : i < n := by
    obtain ⟨h, -⟩ := List.getElem?_eq_some_iff.1 hi
    have := hl.1; omega
  have hjn : j < n := by
    obtain ⟨h, -⟩ := List.getElem?_eq_some_iff.1 hj
    have := hl.1; omega
  obtain ⟨b1, o1, x1, cs, rfl, hSb1, hx, hcl1, hcc1, hvx⟩ := hl.at_ hin
  obtain ⟨b2, o2, y1, ds, hA2, hSb2, hy, hcl2, hcc2, hvy⟩ := hl.at_ hjn
  injection hA2 with hA2
  injection hA2 with hA3 hA4
  subst hA3
  subst hA4
  rw [hi] at hx
  injection hx with hx
  subst hx
  rw [hj] at hy
  injection hy with hy
  subst hy
  have hfx := hf x (List.mem_of_getElem? hi)
  have hfy := hf y (List.mem_of_getElem? hj)
  have HC := fun W (hW : Below w.heap.size w W) => compareO_c x y S cs ds W hfx hfy (hvx.keep fun p hp => hW.cell (hS _ hp)) (hvy.keep fun p hp => hW.cell (hS _ hp)) (fun b hb => Nat.lt_of_lt_of_le (hS b hb) hW.size)
  have HHC := Lib.hid HC
  obtain ⟨k1, n1, u1, e1, t1, l1, ks1⟩ := x
  obtain ⟨k2, n2, u2, e2, t2, l2, ks2⟩ := y
  obtain ⟨A1, m1, c1, LA1, lm1, lc1, KA1, km1, kc1, rfl, -⟩ := hvx.parts
  obtain ⟨A2, m2, c2, LA2, lm2, lc2, KA2, km2, kc2, rfl, -⟩ := hvy.parts
  obtain ⟨Z, hZ⟩ : ∃ Z, ordV (.mk k1 n1 u1 e1 t1 l1 ks1) (.mk k2 n2 u2 e2 t2 l2 ks2) = Z := ⟨_, rfl⟩
  rw [hZ] at HHC
  rw [hZ]
  obtain ⟨F, hF⟩ : ∃ F, firstNZ [Z, cmpI (i : Int) (j : Int)] = F := ⟨_, rfl⟩
  rw [hF]
  have HF := Lib.hid hF
  clear hF
  have hlt1 : (i : Int) < (n : Int) := by omega
  have hlt2 : (j : Int) < (n : Int) := by omega
  have hp1 : (0 : Int) ≤ (i : Int) := by omega
  have hp2 : (0 : Int) ≤ (j : Int) := by omega
  have ht1 : ((i : Int)).toNat = i := by omega
  have ht2 : ((j : Int)).toNat = j := by omega
  have hm1 : ∀ a, a < 7 → w.cell? ⟨b1, o1 + (i * 7 + a), none⟩ = _ := hcc1
  have hm2 : ∀ a, a < 7 → w.cell? ⟨b1, o1 + (j * 7 + a), none⟩ = _ := hcc2
  have hSS : ∀ W, Below w.heap.size w W → W.cell? ⟨rb, 0, none⟩ = some (.slice (some ⟨b1, o1, none⟩) n c) ∧ W.cell? ⟨rb, 1, none⟩ = some (.func (.func 90) #[] #[]) ∧ W.cell? ⟨b1, o1 + i * 7, none⟩ = some (.int .i64 k1) ∧ W.cell? ⟨b1, o1 + i * 7 + 1, none⟩ = some (.bool n1) ∧ W.cell? ⟨b1, o1 + i * 7 + 2, none⟩ = some (.slice A1 m1 c1) ∧ W.cell? ⟨b1, o1 + i * 7 + 3, none⟩ = some (.int .i64 e1) ∧ W.cell? ⟨b1, o1 + i * 7 + 4, none⟩ = some (.string t1) ∧ W.cell? ⟨b1, o1 + i * 7 + 5, none⟩ = some (.slice LA1 lm1 lc1) ∧ W.cell? ⟨b1, o1 + i * 7 + 6, none⟩ = some (.slice KA1 km1 kc1) ∧ W.cell? ⟨b1, o1 + j * 7, none⟩ = some (.int .i64 k2) ∧ W.cell? ⟨b1, o1 + j * 7 + 1, none⟩ = some (.bool n2) ∧ W.cell? ⟨b1, o1 + j * 7 + 2, none⟩ = some (.slice A2 m2 c2) ∧ W.cell? ⟨b1, o1 + j * 7 + 3, none⟩ = some (.int .i64 e2) ∧ W.cell? ⟨b1, o1 + j * 7 + 4, none⟩ = some (.string t2) ∧ W.cell? ⟨b1, o1 + j * 7 + 5, none⟩ = some (.slice LA2 lm2 lc2) ∧ W.cell? ⟨b1, o1 + j * 7 + 6, none⟩ = some (.slice KA2 km2 kc2) := fun W hW =>
    have hk := hS _ hSb1
    ⟨(hW.cell (p := ⟨rb, 0, none⟩) hrb).trans hr0, (hW.cell (p := ⟨rb, 1, none⟩) hrb).trans hr1, (hW.cell (p := ⟨b1, o1 + (i * 7 + 0), none⟩) hk).trans (hm1 0 (by omega)), (hW.cell (p := ⟨b1, o1 + (i * 7 + 1), none⟩) hk).trans (hm1 1 (by omega)), (hW.cell (p := ⟨b1, o1 + (i * 7 + 2), none⟩) hk).trans (hm1 2 (by omega)), (hW.cell (p := ⟨b1, o1 + (i * 7 + 3), none⟩) hk).trans (hm1 3 (by omega)), (hW.cell (p := ⟨b1, o1 + (i * 7 + 4), none⟩) hk).trans (hm1 4 (by omega)), (hW.cell (p := ⟨b1, o1 + (i * 7 + 5), none⟩) hk).trans (hm1 5 (by omega)), (hW.cell (p := ⟨b1, o1 + (i * 7 + 6), none⟩) hk).trans (hm1 6 (by omega)), (hW.cell (p := ⟨b1, o1 + (j * 7 + 0), none⟩) hk).trans (hm2 0 (by omega)), (hW.cell (p := ⟨b1, o1 + (j * 7 + 1), none⟩) hk).trans (hm2 1 (by omega)), (hW.cell (p := ⟨b1, o1 + (j * 7 + 2), none⟩) hk).trans (hm2 2 (by omega)), (hW.cell (p := ⟨b1, o1 + (j * 7 + 3), none⟩) hk).trans (hm2 3 (by omega)), (hW.cell (p := ⟨b1, o1 + (j * 7 + 4), none⟩) hk).trans (hm2 4 (by omega)), (hW.cell (p := ⟨b1, o1 + (j * 7 + 5), none⟩) hk).trans (hm2 5 (by omega)), (hW.cell (p := ⟨b1, o1 + (j * 7 + 6), none⟩) hk).trans (hm2 6 (by omega))⟩
  have HSS := Lib.hid hSS
  clear hSS hm1 hm2 hcc1 hcc2 hcl1 hcl2 hvx hvy HC hZ hl hS hf hi hj hfx hfy hr0 hr1 hin hjn
  go_enter Tryz.func137, Tryz.ntmps137
  go_upto_region 1 with fail
  refine wp_region_held_drew (S := fun w' => w'.cell? ⟨rb, 0, none⟩ = some (.slice (some ⟨b1, o1, none⟩) n c) ∧ w'.cell? ⟨rb, 1, none⟩ = some (.func (.func 90) #[] #[]) ∧ w'.cell? ⟨b1, o1 + i * 7, none⟩ = some (.int .i64 k1) ∧ w'.cell? ⟨b1, o1 + i * 7 + 1, none⟩ = some (.bool n1) ∧ w'.cell? ⟨b1, o1 + i * 7 + 2, none⟩ = some (.slice A1 m1 c1) ∧ w'.cell? ⟨b1, o1 + i * 7 + 3, none⟩ = some (.int .i64 e1) ∧ w'.cell? ⟨b1, o1 + i * 7 + 4, none⟩ = some (.string t1) ∧ w'.cell? ⟨b1, o1 + i * 7 + 5, none⟩ = some (.slice LA1 lm1 lc1) ∧ w'.cell? ⟨b1, o1 + i * 7 + 6, none⟩ = some (.slice KA1 km1 kc1) ∧ w'.cell? ⟨b1, o1 + j * 7, none⟩ = some (.int .i64 k2) ∧ w'.cell? ⟨b1, o1 + j * 7 + 1, none⟩ = some (.bool n2) ∧ w'.cell? ⟨b1, o1 + j * 7 + 2, none⟩ = some (.slice A2 m2 c2) ∧ w'.cell? ⟨b1, o1 + j * 7 + 3, none⟩ = some (.int .i64 e2) ∧ w'.cell? ⟨b1, o1 + j * 7 + 4, none⟩ = some (.string t2) ∧ w'.cell? ⟨b1, o1 + j * 7 + 5, none⟩ = some (.slice LA2 lm2 lc2) ∧ w'.cell? ⟨b1, o1 + j * 7 + 6, none⟩ = some (.slice KA2 km2 kc2)) (by kernel_rfl) (HSS.out _ (Below.refl _ _).drew) (fun hHeld => ?_)
  (try simp only [List.size_toArray, List.length_cons, List.length_nil, Nat.reduceAdd, Array.replicate_succ, Array.replicate_zero, List.push_toArray, List.append_toArray, List.nil_append, List.cons_append])
  refine wpAnyH_take (i := 0) (oi := ⟨_, _, _, _, _, _⟩) (v := ?_) rfl (by kernel_rfl) (by kernel_rfl) (by kernel_rfl) (fun _ _ _ h => h) (Or.inl ⟨by rfl, ?_⟩) (by assumption) ?_
  rotate_left
  · intro w hSw
    (try dsimp only at hSw)
    go_split_ands
    go_simp
    try with_reducible rfl
  try simp only [Act.put, List.setIfInBounds_toArray, List.set_cons_zero, List.set_cons_succ]
  refine wpAnyH_take (i := 1) (oi := ⟨_, _, _, _, _, _⟩) (v := ?_) rfl (by kernel_rfl) (by kernel_rfl) (by kernel_rfl) (fun _ _ _ h => h) (Or.inl ⟨by rfl, ?_⟩) (by assumption) ?_
  rotate_left
  · intro w hSw
    (try dsimp only at hSw)
    go_split_ands
    go_simp
    try with_reducible rfl
  try simp only [Act.put, List.setIfInBounds_toArray, List.set_cons_zero, List.set_cons_succ]
  refine wpAnyH_take (i := 2) (oi := ⟨_, _, _, _, _, _⟩) (v := ?_) rfl (by kernel_rfl) (by kernel_rfl) (by kernel_rfl) (fun _ _ _ h => h) (Or.inl ⟨by rfl, ?_⟩) (by assumption) ?_
  rotate_left
  · intro w hSw
    (try dsimp only at hSw)
    go_split_ands
    go_simp
    try with_reducible rfl
  try simp only [Act.put, List.setIfInBounds_toArray, List.set_cons_zero, List.set_cons_succ]
  refine wpAnyH_take (i := 3) (oi := ⟨_, _, _, _, _, _⟩) (v := ?_) rfl (by kernel_rfl) (by kernel_rfl) (by kernel_rfl) (fun _ _ _ h => h) (Or.inl ⟨by rfl, ?_⟩) (by assumption) ?_
  rotate_left
  · intro w hSw
    (try dsimp only at hSw)
    go_split_ands
    go_simp
    try with_reducible rfl
  try simp only [Act.put, List.setIfInBounds_toArray, List.set_cons_zero, List.set_cons_succ]
  refine wpAnyH_take (i := 4) (oi := ⟨_, _, _, _, _, _⟩) (v := ?_) rfl (by kernel_rfl) (by kernel_rfl) (by kernel_rfl) (fun _ _ _ h => h) (Or.inl ⟨by rfl, ?_⟩) (by assumption) ?_
  rotate_left
  · intro w hSw
    (try dsimp only at hSw)
    go_split_ands
    go_simp
    try with_reducible rfl
  try simp only [Act.put, List.setIfInBounds_toArray, List.set_cons_zero, List.set_cons_succ]
  refine wpAnyH_take (i := 5) (oi := ⟨_, _, _, _, _, _⟩) (v := ?_) rfl (by kernel_rfl) (by kernel_rfl) (by kernel_rfl) (fun _ _ _ h => h) (Or.inl ⟨by rfl, ?_⟩) (by assumption) ?_
  rotate_left
  · intro w hSw
    (try dsimp only at hSw)
    go_split_ands
    go_simp
    try with_reducible rfl
  try simp only [Act.put, List.setIfInBounds_toArray, List.set_cons_zero, List.set_cons_succ]
  refine wpAnyH_take (i := 6) (oi := ⟨_, _, _, _, _, _⟩) (v := ?_) rfl (by kernel_rfl) (by kernel_rfl) (by kernel_rfl) (fun _ _ _ h => h) (Or.inl ⟨by rfl, ?_⟩) (by assumption) ?_
  rotate_left
  · intro w hSw
    (try dsimp only at hSw)
    go_split_ands
    go_simp
    try with_reducible rfl
  try simp only [Act.put, List.setIfInBounds_toArray, List.set_cons_zero, List.set_cons_succ]
  refine wpAnyH_take (i := 7) (oi := ⟨_, _, _, _, _, _⟩) (v := ?_) rfl (by kernel_rfl) (by kernel_rfl) (by kernel_rfl) (fun _ _ _ h => h) (Or.inl ⟨by rfl, ?_⟩) (by assumption) ?_
  rotate_left
  · intro w hSw
    (try dsimp only at hSw)
    go_split_ands
    go_simp
    try with_reducible rfl
  try simp only [Act.put, List.setIfInBounds_toArray, List.set_cons_zero, List.set_cons_succ]
  refine wpAnyH_take (i := 8) (oi := ⟨_, _, _, _, _, _⟩) (v := ?_) rfl (by kernel_rfl) (by kernel_rfl) (by kernel_rfl) (fun _ _ _ h => h) (Or.inl ⟨by rfl, ?_⟩) (by assumption) ?_
  rotate_left
  · intro w hSw
    (try dsimp only at hSw)
    go_split_ands
    go_simp
    try with_reducible rfl
  try simp only [Act.put, List.setIfInBounds_toArray, List.set_cons_zero, List.set_cons_succ]
  refine wpAnyH_take (i := 9) (oi := ⟨_, _, _, _, _, _⟩) (v := ?_) rfl (by kernel_rfl) (by kernel_rfl) (by kernel_rfl) (fun _ _ _ h => h) (Or.inl ⟨by rfl, ?_⟩) (by assumption) ?_
  rotate_left
  · intro w hSw
    (try dsimp only at hSw)
    go_split_ands
    go_simp
    try with_reducible rfl
  try simp only [Act.put, List.setIfInBounds_toArray, List.set_cons_zero, List.set_cons_succ]
  refine wpAnyH_take (i := 10) (oi := ⟨_, _, _, _, _, _⟩) (v := ?_) rfl (by kernel_rfl) (by kernel_rfl) (by kernel_rfl) (fun _ _ _ h => h) (Or.inl ⟨by rfl, ?_⟩) (by assumption) ?_
  rotate_left
  · intro w hSw
    (try dsimp only at hSw)
    go_split_ands
    go_simp
    try with_reducible rfl
  try simp only [Act.put, List.setIfInBounds_toArray, List.set_cons_zero, List.set_cons_succ]
  refine wpAnyH_take (i := 11) (oi := ⟨_, _, _, _, _, _⟩) (v := ?_) rfl (by kernel_rfl) (by kernel_rfl) (by kernel_rfl) (fun _ _ _ h => h) (Or.inl ⟨by rfl, ?_⟩) (by assumption) ?_
  rotate_left
  · intro w hSw
    (try dsimp only at hSw)
    go_split_ands
    go_simp
    try with_reducible rfl
  try simp only [Act.put, List.setIfInBounds_toArray, List.set_cons_zero, List.set_cons_succ]
  refine wpAnyH_take (i := 13) (oi := ⟨_, _, _, _, _, _⟩) (v := ?_) rfl (by kernel_rfl) (by kernel_rfl) (by kernel_rfl) (fun _ _ _ h => h) (Or.inl ⟨by rfl, ?_⟩) (by assumption) ?_
  rotate_left
  · intro w hSw
    (try dsimp only at hSw)
    go_split_ands
    go_simp
    try with_reducible rfl
  try simp only [Act.put, List.setIfInBounds_toArray, List.set_cons_zero, List.set_cons_succ]
  refine wpAnyH_take (i := 14) (oi := ⟨_, _, _, _, _, _⟩) (v := ?_) rfl (by kernel_rfl) (by kernel_rfl) (by kernel_rfl) (fun _ _ _ h => h) (Or.inl ⟨by rfl, ?_⟩) (by assumption) ?_
  rotate_left
  · intro w hSw
    (try dsimp only at hSw)
    go_split_ands
    go_simp
    try with_reducible rfl
  try simp only [Act.put, List.setIfInBounds_toArray, List.set_cons_zero, List.set_cons_succ]
  refine wpAnyH_ready (rs := [12]) (by kernel_rfl) (by simp) (AllReadyH.cons (o := ⟨_, _, _, _, _, _⟩) rfl (fun K hK => ?_) AllReadyH.nil)
  go_simp
  refine (HHC.out w.drew (Below.refl _ _).drew).mono ?_
  rintro e' w3 ⟨rfl, hb3⟩
  (try dsimp only)
  have hb3' : Below w.heap.size w w3 := (Below.refl _ w).drew.trans (hb3.mono (by simp))
  refine hK.out _ _ (HSS.out _ hb3') (fun hHeld2 => ?_)
  clear hK K hHeld hb3
  try simp only [Act.put, List.setIfInBounds_toArray, List.set_cons_zero, List.set_cons_succ]
  refine wpAnyH_ready (rs := [15]) (by kernel_rfl) (by simp) (AllReadyH.cons (o := ⟨_, _, _, _, _, _⟩) rfl (fun K hK => ?_) AllReadyH.nil)
  go_simp
  refine (cmpInt_c (i : Int) (j : Int) w3).mono ?_
  rintro e' w' ⟨rfl, rfl⟩
  (try dsimp only)
  refine hK.out _ _ (HSS.out _ hb3') (fun hHeld3 => ?_)
  clear hK K hHeld2
  try simp only [Act.put, List.setIfInBounds_toArray, List.set_cons_zero, List.set_cons_succ]
  refine wpAnyH_ready (rs := [16]) (by kernel_rfl) (by simp) (AllReadyH.cons (o := ⟨_, _, _, _, _, _⟩) rfl (fun K hK => ?_) AllReadyH.nil)
  go_simp
  have hb5 : Below w.heap.size w (w3.alloc (.cells #[.int .i64 Z, .int .i64 (cmpI (i : Int) (j : Int))] 3)) := hb3'.alloc hb3'.size _
  have hnew : (w3.alloc (.cells #[.int .i64 Z, .int .i64 (cmpI (i : Int) (j : Int))] 3)).heap[w3.heap.size]? = some (.cells #[.int .i64 Z, .int .i64 (cmpI (i : Int) (j : Int))] 3) := World.alloc_heap_new w3 _
  have HO := or_c (b := w3.heap.size) (n := 2) (zs := [Z, cmpI (i : Int) (j : Int)]) (w3.alloc (.cells #[.int .i64 Z, .int .i64 (cmpI (i : Int) (j : Int))] 3)) rfl (by omega) (fun a v ha => by
    match a, ha with
    | 0, ha => injection ha with ha; subst ha; exact cell_at hnew rfl
    | 1, ha => injection ha with ha; subst ha; exact cell_at hnew rfl)
  rw [HF.out] at HO
  clear hnew
  refine hK.out _ _ (HSS.out _ hb5) (fun hHeld5 => ?_)
  clear hK K hHeld3
  try simp only [Act.put, List.setIfInBounds_toArray, List.set_cons_zero, List.set_cons_succ]
  refine wpAnyH_ready (rs := [17]) (by kernel_rfl) (by simp) (AllReadyH.cons (o := ⟨_, _, _, _, _, _⟩) rfl (fun K hK => ?_) AllReadyH.nil)
  go_simp
  refine HO.mono ?_
  rintro e' w' ⟨rfl, rfl⟩
  (try dsimp only)
  refine hK.out _ _ (HSS.out _ hb5) (fun hHeld6 => ?_)
  clear hK K hHeld5 HO
  try simp only [Act.put, List.setIfInBounds_toArray, List.set_cons_zero, List.set_cons_succ]
  refine wpAnyH_take (i := 18) (oi := ⟨_, _, _, _, _, _⟩) (v := ?_) rfl (by kernel_rfl) (by kernel_rfl) (by kernel_rfl) (fun _ _ _ h => h) (Or.inl ⟨by rfl, ?_⟩) (by assumption) ?_
  rotate_left
  · intro w hSw
    (try dsimp only at hSw)
    go_split_ands
    go_simp
    try with_reducible rfl
  try simp only [Act.put, List.setIfInBounds_toArray, List.set_cons_zero, List.set_cons_succ]
  refine wpAnyH_done (by kernel_rfl) ?_ _
  go_wp2_with fail
  go_ret
  exact ⟨rfl, hb5⟩
end Go.Proofs.YtjjpagdnjafgaaaGreatDoor

namespace Go.Proofs.YtjjpagdnjafgaaaGreatDoor
open Go

/-- What an operation leaves has drawn no less. -/
def RMono {α : Type} (d : Nat) : Result α → Prop
  | .ok _ w => d ≤ w.drawn
  | .halt _ w => d ≤ w.drawn
theorem RMono.le {α : Type} {d d' : Nat} {r : Result α} (h : RMono d r) (hd : d' ≤ d) : RMono d' r := by
  cases r <;> exact Nat.le_trans hd h
theorem ask_mono {α : Type} : ∀ (a : Ask α) (w : World), w.drawn ≤ (w.ask a).2.drawn
  | .done _, w => Nat.le_refl _
  | .ask what range k, w => by
    unfold World.ask
    dsimp only
    split
    · exact ask_mono _ w
    · exact Nat.le_trans (Nat.le_succ _) (ask_mono _ { w with drawn := w.drawn + 1 })
theorem sys_mono (w : World) (c : Sys) : w.drawn ≤ (w.sys c).2.drawn := by
  unfold World.sys
  have h := ask_mono (Kernel.perform c w.os) w
  split
  · exact Nat.le_refl _
  · rename_i e; rw [e] at h; exact h
theorem viewStore_drawn {p : Program} {w : World} {at_ : Addr} {u : TypeId} {k : Addr} {v : Value} {b : Bool} {r : World × List Addr} (h : w.viewStore p at_ u k v b = .ok r) : r.1.drawn = w.drawn := by
  unfold World.viewStore at h
  simp only [bind, Except.bind, pure, Except.pure, throw, throwThe, MonadExceptOf.throw] at h
  repeat' split at h
  all_goals first
    | (cases h; done)
    | (injection h with h; subst h; rfl)
    | skip
  all_goals trace_state
theorem farStore_drawn {p : Program} {w : World} {a : Addr} {v : Value} {b : Bool} {r : World × List Addr} (h : w.farStore p a v b = .ok r) : r.1.drawn = w.drawn := by
  unfold World.farStore at h
  repeat' split at h
  all_goals first
    | (injection h with h; subst h; exact viewStore_drawn (by assumption))
    | (cases h; done)
theorem run_mono {α : Type} (p : Program) : ∀ (m : Sem α) (w : World), RMono w.drawn (m.run p w) := by
  intro m
  induction m with
  | pure a => intro w; exact Nat.le_refl _
  | load m a k ih =>
    intro w
    unfold Sem.run
    repeat' split
    all_goals first | exact ih _ w | exact Nat.le_refl _
  | store m a v k ih =>
    intro w
    have hcell : ∀ v : Value, RMono w.drawn (match w.cell? a with
        | some _ => if w.frozen? a then (.halt (.unsupported (.unsafePointer "a write to bytes that a string shares")) w : Result α) else k.run p (w.setCell a v)
        | none => match w.farStore p a v (m == .atomic) with
          | .ok (w, _) => k.run p w
          | .error h => .halt h w) := by
      intro v
      split
      · split
        · exact Nat.le_refl _
        · exact (ih (w.setCell a v)).le (Nat.le_of_eq rfl)
      · split
        · rename_i e
          have h := farStore_drawn e
          exact (ih _).le (Nat.le_of_eq h.symm)
        · exact Nat.le_refl _
    cases v
    all_goals first | exact Nat.le_refl _ | (simp only [Sem.run]; exact hcell _)
  | new o k ih => intro w; unfold Sem.run; exact (ih _ _).le (Nat.le_refl _)
  | shape r k ih => intro w; unfold Sem.run; exact ih _ w
  | freeze a n k ih => intro w; unfold Sem.run; exact (ih _).le (Nat.le_of_eq (by unfold World.freeze; first | rfl | (split <;> rfl)))
  | frozen a k ih => intro w; unfold Sem.run; exact ih _ w
  | getObj r k ih =>
    intro w
    unfold Sem.run
    repeat' split
    all_goals first | exact ih _ w | exact Nat.le_refl _
  | setObj r o k ih =>
    intro w
    unfold Sem.run
    repeat' split
    all_goals first | exact (ih _).le (Nat.le_refl _) | exact Nat.le_refl _
  | choose q k ih =>
    intro w
    unfold Sem.run
    split
    · exact ih _ w
    · exact (ih _ _).le (Nat.le_succ _)
  | sys c k ih => intro w; unfold Sem.run; exact (ih _ _).le (sys_mono w c)
  | program k ih => intro w; unfold Sem.run; exact ih _ w
  | mark m k ih => intro w; unfold Sem.run; exact ih w
  | halt h => intro w; exact Nat.le_refl _
theorem ok_le {α : Type} {p : Program} {m : Sem α} {w w' : World} {a : α} (h : m.run p w = .ok a w') : w.drawn ≤ w'.drawn := by
  have := run_mono p m w
  rw [h] at this
  exact this
theorem halt_le {α : Type} {p : Program} {m : Sem α} {w w' : World} {a : Halt} (h : m.run p w = .halt a w') : w.drawn ≤ w'.drawn := by
  have := run_mono p m w
  rw [h] at this
  exact this
theorem runT_mono {α : Type} (p : Program) : ∀ (m : Sem α) (w : World) (es : Array Event), RMono w.drawn (m.runT p w es).1 := by
  intro m
  induction m with
  | pure a => intro w es; exact Nat.le_refl _
  | load m a k ih =>
    intro w es
    unfold Sem.runT
    repeat' split
    all_goals first | exact ih _ w _ | exact Nat.le_refl _
  | store m a v k ih =>
    intro w es
    have hcell : ∀ v : Value, RMono w.drawn (match w.cell? a with
        | some _ => if w.frozen? a then ((.halt (.unsupported (.unsafePointer "a write to bytes that a string shares")) w, es) : Result α × Array Event) else k.runT p (w.setCell a v) (es.push ⟨.cell a, true, m == Mode.atomic⟩)
        | none => match w.farStore p a v (m == Mode.atomic) with
          | .ok (w, touched) => k.runT p w (es ++ touched.toArray.map (fun x => (⟨.cell x, true, m == Mode.atomic⟩ : Event)))
          | .error h => (.halt h w, es)).1 := by
      intro v
      split
      · split
        · exact Nat.le_refl _
        · exact (ih (w.setCell a v) _).le (Nat.le_of_eq rfl)
      · split
        · rename_i e
          have h := farStore_drawn e
          exact (ih _ _).le (Nat.le_of_eq h.symm)
        · exact Nat.le_refl _
    cases v
    all_goals first | exact Nat.le_refl _ | (simp only [Sem.runT]; exact hcell _)
  | new o k ih => intro w es; unfold Sem.runT; exact (ih _ _ _).le (Nat.le_refl _)
  | shape r k ih => intro w es; unfold Sem.runT; exact ih _ w _
  | freeze a n k ih => intro w es; unfold Sem.runT; exact (ih _ _).le (Nat.le_of_eq (by unfold World.freeze; first | rfl | (split <;> rfl)))
  | frozen a k ih => intro w es; unfold Sem.runT; exact ih _ w _
  | getObj r k ih =>
    intro w es
    unfold Sem.runT
    repeat' split
    all_goals first | exact ih _ w _ | exact Nat.le_refl _
  | setObj r o k ih =>
    intro w es
    unfold Sem.runT
    repeat' split
    all_goals first | exact (ih _ _).le (Nat.le_refl _) | exact Nat.le_refl _
  | choose q k ih =>
    intro w es
    unfold Sem.runT
    split
    · exact ih _ w _
    · exact (ih _ _ _).le (Nat.le_succ _)
  | sys c k ih => intro w es; unfold Sem.runT; exact (ih _ _ _).le (sys_mono w c)
  | program k ih => intro w es; unfold Sem.runT; exact ih _ w _
  | mark m k ih => intro w es; unfold Sem.runT; exact ih w _
  | halt h => intro w es; exact Nat.le_refl _

theorem runT_pair {α : Type} {p : Program} {m : Sem α} {w : World} {es es' : Array Event} {r : Result α} (h : m.runT p w es = (r, es')) : RMono w.drawn r := by
  have := runT_mono p m w es
  rw [h] at this
  exact this
theorem runT_res {α : Type} {p : Program} {m : Sem α} {w : World} {es : Array Event} {r : Result α} (h : (m.runT p w es).1 = r) : RMono w.drawn r := h ▸ runT_mono p m w es
/-- What a goroutine's step leaves has drawn no less (of an end nothing is said). -/
def GMono (d : Nat) : GStep → Prop
  | .go _ w _ => d ≤ w.drawn
  | .comm _ _ _ _ w _ => d ≤ w.drawn
  | .spawn _ _ w _ => d ≤ w.drawn
  | .count _ w _ => d ≤ w.drawn
  | .timer _ _ w _ => d ≤ w.drawn
  | .alone _ _ w _ => d ≤ w.drawn
  | .newcoro _ _ _ w _ => d ≤ w.drawn
  | .coroswitch _ _ _ w _ => d ≤ w.drawn
  | .collect _ w _ => d ≤ w.drawn
  | .watch _ w _ => d ≤ w.drawn
  | .ended .. => True
theorem GMono.le {d d' : Nat} {s : GStep} (h : GMono d s) (hd : d' ≤ d) : GMono d' s := by
  cases s <;> first | exact Nat.le_trans hd h | trivial
theorem GMono.after {d : Nat} {s : GStep} (h : GMono d s) (es : Array Event) : GMono d (GStep.after es s) := by
  cases s <;> exact h
theorem endWith_mono (w : World) (fd : Nat) (t : ByteArray) (o : Outcome) (d : Nat) : GMono d (endWith w fd t o) := by
  unfold endWith
  dsimp only
  repeat' split
  all_goals trivial
theorem dieOf_mono (fr : Frame) (l : List ByteArray) (m : String) (b : Bool) (w : World) : GMono w.drawn (dieOf fr l m b w) := Nat.le_refl _
theorem endThrow_mono (fr : Frame) (m : String) (w : World) : GMono w.drawn (endThrow fr m w) := Nat.le_refl _
theorem endPrinting_mono (p : Program) (fr : Frame) (v : Value) (w : World) : GMono w.drawn (endPrinting p fr v w) := by
  unfold endPrinting
  dsimp only
  split
  · exact endThrow_mono _ _ _
  · trivial
theorem endFatal_mono (p : Program) (fr : Frame) (cs : List Frame) (dy : Option Dying) (m : String) (w : World) : GMono w.drawn (endFatal p fr cs dy m w) := by
  unfold endFatal
  dsimp only
  split
  · rename_i e; exact (dieOf_mono _ _ _ _ _).le (ok_le e)
  · trivial
  · trivial
theorem writeOn_mono (p : Program) (fr : Frame) (d : Dying) (f : Fatal) (w : World) : GMono w.drawn (writeOn p fr d f w) := by
  unfold writeOn
  dsimp only
  split
  · trivial
  · rename_i piece rest _
    split
    · rename_i e; exact runT_pair e
    · rename_i e; exact runT_pair e
    · trivial
    · trivial
theorem die_mono (p : Program) (fr : Frame) (d : Dying) (w : World) : GMono w.drawn (die p fr d w) := by
  unfold die
  split
  · exact writeOn_mono _ _ _ _ _
  · split
    · split
      · exact Nat.le_refl _
      · exact endWith_mono _ _ _ _ _
    · dsimp only
      split
      · exact Nat.le_refl _
      · split
        · rename_i e; exact ok_le e
        · trivial
      · refine GMono.after ?_ _
        split
        · rename_i e; exact runT_res e
        · rename_i e; exact runT_res e
        · trivial
        · rename_i e; exact (endPrinting_mono _ _ _ _).le (runT_res e)
        · trivial
      · trivial
theorem doReturn_mono (p : Program) (main : Bool) (fr : Frame) (cs : List Frame) (dy : Option Dying) (v : Value) (w : World) : GMono w.drawn (doReturn p main fr cs dy v w) := by
  unfold doReturn
  repeat' split
  all_goals first | exact Nat.le_refl _ | trivial
theorem ite_mono {d : Nat} {c : Prop} [Decidable c] {a b : GStep} (ha : GMono d a) (hb : GMono d b) : GMono d (if c then a else b) := by
  split
  · exact ha
  · exact hb
theorem callDeferred_mono (p : Program) (fr : Frame) (cs : List Frame) (dy : Option Dying) (d : Deferred) (w : World) : GMono w.drawn (callDeferred p fr cs dy d w) := by
  unfold callDeferred
  refine ite_mono trivial ?_
  · dsimp only
    refine GMono.after ?_ _
    repeat' split
    all_goals first
        | trivial
        | exact Nat.le_refl _
        | exact runT_res (by assumption)
        | exact (endFatal_mono _ _ _ _ _ _).le (runT_res (r := .halt _ _) (by assumption))
        | exact (endThrow_mono _ _ _).le (runT_res (r := .halt _ _) (by assumption))
        | exact (endThrow_mono _ _ _).le (runT_res (r := .ok _ _) (by assumption))
        | exact (doReturn_mono _ _ _ _ _ _ _).le (runT_res (r := .ok _ _) (by assumption))
        | exact runT_res (r := .ok _ _) (by assumption)
        | exact runT_res (r := .halt _ _) (by assumption)
        | exact ok_le (by assumption)
        | exact halt_le (by assumption)
        | exact endPrinting_mono _ _ _ _
    
theorem unwind_mono (p : Program) (main : Bool) (fr : Frame) (cs : List Frame) (dy : Option Dying) (w : World) : GMono w.drawn (unwind p main fr cs dy w) := by
  unfold unwind
  dsimp only
  split
  · refine GMono.after ?_ _
    repeat' split
    all_goals first
        | trivial
        | exact Nat.le_refl _
        | exact runT_res (by assumption)
        | exact (endFatal_mono _ _ _ _ _ _).le (runT_res (r := .halt _ _) (by assumption))
        | exact (endThrow_mono _ _ _).le (runT_res (r := .halt _ _) (by assumption))
        | exact (endThrow_mono _ _ _).le (runT_res (r := .ok _ _) (by assumption))
        | exact (doReturn_mono _ _ _ _ _ _ _).le (runT_res (r := .ok _ _) (by assumption))
        | exact runT_res (r := .ok _ _) (by assumption)
        | exact runT_res (r := .halt _ _) (by assumption)
        | exact ok_le (by assumption)
        | exact halt_le (by assumption)
        | exact endPrinting_mono _ _ _ _
    
  · exact callDeferred_mono _ _ _ _ _ _
  · split
    · trivial
    · repeat' split
      all_goals first
          | trivial
          | exact Nat.le_refl _
          | exact runT_res (by assumption)
          | exact (endFatal_mono _ _ _ _ _ _).le (runT_res (r := .halt _ _) (by assumption))
          | exact (endThrow_mono _ _ _).le (runT_res (r := .halt _ _) (by assumption))
          | exact (endThrow_mono _ _ _).le (runT_res (r := .ok _ _) (by assumption))
          | exact (doReturn_mono _ _ _ _ _ _ _).le (runT_res (r := .ok _ _) (by assumption))
          | exact runT_res (r := .ok _ _) (by assumption)
          | exact runT_res (r := .halt _ _) (by assumption)
          | exact ok_le (by assumption)
          | exact halt_le (by assumption)
          | exact endPrinting_mono _ _ _ _
      
    · split
      · exact doReturn_mono _ _ _ _ _ _ _
      · refine GMono.after ?_ _
        repeat' split
        all_goals first
            | trivial
            | exact Nat.le_refl _
            | exact runT_res (by assumption)
            | exact (endFatal_mono _ _ _ _ _ _).le (runT_res (r := .halt _ _) (by assumption))
            | exact (endThrow_mono _ _ _).le (runT_res (r := .halt _ _) (by assumption))
            | exact (endThrow_mono _ _ _).le (runT_res (r := .ok _ _) (by assumption))
            | exact (doReturn_mono _ _ _ _ _ _ _).le (runT_res (r := .ok _ _) (by assumption))
            | exact runT_res (r := .ok _ _) (by assumption)
            | exact runT_res (r := .halt _ _) (by assumption)
            | exact ok_le (by assumption)
            | exact halt_le (by assumption)
            | exact endPrinting_mono _ _ _ _
        
theorem early_mono (p : Program) (fr : Frame) (cs : List Frame) (dy : Option Dying) (g : Nat) (w : World) : GMono w.drawn (early p fr cs dy g w) := by
  have hn : ∀ w2 : World, w.drawn ≤ w2.drawn → GMono w.drawn (match w2.heap[g]? with
    | some (.pending c elem) => .go { frame := fr, callers := cs, status := .running, dying := dy } { w2 with heap := w2.heap.setIfInBounds g (.cells c elem) }
    | _ => .ended (.stuck "early: the variable does not wait" (fr.pos p)) w2) := by
    intro w2 h
    split
    · exact h
    · trivial
  have hc : RMono w.drawn ((choose (.early g) : Sem Nat).run p w) := run_mono p _ w
  unfold early
  dsimp only
  generalize ((choose (.early g) : Sem Nat).run p w) = R at *
  repeat' split
  all_goals first
    | trivial
    | exact Nat.le_refl _
    | exact hc
theorem apply_mono (p : Program) (l : Bool) (fr : Frame) (cs : List Frame) (dy : Option Dying) (s : Sem Next) (w : World) : GMono w.drawn (stepG.apply p l fr cs dy s w) := by
  unfold stepG.apply
  dsimp only
  refine GMono.after ?_ _
  have h : RMono w.drawn (if l = true then s.runT p w #[] else (s.run p w, #[])).1 := by
    split
    · exact runT_mono p s w #[]
    · exact run_mono p s w
  generalize (if l = true then s.runT p w #[] else (s.run p w, #[])).1 = r at *
  repeat' split
  all_goals first
    | exact h
    | trivial
    | exact (endThrow_mono _ _ _).le h
    | exact (endFatal_mono _ _ _ _ _ _).le h
    | exact (early_mono _ _ _ _ _ _).le h
theorem oper_mono (p : Program) (l : Bool) (fr : Frame) (cs : List Frame) (dy : Option Dying) (w : World) : GMono w.drawn (stepG.oper p l fr cs dy w) := by
  unfold stepG.oper
  repeat' split
  all_goals first
    | trivial
    | exact apply_mono _ _ _ _ _ _ _
theorem elim_mono {α : Type} {d : Nat} {o : Option α} {a : GStep} {f : α → GStep} (ha : GMono d a) (hf : ∀ x, GMono d (f x)) : GMono d (o.elim a f) := by
  cases o with
  | none => exact ha
  | some x => exact hf x
set_option maxHeartbeats 2000000 in
theorem exec_mono (p : Program) (main l : Bool) (fr : Frame) (cs : List Frame) (dy : Option Dying) (w : World) : GMono w.drawn (stepG.exec p main l fr cs dy w) := by
  unfold stepG.exec
  dsimp only
  repeat' split
  all_goals first
    | trivial
    | exact Nat.le_refl _
    | exact apply_mono _ _ _ _ _ _ _
    | exact oper_mono _ _ _ _ _ _
    | exact GMono.after (by first
        | trivial
        | exact runT_res (by assumption)
        | exact (doReturn_mono _ _ _ _ _ _ _).le (runT_res (r := .ok _ _) (by assumption))
        | exact (apply_mono _ _ _ _ _ _ _).le (runT_res (r := .ok _ _) (by assumption))
        | exact runT_res (r := .ok _ _) (by assumption)
        | exact runT_res (r := .halt _ _) (by assumption)) _
    | exact elim_mono trivial (fun _ => Nat.le_refl _)
    | exact elim_mono (Nat.le_refl _) (fun _ => Nat.le_refl _)
    | exact elim_mono trivial (fun _ => apply_mono _ _ _ _ _ _ _)
    | exact elim_mono (GMono.after (by first
        | trivial
        | exact runT_res (by assumption)
        | exact (doReturn_mono _ _ _ _ _ _ _).le (runT_res (r := .ok _ _) (by assumption))
        | exact (apply_mono _ _ _ _ _ _ _).le (runT_res (r := .ok _ _) (by assumption))
        | exact runT_res (r := .ok _ _) (by assumption)
        | exact runT_res (r := .halt _ _) (by assumption)) _) (fun _ => Nat.le_refl _)
    | exact ok_le (by assumption)
theorem stepG_mono (p : Program) (main l : Bool) (g : Goroutine) (w : World) : GMono w.drawn (stepG p main g w l) := by
  unfold stepG
  repeat' split
  all_goals first
    | exact die_mono _ _ _ _
    | exact exec_mono _ _ _ _ _ _ _
    | exact unwind_mono _ _ _ _ _ _

/-- What a step of the machine leaves has drawn no less. -/
def SMono (d : Nat) : Stepped → Prop
  | .next m => d ≤ m.world.drawn
  | .ended _ _ => True
theorem SMono.le {d d' : Nat} {s : Stepped} (h : SMono d s) (hd : d' ≤ d) : SMono d' s := by
  cases s <;> first | exact Nat.le_trans hd h | trivial
set_option maxHeartbeats 2000000 in
theorem communicate_mono (p : Program) (rest : Rest) (gs : Array Goroutine) (i : Nat) (g : Goroutine) (cases : Array CommCase) (b : Bool) (sh : CommShape) (w : World) : SMono w.drawn (communicate p rest gs i g cases b sh w).1 := by
  unfold communicate
  dsimp only
  split
  · trivial
  · split
    · split
      · split
        · rename_i e
          unfold waitingAt at e
          repeat' split at e
          all_goals first
            | (injection e with e; subst e; exact Nat.le_refl _)
            | (cases e; done)
        · trivial
      · exact Nat.le_refl _
    · split
      · trivial
      · rename_i e
        have h := ok_le e
        repeat' split
        all_goals first
          | trivial
          | exact h
          | (have h2 := halt_le (by assumption); exact Nat.le_trans h h2)
          | (have h2 := ok_le (p := p) (by assumption); exact Nat.le_trans h h2)
theorem look_mono (p : Program) (gs : Array Goroutine) (rest : Rest) (w : World) : SMono w.drawn (look p gs rest w) := by
  unfold look
  dsimp only
  repeat' split
  all_goals first
    | trivial
    | (have h := ok_le (p := p) (w := w) (by assumption); exact h)
theorem serve_mono (p : Program) (m : Machine) (k : Nat) : SMono m.world.drawn (serve p m k) := by
  unfold serve
  dsimp only
  repeat' split
  all_goals first
    | trivial
    | exact Nat.le_refl _
theorem drain_drawn (w : World) (c : Nat) : (drain w c).2.drawn = w.drawn := by
  unfold drain
  split <;> rfl
theorem retime_drawn (m : Machine) (k : Nat) (t : Timer) (a b : Nat) : (retime m k t a b).2.world.drawn = m.world.drawn := by
  unfold retime
  dsimp only
  split
  · exact drain_drawn _ _
  · rfl
theorem timerOp_drawn {m m' : Machine} {op : TimerOp} {v : Value} (h : timerOp m op = .ok (v, m')) : m'.world.drawn = m.world.drawn := by
  unfold timerOp at h
  split at h
  · repeat' split at h
    all_goals first
      | (cases h; done)
      | (injection h with h; injection h with _ h; subst h; rfl)
  · unfold timerOp.named at h
    split at h
    · injection h with h
      have := congrArg (fun q : Value × Machine => q.2.world.drawn) h
      exact this.symm.trans (retime_drawn _ _ _ _ _)
    · cases h
  · split at h
    · rename_i m2 e
      have hm : m2.world.drawn = m.world.drawn := by
        unfold timerOp.opened at e
        repeat' split at e
        all_goals first
          | (cases e; done)
          | (injection e with e; subst e; rfl)
      unfold timerOp.named at h
      split at h
      · injection h with h
        have := congrArg (fun q : Value × Machine => q.2.world.drawn) h
        exact (this.symm.trans (retime_drawn _ _ _ _ _)).trans hm
      · cases h
    · cases h
  · injection h with h
    injection h with _ h
    subst h; rfl
theorem throw_le {fr : Frame} {m : String} {w w' : World} {g : Goroutine} {es : Array Event} (h : endThrow fr m w = .go g w' es) : w.drawn ≤ w'.drawn := by
  have := endThrow_mono fr m w
  rw [h] at this
  exact this
theorem mrun_mono (p : Program) (m : Machine) (i : Nat) (l : Bool) : SMono m.world.drawn (Go.runT p m i l).1 := by
  unfold Go.runT
  dsimp only
  have h := stepG_mono p (i == 0) l (m.gs.swapAt! i { (default : Goroutine) with status := .finished }).1 m.world
  generalize stepG p (i == 0) (m.gs.swapAt! i { (default : Goroutine) with status := .finished }).1 m.world l = s at *
  cases s with
  | go g w es => exact h
  | comm g c b sh w es => exact (communicate_mono _ _ _ _ _ _ _ _ _).le h
  | spawn g c w es => exact h
  | count g w es =>
    dsimp only
    split
    · trivial
    · exact h
  | timer g op w es =>
    have h' : m.world.drawn ≤ w.drawn := h
    dsimp only
    split
    · rename_i e
      have h2 := timerOp_drawn e
      exact Nat.le_trans h' (Nat.le_of_eq h2.symm)
    · split
      · rename_i e
        exact Nat.le_trans h' (throw_le e)
      · trivial
    · trivial
    · trivial
  | alone g on w es => exact h
  | newcoro g c d w es => exact h
  | coroswitch g c e w es =>
    have h' : m.world.drawn ≤ w.drawn := h
    dsimp only
    split
    · exact h'
    · split
      · rename_i e
        exact Nat.le_trans h' (throw_le e)
      · trivial
    · trivial
  | collect g w es => exact (look_mono _ _ _ _).le h
  | watch g w es => exact h
  | ended o w es => trivial

def MMono (d : Nat) : Move → Prop
  | .goroutine m _ => d ≤ m.world.drawn
  | .machine s _ => SMono d s
theorem MMono.le {d d' : Nat} {s : Move} (h : MMono d s) (hd : d' ≤ d) : MMono d' s := by
  cases s with
  | goroutine m i => exact Nat.le_trans hd h
  | machine s o => exact SMono.le h hd
theorem askOn_mono (p : Program) (m : Machine) : MMono m.world.drawn (askOn p m) := by
  have hp : ∀ m2 : Machine, m.world.drawn ≤ m2.world.drawn → ∀ rs : List Nat, MMono m.world.drawn (match (choose (.sched rs.length)).run p m2.world with
      | .halt _ w => .machine (.ended (.stuck "sched" "") w)
      | .ok k world =>
        if rs.length ≤ 1 then .goroutine { m2 with world } (rs.getD k 0) else
        match (choose (.extern "sched.slice" 65536)).run p world with
        | .halt _ w => .machine (.ended (.stuck "sched.slice" "") w)
        | .ok n world => .goroutine { m2 with world, rest := { m2.rest with slice := if n = 0 then none else some (rs.getD k 0, n) } } (rs.getD k 0)) := by
    intro m2 h2 rs
    split
    · trivial
    · rename_i e1
      have h3 := ok_le e1
      split
      · exact Nat.le_trans h2 h3
      · split
        · trivial
        · rename_i e2
          exact Nat.le_trans h2 (Nat.le_trans h3 (ok_le e2))
  unfold askOn
  dsimp only
  have h0 := run_mono p (if (due m.rest.timers m.world.os.mono).isEmpty then pure 0
      else choose (.extern "timer.serve" ((due m.rest.timers m.world.os.mono).length + (if (runnable m.gs m.world.os.mono).isEmpty && (ahead m false).isNone then 0 else 1))) : Sem Nat) m.world
  split
  · trivial
  · rename_i k world e
    have h1 := ok_le e
    split
    · exact (serve_mono _ _ _).le h1
    · split
      · split
        · exact h1
        · split
          · exact h1
          · split
            · trivial
            · trivial
      · split
        · exact hp { m with world := world } h1 _
        · split
          · trivial
          · rename_i w2 e2
            have h3 := Nat.le_trans h1 (ok_le e2)
            exact hp { m with world := w2 } h3 _
          · rename_i w2 e2
            have h3 := Nat.le_trans h1 (ok_le e2)
            exact h3
          · rename_i k2 w2 e2
            have h3 := Nat.le_trans h1 (ok_le e2)
            exact hp (({ m with world := w2 } : Machine).advanceTo _) h3 _
theorem ask_mono2 (p : Program) (m : Machine) : MMono m.world.drawn (ask p m) := by
  unfold ask
  split
  · split
    · trivial
    · rename_i e
      have h1 := ok_le e
      have h2 := look_mono p m.gs m.rest ‹World›
      split
      · rename_i m2 e2
        rw [e2] at h2
        exact (askOn_mono _ _).le (Nat.le_trans h1 h2)
      · exact SMono.le h2 h1
    · rename_i e
      exact (askOn_mono _ _).le (ok_le e)
  · exact askOn_mono _ _
theorem move_mono (p : Program) (m : Machine) : MMono m.world.drawn (move p m) := by
  unfold move
  repeat' split
  all_goals first
    | exact Nat.le_refl _
    | trivial
    | exact ask_mono2 _ _
theorem step_mono (p : Program) (m : Machine) : SMono m.world.drawn (step p m) := by
  unfold step stepT
  have h := move_mono p m
  split
  · rename_i m2 i e
    rw [e] at h
    exact (mrun_mono _ _ _ _).le h
  · rename_i s o e
    rw [e] at h
    exact h
theorem runN_mono (p : Program) : ∀ (n : Nat) (m m' : Machine), runN p n m = .next m' → m.world.drawn ≤ m'.world.drawn
  | 0, m, m', h => by
    unfold runN at h
    injection h with h
    subst h
    exact Nat.le_refl _
  | n + 1, m, m', h => by
    unfold runN at h
    have h1 := step_mono p m
    split at h
    · rename_i m2 e
      rw [e] at h1
      exact Nat.le_trans h1 (runN_mono p n m2 m' h)
    · rename_i e hne
      exact absurd h (hne _)
/-- What a call returns has drawn no less. -/
theorem calls_drawn {P : Program} {f : FuncId} {args : Array Value} {w : World} {R : Ending → World → Prop} (h : Calls P f args w R) :
    Calls P f args w fun e w' => R e w' ∧ (e ≠ .outgrown → w.drawn ≤ w'.drawn) := by
  intro cs
  obtain ⟨e, w', fr, hr, hc, hf, hl⟩ := h cs
  refine ⟨e, w', fr, ⟨hr, fun hne => ?_⟩, hc, hf, hl⟩
  cases e with
  | outgrown => exact absurd rfl hne
  | returned v =>
    obtain ⟨n, hn⟩ := (hc : Steps P _ _)
    exact runN_mono P n _ _ hn
  | panicked c =>
    obtain ⟨n, hn⟩ := (hc : Steps P _ _)
    exact runN_mono P n _ _ hn
end Go.Proofs.YtjjpagdnjafgaaaGreatDoor

namespace Go.Proofs.YtjjpagdnjafgaaaGreatDoor
open Go.RowKit Go.Sort

/-- A world that keeps all that lies below its end, and has drawn no less, is one that grew. -/
theorem below_grow {w w' : World} (h : RowKit.Below w.heap.size w w') (hd : w.drawn ≤ w'.drawn) : ∃ q os, w' = grow (w.drewN q) os := by
  refine ⟨w'.drawn - w.drawn, w'.heap.extract w.heap.size w'.heap.size, ?_⟩
  obtain ⟨h1, h2, h3, h4, h5⟩ := h
  obtain ⟨H, t, d, o, op⟩ := w
  obtain ⟨H', t', d', o', op'⟩ := w'
  dsimp only at h1 h2 h3 h4 h5 hd ⊢
  subst h1 h2 h3
  have hh : H ++ H'.extract H.size H'.size = H' := by
    apply Array.ext_getElem?
    intro k
    by_cases hk : k < H.size
    · rw [Array.getElem?_append_left hk, h5 k hk]
    · rw [Array.getElem?_append_right (by omega), Array.getElem?_extract]
      have e : H.size + (k - H.size) = k := by omega
      rw [e]
      by_cases hk2 : k < H'.size
      · rw [if_pos (by omega)]
      · rw [if_neg (by omega), Array.getElem?_eq_none (by omega)]
  have hdd : d + (d' - d) = d' := by omega
  unfold grow World.drewN
  dsimp only
  rw [hh, hdd]

/-- How two places stand. -/
def plV (l : List VT) (i j : Fin l.length) : Int := firstNZ [ordV l[i] l[j], cmpI (i.val : Int) (j.val : Int)]
theorem plV_lt {l : List VT} {i j : Fin l.length} : plV l i j < 0 ↔ ordV l[i] l[j] < 0 ∨ (ordV l[i] l[j] = 0 ∧ i.val < j.val) := by
  unfold plV
  generalize ordV l[i] l[j] = z
  obtain ⟨c, hc⟩ : ∃ c, cmpI (i.val : Int) (j.val : Int) = c := ⟨_, rfl⟩
  have h3 := cmpI_tri (i.val : Int) (j.val : Int)
  rw [hc] at h3 ⊢
  by_cases hz : z = 0
  · subst hz
    by_cases hd : c = 0
    · have e : firstNZ [0, c] = 0 := by rw [hd]; rfl
      rw [e]
      constructor
      · intro h; omega
      · rintro (h | ⟨-, h⟩) <;> omega
    · have e : firstNZ [0, c] = c := by show (if (0 : Int) = 0 then (if c = 0 then 0 else c) else 0) = c; rw [if_pos rfl, if_neg hd]
      rw [e]
      constructor
      · intro h; right; exact ⟨rfl, by omega⟩
      · rintro (h | ⟨-, h⟩) <;> omega
  · have e : firstNZ [z, c] = z := by show (if z = 0 then firstNZ [c] else z) = z; rw [if_neg hz]
    rw [e]
    constructor
    · intro h; left; exact h
    · rintro (h | ⟨h, -⟩)
      · exact h
      · exact absurd h hz
theorem plV_swo (l : List VT) : SWO (ltOf (plV l)) where
  irrefl x := by
    unfold ltOf
    rw [decide_eq_false_iff_not, plV_lt, ordV_self]
    omega
  trans x y z h1 h2 := by
    unfold ltOf at *
    rw [decide_eq_true_eq, plV_lt] at *
    have h3 := (ordV_both l[x] l[y] l[z]).1
    unfold Ord3 at h3
    omega
  ntrans x y z h1 h2 := by
    unfold ltOf at *
    rw [decide_eq_false_iff_not, plV_lt] at *
    have h3 := (ordV_both l[z] l[y] l[x]).1
    have e1 := ordV_anti l[x] l[y]
    have e2 := ordV_anti l[y] l[z]
    have e3 := ordV_anti l[x] l[z]
    unfold Ord3 at h3
    omega
end Go.Proofs.YtjjpagdnjafgaaaGreatDoor

namespace Go.Proofs.YtjjpagdnjafgaaaGreatDoor
open Go.RowKit Go.Sort

/-- The one place stands ahead of the other. -/
def PlaceLt (l : List VT) (i j : Nat) : Prop := ∀ x y, l[i]? = some x → l[j]? = some y → ordV x y < 0 ∨ (ordV x y = 0 ∧ i < j)
/-- The places of l in order. -/
def Placed (l : List VT) (ps : List Nat) : Prop := ps.Perm (List.range l.length) ∧ ps.Pairwise (PlaceLt l)
theorem Placed.len {l : List VT} {ps : List Nat} (h : Placed l ps) : ps.length = l.length := by rw [h.1.length_eq, List.length_range]
theorem Placed.lt {l : List VT} {ps : List Nat} (h : Placed l ps) {p : Nat} (hp : p ∈ ps) : p < l.length := List.mem_range.1 (h.1.mem_iff.1 hp)
theorem placed_nil : Placed [] [] := ⟨List.Perm.refl _, .nil⟩
theorem placeLt_asymm {l : List VT} {i j : Nat} (hi : i < l.length) (hj : j < l.length) (h : PlaceLt l i j) (h' : PlaceLt l j i) : False := by
  have h1 := h _ _ (List.getElem?_eq_getElem hi) (List.getElem?_eq_getElem hj)
  have h2 := h' _ _ (List.getElem?_eq_getElem hj) (List.getElem?_eq_getElem hi)
  have := ordV_anti l[i] l[j]
  omega
/-- There is one order. -/
theorem Placed.one {l : List VT} {ps qs : List Nat} (h : Placed l ps) (h' : Placed l qs) : ps = qs :=
  List.Perm.eq_of_pairwise (fun a b ha hb h1 h2 => (placeLt_asymm (h.lt ha) (h'.lt hb) h1 h2).elim) h.2 h'.2 (h.1.trans h'.1.symm)
theorem placed_of {l : List VT} [Inhabited (Fin l.length)] {d' : Array (Fin l.length)} (hp : PermIn 0 (List.finRange l.length).toArray.size (List.finRange l.length).toArray d') (hs : SortedIn (ltOf (plV l)) 0 (List.finRange l.length).toArray.size d') : Placed l (d'.toList.map Fin.val) := by
  have hz : (List.finRange l.length).toArray.size = l.length := by simp
  obtain ⟨hsz, -, hpm⟩ := hp
  rw [← hsz, Array.extract_size, hsz, Array.extract_size] at hpm
  have hpm : d'.toList.Perm (List.finRange l.length) := by simpa using hpm
  rw [hz] at hs hsz
  have hmap : (List.finRange l.length).map Fin.val = List.range l.length := by
    apply List.ext_getElem
    · simp
    · intro i h1 h2
      simp
  refine ⟨?_, ?_⟩
  · rw [← hmap]
    exact hpm.map _
  · have hnd : d'.toList.Nodup := hpm.nodup_iff.2 (by
      have : ((List.finRange l.length).map Fin.val).Nodup := by rw [hmap]; exact List.nodup_range
      exact List.Pairwise.of_map Fin.val (fun a b h e => h (congrArg _ e)) this)
    rw [List.pairwise_map]
    rw [List.pairwise_iff_getElem]
    intro i j hi hj hij x y hx hy
    have hne := (List.pairwise_iff_getElem.1 hnd) i j hi hj hij
    have hlt := hs i j (Nat.zero_le _) hij (by simpa [hsz] using hj)
    have e1 : d'[i]! = d'.toList[i] := by rw [getElem!_pos d' i (by simpa using hi)]; simp
    have e2 : d'[j]! = d'.toList[j] := by rw [getElem!_pos d' j (by simpa using hj)]; simp
    rw [e1, e2] at hlt
    unfold ltOf at hlt
    rw [decide_eq_false_iff_not, plV_lt] at hlt
    have hne2 : (d'.toList[i]).val ≠ (d'.toList[j]).val := fun e => hne (Fin.ext e)
    rw [List.getElem?_eq_getElem (d'.toList[i]).isLt] at hx
    rw [List.getElem?_eq_getElem (d'.toList[j]).isLt] at hy
    injection hx with hx
    injection hy with hy
    have hx' : l[d'.toList[i]] = x := hx
    have hy' : l[d'.toList[j]] = y := hy
    rw [hx', hy'] at hlt
    have := ordV_anti x y
    omega
end Go.Proofs.YtjjpagdnjafgaaaGreatDoor

namespace Go.Proofs.YtjjpagdnjafgaaaGreatDoor
open Go.RowKit

/-- A row of the call's own that holds places. -/
def RowP (w : World) (base : Nat) (B : Option Addr) (ps : List Nat) : Prop := ∃ g : Nat, B = some ⟨g, 0, none⟩ ∧ base ≤ g ∧ g < w.heap.size ∧ ∀ (k p : Nat), ps[k]? = some p → w.cell? ⟨g, k, none⟩ = some (.int .i64 (p : Int))
theorem RowP.stay {w w' : World} {base : Nat} {B : Option Addr} {ps : List Nat} (h : RowP w base B ps) (hb : Below w.heap.size w w') : RowP w' base B ps := by
  obtain ⟨g, e, h1, h2, h3⟩ := h
  exact ⟨g, e, h1, Nat.lt_of_lt_of_le h2 hb.size, fun k p hp => (hb.cell (p := ⟨g, k, none⟩) h2).trans (h3 k p hp)⟩
theorem RowP.more {w : World} {base base' : Nat} {B : Option Addr} {ps : List Nat} (h : RowP w base B ps) (hb : base' ≤ base) : RowP w base' B ps := by
  obtain ⟨g, e, h1, h2, h3⟩ := h
  exact ⟨g, e, Nat.le_trans hb h1, h2, h3⟩

/-- What lies below a row stays where the row is sorted. -/
theorem below_sort {α : Type} [Inhabited α] (enc : α → Value) (w : World) (g off q : Nat) (d : Array α) (os : Array Obj) (hg : g < w.heap.size) : Below g w (sortWorld enc w g off q d os) := by
  refine ⟨rfl, rfl, rfl, ?_, fun k hk => ?_⟩
  · unfold sortWorld Sort.grow Sort.putRow Sort.mapBlock Sort.ahead
    simp
  · unfold sortWorld Sort.grow Sort.putRow Sort.mapBlock Sort.ahead
    dsimp only
    rw [Array.getElem?_append_left (by simp; omega), Array.getElem?_modify, if_neg (by omega)]
theorem cell_sort {α : Type} [Inhabited α] (enc : α → Value) (w : World) (g q : Nat) (d d' : Array α) (os : Array Obj) (hg : g < w.heap.size) (hH : Sort.Holds enc w g 0 d) (hs : d'.size = d.size) (k : Nat) (hk : k < d'.size) : (sortWorld enc w g 0 q d' os).cell? ⟨g, k, none⟩ = some (enc d'[k]!) := by
  have hH2 : Sort.Holds enc (Sort.ahead w q) g 0 d := hH
  have h1 := Sort.cell?_putRow enc (Sort.ahead w q) g 0 d d' hH2 hs k hk
  rw [Nat.zero_add] at h1
  unfold sortWorld
  rw [← h1]
  have hz : g < (Sort.putRow enc (Sort.ahead w q) g 0 d').heap.size := by rw [Sort.size_putRow]; exact hg
  simp only [World.cell?, Sort.heap_grow_old _ os hz]
/-- The cells that hold 0 to n. -/
def encFin {n : Nat} (i : Fin n) : Value := .int .i64 (i.val : Int)

set_option maxRecDepth 100000 in
set_option maxHeartbeats 2000000 in
theorem places_c {S : Nat → Prop} {A : Option Addr} {n c : Nat} {l : List VT} (w : World) (hl : RdL w S A n l) (hn : n ≤ 1099511627776) (hS : ∀ b, S b → b < w.heap.size) (hf : ∀ x ∈ l, fine x) :
    Calls Tryz.prog 95 #[.agg #[.slice A n c, .func (.func 90) #[] #[]]] w fun e w' => ∃ B ps, e = .returned (.slice B n n) ∧ Placed l ps ∧ RowP w' w.heap.size B ps ∧ Below w.heap.size w w' := by
  have HL := Lib.hid hl
  have HLN := Lib.hid hl.1
  have HS := Lib.hid hS
  have HF := Lib.hid hf
  clear hl hS hf
  have hmk := fun W => makeI_at (z := (n : Int)) n rfl hn W
  have hW1 : Below w.heap.size w (w.alloc (.cells #[.slice A n c, .func (.func 90) #[] #[]] 121)) := (Below.refl _ w).alloc (Nat.le_refl _) _
  have hm1 := World.alloc_heap_new w (.cells #[.slice A n c, .func (.func 90) #[] #[]] 121)
  have hz1 : (w.alloc (.cells #[.slice A n c, .func (.func 90) #[] #[]] 121)).heap.size = w.heap.size + 1 := by simp
  go_enter Tryz.func95, Tryz.ntmps95
  go_upto_region 1 with fail
  generalize (w.alloc (.cells #[.slice A n c, .func (.func 90) #[] #[]] 121)) = W1 at *
  have q0 : W1.cell? ⟨w.heap.size, 0, none⟩ = some (.slice A n c) := cell_at hm1 rfl
  have HW1 := Lib.hid hW1
  clear hW1
  go_upto_region 2 with fail
  have hm2 := World.alloc_heap_new W1 (zerosI n)
  have hw2 : Below (w.heap.size + 1) W1 (W1.alloc (zerosI n)) := (Below.refl _ W1).alloc (by omega) _
  have hz2 : (W1.alloc (zerosI n)).heap.size = w.heap.size + 2 := by simp [hz1]
  rw [hz1] at hm2
  clear hmk q0
  go_upto_region 3 with fail
  go_loopw [11] (fun i wr => ∃ (k : Nat) (cur : Array Value), k ≤ n ∧ i = .int .i64 (k : Int) ∧ wr.heap[w.heap.size + 1]? = some (.cells cur 3) ∧ Hid (cur.size = n) ∧ Hid (∀ j : Nat, j < k → cur[j]? = some (.int .i64 (j : Int))) ∧ Below (w.heap.size + 1) W1 wr) (fun i _ => n - (RowKit.intOf i).toNat)
  case atStart =>
    refine ⟨0, _, Nat.zero_le _, rfl, hm2, ?_, ?_, hw2⟩
    · show _ = _
      exact size_madeCells _ _
    · intro j hj; omega
  case round =>
    obtain ⟨k, cur, hkn, rfl, hcur, hcz, hcj, hbel⟩ := hrel
    clear hm2 hw2
    have hm1' := (hbel.block _ (by omega)).trans hm1
    have hfz : ∀ j, wr.frozen? ⟨w.heap.size + 1, j, none⟩ = false := fun j => frozen_of_row wr _ j _ _ hcur
    have hwr : Below w.heap.size w wr := HW1.out.trans (hbel.mono (by omega))
    have hzr := hbel.size
    have hgr : w.heap.size + 1 < wr.heap.size := (Array.getElem?_eq_some_iff.1 hcur).1
    by_cases hk : k < n
    · have hlt : (k : Int) < (n : Int) := by omega
      have hk0 : (0 : Int) ≤ (k : Int) := by omega
      have hkt : ((k : Int)).toNat = k := by omega
      have hkw : IntKind.i64.wrap ((k : Int) + 1) = (k : Int) + 1 := IntWalk.i64_in _ (by omega)
      have hkc : wr.cell? ⟨w.heap.size + 1, k, none⟩ = some (cur[k]'(by rw [hcz.out]; exact hk)) := cell_at hcur (Array.getElem?_eq_getElem _)
      have hfk := hfz k
      go_wp2_with fail
      go_roundw
      case rel =>
        refine ⟨k + 1, cur.setIfInBounds k (.int .i64 (k : Int)), by omega, by go_num, heap_setCell_same wr _ k cur _ _ hcur, ?_, ?_, hbel.setCell (by show w.heap.size + 1 ≤ w.heap.size + 1; omega) _⟩
        · show _ = _
          rw [Array.size_setIfInBounds]; exact hcz.out
        · intro j hj
          by_cases hjk : j = k
          · subst hjk
            rw [Array.getElem?_setIfInBounds_self_of_lt (by rw [hcz.out]; exact hk)]
          · rw [Array.getElem?_setIfInBounds_ne (by omega)]
            exact hcj.out j (by omega)
      case measure => first | (simp [RowKit.intOf]; omega) | (show _ - _ < _ - _; simp only [RowKit.intOf]; omega)
    · have hnk : ¬ (k : Int) < (n : Int) := by omega
      have hkn2 : k = n := by omega
      subst hkn2
      have hmf : ∀ (fn : Fn) (first cap : Array Value) (w : World), (Instr.makeFunc fn first cap).run Tryz.prog w = .ok (.func fn first cap) w := fun _ _ _ _ => rfl
      by_cases h0 : k = 0
      · subst h0
        have hnil : l = [] := List.eq_nil_of_length_eq_zero HLN.out
        have hcon := Tryz.sortFunc_none_136 (some ⟨w.heap.size + 1, 0, none⟩) 0 (.func (.func 137) #[] #[.pointer (some ⟨w.heap.size, 0, none⟩)]) wr
        go_wp2_with fail
        refine hcon.mono ?_
        rintro e' w' ⟨rfl, rfl⟩
        go_wp2_with fail
        go_ret
        exact ⟨some ⟨w.heap.size + 1, 0, none⟩, [], rfl, by rw [hnil]; exact placed_nil, ⟨w.heap.size + 1, rfl, by omega, by omega, fun k p hp => by simp at hp⟩, hwr⟩
      · have hpos : 0 < l.length := by rw [HLN.out]; omega
        haveI : Inhabited (Fin l.length) := ⟨⟨0, hpos⟩⟩
        have hds : (List.finRange l.length).toArray.size = k := by simp [HLN.out]
        have hH : Sort.Holds encFin wr (w.heap.size + 1) 0 (List.finRange l.length).toArray := by
          intro j hj
          have hj2 : j < k := by omega
          refine ⟨?_, hfz _⟩
          rw [Nat.zero_add]
          refine cell_at hcur ((hcj.out j hj2).trans ?_)
          rw [getElem!_pos _ j hj]
          simp [encFin]
        have hcmp : CmpLays1 Tryz.prog 137 #[.pointer (some ⟨w.heap.size, 0, none⟩)] encFin (plV l) (w.heap.size + 1) 0 (List.finRange l.length).toArray.size wr := by
          intro m os dk hs x y
          have hb := below_sort encFin wr (w.heap.size + 1) 0 m dk os (by omega)
          have hb2 := hwr.trans (hb.mono (by omega))
          generalize sortWorld encFin wr (w.heap.size + 1) 0 m dk os = W at *
          have hmW := (hb.block _ (by omega)).trans hm1'
          have hP := placeCmp_c (i := x.val) (j := y.val) (c := c) (rb := w.heap.size) W (HL.out.stay hb2 HS.out) (fun b hb => Nat.lt_of_lt_of_le (HS.out b hb) hb2.size) (Nat.lt_of_lt_of_le (show w.heap.size < wr.heap.size by omega) hb.size) (cell_at hmW rfl) (cell_at hmW rfl) HF.out (List.getElem?_eq_getElem x.isLt) (List.getElem?_eq_getElem y.isLt)
          have hP2 := calls_drawn hP
          refine Calls.mono hP2 ?_
          rintro e' w' ⟨⟨rfl, hbw⟩, hd⟩
          exact ⟨rfl, below_grow hbw (hd (by intro h; cases h))⟩
        have eg : ∀ args w, (callFunc 137 args).run Tryz.prog w = .ok (.enter 137 args) w := enters_of Tryz.func137 (by kernel_rfl) rfl
        have hcon := Tryz.sortFunc_136 encFin (fun _ => rfl) (plV l) (plV_swo l) 137 #[.pointer (some ⟨w.heap.size, 0, none⟩)] (w.heap.size + 1) 0 k (List.finRange l.length).toArray wr eg hcmp hH (by omega) (by omega)
        have HH := Lib.hid hH
        have HDS := Lib.hid hds
        have HM1 := Lib.hid hm1'
        rw [hds] at hcon
        clear hcmp eg hH hm1 hm1' hds
        go_wp2_with fail
        refine Calls.mono hcon ?_
        rintro e' w' ⟨rfl, d', q, os, hp, hs, rfl⟩
        go_wp2_with fail
        go_ret
        have hb := below_sort encFin wr (w.heap.size + 1) 0 q d' os (by omega)
        rw [← HDS.out] at hp hs
        refine ⟨some ⟨w.heap.size + 1, 0, none⟩, d'.toList.map Fin.val, rfl, placed_of hp hs, ⟨w.heap.size + 1, rfl, by omega, Nat.lt_of_lt_of_le (by omega) hb.size, ?_⟩, hwr.trans (hb.mono (by omega))⟩
        intro j p hj
        have hj2 : j < d'.size := by
          have := (List.getElem?_eq_some_iff.1 hj).1
          simpa using this
        rw [cell_sort encFin wr (w.heap.size + 1) q _ d' os (by omega) HH.out hp.1 j hj2, getElem!_pos d' j hj2]
        rw [List.getElem?_map, Array.getElem?_toList, Array.getElem?_eq_getElem hj2] at hj
        injection hj with hj
        unfold encFin
        rw [hj]
end Go.Proofs.YtjjpagdnjafgaaaGreatDoor
