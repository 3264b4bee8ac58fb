/-
  Contracts of quot's sure, widen, digits and the questions asked of a cut quotient: exact, odd, toHalf.
  Contracts of quot's digits, and of the questions asked of a cut quotient: exact, odd, toHalf.
  Contracts of quot.divide with each question that it is handed.
-/
import Derived.Test.YtbbafggejnjjiaaGreatDoorPow
import Derived.Test.YtbbafggejnjjiaaGreatDoorNparse
import Derived.Test.YtbbafggejnjjiaaGreatDoorDset
import Derived.Deep.AppendLies
import Derived.Deep.RegionHeld3
import Derived.Test.YtbbafggejnjjiaaGreatDoorNdiv
set_option linter.unusedVariables false
set_option linter.unusedSimpArgs false
namespace Go.Proofs.YtbbafggejnjjiaaGreatDoor
open Go.RowKit

/-- A number that may be. -/
structure Fit (xs : List Nat) : Prop where
  can : Can xs
  len : xs.length ≤ 256
theorem Fit.lim {v : Nat} (h : v < bp 256) : Fit (lim v) := ⟨lim_can v, lim_len h⟩
theorem Fit.eq {xs ys : List Nat} (hx : Fit xs) (hy : Fit ys) (h : val xs = val ys) : xs = ys := hx.can.inj hy.can h
theorem Fit.of_lt {xs : List Nat} (hc : Can xs) (h : val xs < bp 256) : Fit xs := ⟨hc, by
  rcases Nat.lt_or_ge 256 xs.length with h1 | h1
  · have := (long_iff hc).1 h1; omega
  · exact h1⟩
theorem ten_bp {k : Nat} (h : k ≤ 2400) : 10 ^ k < bp 256 := by
  obtain ⟨a, ha⟩ : ∃ a, a = 800 := ⟨_, rfl⟩
  obtain ⟨b, hb⟩ : ∃ b, b = 2400 := ⟨_, rfl⟩
  obtain ⟨c, hc⟩ : ∃ c, c = 256 := ⟨_, rfl⟩
  have h1 : 10 ^ k ≤ 10 ^ b := Nat.pow_le_pow_right (by omega) (by omega)
  have h2 : 10 ^ b = (10 ^ 3) ^ a := by rw [← Nat.pow_mul]; congr 1; omega
  have h3 : (10 ^ 3) ^ a ≤ (2 ^ 10) ^ a := Nat.pow_le_pow_left (by decide) a
  have h4 : (2 ^ 10) ^ a = 2 ^ (10 * a) := (Nat.pow_mul 2 10 a).symm
  have h5 : bp c = 2 ^ (32 * c) := by unfold bp; rw [Nat.pow_mul]
  have h6 : 2 ^ (10 * a) < 2 ^ (32 * c) := Nat.pow_lt_pow_right (by omega) (by omega)
  rw [← hc, h5]
  omega

set_option maxRecDepth 100000 in
theorem sureS_c {A : Option Addr} {n c : Nat} (z : Int) (w : World) : Calls Tryz.prog 126 #[.slice A n c, .int .i64 z] w fun e w' => e = .returned (.slice A n c) ∧ w = w' := by
  go_enter Tryz.func126, Tryz.ntmps126
  go_wp2
  go_ret
  exact ⟨rfl, rfl⟩
set_option maxRecDepth 100000 in
theorem sureI_c (x z : Int) (w : World) : Calls Tryz.prog 125 #[.int .i64 x, .int .i64 z] w fun e w' => e = .returned (.int .i64 x) ∧ w = w' := by
  go_enter Tryz.func125, Tryz.ntmps125
  go_wp2
  go_ret
  exact ⟨rfl, rfl⟩
set_option maxRecDepth 100000 in
theorem sureT_c (s : ByteArray) (z : Int) (w : World) : Calls Tryz.prog 156 #[.string s, .int .i64 z] w fun e w' => e = .returned (.string s) ∧ w = w' := by
  go_enter Tryz.func156, Tryz.ntmps156
  go_wp2
  go_ret
  exact ⟨rfl, rfl⟩

/-- The coefficient times ten to the power, as it is if that is below 0. -/
def wd (v : Nat) (p : Int) : Nat := v * 10 ^ p.toNat
set_option maxRecDepth 100000 in
theorem qwiden_c {S : Nat → Prop} {A : Option Addr} {n c : Nat} {xs : List Nat} (p : Int) (w : World) (ha : Rd w S A n xs) (hS : ∀ b, S b → b < w.heap.size) (hx : Fit xs) (hp : -1000000 ≤ p ∧ p ≤ 2400) (hv : wd (val xs) p < bp 256) :
    Calls Tryz.prog 117 #[.slice A n c, .int .i64 p] w fun e w' => ∃ A' n' c' zs, e = .returned (.slice A' n' c') ∧ Res w' w.heap.size A' n' c' zs ∧ Fit zs ∧ val zs = wd (val xs) p ∧ Below w.heap.size w w' := by
  obtain ⟨k, hk⟩ : ∃ k : Nat, (k : Int) = max p 0 := ⟨(max p 0).toNat, by omega⟩
  have hkn : p.toNat = k := by omega
  have hk2 : k ≤ 2400 := by omega
  have hn : n ≤ 256 := by rw [← ha.len]; exact hx.len
  have hPw := fun V => Pow_ok k V hk2
  have HA := Lib.hid ha
  have HS := Lib.hid hS
  have HP := Lib.hid hPw
  have HK := Lib.hid hkn
  obtain ⟨hp1, hp2⟩ := hp
  have HV := Lib.hid hv
  have hmx : max p 0 = (k : Int) := hk.symm
  clear hPw ha hS hkn hv hk
  go_enter Tryz.func117, Tryz.ntmps117
  go_wp2_with fail
  refine (HP.out w).mono ?_
  rintro e w1 ⟨A1, n1, c1, zs, rfl, hr1, hc1, hv1, hb1⟩
  have hf1 : Fit zs := Fit.of_lt hc1 (by rw [hv1]; exact ten_bp hk2)
  have hn1 : n1 ≤ 256 := by rw [← hr1.len]; exact hf1.len
  have hval : val xs * val zs = wd (val xs) p := by rw [hv1]; unfold wd; rw [HK.out]
  have hE := binE_ok hx.can hf1.can hx.len hf1.len (v := val xs * val zs) (by rw [hval]; exact HV.out)
  have hZ := (binE_zero (HA.out.l32) hr1.l32 hE).2.2.2
  have hM := Mul_c (c := c) (d := c1) w1 (HA.out.below hb1 HS.out) hr1.rd (fun b h => by have := HS.out b h; have := hb1.size; omega) (fun b h => h.2) (by omega) (by omega)
  rw [hE, hZ, hval] at hM
  have HM := Lib.hid hM
  have HB1 := Lib.hid hb1
  have hl := Lib.hid (lim_val (wd (val xs) p))
  have hft := Lib.hid (Fit.lim HV.out)
  clear hM hE hZ hval hr1 hc1 hv1 hb1
  go_wp2_with (go_at_call 126; refine (sureS_c _ _).mono ?_; rintro e w' ⟨rfl, rfl⟩)
  refine HM.out.mono ?_
  rintro e w2 ⟨A2, n2, c2, rfl, hr2, hb2⟩
  have HR2 := Lib.hid (hr2.more HB1.out.size)
  have HB2 := Lib.hid (HB1.out.trans (hb2.mono HB1.out.size))
  clear hr2 hb2
  go_wp2_with (go_at_call 126; refine (sureS_c _ _).mono ?_; rintro e w' ⟨rfl, rfl⟩)
  go_ret
  exact ⟨A2, n2, c2, _, rfl, HR2.out, hft.out, hl.out, HB2.out⟩
end Go.Proofs.YtbbafggejnjjiaaGreatDoor

namespace Go.Proofs.YtbbafggejnjjiaaGreatDoor
open Go.RowKit

/-- A cut quotient. -/
abbrev cutV (A1 : Option Addr) (n1 c1 : Nat) (A2 : Option Addr) (n2 c2 : Nat) (A3 : Option Addr) (n3 c3 : Nat) : Value := .agg #[.slice A1 n1 c1, .slice A2 n2 c2, .slice A3 n3 c3]
set_option maxRecDepth 100000 in
theorem digits_c {S : Nat → Prop} {A : Option Addr} {n c : Nat} {xs : List Nat} (w : World) (ha : Rd w S A n xs) (hS : ∀ b, S b → b < w.heap.size) (hx : Fit xs) :
    Calls Tryz.prog 115 #[.slice A n c] w fun e w' => ∃ s, e = .returned (.string s) ∧ IsDec (val xs) s ∧ Below w.heap.size w w' := by
  have hn : n ≤ 256 := by rw [← ha.len]; exact hx.len
  have hP := Print_c (c := c) w ha hS (by omega)
  have h0 : chk xs = 0 := by
    have := chk2_ok hx.can hx.can hx.len hx.len
    unfold chk2 at this
    by_cases h : chk xs = 0
    · exact h
    · rw [if_neg h] at this; exact this
  have HP := Lib.hid hP
  have H0 := Lib.hid h0
  clear hP ha hS h0
  go_enter Tryz.func115, Tryz.ntmps115
  go_wp2_with fail
  refine HP.out.mono ?_
  rintro e w1 ⟨s, rfl, h1, _, _, hb1⟩
  have H1 := Lib.hid (h1 H0.out).2
  clear h1
  go_wp2_with (go_at_call 156; refine (sureT_c _ _ _).mono ?_; rintro e w' ⟨rfl, rfl⟩)
  go_ret
  exact ⟨s, rfl, H1.out, hb1⟩
set_option maxRecDepth 100000 in
theorem exact_c {A1 A2 A3 : Option Addr} {n1 c1 n2 c2 n3 c3 : Nat} (w : World) : Calls Tryz.prog 74 #[cutV A1 n1 c1 A2 n2 c2 A3 n3 c3] w fun e w' => e = .returned (.bool (decide (n2 = 0))) ∧ Below w.heap.size w w' := by
  have m0 := World.alloc_heap_new w (.cells #[.slice A1 n1 c1, .slice A2 n2 c2, .slice A3 n3 c3] 82)
  by_cases h : n2 = 0
  · subst h
    go_enter Tryz.func74, Tryz.ntmps74
    go_wp2
    go_ret
    exact ⟨rfl, (Below.refl _ _).alloc (Nat.le_refl _) _⟩
  · have hn : ((n2 : Int) == 0) = false := by rw [beq_eq_false_iff_ne]; omega
    rw [decide_eq_false h]
    clear h
    go_enter Tryz.func74, Tryz.ntmps74
    go_wp2
    go_ret
    exact ⟨rfl, (Below.refl _ _).alloc (Nat.le_refl _) _⟩
theorem val_odd (xs : List Nat) : val xs % 2 = nth xs 0 % 2 := by
  cases xs with
  | nil => rfl
  | cons x r =>
    show (x + 4294967296 * val r) % 2 = x % 2
    omega
set_option maxRecDepth 100000 in
theorem odd_c {S : Nat → Prop} {A1 A2 A3 : Option Addr} {n1 c1 n2 c2 n3 c3 : Nat} {qs : List Nat} (w : World) (hq : Rd w S A1 n1 qs) (hS : ∀ b, S b → b < w.heap.size) (hn : n1 ≤ 256) :
    Calls Tryz.prog 119 #[cutV A1 n1 c1 A2 n2 c2 A3 n3 c3] w fun e w' => e = .returned (.bool (decide (val qs % 2 = 1))) ∧ Below w.heap.size w w' := by
  rw [val_odd]
  by_cases h : n1 = 0
  · subst h
    have e0 : qs = [] := List.eq_nil_of_length_eq_zero hq.len
    subst e0
    clear hq
    go_enter Tryz.func119, Tryz.ntmps119
    go_wp2
    go_ret
    exact ⟨rfl, (Below.refl _ _).alloc (Nat.le_refl _) _⟩
  · have hpos : 0 < n1 := by omega
    have hb0 : Below w.heap.size w (w.alloc (.cells #[.slice A1 n1 c1, .slice A2 n2 c2, .slice A3 n3 c3] 82)) := (Below.refl _ _).alloc (Nat.le_refl _) _
    obtain ⟨b, off, rfl, _, hc⟩ := (hq.below hb0 hS).at_ hpos
    have hx := hq.lt 0
    rw [Nat.add_zero] at hc
    generalize nth qs 0 = x at *
    have hm : ((x : Int)).tmod 2 = ((x % 2 : Nat) : Int) := by rw [Int.tmod_eq_emod_of_nonneg (by omega)]; omega
    have hne : ((n1 : Int) == 0) = false := by rw [beq_eq_false_iff_ne]; omega
    have hgt : (0 : Int) < (n1 : Int) := by omega
    have hw : IntKind.u32.wrap ((x % 2 : Nat) : Int) = ((x % 2 : Nat) : Int) := IntWalk.u32_in _ (by omega)
    have hfin : Hid (((x : Int) % 2 == 1) = decide (x % 2 = 1)) := by
      show _ = _
      rw [Bool.eq_iff_iff, beq_iff_eq, decide_eq_true_eq]; omega
    clear h hq
    go_enter Tryz.func119, Tryz.ntmps119
    go_wp2
    go_ret
    rw [← hfin.out]
    exact ⟨rfl, (Below.refl _ _).alloc (Nat.le_refl _) _⟩
theorem heldQ {w w' : World} {B b : Nat} (hb : Below B w.drew w') (hB : b < B) {vs : Array Value} {t : TypeId} (h : w.heap[b]? = some (.cells vs t)) : w'.heap[b]? = some (.cells vs t) := (hb.block b hB).trans h
/-- How twice a number stands to another one. -/
def half (r d : Nat) : Int := if 2 * r < d then -1 else if d < 2 * r then 1 else 0
set_option maxRecDepth 100000 in
set_option maxHeartbeats 1000000 in
theorem toHalf_c {S S' : Nat → Prop} {A1 A2 A3 : Option Addr} {n1 c1 n2 c2 n3 c3 : Nat} {rs ds : List Nat} (w : World) (hr : Rd w S A2 n2 rs) (hd : Rd w S' A3 n3 ds) (hS : ∀ b, S b → b < w.heap.size) (hS' : ∀ b, S' b → b < w.heap.size) (fr : Fit rs) (fd : Fit ds) (hv : 2 * val rs < bp 256) :
    Calls Tryz.prog 78 #[cutV A1 n1 c1 A2 n2 c2 A3 n3 c3] w fun e w' => e = .returned (.int .i64 (half (val rs) (val ds))) ∧ Below w.heap.size w w' := by
  have hn2 : n2 ≤ 256 := by rw [← hr.len]; exact fr.len
  have hn3 : n3 ≤ 256 := by rw [← hd.len]; exact fd.len
  have hb0 : Below w.heap.size w (w.alloc (.cells #[.slice A1 n1 c1, .slice A2 n2 c2, .slice A3 n3 c3] 82)) := (Below.refl _ _).alloc (Nat.le_refl _) _
  have m0 := World.alloc_heap_new w (.cells #[.slice A1 n1 c1, .slice A2 n2 c2, .slice A3 n3 c3] 82)
  have hsz : (w.alloc (.cells #[.slice A1 n1 c1, .slice A2 n2 c2, .slice A3 n3 c3] 82)).heap.size = w.heap.size + 1 := by simp
  have hE : binE rs rs (val rs + val rs) = 0 := binE_ok fr.can fr.can fr.len fr.len (by omega)
  have hZ := (binE_zero hr.l32 hr.l32 hE).2.2.2
  have hA := fun V (h : Rd V S A2 n2 rs) (h2 : ∀ b, S b → b < V.heap.size) => Add_c (c := c2) (d := c2) V h h h2 h2 (by omega) (by omega)
  rw [hE, hZ] at hA
  have fl : Fit (lim (val rs + val rs)) := Fit.lim (by omega)
  have hck : chk2 (lim (val rs + val rs)) ds = 0 := chk2_ok fl.can fd.can fl.len fd.len
  have hcm : cmp (lim (val rs + val rs)) ds = half (val rs) (val ds) := by
    rw [cmp_val fl.can fd.can, lim_val]
    unfold half
    rw [show val rs + val rs = 2 * val rs by omega]
  have hC := fun V S1 A' n' c' (h : Rd V S1 A' n' (lim (val rs + val rs))) (h2 : Rd V S' A3 n3 ds) (h3 : n' ≤ 256) => Compare_c (c := c') (d := c3) V h h2 (by omega) (by omega)
  rw [hck, if_pos rfl, hcm] at hC
  have hll : (lim (val rs + val rs)).length ≤ 256 := fl.len
  generalize lim (val rs + val rs) = LL at *
  generalize half (val rs) (val ds) = H at *
  have HA := Lib.hid hA
  have HC := Lib.hid hC
  have HR := Lib.hid hr
  have HD := Lib.hid hd
  have HS := Lib.hid hS
  have HS2 := Lib.hid hS'
  have HB0 := Lib.hid hb0
  have HM0 := Lib.hid m0
  clear hA hC hr hd hS hS' hb0 m0 hE hZ hck hcm
  go_enter Tryz.func78, Tryz.ntmps78
  go_wp2_with fail
  have m0 := HM0.out
  have hb0 := HB0.out
  generalize (w.alloc (.cells #[.slice A1 n1 c1, .slice A2 n2 c2, .slice A3 n3 c3] 82)) = W at m0 hb0 hsz ⊢
  have q1 : W.cell? ⟨w.heap.size, 1, none⟩ = some (.slice A2 n2 c2) := cell_of m0 rfl
  have q2 : W.cell? ⟨w.heap.size, 2, none⟩ = some (.slice A3 n3 c3) := cell_of m0 rfl
  have HB := Lib.hid hb0
  have HMW := Lib.hid m0
  clear HB0 HM0 hb0 m0
  refine wp_region_held_drew (S := fun w' => w'.cell? ⟨w.heap.size, 1, none⟩ = some (.slice A2 n2 c2) ∧ w'.cell? ⟨w.heap.size, 2, none⟩ = some (.slice A3 n3 c3)) (by kernel_rfl) ⟨q1, q2⟩ (fun hHeld => ?_)
  (try simp only [List.size_toArray, List.length_cons, List.length_nil, Nat.reduceAdd, Array.replicate_succ, Array.replicate_zero, List.push_toArray, List.append_toArray, List.nil_append, List.cons_append])
  refine wpAnyH_take (i := 0) (oi := ⟨_, _, _, _, _, _⟩) (v := ?_) rfl (by kernel_rfl) (by kernel_rfl) (by kernel_rfl) (fun _ _ _ h => h) (Or.inl ⟨by rfl, ?_⟩) (by assumption) ?_
  rotate_left
  · intro w hSw
    (try dsimp only at hSw)
    go_split_ands
    go_simp
    try with_reducible rfl
  try simp only [Act.put, List.setIfInBounds_toArray, List.set_cons_zero, List.set_cons_succ]
  refine wpAnyH_take (i := 1) (oi := ⟨_, _, _, _, _, _⟩) (v := ?_) rfl (by kernel_rfl) (by kernel_rfl) (by kernel_rfl) (fun _ _ _ h => h) (Or.inl ⟨by rfl, ?_⟩) (by assumption) ?_
  rotate_left
  · intro w hSw
    (try dsimp only at hSw)
    go_split_ands
    go_simp
    try with_reducible rfl
  try simp only [Act.put, List.setIfInBounds_toArray, List.set_cons_zero, List.set_cons_succ]
  refine wpAnyH_take (i := 2) (oi := ⟨_, _, _, _, _, _⟩) (v := ?_) rfl (by kernel_rfl) (by kernel_rfl) (by kernel_rfl) (fun _ _ _ h => h) (Or.inl ⟨by rfl, ?_⟩) (by assumption) ?_
  rotate_left
  · intro w hSw
    (try dsimp only at hSw)
    go_split_ands
    go_simp
    try with_reducible rfl
  try simp only [Act.put, List.setIfInBounds_toArray, List.set_cons_zero, List.set_cons_succ]
  refine wpAnyH_take (i := 3) (oi := ⟨_, _, _, _, _, _⟩) (v := ?_) rfl (by kernel_rfl) (by kernel_rfl) (by kernel_rfl) (fun _ _ _ h => h) (Or.inl ⟨by rfl, ?_⟩) (by assumption) ?_
  rotate_left
  · intro w hSw
    (try dsimp only at hSw)
    go_split_ands
    go_simp
    try with_reducible rfl
  try simp only [Act.put, List.setIfInBounds_toArray, List.set_cons_zero, List.set_cons_succ]
  refine wpAnyH_take (i := 8) (oi := ⟨_, _, _, _, _, _⟩) (v := ?_) rfl (by kernel_rfl) (by kernel_rfl) (by kernel_rfl) (fun _ _ _ h => h) (Or.inl ⟨by rfl, ?_⟩) (by assumption) ?_
  rotate_left
  · intro w hSw
    (try dsimp only at hSw)
    go_split_ands
    go_simp
    try with_reducible rfl
  try simp only [Act.put, List.setIfInBounds_toArray, List.set_cons_zero, List.set_cons_succ]
  refine wpAnyH_take (i := 9) (oi := ⟨_, _, _, _, _, _⟩) (v := ?_) rfl (by kernel_rfl) (by kernel_rfl) (by kernel_rfl) (fun _ _ _ h => h) (Or.inl ⟨by rfl, ?_⟩) (by assumption) ?_
  rotate_left
  · intro w hSw
    (try dsimp only at hSw)
    go_split_ands
    go_simp
    try with_reducible rfl
  try simp only [Act.put, List.setIfInBounds_toArray, List.set_cons_zero, List.set_cons_succ]
  refine wpAnyH_ready (rs := [4]) (by kernel_rfl) (by simp) (AllReadyH.cons (o := ⟨_, _, _, _, _, _⟩) rfl (fun K hK => ?_) AllReadyH.nil)
  go_simp
  have hrW : Rd W.drew S A2 n2 rs := (HR.out.below HB.out HS.out).drew
  refine (HA.out W.drew hrW (fun b h => by have := HS.out b h; show b < W.heap.size; omega)).mono ?_
  rintro e w1 ⟨A4, n4, c4, rfl, hr4, hb4⟩
  have hn4 : n4 ≤ 256 := by rw [← hr4.len]; exact hll
  have HB1 := Lib.hid (HB.out.trans ((Below.refl W.heap.size W).drew.trans (hb4.mono (Nat.le_refl _)) |>.mono HB.out.size))
  have m1 := heldQ hb4 (show w.heap.size < W.drew.heap.size by show w.heap.size < W.heap.size; omega) HMW.out
  have p1 : w1.cell? ⟨w.heap.size, 1, none⟩ = some (.slice A2 n2 c2) := cell_of m1 rfl
  have p2 : w1.cell? ⟨w.heap.size, 2, none⟩ = some (.slice A3 n3 c3) := cell_of m1 rfl
  have HR4 := Lib.hid hr4
  clear hrW hr4 hb4 m1
  (try dsimp only)
  refine hK.out _ _ ⟨p1, p2⟩ (fun hHeld2 => ?_)
  clear hK K
  try simp only [Act.put, List.setIfInBounds_toArray, List.set_cons_zero, List.set_cons_succ]
  refine wpAnyH_take (i := 5) (oi := ⟨_, _, _, _, _, _⟩) (v := ?_) rfl (by kernel_rfl) (by kernel_rfl) (by kernel_rfl) (fun _ _ _ h => h) (Or.inl ⟨by rfl, ?_⟩) (by assumption) ?_
  rotate_left
  · intro w hSw
    (try dsimp only at hSw)
    go_split_ands
    go_simp
    try with_reducible rfl
  try simp only [Act.put, List.setIfInBounds_toArray, List.set_cons_zero, List.set_cons_succ]
  refine wpAnyH_take (i := 6) (oi := ⟨_, _, _, _, _, _⟩) (v := ?_) rfl (by kernel_rfl) (by kernel_rfl) (by kernel_rfl) (fun _ _ _ h => h) (Or.inl ⟨by rfl, ?_⟩) (by assumption) ?_
  rotate_left
  · intro w hSw
    (try dsimp only at hSw)
    go_split_ands
    go_simp
    try with_reducible rfl
  try simp only [Act.put, List.setIfInBounds_toArray, List.set_cons_zero, List.set_cons_succ]
  refine wpAnyH_ready (rs := [7]) (by kernel_rfl) (by simp) (AllReadyH.cons (o := ⟨_, _, _, _, _, _⟩) rfl (fun K hK => ?_) AllReadyH.nil)
  go_simp
  refine (sureS_c _ _).mono ?_
  rintro e w5 ⟨rfl, rfl⟩
  (try dsimp only)
  refine hK.out _ _ ⟨p1, p2⟩ (fun hHeld3 => ?_)
  clear hK K
  try simp only [Act.put, List.setIfInBounds_toArray, List.set_cons_zero, List.set_cons_succ]
  refine wpAnyH_ready (rs := [10]) (by kernel_rfl) (by simp) (AllReadyH.cons (o := ⟨_, _, _, _, _, _⟩) rfl (fun K hK => ?_) AllReadyH.nil)
  go_simp
  refine (HC.out w1 _ A4 n4 c4 HR4.out.rd (HD.out.below HB1.out HS2.out) hn4).mono ?_
  rintro e w6 ⟨rfl, k, rfl⟩
  (try dsimp only)
  refine hK.out _ _ ⟨by rw [World.cell?_drewN]; exact p1, by rw [World.cell?_drewN]; exact p2⟩ (fun hHeld4 => ?_)
  clear hK K
  try simp only [Act.put, List.setIfInBounds_toArray, List.set_cons_zero, List.set_cons_succ]
  refine wpAnyH_take (i := 11) (oi := ⟨_, _, _, _, _, _⟩) (v := ?_) rfl (by kernel_rfl) (by kernel_rfl) (by kernel_rfl) (fun _ _ _ h => h) (Or.inl ⟨by rfl, ?_⟩) (by assumption) ?_
  rotate_left
  · intro w hSw
    (try dsimp only at hSw)
    go_split_ands
    go_simp
    try with_reducible rfl
  try simp only [Act.put, List.setIfInBounds_toArray, List.set_cons_zero, List.set_cons_succ]
  refine wpAnyH_take (i := 12) (oi := ⟨_, _, _, _, _, _⟩) (v := ?_) rfl (by kernel_rfl) (by kernel_rfl) (by kernel_rfl) (fun _ _ _ h => h) (Or.inl ⟨by rfl, ?_⟩) (by assumption) ?_
  rotate_left
  · intro w hSw
    (try dsimp only at hSw)
    go_split_ands
    go_simp
    try with_reducible rfl
  try simp only [Act.put, List.setIfInBounds_toArray, List.set_cons_zero, List.set_cons_succ]
  refine wpAnyH_ready (rs := [13]) (by kernel_rfl) (by simp) (AllReadyH.cons (o := ⟨_, _, _, _, _, _⟩) rfl (fun K hK => ?_) AllReadyH.nil)
  go_simp
  refine (sureI_c _ _ _).mono ?_
  rintro e w7 ⟨rfl, rfl⟩
  (try dsimp only)
  refine hK.out _ _ ⟨by rw [World.cell?_drewN]; exact p1, by rw [World.cell?_drewN]; exact p2⟩ (fun hHeld5 => ?_)
  clear hK K
  try simp only [Act.put, List.setIfInBounds_toArray, List.set_cons_zero, List.set_cons_succ]
  refine wpAnyH_take (i := 14) (oi := ⟨_, _, _, _, _, _⟩) (v := ?_) rfl (by kernel_rfl) (by kernel_rfl) (by kernel_rfl) (fun _ _ _ h => h) (Or.inl ⟨by rfl, ?_⟩) (by assumption) ?_
  rotate_left
  · intro w hSw
    (try dsimp only at hSw)
    go_split_ands
    go_simp
    try with_reducible rfl
  try simp only [Act.put, List.setIfInBounds_toArray, List.set_cons_zero, List.set_cons_succ]
  refine wpAnyH_done (by kernel_rfl) ?_ _
  go_wp2
  go_ret
  exact ⟨rfl, HB1.out.trans ((⟨rfl, rfl, rfl, Nat.le_refl _, fun _ _ => rfl⟩ : Below w1.heap.size w1 (w1.drewN k)).mono HB1.out.size)⟩
end Go.Proofs.YtbbafggejnjjiaaGreatDoor

namespace Go.Proofs.YtbbafggejnjjiaaGreatDoor
open Go.RowKit

set_option maxRecDepth 100000 in
theorem never_c {A1 A2 A3 : Option Addr} {n1 c1 n2 c2 n3 c3 : Nat} (w : World) : Calls Tryz.prog 70 #[cutV A1 n1 c1 A2 n2 c2 A3 n3 c3] w fun e w' => e = .returned (.bool false) ∧ Below w.heap.size w w' := by
  go_enter Tryz.func70, Tryz.ntmps70
  go_wp2
  go_ret
  exact ⟨rfl, (Below.refl _ _).alloc (Nat.le_refl _) _⟩
/-- Rounded to even at the half. -/
def upE (q r d : Nat) : Bool := decide (0 < half r d) || (decide (half r d = 0) && decide (q % 2 = 1))
set_option maxRecDepth 100000 in
set_option maxHeartbeats 1000000 in
theorem ratio1_c {S1 S S' : Nat → Prop} {A1 A2 A3 : Option Addr} {n1 c1 n2 c2 n3 c3 : Nat} {qs rs ds : List Nat} (w : World) (hq : Rd w S1 A1 n1 qs) (hr : Rd w S A2 n2 rs) (hd : Rd w S' A3 n3 ds) (hS1 : ∀ b, S1 b → b < w.heap.size) (hS : ∀ b, S b → b < w.heap.size) (hS' : ∀ b, S' b → b < w.heap.size) (fq : Fit qs) (fr : Fit rs) (fd : Fit ds) (hv : 2 * val rs < bp 256) :
    Calls Tryz.prog 118 #[cutV A1 n1 c1 A2 n2 c2 A3 n3 c3] w fun e w' => e = .returned (.bool (upE (val qs) (val rs) (val ds))) ∧ Below w.heap.size w w' := by
  have hn1 : n1 ≤ 256 := by rw [← hq.len]; exact fq.len
  have hb0 : Below w.heap.size w (w.alloc (.cells #[.slice A1 n1 c1, .slice A2 n2 c2, .slice A3 n3 c3] 82)) := (Below.refl _ _).alloc (Nat.le_refl _) _
  have m0 := World.alloc_heap_new w (.cells #[.slice A1 n1 c1, .slice A2 n2 c2, .slice A3 n3 c3] 82)
  have hT := toHalf_c (A1 := A1) (n1 := n1) (c1 := c1) (c2 := c2) (c3 := c3) (w.alloc (.cells #[.slice A1 n1 c1, .slice A2 n2 c2, .slice A3 n3 c3] 82)) (hr.below hb0 hS) (hd.below hb0 hS') (fun b h => by have := hS b h; simp; omega) (fun b h => by have := hS' b h; simp; omega) fr fd hv
  have hO := fun V (h : Rd V S1 A1 n1 qs) (h2 : ∀ b, S1 b → b < V.heap.size) => odd_c (A2 := A2) (A3 := A3) (n2 := n2) (c2 := c2) (n3 := n3) (c3 := c3) (c1 := c1) V h h2 hn1
  unfold upE
  have hH : half (val rs) (val ds) = -1 ∨ half (val rs) (val ds) = 0 ∨ half (val rs) (val ds) = 1 := by
    unfold half
    by_cases h1 : 2 * val rs < val ds
    · exact .inl (if_pos h1)
    · rw [if_neg h1]
      by_cases h2 : val ds < 2 * val rs
      · exact .inr (.inr (if_pos h2))
      · exact .inr (.inl (if_neg h2))
  generalize half (val rs) (val ds) = H at *
  generalize decide (val qs % 2 = 1) = OD at *
  have HT := Lib.hid hT
  have HO := Lib.hid hO
  have HQ := Lib.hid hq
  have HS1 := Lib.hid hS1
  have HB0 := Lib.hid hb0
  have HM0 := Lib.hid m0
  clear hT hO hq hr hd hS1 hS hS' hb0 m0
  rcases hH with rfl | rfl | rfl
  all_goals
    go_enter Tryz.func118, Tryz.ntmps118
    go_wp2_with fail
    refine HT.out.mono ?_
    rintro e w1 ⟨rfl, hb1⟩
    have m1 := (hb1.block _ (by simp)).trans HM0.out
    have q0 : w1.cell? ⟨w.heap.size, 0, none⟩ = some (.slice A1 n1 c1) := cell_of m1 rfl
    have q1 : w1.cell? ⟨w.heap.size, 1, none⟩ = some (.slice A2 n2 c2) := cell_of m1 rfl
    have q2 : w1.cell? ⟨w.heap.size, 2, none⟩ = some (.slice A3 n3 c3) := cell_of m1 rfl
    have HB1 := Lib.hid (HB0.out.trans (hb1.mono HB0.out.size))
    clear hb1 m1
  · go_wp2
    go_ret
    exact ⟨rfl, HB1.out⟩
  · go_wp2_with fail
    refine (HO.out w1 (HQ.out.below HB1.out HS1.out) (fun b h => by have := HS1.out b h; have := HB1.out.size; omega)).mono ?_
    rintro e w2 ⟨rfl, hb2⟩
    go_wp2
    go_ret
    exact ⟨by simp, HB1.out.trans (hb2.mono HB1.out.size)⟩
  · go_wp2
    go_ret
    exact ⟨rfl, HB1.out⟩
set_option maxRecDepth 100000 in
set_option maxHeartbeats 1000000 in
theorem divideN_c {S S' : Nat → Prop} {A B : Option Addr} {n m c d : Nat} {xs ys : List Nat} (w : World) (ha : Rd w S A n xs) (hb : Rd w S' B m ys) (hS : ∀ b, S b → b < w.heap.size) (hS' : ∀ b, S' b → b < w.heap.size) (fx : Fit xs) (fy : Fit ys) (hy : 0 < val ys) (hb2 : 2 * val ys < bp 256) (hx2 : val xs + 1 < bp 256) :
    Calls Tryz.prog 116 #[.slice A n c, .slice B m d, .func (.func 70) #[] #[]] w fun e w' => ∃ A' n' c' zs, e = .returned (.slice A' n' c') ∧ Res w' w.heap.size A' n' c' zs ∧ Fit zs ∧ val zs = val xs / val ys + (if false = true then 1 else 0) ∧ Below w.heap.size w w' := by
  obtain ⟨QV, hQV⟩ : ∃ q, q = val xs / val ys + (if false = true then 1 else 0) := ⟨_, rfl⟩
  rw [← hQV]
  have HQV := Lib.hid hQV
  clear hQV
  have hn : n ≤ 256 := by rw [← ha.len]; exact fx.len
  have hm : m ≤ 256 := by rw [← hb.len]; exact fy.len
  have hD := Div_c (c := c) (d := d) w ha hb hS hS' (by omega) (by omega)
  have hE : divE xs ys = 0 := by
    unfold divE
    rw [if_pos (chk2_ok fx.can fy.can fx.len fy.len), if_neg (by intro h; have h2 : ys = [] := List.eq_nil_of_length_eq_zero h; rw [h2] at hy; exact absurd hy (by decide))]
  rw [hE] at hD
  have HD := Lib.hid hD
  have HA := Lib.hid ha
  have HB := Lib.hid hb
  have HS := Lib.hid hS
  have HS2 := Lib.hid hS'
  have HE := Lib.hid hE
  clear hD ha hb hS hS' hE
  go_enter Tryz.func116, Tryz.ntmps116
  go_wp2_with fail
  refine HD.out.mono ?_
  rintro e w1 ⟨A1, n1, c1, qs, A2, n2, c2, rs, rfl, hq, hr, _, hok, hb1⟩
  obtain ⟨cq, cr, hval, hlt⟩ := hok (by first | trivial | rfl | exact HE.out)
  have hdiv : val qs = val xs / val ys ∧ val rs = val xs % val ys := by
    have h1 : val xs = val ys * val qs + val rs := by rw [hval, Nat.mul_comm]
    have := (Nat.div_mod_unique hy).2 ⟨(show val rs + val ys * val qs = val xs by omega), hlt⟩
    exact ⟨this.1.symm, this.2.symm⟩
  have hql : val qs ≤ val xs := by rw [hdiv.1]; exact Nat.div_le_self _ _
  have fq : Fit qs := Fit.of_lt cq (by omega)
  have fr : Fit rs := Fit.of_lt cr (by omega)
  have hn1 : n1 ≤ 256 := by rw [← hq.len]; exact fq.len
  have hS1 : ∀ b, (fun b => w.heap.size ≤ b ∧ b < w1.heap.size) b → b < w1.heap.size := fun b h => h.2
  have HB1 := Lib.hid hb1
  have HQ := Lib.hid hq
  have HV := Lib.hid hdiv.1
  clear hok hb1 hq hr hval hdiv
  go_wp2_with fail
  refine (never_c w1).mono ?_
  rintro e w2 ⟨rfl, hb2'⟩
  have HB2 := Lib.hid (HB1.out.trans (hb2'.mono HB1.out.size))
  have HQ2 := Lib.hid (HQ.out.below hb2' (Nat.le_refl _))
  clear hb2'
  go_wp2
  go_ret
  exact ⟨A1, n1, c1, qs, rfl, HQ2.out, fq, by rw [HV.out, HQV.out]; simp, HB2.out⟩
set_option maxRecDepth 100000 in
set_option maxHeartbeats 1000000 in
theorem divideE_c {S S' : Nat → Prop} {A B : Option Addr} {n m c d : Nat} {xs ys : List Nat} (w : World) (ha : Rd w S A n xs) (hb : Rd w S' B m ys) (hS : ∀ b, S b → b < w.heap.size) (hS' : ∀ b, S' b → b < w.heap.size) (fx : Fit xs) (fy : Fit ys) (hy : 0 < val ys) (hb2 : 2 * val ys < bp 256) (hx2 : val xs + 1 < bp 256) :
    Calls Tryz.prog 116 #[.slice A n c, .slice B m d, .func (.func 118) #[] #[]] w fun e w' => ∃ A' n' c' zs, e = .returned (.slice A' n' c') ∧ Res w' w.heap.size A' n' c' zs ∧ Fit zs ∧ val zs = val xs / val ys + (if upE (val xs / val ys) (val xs % val ys) (val ys) = true then 1 else 0) ∧ Below w.heap.size w w' := by
  obtain ⟨QV, hQV⟩ : ∃ q, q = val xs / val ys + (if upE (val xs / val ys) (val xs % val ys) (val ys) = true then 1 else 0) := ⟨_, rfl⟩
  rw [← hQV]
  have HQV := Lib.hid hQV
  clear hQV
  have hn : n ≤ 256 := by rw [← ha.len]; exact fx.len
  have hm : m ≤ 256 := by rw [← hb.len]; exact fy.len
  have hD := Div_c (c := c) (d := d) w ha hb hS hS' (by omega) (by omega)
  have hE : divE xs ys = 0 := by
    unfold divE
    rw [if_pos (chk2_ok fx.can fy.can fx.len fy.len), if_neg (by intro h; have h2 : ys = [] := List.eq_nil_of_length_eq_zero h; rw [h2] at hy; exact absurd hy (by decide))]
  rw [hE] at hD
  have HD := Lib.hid hD
  have HA := Lib.hid ha
  have HB := Lib.hid hb
  have HS := Lib.hid hS
  have HS2 := Lib.hid hS'
  have HE := Lib.hid hE
  clear hD ha hb hS hS' hE
  go_enter Tryz.func116, Tryz.ntmps116
  go_wp2_with fail
  refine HD.out.mono ?_
  rintro e w1 ⟨A1, n1, c1, qs, A2, n2, c2, rs, rfl, hq, hr, _, hok, hb1⟩
  obtain ⟨cq, cr, hval, hlt⟩ := hok (by first | trivial | rfl | exact HE.out)
  have hdiv : val qs = val xs / val ys ∧ val rs = val xs % val ys := by
    have h1 : val xs = val ys * val qs + val rs := by rw [hval, Nat.mul_comm]
    have := (Nat.div_mod_unique hy).2 ⟨(show val rs + val ys * val qs = val xs by omega), hlt⟩
    exact ⟨this.1.symm, this.2.symm⟩
  have hql : val qs ≤ val xs := by rw [hdiv.1]; exact Nat.div_le_self _ _
  have fq : Fit qs := Fit.of_lt cq (by omega)
  have fr : Fit rs := Fit.of_lt cr (by omega)
  have hn1 : n1 ≤ 256 := by rw [← hq.len]; exact fq.len
  have hS1 : ∀ b, (fun b => w.heap.size ≤ b ∧ b < w1.heap.size) b → b < w1.heap.size := fun b h => h.2
  have hR := ratio1_c (c1 := c1) (c2 := c2) (c3 := d) w1 hq.rd hr.rd (HB.out.below hb1 HS2.out) hS1 hS1 (fun b h => by have := HS2.out b h; have := hb1.size; omega) fq fr fy (by omega)
  rw [hdiv.1, hdiv.2] at hR
  have hv1 := hdiv.1
  have HB1 := Lib.hid hb1
  have HQ := Lib.hid hq
  have HV := Lib.hid hv1
  have HR := Lib.hid hR
  cases hU : upE (val xs / val ys) (val xs % val ys) (val ys) with
  | false =>
    have HU := Lib.hid hU
    rw [hU] at HR
    clear hok hb1 hq hr hval hdiv hv1 hR hU
    go_wp2_with fail
    refine HR.out.mono ?_
    rintro e w2 ⟨rfl, hb2'⟩
    have HB2 := Lib.hid (HB1.out.trans (hb2'.mono HB1.out.size))
    have HQ2 := Lib.hid (HQ.out.below hb2' (Nat.le_refl _))
    clear hb2'
    go_wp2
    go_ret
    exact ⟨A1, n1, c1, qs, rfl, HQ2.out, fq, by rw [HV.out, HQV.out, HU.out]; simp, HB2.out⟩
  | true =>
    have HU := Lib.hid hU
    rw [hU] at HR
    have hql2 : val qs + 1 < bp 256 := by omega
    have HQL := Lib.hid hql2
    clear hok hb1 hq hr hval hdiv hv1 hR hU
    go_wp2_with fail
    refine HR.out.mono ?_
    rintro e w2 ⟨rfl, hb2'⟩
    have HB2 := Lib.hid (HB1.out.trans (hb2'.mono HB1.out.size))
    have HQ2 := Lib.hid (HQ.out.below hb2' (Nat.le_refl _))
    clear hb2'
    go_wp2_with fail
    refine (From_c 1 w2 (by decide)).mono ?_
    rintro e w3 ⟨A3, n3, c3, zs, rfl, hr3, hc3, hv3, hb3⟩
    have f1 : Fit zs := Fit.of_lt hc3 (by omega)
    have hn3 : n3 ≤ 256 := by rw [← hr3.len]; exact f1.len
    have hE2 := binE_ok fq.can f1.can fq.len f1.len (v := val qs + val zs) (by rw [hv3]; exact HQL.out)
    have hZ2 := (binE_zero fq.can.1 f1.can.1 hE2).2.2.2
    have hAd := Add_c (c := c1) (d := c3) w3 (HQ2.out.below hb3 (Nat.le_refl _)).rd hr3.rd (fun b h => h.2) (fun b h => h.2) (by omega) (by omega)
    rw [hE2, hZ2, hv3] at hAd
    have HAD := Lib.hid hAd
    have HB3 := Lib.hid (HB2.out.trans (hb3.mono HB2.out.size))
    have HF := Lib.hid (Fit.lim HQL.out)
    clear hr3 hc3 hv3 hb3 hE2 hZ2 hAd
    go_wp2_with fail
    refine HAD.out.mono ?_
    rintro e w4 ⟨A4, n4, c4, rfl, hr4, hb4⟩
    have HR4 := Lib.hid (hr4.more HB3.out.size)
    have HB4 := Lib.hid (HB3.out.trans (hb4.mono HB3.out.size))
    clear hr4 hb4
    go_wp2_with (go_at_call 126; refine (sureS_c _ _).mono ?_; rintro e w' ⟨rfl, rfl⟩)
    go_ret
    exact ⟨A4, n4, c4, _, rfl, HR4.out, HF.out, by rw [lim_val, HV.out, HQV.out, HU.out]; simp, HB4.out⟩
end Go.Proofs.YtbbafggejnjjiaaGreatDoor
