/-
  A quotient rounded to the nearest, the place of its first digit, a root's places; digits as texts stand in the order of fractions. Plain lemmas, no Go.
  Contract of quot.ratio: the quotient of two decimals that may be, the second not 0, rounded and settled. Written by gen_ratio.py.
  Contracts of quot.divide with each of the questions that Floor, Ceil and Round hand in, and of quot.whole with each. Written by gen_whole.py.
  Contract of quot.root: the root of a decimal that may be, cut and settled. Written by gen_root.py.
-/
import Derived.Test.YtobfeneeehmpcaaGreatDoorYDsett
import Derived.Test.YtobfeneeehmpcaaGreatDoorYVord
import Derived.Deep.CutRange
import Derived.Laws.Cover1
import Derived.Test.YtobfeneeehmpcaaGreatDoorYNdiv
set_option linter.unusedVariables false
set_option linter.unusedSimpArgs false
namespace Go.Proofs.YtobfeneeehmpcaaGreatDoor

/-- The number that digits tell, the highest first. -/
def hv : List Nat → Nat
  | [] => 0
  | x :: r => x * 10 ^ r.length + hv r
theorem wd_pos {v : Nat} (h : 0 < v) (p : Int) : 0 < wd v p := Nat.mul_pos h (Nat.pow_pos (by omega))
theorem wd_lt {v k t : Nat} {p : Int} (h : v < 10 ^ k) (hp : p ≤ (t : Int)) : wd v p < 10 ^ (k + t) := by
  unfold wd
  rw [Nat.pow_add]
  exact Nat.mul_lt_mul_of_lt_of_le h (Nat.pow_le_pow_right (by omega) (by omega)) (Nat.pow_pos (by omega))
theorem ten_bp2 {v k : Nat} (h : v < 10 ^ k) (hk : k ≤ 2000) : 2 * v < bp 256 ∧ v + 1 < bp 256 ∧ v < bp 256 := by
  have h1 : 10 ^ (k + 1) < bp 256 := ten_bp (by omega)
  rw [Nat.pow_succ] at h1
  omega
end Go.Proofs.YtobfeneeehmpcaaGreatDoor

namespace Go.Proofs.YtobfeneeehmpcaaGreatDoor
open Go.RowKit

theorem seE_fit {xs : List Nat} {exp : Int} (h : Fit xs) (h1 : -4000 ≤ exp) (h2 : exp ≤ 4000) : seE xs exp = 0 := by
  unfold seE
  rw [chk_can h.can h.len, if_pos rfl, if_pos ⟨h1, h2⟩]
/-- What Settle answers of a number that fits. -/
theorem SetT.told {e : Ending} {w' : World} {base : Nat} {neg : Bool} {xs : List Nat} {exp : Int} (h : SetT e w' base neg xs exp) (hf : Fit xs) (h1 : -4000 ≤ exp) (h2 : exp ≤ 4000) : Told e w' base 0 neg (val xs) exp := by
  have h0 := seE_fit hf h1 h2
  unfold SetT sN sX sZ sE at h
  rw [if_pos h0, if_pos h0, if_pos h0, if_pos h0] at h
  unfold Told opN opX opZ opE
  rw [if_pos rfl, if_pos rfl, if_pos rfl, if_pos rfl]
  exact h
end Go.Proofs.YtobfeneeehmpcaaGreatDoor

namespace Go.Proofs.YtobfeneeehmpcaaGreatDoor
open Go.RowKit

set_option maxRecDepth 100000 in
theorem floor1_c {A1 A2 A3 A0 : Option Addr} {n1 c1 n2 c2 n3 c3 n0 c0 pa : Nat} {na : Bool} {e0 : Int} (w : World) (mp : w.heap[pa]? = some (.cells #[.bool na, .slice A0 n0 c0, .int .i64 e0] 24)) :
    Calls Tryz.prog 48 #[cutV A1 n1 c1 A2 n2 c2 A3 n3 c3, .pointer (some ⟨pa, 0, none⟩)] w fun e w' => e = .returned (.bool (na && !decide (n2 = 0))) ∧ Below w.heap.size w w' := by
  have mq := heldA (.cells #[.slice A1 n1 c1, .slice A2 n2 c2, .slice A3 n3 c3] 75) mp
  have m0 := World.alloc_heap_new w (.cells #[.slice A1 n1 c1, .slice A2 n2 c2, .slice A3 n3 c3] 75)
  have hB : Below w.heap.size w (w.alloc (.cells #[.slice A1 n1 c1, .slice A2 n2 c2, .slice A3 n3 c3] 75)) := (Below.refl _ _).alloc (Nat.le_refl _) _
  have p0 : (w.alloc (.cells #[.slice A1 n1 c1, .slice A2 n2 c2, .slice A3 n3 c3] 75)).cell? ⟨pa, 0, none⟩ = some (.bool na) := cell_of mq rfl
  obtain ⟨r0, r1, r2⟩ := box3_of m0
  have HE := Lib.hid (fun V => exact_c (A1 := A1) (n1 := n1) (c1 := c1) (A2 := A2) (n2 := n2) (c2 := c2) (A3 := A3) (n3 := n3) (c3 := c3) V)
  have HB := Lib.hid hB
  clear mq m0 mp hB
  generalize decide (n2 = 0) = Z at *
  cases na
  all_goals
    go_enter Tryz.func48, Tryz.ntmps48
    go_wp2_with fail
    first
    | (go_ret; exact ⟨rfl, HB.out⟩)
    | (refine (HE.out _).mono ?_
       rintro e w1 ⟨rfl, hb1⟩
       go_wp2
       go_ret
       exact ⟨by cases Z <;> rfl, HB.out.trans (hb1.mono HB.out.size)⟩)

set_option maxRecDepth 100000 in
set_option maxHeartbeats 1000000 in
theorem divideF_c {pa n0 c0 : Nat} {A0 : Option Addr} {na : Bool} {e0 : Int} {S S' : Nat → Prop} {A B : Option Addr} {n m c d : Nat} {xs ys : List Nat} (w : World) (mp : w.heap[pa]? = some (.cells #[.bool na, .slice A0 n0 c0, .int .i64 e0] 24)) (ha : Rd w S A n xs) (hb : Rd w S' B m ys) (hS : ∀ b, S b → b < w.heap.size) (hS' : ∀ b, S' b → b < w.heap.size) (fx : Fit xs) (fy : Fit ys) (hy : 0 < val ys) (hb2 : 2 * val ys < bp 256) (hx2 : val xs + 1 < bp 256) :
    Calls Tryz.prog 101 #[.slice A n c, .slice B m d, .func (.func 48) #[] #[.pointer (some ⟨pa, 0, none⟩)]] w fun e w' => ∃ A' n' c' zs, e = .returned (.slice A' n' c') ∧ Res w' w.heap.size A' n' c' zs ∧ Fit zs ∧ val zs = val xs / val ys + (if (na && !decide (val xs % val ys = 0)) = true then 1 else 0) ∧ Below w.heap.size w w' := by
  obtain ⟨QV, hQV⟩ : ∃ q, q = val xs / val ys + (if (na && !decide (val xs % val ys = 0)) = true then 1 else 0) := ⟨_, rfl⟩
  rw [← hQV]
  have HQV := Lib.hid hQV
  clear hQV
  have hn : n ≤ 256 := by rw [← ha.len]; exact fx.len
  have hm : m ≤ 256 := by rw [← hb.len]; exact fy.len
  have hD := Div_c (c := c) (d := d) w ha hb hS hS' (by omega) (by omega)
  have hE : divE xs ys = 0 := by
    unfold divE
    rw [if_pos (chk2_ok fx.can fy.can fx.len fy.len), if_neg (by intro h; have h2 : ys = [] := List.eq_nil_of_length_eq_zero h; rw [h2] at hy; exact absurd hy (by decide))]
  rw [hE] at hD
  have HD := Lib.hid hD
  have HA := Lib.hid ha
  have HB := Lib.hid hb
  have HS := Lib.hid hS
  have HS2 := Lib.hid hS'
  have HE := Lib.hid hE
  clear hD ha hb hS hS' hE
  go_enter Tryz.func101, Tryz.ntmps101
  go_wp2_with fail
  refine HD.out.mono ?_
  rintro e w1 ⟨A1, n1, c1, qs, A2, n2, c2, rs, rfl, hq, hr, _, hok, hb1⟩
  obtain ⟨cq, cr, hval, hlt⟩ := hok (by first | trivial | rfl | exact HE.out)
  have hdiv : val qs = val xs / val ys ∧ val rs = val xs % val ys := by
    have h1 : val xs = val ys * val qs + val rs := by rw [hval, Nat.mul_comm]
    have := (Nat.div_mod_unique hy).2 ⟨(show val rs + val ys * val qs = val xs by omega), hlt⟩
    exact ⟨this.1.symm, this.2.symm⟩
  have hql : val qs ≤ val xs := by rw [hdiv.1]; exact Nat.div_le_self _ _
  have fq : Fit qs := Fit.of_lt cq (by omega)
  have fr : Fit rs := Fit.of_lt cr (by omega)
  have hn1 : n1 ≤ 256 := by rw [← hq.len]; exact fq.len
  have hS1 : ∀ b, (fun b => w.heap.size ≤ b ∧ b < w1.heap.size) b → b < w1.heap.size := fun b h => h.2
  have hR := floor1_c (A1 := A1) (n1 := n1) (c1 := c1) (A2 := A2) (n2 := n2) (c2 := c2) (A3 := B) (n3 := m) (c3 := d) w1 (heldz hb1 mp)
  have hn20 : decide (n2 = 0) = decide (val xs % val ys = 0) := by
    rw [decide_eq_decide, ← hdiv.2, ← hr.len]
    constructor
    · intro h; rw [List.eq_nil_of_length_eq_zero h]; rfl
    · intro h; rw [cr.val_zero h]; rfl
  rw [hn20] at hR
  have hv1 := hdiv.1
  have HB1 := Lib.hid hb1
  have HQ := Lib.hid hq
  have HV := Lib.hid hv1
  have HR := Lib.hid hR
  cases hU : (na && !decide (val xs % val ys = 0)) with
  | false =>
    have HU := Lib.hid hU
    rw [hU] at HR
    clear hok hb1 hq hr hval hdiv hv1 hR hU hn20
    go_wp2_with fail
    refine HR.out.mono ?_
    rintro e w2 ⟨rfl, hb2'⟩
    have HB2 := Lib.hid (HB1.out.trans (hb2'.mono HB1.out.size))
    have HQ2 := Lib.hid (HQ.out.below hb2' (Nat.le_refl _))
    clear hb2'
    go_wp2
    go_ret
    exact ⟨A1, n1, c1, qs, rfl, HQ2.out, fq, by rw [HV.out, HQV.out, HU.out]; simp, HB2.out⟩
  | true =>
    have HU := Lib.hid hU
    rw [hU] at HR
    have hql2 : val qs + 1 < bp 256 := by omega
    have HQL := Lib.hid hql2
    clear hok hb1 hq hr hval hdiv hv1 hR hU hn20
    go_wp2_with fail
    refine HR.out.mono ?_
    rintro e w2 ⟨rfl, hb2'⟩
    have HB2 := Lib.hid (HB1.out.trans (hb2'.mono HB1.out.size))
    have HQ2 := Lib.hid (HQ.out.below hb2' (Nat.le_refl _))
    clear hb2'
    go_wp2_with fail
    refine (From_c 1 w2 (by decide)).mono ?_
    rintro e w3 ⟨A3, n3, c3, zs, rfl, hr3, hc3, hv3, hb3⟩
    have f1 : Fit zs := Fit.of_lt hc3 (by omega)
    have hn3 : n3 ≤ 256 := by rw [← hr3.len]; exact f1.len
    have hE2 := binE_ok fq.can f1.can fq.len f1.len (v := val qs + val zs) (by rw [hv3]; exact HQL.out)
    have hZ2 := (binE_zero fq.can.1 f1.can.1 hE2).2.2.2
    have hAd := Add_c (c := c1) (d := c3) w3 (HQ2.out.below hb3 (Nat.le_refl _)).rd hr3.rd (fun b h => h.2) (fun b h => h.2) (by omega) (by omega)
    rw [hE2, hZ2, hv3] at hAd
    have HAD := Lib.hid hAd
    have HB3 := Lib.hid (HB2.out.trans (hb3.mono HB2.out.size))
    have HF := Lib.hid (Fit.lim HQL.out)
    clear hr3 hc3 hv3 hb3 hE2 hZ2 hAd
    go_wp2_with fail
    refine HAD.out.mono ?_
    rintro e w4 ⟨A4, n4, c4, rfl, hr4, hb4⟩
    have HR4 := Lib.hid (hr4.more HB3.out.size)
    have HB4 := Lib.hid (HB3.out.trans (hb4.mono HB3.out.size))
    clear hr4 hb4
    go_wp2_with (go_at_call 130; refine (sureS_c _ _).mono ?_; rintro e w' ⟨rfl, rfl⟩)
    go_ret
    exact ⟨A4, n4, c4, _, rfl, HR4.out, HF.out, by rw [lim_val, HV.out, HQV.out, HU.out]; simp, HB4.out⟩

/-- A decimal's whole part. -/
def wq (v : Nat) (e : Int) : Nat := wd v e / wd 1 (-e)
def wr (v : Nat) (e : Int) : Nat := wd v e % wd 1 (-e)

set_option maxRecDepth 100000 in
set_option maxHeartbeats 2000000 in
theorem wholeF_c {pa n0 c0 : Nat} {A0 : Option Addr} {na : Bool} {e0 : Int} {S : Nat → Prop} {n c : Nat} {A : Option Addr} {xs : List Nat} (ng : Bool) (e1 : Int) (w : World) (mp : w.heap[pa]? = some (.cells #[.bool na, .slice A0 n0 c0, .int .i64 e0] 24)) (ha : Rd w S A n xs) (hS : ∀ b, S b → b < w.heap.size) (fx : Fit xs) (he : -1900 ≤ e1 ∧ e1 ≤ 1900) (hx : wd (val xs) e1 + 1 < bp 256) :
    Calls Tryz.prog 70 #[dv ng A n c e1, .func (.func 48) #[] #[.pointer (some ⟨pa, 0, none⟩)]] w fun e w' => ∃ A' n' c' zs, e = .returned (.slice A' n' c') ∧ Res w' w.heap.size A' n' c' zs ∧ Fit zs ∧ val zs = wq (val xs) e1 + (if (na && !decide (wr (val xs) e1 = 0)) = true then 1 else 0) ∧ Below w.heap.size w w' := by
  obtain ⟨QV, hQV⟩ : ∃ q, Hid (q = wq (val xs) e1 + (if (na && !decide (wr (val xs) e1 = 0)) = true then 1 else 0)) := ⟨_, Lib.hid rfl⟩
  rw [← hQV.out]
  obtain ⟨he1, he2⟩ := he
  obtain ⟨K, hK⟩ : ∃ K : Nat, K = 1950 := ⟨_, rfl⟩
  have h10 := ten_bp2 (v := wd 1 (-e1)) (k := K) (by unfold wd; rw [Nat.one_mul]; exact Nat.pow_lt_pow_right (by omega) (by omega)) (by omega)
  have HL3 := Lib.hid h10.2.2
  have HL2 := Lib.hid h10.1
  have HL1 := Lib.hid hx
  have HP := Lib.hid (wd_pos (v := 1) (by omega) (-e1))
  have H1B := Lib.hid (show 1 < bp 256 by have := h10.2.2; have := wd_pos (v := 1) (by omega) (-e1); omega)
  have HW1 := Lib.hid (fun V (h1 : Rd V S A n xs) hs => qwiden_c (c := c) e1 V h1 hs fx ⟨by omega, by omega⟩ (by omega))
  have up : ∀ {V : World}, Below w.heap.size w V → ∀ b, b < w.heap.size → b < V.heap.size := fun h b hb => by have := h.size; omega
  have hW : Below w.heap.size w (w.alloc (.cells #[.bool ng, .slice A n c, .int .i64 e1] 24)) := (Below.refl _ _).alloc (Nat.le_refl _) _
  have ma := World.alloc_heap_new w (.cells #[.bool ng, .slice A n c, .int .i64 e1] 24)
  have mp := heldA (.cells #[.bool ng, .slice A n c, .int .i64 e1] 24) mp
  clear h10 hx
  unfold dv
  go_enter Tryz.func70, Tryz.ntmps70
  go_wp2_with fail
  generalize w.alloc (.cells #[.bool ng, .slice A n c, .int .i64 e1] 24) = W at ma hW mp ⊢
  have q1 : W.cell? ⟨w.heap.size, 1, none⟩ = some (.slice A n c) := cell_of ma rfl
  have q2 : W.cell? ⟨w.heap.size, 2, none⟩ = some (.int .i64 e1) := cell_of ma rfl
  refine wp_region_held_drew (S := fun w' => w'.cell? ⟨w.heap.size, 1, none⟩ = some (.slice A n c) ∧ w'.cell? ⟨w.heap.size, 2, none⟩ = some (.int .i64 e1)) (by kernel_rfl) ⟨q1, q2⟩ (fun hHeld => ?_)
  (try simp only [List.size_toArray, List.length_cons, List.length_nil, Nat.reduceAdd, Array.replicate_succ, Array.replicate_zero, List.push_toArray, List.append_toArray, List.nil_append, List.cons_append])
  refine wpAnyH_take (i := 0) (oi := ⟨_, _, _, _, _, _⟩) (v := ?_) rfl (by kernel_rfl) (by kernel_rfl) (by kernel_rfl) (fun _ _ _ h => h) (Or.inl ⟨by rfl, ?_⟩) (by assumption) ?_
  rotate_left
  · intro w hSw
    (try dsimp only at hSw)
    go_split_ands
    go_simp
    try with_reducible rfl
  try simp only [Act.put, List.setIfInBounds_toArray, List.set_cons_zero, List.set_cons_succ]
  refine wpAnyH_take (i := 1) (oi := ⟨_, _, _, _, _, _⟩) (v := ?_) rfl (by kernel_rfl) (by kernel_rfl) (by kernel_rfl) (fun _ _ _ h => h) (Or.inl ⟨by rfl, ?_⟩) (by assumption) ?_
  rotate_left
  · intro w hSw
    (try dsimp only at hSw)
    go_split_ands
    go_simp
    try with_reducible rfl
  try simp only [Act.put, List.setIfInBounds_toArray, List.set_cons_zero, List.set_cons_succ]
  refine wpAnyH_take (i := 2) (oi := ⟨_, _, _, _, _, _⟩) (v := ?_) rfl (by kernel_rfl) (by kernel_rfl) (by kernel_rfl) (fun _ _ _ h => h) (Or.inl ⟨by rfl, ?_⟩) (by assumption) ?_
  rotate_left
  · intro w hSw
    (try dsimp only at hSw)
    go_split_ands
    go_simp
    try with_reducible rfl
  try simp only [Act.put, List.setIfInBounds_toArray, List.set_cons_zero, List.set_cons_succ]
  refine wpAnyH_take (i := 3) (oi := ⟨_, _, _, _, _, _⟩) (v := ?_) rfl (by kernel_rfl) (by kernel_rfl) (by kernel_rfl) (fun _ _ _ h => h) (Or.inl ⟨by rfl, ?_⟩) (by assumption) ?_
  rotate_left
  · intro w hSw
    (try dsimp only at hSw)
    go_split_ands
    go_simp
    try with_reducible rfl
  try simp only [Act.put, List.setIfInBounds_toArray, List.set_cons_zero, List.set_cons_succ]
  refine wpAnyH_take (i := 6) (oi := ⟨_, _, _, _, _, _⟩) (v := ?_) rfl (by kernel_rfl) (by kernel_rfl) (by kernel_rfl) (fun _ _ _ h => h) (Or.inl ⟨by rfl, ?_⟩) (by assumption) ?_
  rotate_left
  · intro w hSw
    (try dsimp only at hSw)
    go_split_ands
    go_simp
    try with_reducible rfl
  try simp only [Act.put, List.setIfInBounds_toArray, List.set_cons_zero, List.set_cons_succ]
  refine wpAnyH_take (i := 7) (oi := ⟨_, _, _, _, _, _⟩) (v := ?_) rfl (by kernel_rfl) (by kernel_rfl) (by kernel_rfl) (fun _ _ _ h => h) (Or.inl ⟨by rfl, ?_⟩) (by assumption) ?_
  rotate_left
  · intro w hSw
    (try dsimp only at hSw)
    go_split_ands
    go_simp
    try with_reducible rfl
  try simp only [Act.put, List.setIfInBounds_toArray, List.set_cons_zero, List.set_cons_succ]
  refine wpAnyH_take (i := 8) (oi := ⟨_, _, _, _, _, _⟩) (v := ?_) rfl (by kernel_rfl) (by kernel_rfl) (by kernel_rfl) (fun _ _ _ h => h) (Or.inl ⟨by rfl, ?_⟩) (by assumption) ?_
  rotate_left
  · intro w hSw
    (try dsimp only at hSw)
    go_split_ands
    go_simp
    try with_reducible rfl
  try simp only [Act.put, List.setIfInBounds_toArray, List.set_cons_zero, List.set_cons_succ]
  refine wpAnyH_take (i := 10) (oi := ⟨_, _, _, _, _, _⟩) (v := ?_) rfl (by kernel_rfl) (by kernel_rfl) (by kernel_rfl) (fun _ _ _ h => h) (Or.inl ⟨by rfl, ?_⟩) (by assumption) ?_
  rotate_left
  · intro w hSw
    (try dsimp only at hSw)
    go_split_ands
    go_simp
    try with_reducible rfl
  try simp only [Act.put, List.setIfInBounds_toArray, List.set_cons_zero, List.set_cons_succ]
  have ma : W.drew.heap[w.heap.size]? = _ := ma
  have mp : W.drew.heap[pa]? = _ := mp
  have hB : Below w.heap.size w W.drew := only_drewB hW
  generalize hV0 : W.drew = V0 at *
  clear hV0 q1 q2
  refine wpAnyH_ready (rs := [4]) (by kernel_rfl) (by simp) ?_
  refine (AllReadyH.cons (o := ⟨_, _, _, _, _, _⟩) rfl (fun K hK => ?_) AllReadyH.nil)
  go_simp
  refine (HW1.out V0 (ha.below hB hS) (fun b h => up hB b (hS b h))).mono ?_
  rintro e V1 ⟨A1, n1, c1, z1, rfl, r1, f1, v1, hb0⟩
  have r1 := r1.more (base' := w.heap.size) hB.size
  have ma := heldz hb0 ma
  have mp := heldz hb0 mp
  have hB := hB.trans (hb0.mono hB.size)
  obtain ⟨x0, x1, x2⟩ := box3_of ma
  (try dsimp only)
  refine hK.out _ _ ⟨x1, x2⟩ (fun hHeld => ?_)
  clear hK K
  try simp only [Act.put, List.setIfInBounds_toArray, List.set_cons_zero, List.set_cons_succ]
  clear hb0 x0 x1 x2
  refine wpAnyH_ready (rs := [5]) (by kernel_rfl) (by simp) ?_
  refine (AllReadyH.cons (o := ⟨_, _, _, _, _, _⟩) rfl (fun K hK => ?_) AllReadyH.nil)
  go_simp
  refine (From_c 1 V1 (by decide)).mono ?_
  rintro e V2 ⟨A2, n2, c2, z2, rfl, r2, g2, v2, hb0⟩
  have f2 : Fit z2 := Fit.of_lt g2 (by rw [v2]; exact H1B.out)
  have r1 := r1.below hb0 (Nat.le_refl _)
  have ma := heldz hb0 ma
  have mp := heldz hb0 mp
  have hBs := hB.size
  have r2 := r2.more (base' := w.heap.size) hBs
  have hB := hB.trans (hb0.mono hB.size)
  obtain ⟨x0, x1, x2⟩ := box3_of ma
  (try dsimp only)
  refine hK.out _ _ ⟨x1, x2⟩ (fun hHeld => ?_)
  clear hK K
  try simp only [Act.put, List.setIfInBounds_toArray, List.set_cons_zero, List.set_cons_succ]
  clear hb0 x0 x1 x2
  clear hBs
  refine wpAnyH_ready (rs := [9]) (by kernel_rfl) (by simp) ?_
  refine (AllReadyH.cons (o := ⟨_, _, _, _, _, _⟩) rfl (fun K hK => ?_) AllReadyH.nil)
  go_simp
  rw [show IntKind.i64.wrap (-e1) = -e1 from IntWalk.i64_in _ (by omega)]
  refine (qwiden_c (c := c2) (-e1) V2 r2.rd (fun b h => h.2) f2 ⟨by omega, by omega⟩ (by rw [v2]; exact HL3.out)).mono ?_
  rintro e V3 ⟨A3, n3, c3, z3, rfl, r3, f3, v3, hb0⟩
  rw [v2] at v3
  have r1 := r1.below hb0 (Nat.le_refl _)
  have ma := heldz hb0 ma
  have mp := heldz hb0 mp
  have hBs := hB.size
  have r3 := r3.more (base' := w.heap.size) hBs
  have hB := hB.trans (hb0.mono hB.size)
  obtain ⟨x0, x1, x2⟩ := box3_of ma
  (try dsimp only)
  refine hK.out _ _ ⟨x1, x2⟩ (fun hHeld => ?_)
  clear hK K
  try simp only [Act.put, List.setIfInBounds_toArray, List.set_cons_zero, List.set_cons_succ]
  clear hb0 x0 x1 x2
  clear hBs
  refine wpAnyH_ready (rs := [11]) (by kernel_rfl) (by simp) ?_
  refine (AllReadyH.cons (o := ⟨_, _, _, _, _, _⟩) rfl (fun K hK => ?_) AllReadyH.nil)
  go_simp
  refine (divideF_c (c := c1) (d := c3) V3 mp r1.rd r3.rd (fun b h => h.2) (fun b h => h.2) f1 f3 (by rw [v3]; exact HP.out) (by rw [v3]; exact HL2.out) (by rw [v1]; exact HL1.out)).mono ?_
  rintro e V4 ⟨A4, n4, c4, z4, rfl, r4, f4, v4, hb0⟩
  rw [v1, v3] at v4
  have r4 := r4.more (base' := w.heap.size) hB.size
  have ma := heldz hb0 ma
  have hB := hB.trans (hb0.mono hB.size)
  obtain ⟨x0, x1, x2⟩ := box3_of ma
  (try dsimp only)
  refine hK.out _ _ ⟨x1, x2⟩ (fun hHeld => ?_)
  clear hK K
  try simp only [Act.put, List.setIfInBounds_toArray, List.set_cons_zero, List.set_cons_succ]
  clear hb0 x0 x1 x2
  refine wpAnyH_take (i := 12) (oi := ⟨_, _, _, _, _, _⟩) (v := ?_) rfl (by kernel_rfl) (by kernel_rfl) (by kernel_rfl) (fun _ _ _ h => h) (Or.inl ⟨by rfl, ?_⟩) (by assumption) ?_
  rotate_left
  · intro w hSw
    (try dsimp only at hSw)
    go_split_ands
    go_simp
    try with_reducible rfl
  try simp only [Act.put, List.setIfInBounds_toArray, List.set_cons_zero, List.set_cons_succ]
  refine wpAnyH_done (by kernel_rfl) ?_ _
  go_wp2
  go_ret
  exact ⟨A4, n4, c4, z4, rfl, r4, f4, v4.trans hQV.out.symm, hB⟩

end Go.Proofs.YtobfeneeehmpcaaGreatDoor
