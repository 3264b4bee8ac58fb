/-
  What the walks of quot's laws share: answers that may always be, the reference's Abs, and the laws' numbers.
-/
import Derived.Test.YtbbafggejnjjiaaGreatDoorQalive
import Derived.Test.YtbbafggejnjjiaaGreatDoorDtold
import Derived.Test.YtbbafggejnjjiaaGreatDoorDrck
import Derived.Test.YtbbafggejnjjiaaGreatDoorDq
set_option linter.unusedVariables false
set_option linter.unusedSimpArgs false
namespace Go.Proofs.YtbbafggejnjjiaaGreatDoor
open Go.RowKit

theorem dOf_len_eqq {ds : List Nat} (h : DCan ds) : ds.length = (dOf (dval ds)).length := by rw [← eq_dOf h]
theorem Rd.step {V V' : World} {A : Option Addr} {n : Nat} {L : List Nat} (h : Rd V (fun b => b < V.heap.size) A n L) (hb : Below V.heap.size V V') : Rd V' (fun b => b < V'.heap.size) A n L :=
  (h.below hb (fun b h => h)).more (fun b h => Nat.lt_of_lt_of_le h hb.size)
theorem Res.all {V : World} {base : Nat} {A : Option Addr} {n c : Nat} {L : List Nat} (h : Res V base A n c L) : Rd V (fun b => b < V.heap.size) A n L := h.rd.more (fun b h => h.2)
theorem Res.small {V : World} {base : Nat} {A : Option Addr} {n c : Nat} {L : List Nat} (h : Res V base A n c L) : n ≤ 9223372036854775807 := by have h1 := h.n_le; unfold maxLen at h1; omega
/-- An answer may always be: beside an error it is 0. -/
theorem told_ok {e : Ending} {w' : World} {base E0 : Nat} {s : Bool} {Z : Nat} {lo : Int} (h : Told e w' base E0 s Z lo) (hlo : E0 = 0 → -5000 ≤ lo) :
    ∃ A n c N X L E, e = .returned (.tuple #[dv N A n c X, .int .i64 ((E : Nat) : Int)]) ∧ Rd w' (fun b => b < w'.heap.size) A n L ∧ n ≤ 9223372036854775807 ∧ okB N L X = true ∧ (E0 ≠ 0 → E ≠ 0) ∧ (E ≠ 0 → L = []) ∧
      (E = 0 → sv N (val L) X = sg s Z * (sp lo : Int) ∧ (0 < Z → lo ≤ X)) := by
  by_cases h0 : E0 = 0
  · obtain ⟨A, n, c, N, X, L, E, he, hr, hc⟩ := told_cases h (hlo h0)
    refine ⟨A, n, c, N, X, L, E, he, hr.all, hr.small, ?_⟩
    rcases hc with ⟨h0, h1, _, _, _, _, o, _, hv, hx⟩ | ⟨h1, h2, h3, h4, _, _⟩
    · exact ⟨o, fun h => absurd h0 h, fun h => absurd h1 h, fun _ => ⟨hv, hx⟩⟩
    · subst h2 h3 h4
      exact ⟨by decide, fun _ => h1, fun _ => rfl, fun h => absurd h h1⟩
  · obtain ⟨A, n, c, rfl, hr⟩ := h
    rw [show opZ E0 Z lo = [] from if_neg h0] at hr
    rw [show opN E0 s Z lo = false from if_neg h0, show opX E0 Z lo = 0 from if_neg h0, show opE E0 Z lo = E0 from if_neg h0]
    exact ⟨A, n, c, false, 0, [], E0, rfl, hr.all, hr.small, by decide, fun _ => h0, fun _ => rfl, fun h => absurd h h0⟩
theorem okB_false {neg : Bool} {xs : List Nat} {e : Int} (h : okB neg xs e = true) : okB false xs e = true := by
  unfold okB at *
  rw [Bool.and_eq_true, Bool.and_eq_true] at *
  refine ⟨h.1, h.2.1, ?_⟩
  have h2 := h.2.2
  by_cases h0 : xs.length = 0
  · rw [if_pos h0] at *
    rw [Bool.and_eq_true] at *
    exact ⟨rfl, h2.2⟩
  · rw [if_neg h0] at *
    exact h2
theorem sg_diff {s : Bool} {x y : Nat} {v : Nat} {N : Bool} {e : Int} (h : sv N v e = sg s x - sg s y) : v * sp e = x - y ∨ v * sp e = y - x := by
  have h1 : (v * sp e : Nat) = (sg s x - sg s y).natAbs := by rw [← h]; unfold sv; rw [sg_natAbs]
  rw [h1]
  unfold sg
  cases s <;> simp <;> omega
/-- A quotient times the divisor misses by no more than half of a place. -/
theorem half_law {na nb N Np Nd Nu Nr : Bool} {v1 v2 vq vp vd vu vr : Nat} {e1 e2 X Xp Xd Xu Xr : Int}
    (h1 : v1 < 10 ^ 300) (h2 : v2 < 10 ^ 300) (hp1 : 0 < v1) (hp2 : 0 < v2) (b1 : -1000 ≤ e1 ∧ e1 ≤ 1000) (b2 : -1000 ≤ e2 ∧ e2 ≤ 1000) (bX : -1000 ≤ X ∧ X ≤ 1000) (hq10 : vq % 10 ≠ 0)
    (hq : sv N vq X = sg (na != nb) (qZ v1 v2) * (sp (qX v1 v2 e1 e2) : Int)) (hX : qX v1 v2 e1 e2 ≤ X)
    (hp : sv Np vp Xp = sg (N != nb) (vq * v2) * (sp (X + e2) : Int)) (hd : sv Nd vd Xd = sv na v1 e1 - sv Np vp Xp)
    (bu : -1000 ≤ Xu ∧ Xu ≤ 1000) (hu : sv Nu vu Xu = sg false 5 * (sp (X - (40 - ((dOf vq).length : Int)) - 1) : Int)) (hr : sv Nr vr Xr = sg (Nu != nb) (vu * v2) * (sp (Xu + e2) : Int)) :
    vd * sp Xd ≤ vr * sp Xr := by
  obtain ⟨z1, z2⟩ := qZ_40 hp1 hp2
  obtain ⟨d1, d2⟩ := qS_bounds h1 h2
  obtain ⟨g1, g2⟩ := sg_val hq
  have hlo0 : -5000 ≤ qX v1 v2 e1 e2 := by unfold qX; omega
  obtain ⟨l1, l2, _⟩ := cf_len g1 hX hlo0 z1 z2 hq10
  have hN := g2 (by omega)
  obtain ⟨p1, p2⟩ := sg_val hp
  obtain ⟨u1, _⟩ := sg_val hu
  obtain ⟨r1, _⟩ := sg_val hr
  obtain ⟨n1, n2⟩ := half_near h1 h2 hp2 b1 b2 (e1 := e1) (e2 := e2)
  have hqX : -2400 ≤ qX v1 v2 e1 e2 ∧ qX v1 v2 e1 e2 ≤ 2400 := by unfold qX; omega
  generalize qX v1 v2 e1 e2 = lo at *
  generalize (dOf vq).length = l at *
  generalize qZ v1 v2 = Z at *
  have s1 : vq * sp (X + e2) = Z * sp (lo + e2) := by
    rw [sp_def, sp_def] at g1 ⊢
    exact pow_move g1 (by omega)
  have s2 : vu * sp (Xu + e2) = 5 * sp (X - (40 - (l : Int)) - 1 + e2) := by
    rw [sp_def, sp_def] at u1 ⊢
    exact pow_move u1 (by omega)
  have s3 : sp (lo + e2 - 1) ≤ sp (X - (40 - (l : Int)) - 1 + e2) := sp_le (by omega)
  have hvq : 0 < vq := by omega
  have hsg : sv Np vp Xp = sg na (Z * v2 * sp (lo + e2)) := by
    unfold sv
    rw [p1, p2 (Nat.mul_pos hvq hp2), hN]
    congr 1
    · cases na <;> cases nb <;> rfl
    · rw [Nat.mul_right_comm, s1, Nat.mul_right_comm]
  rw [hsg] at hd
  have hd2 := sg_diff hd
  have hR : vr * sp Xr = 5 * v2 * sp (X - (40 - (l : Int)) - 1 + e2) := by
    rw [r1, Nat.mul_right_comm, s2, Nat.mul_right_comm]
  rw [hR]
  have s4 : 5 * v2 * sp (lo + e2 - 1) ≤ 5 * v2 * sp (X - (40 - (l : Int)) - 1 + e2) := Nat.mul_le_mul_left _ s3
  generalize 5 * v2 * sp (X - (40 - (l : Int)) - 1 + e2) = M at *
  generalize 5 * v2 * sp (lo + e2 - 1) = M0 at *
  generalize Z * v2 * sp (lo + e2) = P at *
  generalize v1 * sp e1 = V at *
  omega
/-- A root's square is not above, that of the next one is. -/
theorem root_law {N No Nn Nx Ny : Bool} {v vq vo vn vx vy R : Nat} {e X Xo Xn Xx Xy : Int} (hv : v < 10 ^ 300) (hvp : 0 < v) (b : -1000 ≤ e ∧ e ≤ 1000) (bX : -1000 ≤ X ∧ X ≤ 1000) (hq10 : vq % 10 ≠ 0)
    (h1 : R * R ≤ sqr v (nd v) e) (h2 : sqr v (nd v) e < (R + 1) * (R + 1)) (hq : sv N vq X = sg false R * (sp (rtX v e) : Int)) (hX : rtX v e ≤ X)
    (ho : sv No vo Xo = sg false 1 * (sp (X - (40 - ((dOf vq).length : Int))) : Int)) (hn : sv Nn vn Xn = sv N vq X + sv No vo Xo) (bn : -1000 ≤ Xn ∧ Xn ≤ 1000)
    (hx : sv Nx vx Xx = sg (N != N) (vq * vq) * (sp (X + X) : Int)) (hy : sv Ny vy Xy = sg (Nn != Nn) (vn * vn) * (sp (Xn + Xn) : Int)) :
    sv Nx vx Xx ≤ sv false v e ∧ sv false v e < sv Ny vy Xy := by
  obtain ⟨t1, t2, t3⟩ := root_near h1 h2 hv b
  obtain ⟨r1, r2⟩ := t3 hvp
  obtain ⟨g1, g2⟩ := sg_val hq
  have hnd := nd_le (k := 300) (by omega) hv
  have hnp := nd_pos v
  have hlo : -700 ≤ rtX v e ∧ rtX v e ≤ 700 := by unfold rtX rsh; split <;> omega
  obtain ⟨l1, l2, l3⟩ := cf_len g1 hX (by omega) r1 (by omega) hq10
  have l4 := l3 r2
  rw [← l4] at ho
  generalize rtX v e = lo at *
  have hqs : sv N vq X = ((R * sp lo : Nat) : Int) := by rw [hq, ← sg_mul]; rfl
  have hos : sv No vo Xo = ((sp lo : Nat) : Int) := by rw [ho, ← sg_mul]; unfold sg; simp
  have hns : sv Nn vn Xn = (((R + 1) * sp lo : Nat) : Int) := by rw [hn, hqs, hos, Nat.add_mul]; push_cast; omega
  have hnv : vn * sp Xn = (R + 1) * sp lo := by
    have : (sv Nn vn Xn).natAbs = vn * sp Xn := by unfold sv; rw [sg_natAbs]
    rw [← this, hns]; rfl
  have hxx : sv Nx vx Xx = ((R * R * sp (lo + lo) : Nat) : Int) := by
    rw [hx, ← sg_mul]
    have hb : (N != N) = false := by cases N <;> rfl
    rw [hb]
    show ((vq * vq * sp (X + X) : Nat) : Int) = _
    congr 1
    rw [sp_def, sp_def] at *
    have a1 : (vq * vq) * 10 ^ ((X + 5000).toNat + (X + 5000).toNat) = (R * R) * 10 ^ ((lo + 5000).toNat + (lo + 5000).toNat) := by
      rw [Nat.pow_add, Nat.pow_add]
      calc vq * vq * (10 ^ (X + 5000).toNat * 10 ^ (X + 5000).toNat) = (vq * 10 ^ (X + 5000).toNat) * (vq * 10 ^ (X + 5000).toNat) := by ac_rfl
        _ = _ := by rw [g1]; ac_rfl
    exact pow_move a1 (by omega)
  have hyy : sv Ny vy Xy = (((R + 1) * (R + 1) * sp (lo + lo) : Nat) : Int) := by
    rw [hy, ← sg_mul]
    have hb : (Nn != Nn) = false := by cases Nn <;> rfl
    rw [hb]
    show ((vn * vn * sp (Xn + Xn) : Nat) : Int) = _
    congr 1
    rw [sp_def, sp_def] at *
    have a1 : (vn * vn) * 10 ^ ((Xn + 5000).toNat + (Xn + 5000).toNat) = ((R + 1) * (R + 1)) * 10 ^ ((lo + 5000).toNat + (lo + 5000).toNat) := by
      rw [Nat.pow_add, Nat.pow_add]
      calc vn * vn * (10 ^ (Xn + 5000).toNat * 10 ^ (Xn + 5000).toNat) = (vn * 10 ^ (Xn + 5000).toNat) * (vn * 10 ^ (Xn + 5000).toNat) := by ac_rfl
        _ = _ := by rw [hnv]; ac_rfl
    exact pow_move a1 (by omega)
  have hvv : sv false v e = ((v * sp e : Nat) : Int) := rfl
  rw [hxx, hyy, hvv]
  exact ⟨Int.ofNat_le.2 t1, Int.ofNat_lt.2 t2⟩
theorem ResI.ne_boxq {w : World} {base n c b : Nat} {A : Option Addr} {zs : List Nat} {vs : Array Value} {t : TypeId} (h : ResI w base A n c zs) (hb : w.heap[b]? = some (.cells vs t)) (ht : t ≠ 3) : ∀ g, A = some ⟨g, 0, none⟩ → g ≠ b := by
  intro g e hgb
  rcases h.own.2 with ⟨h1, _⟩ | ⟨g2, cap, cur, h1, h2, hh, _⟩
  · injection h1 with h1; rw [h1] at e; cases e
  · injection h1 with h1
    rw [h1] at e
    injection e with e
    injection e with e
    rw [e, hgb, hb] at hh
    injection hh with hh
    injection hh with _ hh
    exact ht hh
theorem ResI.setNeq {w : World} {base n c : Nat} {A : Option Addr} {zs : List Nat} (h : ResI w base A n c zs) {p : Addr} (hne : ∀ g, A = some ⟨g, 0, none⟩ → g ≠ p.block) (u : Value) : ResI (w.setCell p u) base A n c zs :=
  h.keep fun g e => Below.heap_setCell _ _ _ _ (hne g e)

set_option maxRecDepth 100000 in
set_option maxHeartbeats 4000000 in
set_option maxRecDepth 100000 in
set_option maxHeartbeats 2000000 in
theorem RAbs_c {S : Nat → Prop} {n c : Nat} {A : Option Addr} {xs : List Nat} (na : Bool) (e1 : Int) (w : World) (ha : Rd w S A n xs) (hS : ∀ b, S b → b < w.heap.size) (hn : n ≤ 9223372036854775807) (k1 : okB na xs e1 = true) :
    Calls Tryz.prog 28 #[dv na A n c e1] w fun e w' => ∃ A' n' c', e = .returned (.tuple #[dv false A' n' c' e1, .int .i64 0]) ∧ Res w' w.heap.size A' n' c' xs ∧ Below w.heap.size w w' := by
  have up : ∀ {V : World}, Below w.heap.size w V → ∀ b, b < w.heap.size → b < V.heap.size := fun h b hb => by have := h.size; omega
  obtain ⟨a1, a2, _, a4, _, _⟩ := okB_true ha.l32 k1
  have hn256 : n ≤ 256 := by rw [← ha.len]; exact a2
  have hbk := settle_back (na := false) (s := false) (lo := e1) (Z := val xs) ha.l32 (okB_false k1) (by omega) (by rw [sv_eq])
  have HC := Lib.hid (fun V (h1 : Rd V S A n xs) hs => RCheck_c (c := c) na e1 V h1 hs hn)
  have HO := Lib.hid (fun V (h1 : Rd V S A n xs) hs => Of_c (c := c) na e1 V h1 hs hn256)
  have hE : okE na xs e1 = 0 := by unfold okE; rw [if_pos k1]
  rw [hE] at HC
  unfold dv nv at HO
  unfold dv at HC
  unfold dv
  have hW : Below w.heap.size w ((w.alloc (.cells #[.bool na, .slice A n c, .int .i64 e1] 24)).alloc (.cells #[.bool false, .slice none 0 0, .int .i64 0] 24)) := ((Below.refl w.heap.size w).alloc (Nat.le_refl _) _).alloc (by simp) _
  obtain ⟨ma, mr⟩ := two_new w (.cells #[.bool na, .slice A n c, .int .i64 e1] 24) (.cells #[.bool false, .slice none 0 0, .int .i64 0] 24)
  clear k1 a1 a2 hE
  go_enter Tryz.func28, Tryz.ntmps28
  go_wp2_with fail
  generalize ((w.alloc (.cells #[.bool na, .slice A n c, .int .i64 e1] 24)).alloc (.cells #[.bool false, .slice none 0 0, .int .i64 0] 24)) = W at ma mr hW ⊢
  refine (HC.out W (ha.below hW hS) (fun b h => up hW b (hS b h))).mono ?_
  rintro e w1 ⟨rfl, hb0⟩
  have ma := heldz hb0 ma
  have mr := heldz hb0 mr
  have hB := hW.trans (hb0.mono hW.size)
  obtain ⟨x0, x1, x2⟩ := box3_of ma
  clear hb0 hW
  go_wp2_with fail
  refine (HO.out w1 (ha.below hB hS) (fun b h => up hB b (hS b h))).mono ?_
  rintro e w2 ⟨A2, n2, c2, ds, rfl, r2, d2, v2, l2, hb0⟩
  have ma := heldz hb0 ma
  have mr := heldz hb0 mr
  have hBs := hB.size
  have r2 := r2.more (base' := w.heap.size) hBs
  have hB := hB.trans (hb0.mono hB.size)
  clear hb0 x0 x1 x2
  go_upto_region 4 with fail
  have mr0 := mr
  have mn := World.alloc_heap_new w2 (.cells #[.bool na, .slice A2 n2 c2, .int .i64 e1] 41)
  have hal : Below w2.heap.size w2 (w2.alloc (.cells #[.bool na, .slice A2 n2 c2, .int .i64 e1] 41)) := (Below.refl _ _).alloc (Nat.le_refl _) _
  have mr := heldz hal mr
  have r2 := r2.below hal (Nat.le_refl _)
  have hB := hB.trans (hal.mono hB.size)
  have hg1 : w.heap.size + 1 < w2.heap.size := (Array.getElem?_eq_some_iff.1 mr0).1
  have hgs : w2.heap.size < (w2.alloc (.cells #[.bool na, .slice A2 n2 c2, .int .i64 e1] 41)).heap.size := by simp
  generalize w2.alloc (.cells #[.bool na, .slice A2 n2 c2, .int .i64 e1] 41) = W3 at mn mr r2 hB hgs ⊢
  generalize w2.heap.size = g at mn hg1 hgs hal ⊢
  clear hal
  obtain ⟨x0, x1, x2⟩ := box3_of mn
  have f0 := frozen_of 0 mn
  have mn2 : (W3.setCell ⟨g, 0, none⟩ (.bool false)).heap[g]? = some (.cells #[.bool false, .slice A2 n2 c2, .int .i64 e1] 41) := set_cells mn (.bool false)
  have mr2 := set_other (b := w.heap.size + 1) (b' := g) (i := 0) mr (by omega) (.bool false)
  have hlt : ∀ b, b < w.heap.size + 1 + 1 → b ≠ g := fun b h => by omega
  have hnb : ∀ q, A2 = some ⟨q, 0, none⟩ → q ≠ g := ResI.ne_boxq r2 mn (by decide)
  have r3 := r2.setNeq (p := ⟨g, 0, none⟩) hnb (.bool false)
  have hB2 := hB.setCell (p := ⟨g, 0, none⟩) (show w.heap.size ≤ g by omega) (.bool false)
  have hmade := Made_c (c := c2) false e1 (W3.setCell ⟨g, 0, none⟩ (.bool false)) r3.rd (fun b h => h.2) d2.1 (by omega) (r2.n_le).1 (by have := (r2.n_le).2; unfold maxLen at this; omega) (by omega)
  rw [v2, hbk.1, hbk.2.1, hbk.2.2.1, hbk.2.2.2] at hmade
  unfold nv dv at hmade
  have HMADE := Lib.hid hmade
  have hSz : (W3.setCell ⟨g, 0, none⟩ (.bool false)).heap.size = W3.heap.size := by simp [World.setCell]
  clear hmade hbk
  go_upto_region 5 with fail
  generalize W3.setCell ⟨g, 0, none⟩ (.bool false) = W4 at mn2 mr2 r3 hB2 HMADE hSz ⊢
  obtain ⟨y0, y1, y2⟩ := box3_of mn2
  clear x0 x1 x2 f0 mn
  go_wp2_with fail
  refine HMADE.out.mono ?_
  rintro e w5 ⟨A5, n5, c5, rfl, hr, hb0⟩
  have hl5 := (Array.getElem?_eq_some_iff.1 mr2).1
  have mr5 := heldz hb0 mr2
  have hBs := hB2.size
  have hB5 := hB2.trans (hb0.mono hB2.size)
  obtain ⟨g0, g1, g2⟩ := box3_of mr5
  have f0 := frozen_of 0 mr5
  have f1 := frozen_of 1 mr5
  have f2 := frozen_of 2 mr5
  clear y0 y1 y2
  go_wp2
  refine bodyPost_ret (v := .tuple #[.agg #[.bool false, .slice A5 n5 c5, .int .i64 e1], .int .i64 0]) (by simp [results, Tryz.results28, go_sem, g0, g1, g2]) rfl ?_
  refine ⟨A5, n5, c5, rfl, ?_, ?_⟩
  · exact (((hr.setOther (by simp; omega) _).setOther (by simp; omega) _).setOther (by simp; omega) _).more (by omega)
  · exact ((hB5.setCell (p := ⟨w.heap.size + 1, 0, none⟩) (by simp) _).setCell (p := ⟨w.heap.size + 1, 1, none⟩) (by simp) _).setCell (p := ⟨w.heap.size + 1, 2, none⟩) (by simp) _
theorem RdI.one (V : World) (x : Nat) (hx : x < 9223372036854775808) : RdI (V.alloc (.cells #[.int .i64 (x : Int)] 3)) (fun b => b < (V.alloc (.cells #[.int .i64 (x : Int)] 3)).heap.size) (some ⟨V.heap.size, 0, none⟩) 1 [x] := by
  refine ⟨rfl, fun y hy => by rw [List.mem_singleton.1 hy]; exact hx, fun _ => ⟨V.heap.size, 0, rfl, by simp, ?_⟩⟩
  intro j hj
  obtain rfl : j = 0 := by omega
  exact cell_of (World.alloc_heap_new V _) rfl
end Go.Proofs.YtbbafggejnjjiaaGreatDoor
