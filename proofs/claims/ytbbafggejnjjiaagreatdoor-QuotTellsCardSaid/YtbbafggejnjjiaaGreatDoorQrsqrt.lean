/-
  Contract of bolterref03's Sqrt.
-/
import Derived.Test.YtbbafggejnjjiaaGreatDoorQdivm
import Derived.Test.YtbbafggejnjjiaaGreatDoorRefs
set_option linter.unusedVariables false
set_option linter.unusedSimpArgs false
namespace Go.Proofs.YtbbafggejnjjiaaGreatDoor
open Go.RowKit

theorem root_exs (X : Nat) : ∃ R, R * R ≤ X ∧ X < (R + 1) * (R + 1) := by
  induction X with
  | zero => exact ⟨0, by omega, by omega⟩
  | succ X ih =>
    obtain ⟨R, h1, h2⟩ := ih
    by_cases h : X + 1 < (R + 1) * (R + 1)
    · exact ⟨R, by omega, h⟩
    · refine ⟨R + 1, by omega, ?_⟩
      have e : (R + 1 + 1) * (R + 1 + 1) = (R + 1) * (R + 1) + (R + 1) + (R + 1) + 1 := by
        rw [Nat.add_mul, Nat.mul_add, Nat.one_mul, Nat.mul_one]; omega
      omega
theorem box3_cells {w : World} {b : Nat} {v0 v1 v2 : Value} {t : TypeId} (h : w.heap[b]? = some (.cells #[v0, v1, v2] t)) : w.cell? ⟨b, 1, none⟩ = some v1 ∧ w.cell? ⟨b, 2, none⟩ = some v2 := ⟨(box3_of h).2.1, (box3_of h).2.2⟩

set_option maxRecDepth 100000 in
set_option maxHeartbeats 4000000 in
theorem RSqrt_c {S : Nat → Prop} {n c : Nat} {A : Option Addr} {xs : List Nat} (na : Bool) (e1 : Int) (w : World) (ha : Rd w S A n xs) (hS : ∀ b, S b → b < w.heap.size) (hn : n ≤ 9223372036854775807) :
    Calls Tryz.prog 26 #[dv na A n c e1] w fun e w' => ToldP (Chk (okE na xs e1) (PSqrt na (val xs) e1)) e w' w.heap.size ∧ Below w.heap.size w w' := by
  have up : ∀ {V : World}, Below w.heap.size w V → ∀ b, b < w.heap.size → b < V.heap.size := fun h b hb => by have := h.size; omega
  have HC := Lib.hid (fun V (h1 : Rd V S A n xs) hs => RCheck_c (c := c) na e1 V h1 hs hn)
  unfold dv at HC
  have hW : Below w.heap.size w ((w.alloc (.cells #[.bool na, .slice A n c, .int .i64 e1] 24)).alloc (.cells #[.bool false, .slice none 0 0, .int .i64 0] 24)) := ((Below.refl w.heap.size w).alloc (Nat.le_refl _) _).alloc (by simp) _
  obtain ⟨ma, mr⟩ := two_new w (.cells #[.bool na, .slice A n c, .int .i64 e1] 24) (.cells #[.bool false, .slice none 0 0, .int .i64 0] 24)
  rcases okE_cases na xs e1 with ⟨hok, k1⟩ | ⟨hok, k1⟩
  rotate_left
  · rw [hok] at HC
    have hfin : ∀ w' base, ToldP (Chk (okE na xs e1) (PSqrt na (val xs) e1)) (.returned (.tuple #[dv false none 0 0 0, .int .i64 9])) w' base := fun w' base => ⟨9, false, 0, 0, .inl ⟨by rw [hok]; decide, hok.symm⟩, told53 (by decide)⟩
    unfold dv
    unfold dv at hfin
    go_enter Tryz.func26, Tryz.ntmps26
    go_wp2_with fail
    generalize ((w.alloc (.cells #[.bool na, .slice A n c, .int .i64 e1] 24)).alloc (.cells #[.bool false, .slice none 0 0, .int .i64 0] 24)) = W at ma mr hW ⊢
    obtain ⟨x0, x1, x2⟩ := box3_of ma
    refine (HC.out W (ha.below hW hS) (fun b h => up hW b (hS b h))).mono ?_
    rintro e w1 ⟨rfl, hb0⟩
    have mr := heldz hb0 mr
    have hB := hW.trans (hb0.mono hW.size)
    obtain ⟨g0, g1, g2⟩ := box3_of mr
    have f0 := frozen_of 0 mr
    have f1 := frozen_of 1 mr
    have f2 := frozen_of 2 mr
    clear x0 x1 x2 hb0 hW
    go_wp2
    refine bodyPost_ret (v := .tuple #[.agg #[.bool false, .slice none 0 0, .int .i64 0], .int .i64 9]) (by simp [results, Tryz.results26, go_sem, g0, g1, g2]) rfl ?_
    exact ⟨hfin _ _, ((hB.setCell (p := ⟨w.heap.size + 1, 0, none⟩) (by simp) _).setCell (p := ⟨w.heap.size + 1, 1, none⟩) (by simp) _).setCell (p := ⟨w.heap.size + 1, 2, none⟩) (by simp) _⟩
  rw [hok] at HC
  obtain ⟨a1, a2, a3, a4, _, _⟩ := okB_true ha.l32 k1
  have hn2 : n ≤ 256 := by rw [← ha.len]; exact a2
  have HO := Lib.hid (fun V (h1 : Rd V S A n xs) hs => Of_c (c := c) na e1 V h1 hs hn2)
  have HL1 := Lib.hid (okB_len k1)
  unfold dv nv at HO
  have hto : ∀ E0 s Z lo e w' base, PSqrt na (val xs) e1 E0 s Z lo → Told e w' base E0 s Z lo → ToldP (Chk (okE na xs e1) (PSqrt na (val xs) e1)) e w' base := fun E0 s Z lo e w' base h1 h2 => ⟨E0, s, Z, lo, .inr ⟨hok, h1⟩, h2⟩
  have HV0 := Lib.hid (show n = 0 → val xs = 0 from fun h => by rw [List.eq_nil_of_length_eq_zero (ha.len.trans h)]; rfl)
  have HVP := Lib.hid (show n ≠ 0 → 0 < val xs from fun h => by
    rcases Nat.eq_zero_or_pos (val xs) with h2 | h2
    · exfalso
      have hl := ha.len
      rw [a1.val_zero h2] at hl; simp at hl; omega
    · exact h2)
  generalize hPP : ToldP (Chk (okE na xs e1) (PSqrt na (val xs) e1)) = PP at *
  clear hPP k1 hok a1 a2 a3
  have HT := Lib.hid hto
  clear hto
  unfold dv
  cases na with
  | true =>
    go_enter Tryz.func26, Tryz.ntmps26
    go_wp2_with fail
    generalize ((w.alloc (.cells #[.bool true, .slice A n c, .int .i64 e1] 24)).alloc (.cells #[.bool false, .slice none 0 0, .int .i64 0] 24)) = W at ma mr hW ⊢
    obtain ⟨x0, x1, x2⟩ := box3_of ma
    refine (HC.out W (ha.below hW hS) (fun b h => up hW b (hS b h))).mono ?_
    rintro e w1 ⟨rfl, hb0⟩
    have ma := heldz hb0 ma
    have mr := heldz hb0 mr
    have hB := hW.trans (hb0.mono hW.size)
    clear x0 x1 x2 hb0 hW
    obtain ⟨x0, x1, x2⟩ := box3_of ma
    obtain ⟨g0, g1, g2⟩ := box3_of mr
    have f0 := frozen_of 0 mr
    have f1 := frozen_of 1 mr
    have f2 := frozen_of 2 mr
    go_wp2
    refine bodyPost_ret (v := .tuple #[.agg #[.bool false, .slice none 0 0, .int .i64 0], .int .i64 4]) (by simp [results, Tryz.results26, go_sem, g0, g1, g2]) rfl ?_
    exact ⟨HT.out 4 false 0 0 _ _ _ (.inl ⟨rfl, rfl⟩) (told53 (by decide)), ((hB.setCell (p := ⟨w.heap.size + 1, 0, none⟩) (by simp) _).setCell (p := ⟨w.heap.size + 1, 1, none⟩) (by simp) _).setCell (p := ⟨w.heap.size + 1, 2, none⟩) (by simp) _⟩
  | false =>
  by_cases hn0 : n = 0
  · have hv := HV0.out hn0
    subst hn0
    clear hn hn2
    go_enter Tryz.func26, Tryz.ntmps26
    go_wp2_with fail
    generalize ((w.alloc (.cells #[.bool false, .slice A 0 c, .int .i64 e1] 24)).alloc (.cells #[.bool false, .slice none 0 0, .int .i64 0] 24)) = W at ma mr hW ⊢
    obtain ⟨x0, x1, x2⟩ := box3_of ma
    refine (HC.out W (ha.below hW hS) (fun b h => up hW b (hS b h))).mono ?_
    rintro e w1 ⟨rfl, hb0⟩
    have ma := heldz hb0 ma
    have mr := heldz hb0 mr
    have hB := hW.trans (hb0.mono hW.size)
    clear x0 x1 x2 hb0 hW
    obtain ⟨x0, x1, x2⟩ := box3_of ma
    obtain ⟨g0, g1, g2⟩ := box3_of mr
    have f0 := frozen_of 0 mr
    have f1 := frozen_of 1 mr
    have f2 := frozen_of 2 mr
    go_wp2
    refine bodyPost_ret (v := .tuple #[.agg #[.bool false, .slice none 0 0, .int .i64 0], .int .i64 0]) (by simp [results, Tryz.results26, go_sem, g0, g1, g2]) rfl ?_
    refine ⟨HT.out 0 false 0 (rtX (val xs) e1) _ _ _ (.inr ⟨rfl, rfl, rfl, Nat.zero_le _, ?_, rfl⟩) ?_, ((hB.setCell (p := ⟨w.heap.size + 1, 0, none⟩) (by simp) _).setCell (p := ⟨w.heap.size + 1, 1, none⟩) (by simp) _).setCell (p := ⟨w.heap.size + 1, 2, none⟩) (by simp) _⟩
    · rw [hv]
      unfold sqr wd
      rw [Nat.zero_mul, Nat.zero_div]; omega
    · obtain ⟨t1, t2, t3, t4⟩ := st_zero false (rtX (val xs) e1)
      refine ⟨none, 0, 0, ?_, ?_⟩
      · unfold opN opX opE
        rw [if_pos rfl, if_pos rfl, if_pos rfl, t1, t2, t3]; rfl
      · unfold opZ
        rw [if_pos rfl, t4]; exact Res.nil _ _
  · have HVP := Lib.hid (HVP.out hn0)
    have hn0b : ((n : Int) == 0) = false := by rw [beq_eq_false_iff_ne]; omega
    clear hn0 HV0
    go_enter Tryz.func26, Tryz.ntmps26
    go_wp2_with fail
    generalize ((w.alloc (.cells #[.bool false, .slice A n c, .int .i64 e1] 24)).alloc (.cells #[.bool false, .slice none 0 0, .int .i64 0] 24)) = W at ma mr hW ⊢
    refine (HC.out W (ha.below hW hS) (fun b h => up hW b (hS b h))).mono ?_
    rintro e w1 ⟨rfl, hb0⟩
    have ma := heldz hb0 ma
    have mr := heldz hb0 mr
    have hB := hW.trans (hb0.mono hW.size)
    clear hb0 hW HC
    obtain ⟨x0, x1, x2⟩ := box3_of ma
    go_wp2_with fail
    refine (HO.out w1 (ha.below hB hS) (fun b h => up hB b (hS b h))).mono ?_
    rintro e w2 ⟨A2, n2, c2, ds, rfl, r2, d2, v2, l2, hb0⟩
    have mr := heldz hb0 mr
    have hB := hB.trans (hb0.mono hB.size)
    clear hb0 x0 x1 x2 ma HO hn0b
    have hl2 : n2 ≤ 300 := by
      have h1 := HL1.out
      rw [← v2, ← eq_dOf d2, r2.rd.len] at h1
      exact h1
    go_upto_region 8 with fail
    have mn := World.alloc_heap_new w2 (.cells #[.bool false, .slice A2 n2 c2, .int .i64 e1] 41)
    have hal : Below w2.heap.size w2 (w2.alloc (.cells #[.bool false, .slice A2 n2 c2, .int .i64 e1] 41)) := (Below.refl _ _).alloc (Nat.le_refl _) _
    have mr := heldz hal mr
    have r2 := (r2.rd.more (S' := fun b => b < w2.heap.size) (fun b h => h.2)).step hal
    have hB := hB.trans (hal.mono hB.size)
    generalize w2.alloc (.cells #[.bool false, .slice A2 n2 c2, .int .i64 e1] 41) = W3 at mn mr r2 hB ⊢
    generalize w2.heap.size = g at mn ⊢
    clear hal
    obtain ⟨x1, x2⟩ := box3_cells mn
    obtain ⟨k, hk⟩ : ∃ k : Nat, max 0 (80 - (n2 : Int)) = (k : Int) := ⟨(max 0 (80 - (n2 : Int))).toNat, by omega⟩
    have hkb : k ≤ 80 := by omega
    have HK := Lib.hid (show 80 ≤ n2 + k by omega)
    obtain ⟨BB, hBB⟩ : ∃ b, ((e1 - (k : Int)).tmod 2 != 0) = b := ⟨_, rfl⟩
    obtain ⟨kk, hkk⟩ : ∃ kk : Nat, Hid (kk = if BB = true then k + 1 else k) := ⟨_, Lib.hid rfl⟩
    have HPAR := Lib.hid (show (e1 - (kk : Int)) % 2 = 0 by
      have ht : (e1 - (k : Int)).tmod 2 = 0 ↔ (e1 - (k : Int)) % 2 = 0 := by
        rw [← Int.dvd_iff_tmod_eq_zero, Int.dvd_iff_emod_eq_zero]
      rw [hkk.out, ← hBB]
      by_cases h : (e1 - (k : Int)) % 2 = 0
      · rw [if_neg]
        · exact h
        · rw [bne_iff_ne]; exact fun h2 => h2 (ht.2 h)
      · rw [if_pos]
        · omega
        · rw [bne_iff_ne]; exact fun h2 => h (ht.1 h2))
    have hkkb : k ≤ kk ∧ kk ≤ k + 1 := by rw [hkk.out]; split <;> omega
    obtain ⟨he1, he2⟩ := a4
    go_upto_region 9 with fail
    clear hk
    go_upto_if 36 with fail
    go_cut [5] from 37 to 38 (fun s5 wx => s5 = .int .i64 (kk : Int) ∧ W3 = wx)
    case first =>
      cases BB with
      | true =>
        have hq2 : Hid (kk = k + 1) := by show _ = _; rw [hkk.out]; simp
        go_wp2
        go_meet
        exact ⟨by rw [hq2.out]; rfl, rfl⟩
      | false =>
        have hq2 : Hid (kk = k) := by show _ = _; rw [hkk.out]; simp
        go_wp2
        go_meet
        exact ⟨by rw [hq2.out], rfl⟩
    case rest =>
      obtain ⟨rfl, rfl⟩ := hcut
      have HKK := Lib.hid hkk.out
      have HV2 := Lib.hid v2
      clear hBB hkk v2
      go_wp2_with fail
      refine (Shift_c (c := c2) kk W3 r2 (fun b h => h) d2 (by omega) (by omega)).mono ?_
      rintro e V1 ⟨A3, n3, c3, os, rfl, r3, d3, v3, l3, hb0⟩
      have mn := heldz hb0 mn
      have mr := heldz hb0 mr
      have hB := hB.trans (hb0.mono hB.size)
      have r3 : RdI V1 (fun b => b < V1.heap.size) A3 n3 os := r3.rd.more (fun b h => h.2)
      have HV3 := Lib.hid v3
      clear hb0 v3 x1 x2
      go_wp2_with fail
      refine (SquareRoot_c (c := c3) V1 r3 (fun b h => h) d3 (by omega)).mono ?_
      rintro e V2 ⟨A4, n4, c4, rs, rfl, r4, d4, v4, v5, l4, hb0⟩
      have mn := heldz hb0 mn
      have mr := heldz hb0 mr
      have hB := hB.trans (hb0.mono hB.size)
      have hc4 := r4.n_le
      unfold maxLen at hc4
      have r4 : RdI V2 (fun b => b < V2.heap.size) A4 n4 rs := r4.rd.more (fun b h => h.2)
      rw [HV3.out, HV2.out, Nat.mul_comm (dp kk)] at v4 v5
      unfold dp at v4 v5
      have hnd : n2 = nd (val xs) := by
        unfold nd
        rw [if_neg (by have := HVP.out; omega), ← HV2.out, ← eq_dOf d2, r2.len]
      have hlow : 10 ^ 39 ≤ dval rs := by
        obtain ⟨b1, b2⟩ := nd_bounds HVP.out
        rw [← hnd] at b1
        have h1 : 10 ^ 79 ≤ val xs * 10 ^ kk := by
          have h2 : 10 ^ n2 * 10 ^ kk ≤ 10 * val xs * 10 ^ kk := scale_le b1 _
          rw [← Nat.pow_add, Nat.mul_assoc] at h2
          have h3 : 10 ^ 80 ≤ 10 ^ (n2 + kk) := Nat.pow_le_pow_right (by omega) (by have := HK.out; omega)
          have h4 : 10 ^ 80 = 10 * 10 ^ 79 := rfl
          omega
        rcases Nat.lt_or_ge (dval rs) (10 ^ 39) with h | h
        · exfalso
          have := Nat.mul_le_mul (show dval rs + 1 ≤ 10 ^ 39 from h) (show dval rs + 1 ≤ 10 ^ 39 from h)
          omega
        · exact h
      have hn4 : 40 ≤ n4 := by
        rcases Nat.lt_or_ge n4 40 with h | h
        · exfalso
          have h1 := dval_lt d4.1
          rw [r4.len] at h1
          have h2 : dp n4 ≤ 10 ^ 39 := Nat.pow_le_pow_right (by omega) (by omega)
          omega
        · exact h
      obtain ⟨cu, rfl⟩ : ∃ cu, n4 = 40 + cu := ⟨n4 - 40, by omega⟩
      have hlo : 10 ^ (39 + cu) ≤ dval rs := by
        have h1 := d4.ge (fun h => by rw [h] at hlow; simp [dval] at hlow)
        rw [r4.len] at h1
        unfold dp at h1
        rwa [show 40 + cu - 1 = 39 + cu by omega] at h1
      have hhi : dval rs < 10 ^ (40 + cu) := by
        have h1 := dval_lt d4.1
        rw [r4.len] at h1
        exact h1
      obtain ⟨R, g1, g2⟩ := root_exs (sqr (val xs) (nd (val xs)) e1)
      obtain ⟨m1, m2⟩ := root_match HVP.out HPAR.out v4 v5 hlo hhi g1 g2
      obtain ⟨t1, -⟩ := dig_split d4.1 (k := cu) (by rw [r4.len]; omega)
      unfold dp at t1
      rw [t1] at m1
      obtain ⟨QD, hQD⟩ : ∃ q, q = (e1 - (kk : Int)) / 2 := ⟨_, rfl⟩
      have hdiv : (e1 - (kk : Int)).tdiv 2 = QD := by rw [hQD]; exact Int.tdiv_eq_ediv_of_dvd (by have := HPAR.out; omega)
      have hQb : -10000000 ≤ QD ∧ QD ≤ 10000000 := by omega
      rw [← hQD] at m2
      have M1 := Lib.hid m1
      have M2 := Lib.hid m2
      have HTD := Lib.hid (fun e w' base h => HT.out 0 false R (rtX (val xs) e1) e w' base (.inr ⟨rfl, rfl, rfl, g1, g2, rfl⟩) h)
      clear HT hQD v4 v5 hlow hlo hhi m1 m2 t1 g1 g2 hnd hn4 r3 r2
      obtain ⟨x1, x2⟩ := box3_cells mn
      go_upto_region 13 with fail
      clear hdiv x1 x2
      by_cases hcu : cu = 0
      · subst hcu
        have hval := M1.out
        rw [List.drop_zero] at hval
        have hexp : QD = rtX (val xs) e1 := by have := M2.out; omega
        have hmd := Made_c (c := c4) false QD V2 r4 (fun b h => h) d4.1 (by omega) (by omega) (by omega) (by omega)
        go_wp2_with fail
        unfold nv dv at hmd
        rw [hval, hexp, show stN false R (rtX (val xs) e1) = opN 0 false R (rtX (val xs) e1) from rfl, show stX R (rtX (val xs) e1) = opX 0 R (rtX (val xs) e1) from rfl, show stE R (rtX (val xs) e1) = opE 0 R (rtX (val xs) e1) from rfl, show stZ R (rtX (val xs) e1) = opZ 0 R (rtX (val xs) e1) from rfl] at hmd
        have HMD := Lib.hid hmd
        clear hmd hval
        refine HMD.out.mono ?_
        rintro e w6 ⟨A7, n7, c7, rfl, hr, hb0⟩
        have hl5 := (Array.getElem?_eq_some_iff.1 mr).1
        have hBs := hB.size
        have mr := heldz hb0 mr
        have hB := hB.trans (hb0.mono hB.size)
        obtain ⟨g0, g1, g2⟩ := box3_of mr
        have f0 := frozen_of 0 mr
        have f1 := frozen_of 1 mr
        have f2 := frozen_of 2 mr
        clear hb0
        dsimp only [dv]
        generalize hLO : rtX (val xs) e1 = LO at *
        clear hLO
        go_wp2
        refine bodyPost_ret (v := .tuple #[.agg #[.bool (opN 0 false R LO), .slice A7 n7 c7, .int .i64 (opX 0 R LO)], .int .i64 (opE 0 R LO : Int)]) (by simp [results, Tryz.results26, go_sem, g0, g1, g2]) rfl ?_
        refine ⟨HTD.out _ _ _ ⟨A7, n7, c7, rfl, (((hr.setOther (by simp; omega) _).setOther (by simp; omega) _).setOther (by simp; omega) _).more (by omega)⟩, ?_⟩
        exact ((hB.setCell (p := ⟨w.heap.size + 1, 0, none⟩) (by simp) _).setCell (p := ⟨w.heap.size + 1, 1, none⟩) (by simp) _).setCell (p := ⟨w.heap.size + 1, 2, none⟩) (by simp) _
      · have hval := M1.out
        obtain ⟨b4, o4, rfl, hb4, hcell⟩ := r4.at_ (k := cu) (by omega)
        have rdr := r4.drop (k := cu) (by omega)
        rw [show 40 + cu - cu = 40 by omega] at rdr
        have hexp := M2.out
        have hmd := Made_c (c := c4 - cu) false (QD + (cu : Int)) V2 rdr (fun b h => h) (d4.1.drop cu) (by omega) (by omega) (by omega) (by omega)
        have hi40 : (40 : Int) < (((40 + cu : Nat) : Int)) := by omega
        have hcs : (((40 + cu : Nat) : Int) - 40) = (cu : Int) := by omega
        go_upto_region 15 with fail
        rw [show ((40 : Int) + (cu : Int) - 40) = (cu : Int) by omega]
        clear hi40 hcs
        go_wp2_with fail
        unfold nv dv at hmd
        rw [hval, hexp, show stN false R (rtX (val xs) e1) = opN 0 false R (rtX (val xs) e1) from rfl, show stX R (rtX (val xs) e1) = opX 0 R (rtX (val xs) e1) from rfl, show stE R (rtX (val xs) e1) = opE 0 R (rtX (val xs) e1) from rfl, show stZ R (rtX (val xs) e1) = opZ 0 R (rtX (val xs) e1) from rfl] at hmd
        have HMD := Lib.hid hmd
        clear hmd hval
        refine HMD.out.mono ?_
        rintro e w6 ⟨A7, n7, c7, rfl, hr, hb0⟩
        have hl5 := (Array.getElem?_eq_some_iff.1 mr).1
        have hBs := hB.size
        have mr := heldz hb0 mr
        have hB := hB.trans (hb0.mono hB.size)
        obtain ⟨g0, g1, g2⟩ := box3_of mr
        have f0 := frozen_of 0 mr
        have f1 := frozen_of 1 mr
        have f2 := frozen_of 2 mr
        clear hb0
        dsimp only [dv]
        generalize hLO : rtX (val xs) e1 = LO at *
        clear hLO
        go_wp2
        refine bodyPost_ret (v := .tuple #[.agg #[.bool (opN 0 false R LO), .slice A7 n7 c7, .int .i64 (opX 0 R LO)], .int .i64 (opE 0 R LO : Int)]) (by simp [results, Tryz.results26, go_sem, g0, g1, g2]) rfl ?_
        refine ⟨HTD.out _ _ _ ⟨A7, n7, c7, rfl, (((hr.setOther (by simp; omega) _).setOther (by simp; omega) _).setOther (by simp; omega) _).more (by omega)⟩, ?_⟩
        exact ((hB.setCell (p := ⟨w.heap.size + 1, 0, none⟩) (by simp) _).setCell (p := ⟨w.heap.size + 1, 1, none⟩) (by simp) _).setCell (p := ⟨w.heap.size + 1, 2, none⟩) (by simp) _
end Go.Proofs.YtbbafggejnjjiaaGreatDoor
