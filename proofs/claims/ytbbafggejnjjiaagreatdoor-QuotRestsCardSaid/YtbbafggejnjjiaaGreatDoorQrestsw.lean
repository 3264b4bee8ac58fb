/-
  The walk of the law QuotRests: it returns true, whatever the two numbers. Written by gen_rests.py.
-/
import Derived.Test.YtbbafggejnjjiaaGreatDoorQalive
import Derived.Test.YtbbafggejnjjiaaGreatDoorDrin
import Derived.Test.YtbbafggejnjjiaaGreatDoorDq
set_option linter.unusedVariables false
set_option linter.unusedSimpArgs false
namespace Go.Proofs.YtbbafggejnjjiaaGreatDoor
open Go.RowKit

/-- A whole number as a decimal. -/
theorem int_dec {v : Nat} (s : Bool) (h : v < 10 ^ 40) : okB (stN s v 0) (stZ v 0) (stX v 0) = true ∧ L32 (stZ v 0) ∧ wq (val (stZ v 0)) (stX v 0) = v ∧ (0 < v → stN s v 0 = s) := by
  have hE := stE_small h
  obtain ⟨m1, m2, m3, m4⟩ := settle_may (s := s) (Z := v) (lo := 0) (by omega) hE
  obtain ⟨g1, g2⟩ := sg_val m3
  refine ⟨m1, m2, ?_, g2⟩
  rcases Nat.eq_zero_or_pos v with h0 | h0
  · subst h0
    obtain ⟨_, _, z3, z4⟩ := st_zero s 0
    rw [z3, z4]
    decide
  · obtain ⟨f, hf⟩ : ∃ f : Nat, stX v 0 = 0 + (f : Int) := ⟨(stX v 0).toNat, by have := m4 h0; omega⟩
    rw [hf] at g1 ⊢
    rw [sp_add (by omega), ← Nat.mul_assoc] at g1
    have g3 := Nat.eq_of_mul_eq_mul_right (sp_pos 0) g1
    unfold wq wd
    rw [show (0 + (f : Int)).toNat = f by omega, show (-(0 + (f : Int))).toNat = 0 by omega, g3]
    simp
set_option maxRecDepth 100000 in
set_option maxHeartbeats 4000000 in
theorem QuotRests_c (a b : Int) (w : World) : Calls Tryz.prog 7 #[.int .i64 a, .int .i64 b] w fun e w' => e = .returned (.bool true) ∧ Below w.heap.size w w' := by
  obtain ⟨x, hx⟩ : ∃ x, a.tmod 1099511627776 = x := ⟨_, rfl⟩
  obtain ⟨y, hy⟩ : ∃ y, b.tmod 1099511627776 = y := ⟨_, rfl⟩
  have hxb : -1099511627776 < x ∧ x < 1099511627776 := by
    have h := Int.natAbs_tmod a 1099511627776
    rw [hx] at h
    have := Nat.mod_lt a.natAbs (show 0 < (1099511627776 : Int).natAbs by decide)
    omega
  have hyb : -1099511627776 < y ∧ y < 1099511627776 := by
    have h := Int.natAbs_tmod b 1099511627776
    rw [hy] at h
    have := Nat.mod_lt b.natAbs (show 0 < (1099511627776 : Int).natAbs by decide)
    omega
  obtain ⟨hx1, hx2⟩ := hxb
  obtain ⟨hy1, hy2⟩ := hyb
  have h40 : 1099511627776 < 10 ^ 40 := by decide
  obtain ⟨i1, i2, i3, i4⟩ := int_dec (v := x.natAbs) (decide (x < 0)) (by omega)
  obtain ⟨j1, j2, j3, j4⟩ := int_dec (v := y.natAbs) (decide (y < 0)) (by omega)
  have H1 := Lib.hid (fun V => RInt_c x V (by omega) (by omega))
  have H2 := Lib.hid (fun V => RInt_c y V (by omega) (by omega))
  obtain ⟨N1, hN1⟩ : ∃ N, stN (decide (x < 0)) x.natAbs 0 = N := ⟨_, rfl⟩
  obtain ⟨X1, hX1⟩ : ∃ N, stX x.natAbs 0 = N := ⟨_, rfl⟩
  obtain ⟨L1, hL1⟩ : ∃ N, stZ x.natAbs 0 = N := ⟨_, rfl⟩
  obtain ⟨N2, hN2⟩ : ∃ N, stN (decide (y < 0)) y.natAbs 0 = N := ⟨_, rfl⟩
  obtain ⟨X2, hX2⟩ : ∃ N, stX y.natAbs 0 = N := ⟨_, rfl⟩
  obtain ⟨L2, hL2⟩ : ∃ N, stZ y.natAbs 0 = N := ⟨_, rfl⟩
  rw [hN1, hX1, hL1] at i1 H1
  rw [hX1, hL1] at i3
  rw [hL1] at i2
  rw [hN1] at i4
  rw [hN2, hX2, hL2] at j1 H2
  rw [hX2, hL2] at j3
  rw [hL2] at j2
  obtain ⟨Z, hZ⟩ : ∃ z, z = x.natAbs % y.natAbs := ⟨_, rfl⟩
  -- the rest as a number
  have hmz : (x.tmod y).natAbs = Z := by rw [hZ]; exact Int.natAbs_tmod x y
  have hZ40 : Z < 10 ^ 40 := by rw [hZ]; have := Nat.mod_le x.natAbs y.natAbs; omega
  have hms : stN (decide (x.tmod y < 0)) Z 0 = stN N1 Z 0 := by
    rcases Nat.eq_zero_or_pos Z with h0 | h0
    · rw [h0, (st_zero _ 0).2.1, (st_zero _ 0).2.1]
    · have hxp : 0 < x.natAbs := by
        rcases Nat.eq_zero_or_pos x.natAbs with h | h
        · rw [h, Nat.zero_mod] at hZ; omega
        · exact h
      rw [i4 hxp]
      congr 1
      rw [decide_eq_decide]
      constructor
      · intro h
        by_cases h2 : x < 0
        · exact h2
        · have := Int.tmod_nonneg y (show 0 ≤ x by omega); omega
      · intro h
        have h3 : 0 ≤ (-x).tmod y := Int.tmod_nonneg y (by omega)
        rw [Int.neg_tmod] at h3
        omega
  have hmb : -9223372036854775808 ≤ x.tmod y ∧ x.tmod y ≤ 9223372036854775807 := by
    have : Z < 1099511627776 := by rw [hZ]; have := Nat.mod_le x.natAbs y.natAbs; omega
    omega
  have HI := Lib.hid (fun V => RInt_c (x.tmod y) V hmb.1 hmb.2)
  rw [hmz, hms] at HI
  have HM := Lib.hid (fun V A1 n1 c1 A2 n2 c2 (h1 : Rd V (fun b => w.heap.size ≤ b ∧ b < V.heap.size) A1 n1 L1) (h2 : Rd V (fun b => w.heap.size ≤ b ∧ b < V.heap.size) A2 n2 L2) hn hm => QMod_c (c := c1) (d := c2) N1 N2 X1 X2 V h1 h2 (fun b h => h.2) hn hm)
  have hE2 : okE2 N1 L1 X1 N2 L2 X2 = 0 := by unfold okE2 okE; rw [if_pos i1, if_pos j1]
  have hfacts : ∀ E0 s Z0 lo, Chk (okE2 N1 L1 X1 N2 L2 X2) (PMod N1 (val L1) X1 (val L2) X2) E0 s Z0 lo → (y = 0 ∧ E0 = 53) ∨ (y ≠ 0 ∧ E0 = 0 ∧ s = N1 ∧ Z0 = Z ∧ lo = 0) := by
    intro E0 s Z0 lo h
    rcases h with ⟨h, _⟩ | ⟨_, h | ⟨h0, h1, h2, h3, h4⟩⟩
    · exact absurd hE2 h
    · rw [j3] at h; exact .inl ⟨by omega, h.2⟩
    · rw [j3] at h0
      rw [i3, j3] at h3
      exact .inr ⟨by omega, h1, h2, h3.trans hZ.symm, h4⟩
  have hst : stE Z 0 = 0 := stE_small hZ40
  have HF := Lib.hid hfacts
  have HST := Lib.hid hst
  have HMB := Lib.hid hmb
  have HX : Hid (a.tmod 1099511627776 = x) := Lib.hid hx
  clear hfacts hst i1 i2 i3 i4 j1 j2 j3 j4 hN1 hX1 hL1 hN2 hX2 hL2 hZ hms hmb hE2 h40 hZ40 hmz
  unfold dv at H1 H2 HM HI
  go_enter Tryz.func7, Tryz.ntmps7
  go_wp2_with fail
  refine (alive3_c w).mono ?_
  rintro e w0 ⟨rfl, hB0⟩
  go_wp2_with fail
  refine (H1.out w0).mono ?_
  rintro e w1 ⟨A1, n1, c1, rfl, r1, hb1⟩
  have hB1 := hB0.trans (hb1.mono hB0.size)
  have r1 := r1.more (base' := w.heap.size) hB0.size
  go_wp2_with fail
  refine (H2.out w1).mono ?_
  rintro e w2 ⟨A2, n2, c2, rfl, r2, hb2⟩
  have r1 := r1.below hb2 (Nat.le_refl _)
  have r2 := r2.more (base' := w.heap.size) hB1.size
  have hB2 := hB1.trans (hb2.mono hB1.size)
  have hn1 : n1 ≤ 9223372036854775807 := by have h1 := r1.n_le; unfold maxLen at h1; omega
  have hn2 : n2 ≤ 9223372036854775807 := by have h1 := r2.n_le; unfold maxLen at h1; omega
  go_wp2_with fail
  refine (HM.out w2 A1 n1 c1 A2 n2 c2 r1.rd r2.rd hn1 hn2).mono ?_
  rintro e w3 ⟨⟨E0, s0, Z0, lo0, hP, A3, n3, c3, rfl, r3⟩, hb3⟩
  have hB3 := hB2.trans (hb3.mono hB2.size)
  have r3 := r3.more (base' := w.heap.size) hB2.size
  rcases HF.out _ _ _ _ hP with ⟨hy0, rfl⟩ | ⟨hy0, rfl, rfl, rfl, rfl⟩
  · subst hy0
    have e0 : opE 53 Z0 lo0 = 53 := rfl
    rw [e0]
    dsimp only [dv]
    go_wp2_with (go_at_call 22; refine (num3_c _ _).mono ?_; rintro e w' ⟨rfl, rfl⟩)
    go_ret
    exact ⟨rfl, hB3.alloc hB3.size _⟩
  · have e0 : opE 0 Z0 0 = 0 := HST.out
    have e1 : opN 0 s0 Z0 0 = stN s0 Z0 0 := rfl
    have e2 : opX 0 Z0 0 = stX Z0 0 := rfl
    have e3 : opZ 0 Z0 0 = stZ Z0 0 := rfl
    rw [e0, e1, e2]
    rw [e3] at r3
    have hyb : (y == 0) = false := by rw [beq_eq_false_iff_ne]; exact hy0
    clear e0 e1 e2 e3 hP
    dsimp only [dv]
    go_upto_region 7 with fail
    have m3 := World.alloc_heap_new w3 (.cells #[.bool (stN s0 Z0 0), .slice A3 n3 c3, .int .i64 (stX Z0 0)] 24)
    have hal : Below w3.heap.size w3 (w3.alloc (.cells #[.bool (stN s0 Z0 0), .slice A3 n3 c3, .int .i64 (stX Z0 0)] 24)) := (Below.refl _ _).alloc (Nat.le_refl _) _
    have r3 := r3.below hal (Nat.le_refl _)
    have hB3 := hB3.trans (hal.mono hB3.size)
    generalize w3.alloc (.cells #[.bool (stN s0 Z0 0), .slice A3 n3 c3, .int .i64 (stX Z0 0)] 24) = W3 at m3 r3 hB3 ⊢
    generalize w3.heap.size = g at m3 ⊢
    obtain ⟨x0, x1, x2⟩ := box3_of m3
    clear hal
    have htm : (IntKind.i64.wrap (x.tmod y)) = x.tmod y := IntWalk.i64_in _ HMB.out
    have HTM := Lib.hid htm
    clear htm
    go_wp2_with fail
    refine wp_region_held_drew (S := fun w' => w'.cell? ⟨g, 0, none⟩ = some (.bool (stN s0 Z0 0)) ∧ w'.cell? ⟨g, 1, none⟩ = some (.slice A3 n3 c3) ∧ w'.cell? ⟨g, 2, none⟩ = some (.int .i64 (stX Z0 0))) (by kernel_rfl) ⟨x0, x1, x2⟩ (fun hHeld => ?_)
    (try simp only [List.size_toArray, List.length_cons, List.length_nil, Nat.reduceAdd, Array.replicate_succ, Array.replicate_zero, List.push_toArray, List.append_toArray, List.nil_append, List.cons_append])
    refine wpAnyH_take (i := 0) (oi := ⟨_, _, _, _, _, _⟩) (v := ?_) rfl (by kernel_rfl) (by kernel_rfl) (by kernel_rfl) (fun _ _ _ h => h) (Or.inl ⟨by rfl, ?_⟩) (by assumption) ?_
    rotate_left
    · intro w hSw
      (try dsimp only at hSw)
      go_split_ands
      go_simp
      try with_reducible rfl
    try simp only [Act.put, List.setIfInBounds_toArray, List.set_cons_zero, List.set_cons_succ]
    have m3 : W3.drew.heap[g]? = _ := m3
    have hB : Below w.heap.size w W3.drew := only_drewB hB3
    have r3 : Res W3.drew w.heap.size A3 n3 c3 (stZ Z0 0) := r3.keep (fun _ _ => rfl)
    generalize hV0 : W3.drew = V0 at *
    clear hV0 x0 x1 x2
    obtain ⟨x0, x1, x2⟩ := box3_of m3
    refine wpAnyH_ready (rs := [1]) (by kernel_rfl) (by simp) ?_
    refine (AllReadyH.cons (o := ⟨_, _, _, _, _, _⟩) rfl (fun K hK => ?_) AllReadyH.nil)
    go_simp
    refine (num3_c _ _).mono ?_
    rintro e w' ⟨rfl, rfl⟩
    (try dsimp only)
    refine hK.out _ _ ⟨x0, x1, x2⟩ (fun hHeld => ?_)
    clear hK K
    try simp only [Act.put, List.setIfInBounds_toArray, List.set_cons_zero, List.set_cons_succ]
    refine wpAnyH_take (i := 2) (oi := ⟨_, _, _, _, _, _⟩) (v := ?_) rfl (by kernel_rfl) (by kernel_rfl) (by kernel_rfl) (fun _ _ _ h => h) (Or.inl ⟨by rfl, ?_⟩) (by assumption) ?_
    rotate_left
    · intro w hSw
      (try dsimp only at hSw)
      go_split_ands
      go_simp
      try with_reducible rfl
    try simp only [Act.put, List.setIfInBounds_toArray, List.set_cons_zero, List.set_cons_succ]
    refine wpAnyH_take (i := 3) (oi := ⟨_, _, _, _, _, _⟩) (v := ?_) rfl (by kernel_rfl) (by kernel_rfl) (by kernel_rfl) (fun _ _ _ h => h) (Or.inl ⟨by rfl, ?_⟩) (by assumption) ?_
    rotate_left
    · intro w hSw
      (try dsimp only at hSw)
      go_split_ands
      go_simp
      try with_reducible rfl
    try simp only [Act.put, List.setIfInBounds_toArray, List.set_cons_zero, List.set_cons_succ]
    refine wpAnyH_take (i := 4) (oi := ⟨_, _, _, _, _, _⟩) (v := ?_) rfl (by kernel_rfl) (by kernel_rfl) (by kernel_rfl) (fun _ _ _ h => h) (Or.inl ⟨by rfl, ?_⟩) (by assumption) ?_
    rotate_left
    · intro w hSw
      (try dsimp only at hSw)
      go_split_ands
      go_simp
      try with_reducible rfl
    try simp only [Act.put, List.setIfInBounds_toArray, List.set_cons_zero, List.set_cons_succ]
    refine wpAnyH_take (i := 5) (oi := ⟨_, _, _, _, _, _⟩) (v := ?_) rfl (by kernel_rfl) (by kernel_rfl) (by kernel_rfl) (fun _ _ _ h => h) (Or.inl ⟨by rfl, ?_⟩) (by assumption) ?_
    rotate_left
    · intro w hSw
      (try dsimp only at hSw)
      go_split_ands
      go_simp
      try with_reducible rfl
    try simp only [Act.put, List.setIfInBounds_toArray, List.set_cons_zero, List.set_cons_succ]
    refine wpAnyH_take (i := 6) (oi := ⟨_, _, _, _, _, _⟩) (v := ?_) rfl (by kernel_rfl) (by kernel_rfl) (by kernel_rfl) (fun _ _ _ h => h) (Or.inl ⟨by rfl, ?_⟩) (by assumption) ?_
    rotate_left
    · intro w hSw
      (try dsimp only at hSw)
      go_split_ands
      go_simp
      try with_reducible rfl
    try simp only [Act.put, List.setIfInBounds_toArray, List.set_cons_zero, List.set_cons_succ]
    refine wpAnyH_take (i := 7) (oi := ⟨_, _, _, _, _, _⟩) (v := ?_) rfl (by kernel_rfl) (by kernel_rfl) (by kernel_rfl) (fun _ _ _ h => h) (Or.inl ⟨by rfl, ?_⟩) (by assumption) ?_
    rotate_left
    · intro w hSw
      (try dsimp only at hSw)
      go_split_ands
      go_simp
      try with_reducible rfl
    try simp only [Act.put, List.setIfInBounds_toArray, List.set_cons_zero, List.set_cons_succ]
    clear x0 x1 x2
    refine wpAnyH_ready (rs := [8]) (by kernel_rfl) (by simp) ?_
    refine (AllReadyH.cons (o := ⟨_, _, _, _, _, _⟩) rfl (fun K hK => ?_) AllReadyH.nil)
    go_simp
    first | rw [HTM.out] | skip
    refine (HI.out V0).mono ?_
    rintro e V1 ⟨A4, n4, c4, rfl, r4, hb0⟩
    have r3 := r3.below hb0 (Nat.le_refl _)
    have m3 := heldz hb0 m3
    have r4 := r4.more (base' := w.heap.size) hB.size
    have hB := hB.trans (hb0.mono hB.size)
    obtain ⟨x0, x1, x2⟩ := box3_of m3
    (try dsimp only)
    refine hK.out _ _ ⟨x0, x1, x2⟩ (fun hHeld => ?_)
    clear hK K
    try simp only [Act.put, List.setIfInBounds_toArray, List.set_cons_zero, List.set_cons_succ]
    clear hb0 x0 x1 x2
    refine wpAnyH_ready (rs := [9]) (by kernel_rfl) (by simp) ?_
    refine (AllReadyH.cons (o := ⟨_, _, _, _, _, _⟩) rfl (fun K hK => ?_) AllReadyH.nil)
    go_simp
    have hn3 : n3 ≤ 9223372036854775807 := by have h1 := r3.n_le; unfold maxLen at h1; omega
    have hn4 : n4 ≤ 9223372036854775807 := by have h1 := r4.n_le; unfold maxLen at h1; omega
    have hsm := DSame_eq (c := c3) (d := c4) (stN s0 Z0 0) (stX Z0 0) V1 r3.rd r4.rd (fun b h => h.2) (fun b h => h.2) hn3 hn4
    dsimp only [dv] at hsm ⊢
    refine hsm.mono ?_
    rintro e V2 ⟨rfl, hb0⟩
    have m3 := heldz hb0 m3
    have hB := hB.trans (hb0.mono hB.size)
    obtain ⟨x0, x1, x2⟩ := box3_of m3
    (try dsimp only)
    refine hK.out _ _ ⟨x0, x1, x2⟩ (fun hHeld => ?_)
    clear hK K
    try simp only [Act.put, List.setIfInBounds_toArray, List.set_cons_zero, List.set_cons_succ]
    refine wpAnyH_take (i := 10) (oi := ⟨_, _, _, _, _, _⟩) (v := ?_) rfl (by kernel_rfl) (by kernel_rfl) (by kernel_rfl) (fun _ _ _ h => h) (Or.inl ⟨by rfl, ?_⟩) (by assumption) ?_
    rotate_left
    · intro w hSw
      (try dsimp only at hSw)
      go_split_ands
      go_simp
      try with_reducible rfl
    try simp only [Act.put, List.setIfInBounds_toArray, List.set_cons_zero, List.set_cons_succ]
    refine wpAnyH_take (i := 11) (oi := ⟨_, _, _, _, _, _⟩) (v := ?_) rfl (by kernel_rfl) (by kernel_rfl) (by kernel_rfl) (fun _ _ _ h => h) (Or.inl ⟨by rfl, ?_⟩) (by assumption) ?_
    rotate_left
    · intro w hSw
      (try dsimp only at hSw)
      go_split_ands
      go_simp
      try with_reducible rfl
    try simp only [Act.put, List.setIfInBounds_toArray, List.set_cons_zero, List.set_cons_succ]
    refine wpAnyH_done (by kernel_rfl) ?_ _
    go_wp2
    go_ret
    exact ⟨rfl, hB⟩
end Go.Proofs.YtbbafggejnjjiaaGreatDoor
