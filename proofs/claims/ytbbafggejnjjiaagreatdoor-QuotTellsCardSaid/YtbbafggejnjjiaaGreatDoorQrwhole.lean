/-
  Contract of bolterref03's whole. Written by gen_rwhole.py.
-/
import Derived.Test.YtbbafggejnjjiaaGreatDoorQcall
import Derived.Test.YtbbafggejnjjiaaGreatDoorDrck
set_option linter.unusedVariables false
set_option linter.unusedSimpArgs false
namespace Go.Proofs.YtbbafggejnjjiaaGreatDoor
open Go.RowKit

theorem wq_pos {v : Nat} {e : Int} (h : 0 ≤ e) : wq v e = dp e.toNat * v ∧ wr v e = 0 ∧ wd 1 (-e) = 1 := by
  unfold wq wr wd dp
  rw [show (-e).toNat = 0 by omega, Nat.pow_zero, Nat.mul_one, Nat.div_one, Nat.mod_one, Nat.mul_comm]
  exact ⟨rfl, rfl, rfl⟩
theorem wq_neg {v : Nat} {e : Int} (h : e < 0) : wq v e = v / dp (-e).toNat ∧ wr v e = v % dp (-e).toNat ∧ wd 1 (-e) = dp (-e).toNat := by
  unfold wq wr wd dp
  rw [show e.toNat = 0 by omega, Nat.pow_zero, Nat.mul_one, Nat.one_mul]
  exact ⟨rfl, rfl, rfl⟩
theorem dig_split {ds : List Nat} (h : D10 ds) {k : Nat} (hk : k ≤ ds.length) : dval ds / dp k = dval (ds.drop k) ∧ dval ds % dp k = dval (ds.take k) := by
  have h1 := dval_split ds k hk
  have h2 : dval (ds.take k) < dp k := by
    have h3 := dval_lt (xs := ds.take k) (fun x hx => h x (List.mem_of_mem_take hx))
    rwa [List.length_take, Nat.min_eq_left hk] at h3
  have hp : 0 < dp k := Nat.pow_pos (by omega)
  have h4 := (Nat.div_mod_unique hp).2 ⟨(show dval (ds.take k) + dp k * dval (ds.drop k) = dval ds from h1.symm), h2⟩
  exact h4
/-- The half of a rest, by its highest digit. -/
theorem half_dig {ds : List Nat} (h : D10 ds) {k : Nat} (hk : k < ds.length) : decide (0 ≤ half (dval (ds.take (k + 1))) (dp (k + 1))) = decide (5 ≤ nth ds k) := by
  rw [decide_eq_decide, dval_take_succ k, dp_succ]
  have h2 : dval (ds.take k) < dp k := by
    have h3 := dval_lt (xs := ds.take k) (fun x hx => h x (List.mem_of_mem_take hx))
    rwa [List.length_take, Nat.min_eq_left (by omega)] at h3
  generalize dval (ds.take k) = r at *
  have hx := dth_lt h k
  generalize nth ds k = d at *
  generalize dp k = P at *
  unfold half
  rcases Nat.lt_or_ge d 5 with h5 | h5
  · have h6 : P * d ≤ P * 4 := Nat.mul_le_mul_left _ (by omega)
    rw [if_pos (by omega)]
    omega
  · have h6 : P * 5 ≤ P * d := Nat.mul_le_mul_left _ h5
    rw [if_neg (by omega)]
    split <;> omega
set_option maxRecDepth 100000 in
set_option maxHeartbeats 4000000 in
theorem rwhole_c {S : Nat → Prop} {n c : Nat} {A : Option Addr} {xs : List Nat} (na : Bool) (e1 : Int) (w : World) (ha : Rd w S A n xs) (hS : ∀ b, S b → b < w.heap.size) (k1 : okB na xs e1 = true) :
    Calls Tryz.prog 71 #[dv na A n c e1] w fun e w' => ∃ A' n' c' ds, e = .returned (.tuple #[.slice A' n' c', .bool (decide (wr (val xs) e1 ≠ 0)), .bool (decide (0 ≤ half (wr (val xs) e1) (wd 1 (-e1))))]) ∧ RdI w' (fun b => b < w'.heap.size) A' n' ds ∧ DCan ds ∧ dval ds = wq (val xs) e1 ∧ n' ≤ 5000 ∧ n' ≤ c' ∧ c' ≤ 9223372036854775807 ∧ Below w.heap.size w w' := by
  have up : ∀ {V : World}, Below w.heap.size w V → ∀ b, b < w.heap.size → b < V.heap.size := fun h b hb => by have := h.size; omega
  obtain ⟨a1, a2, a3, ⟨he1, he2⟩, _, _⟩ := okB_true ha.l32 k1
  have hn256 : n ≤ 256 := by rw [← ha.len]; exact a2
  have hl300 : (dOf (val xs)).length ≤ 300 := okB_len k1
  have HO := Lib.hid (fun V (h1 : Rd V S A n xs) hs => Of_c (c := c) na e1 V h1 hs hn256)
  unfold dv nv at HO
  unfold dv
  have hW : Below w.heap.size w (w.alloc (.cells #[.bool na, .slice A n c, .int .i64 e1] 24)) := (Below.refl w.heap.size w).alloc (Nat.le_refl _) _
  have ma := World.alloc_heap_new w (.cells #[.bool na, .slice A n c, .int .i64 e1] 24)
  obtain ⟨MORE, hM⟩ : ∃ b, Hid (b = decide (wr (val xs) e1 ≠ 0)) := ⟨_, Lib.hid rfl⟩
  obtain ⟨HALF, hH⟩ : ∃ b, Hid (b = decide (0 ≤ half (wr (val xs) e1) (wd 1 (-e1)))) := ⟨_, Lib.hid rfl⟩
  rw [← hM.out, ← hH.out]
  have HK := Lib.hid k1
  have HXL := Lib.hid ha.l32
  clear a1 a2 k1
  go_enter Tryz.func71, Tryz.ntmps71
  go_wp2_with fail
  generalize w.alloc (.cells #[.bool na, .slice A n c, .int .i64 e1] 24) = W at ma hW ⊢
  obtain ⟨x0, x1, x2⟩ := box3_of ma
  refine (HO.out W (ha.below hW hS) (fun b h => up hW b (hS b h))).mono ?_
  rintro e w1 ⟨A2, n2, c2, ds, rfl, r2, d2, v2, l2, hb0⟩
  have hl2 : n2 = (dOf (val xs)).length := by rw [← v2, ← eq_dOf d2]; exact r2.len.symm
  have r2 := r2.more (base' := w.heap.size) hW.size
  have hB := hW.trans (hb0.mono hW.size)
  have HV2 := Lib.hid v2
  have hn2 : n2 ≤ 300 := by omega
  have hcap := r2.n_le
  unfold maxLen at hcap
  obtain ⟨hcap1, hcap2⟩ := hcap
  clear x0 x1 x2 hb0 hl2 v2 ma hW
  go_upto_region 2 with fail
  have hal : Below w1.heap.size w1 (w1.alloc (.cells #[.bool na, .slice A2 n2 c2, .int .i64 e1] 41)) := (Below.refl _ _).alloc (Nat.le_refl _) _
  have mz := World.alloc_heap_new w1 (.cells #[.bool na, .slice A2 n2 c2, .int .i64 e1] 41)
  have r2 := r2.below hal (Nat.le_refl _)
  have hB := hB.trans (hal.mono hB.size)
  generalize w1.alloc (.cells #[.bool na, .slice A2 n2 c2, .int .i64 e1] 41) = W1 at mz r2 hB ⊢
  clear hal
  obtain ⟨y0, y1, y2⟩ := box3_of mz
  have hrd := Lib.hid (r2.rd.more (S' := fun b => b < W1.heap.size) (fun b h => h.2))
  by_cases he : 0 ≤ e1
  · obtain ⟨k, hk⟩ : ∃ k : Nat, (k : Int) = e1 := ⟨e1.toNat, by omega⟩
    obtain ⟨q1, q2, q3⟩ := wq_pos (v := val xs) he
    have hmf : MORE = false := by rw [hM.out, q2]; rfl
    have hhf : HALF = false := by rw [hH.out, q2, q3]; rfl
    have hsh := Shift_c (c := c2) k W1 hrd.out (fun b h => h) d2 (by omega) (by omega)
    rw [hk] at hsh
    subst hmf hhf
    have HSH := Lib.hid hsh
    have HQ := Lib.hid (show wq (val xs) e1 = dp k * dval ds by rw [q1, HV2.out, show e1.toNat = k by omega])
    have hk1 : k ≤ 1000 := by omega
    clear q1 q2 q3 hsh hk hM hH
    go_wp2_with fail
    refine HSH.out.mono ?_
    rintro e w3 ⟨A3, n3, c3, os, rfl, r3, d3, v3, l3, hb0⟩
    go_wp2
    refine bodyPost_ret (v := .tuple #[.slice A3 n3 c3, .bool false, .bool false]) (by simp [results, Tryz.results71, go_sem]) rfl ?_
    have h3 := r3.n_le
    unfold maxLen at h3
    exact ⟨A3, n3, c3, os, rfl, r3.rd.more (fun b h => h.2), d3, v3.trans HQ.out.symm, by omega, h3.1, by omega, hB.trans (hb0.mono hB.size)⟩
  · obtain ⟨N, hN⟩ : ∃ N : Nat, -e1 = (N : Int) := ⟨(-e1).toNat, by omega⟩
    have he0 : e1 < 0 := by omega
    obtain ⟨q1, q2, q3⟩ := wq_neg (v := val xs) he0
    rw [show (-e1).toNat = N by omega] at q1 q2 q3
    have hNp : 0 < N := by omega
    by_cases hgt : n2 < N
    · have hgi : (n2 : Int) < (N : Int) := by omega
      have hvl : val xs < dp n2 := by
        rw [← HV2.out]
        have h1 := dval_lt d2.1
        rwa [r2.len] at h1
      have hpw : 10 * dp n2 ≤ dp N := by
        unfold dp
        rw [Nat.mul_comm, ← Nat.pow_succ]
        exact Nat.pow_le_pow_right (by omega) hgt
      have w1' : wq (val xs) e1 = 0 := by rw [q1]; exact Nat.div_eq_of_lt (by omega)
      have w2' : wr (val xs) e1 = val xs := by rw [q2]; exact Nat.mod_eq_of_lt (by omega)
      have hhf : HALF = false := by
        rw [hH.out, w2', q3]
        unfold half
        rw [if_pos (by omega)]; rfl
      have hmf : MORE = decide (0 < (n2 : Int)) := by
        rw [hM.out, w2', decide_eq_decide, ← HV2.out, ← r2.len]
        constructor
        · intro h
          rcases Nat.eq_zero_or_pos ds.length with h3 | h3
          · rw [List.eq_nil_of_length_eq_zero h3] at h; exact absurd rfl h
          · omega
        · intro h h3
          have := DCan.inj d2 DCan.nil h3
          rw [this] at h; simp at h
      subst hhf
      have HMF := Lib.hid hmf
      have HW0 := Lib.hid w1'
      clear hmf w1' w2' hpw hvl q1 q2 q3 hM hH
      go_wp2_with fail
      go_quiet (fail)
      go_wp2
      refine bodyPost_ret (v := .tuple #[.slice none 0 0, .bool MORE, .bool false]) (by rw [HMF.out]; simp [results, Tryz.results71, go_sem]) rfl ?_
      refine ⟨none, 0, 0, [], rfl, ⟨rfl, fun x hx => by simp at hx, fun h => absurd h (by omega)⟩, DCan.nil, HW0.out.symm, by omega, Nat.le_refl _, by omega, ?_⟩
      first | exact hB | exact (only_drewB hB) | exact below_drewN hB _
    · have hgi : (N : Int) ≤ (n2 : Int) := by omega
      obtain ⟨b2, o2, rfl, hb2, hcell⟩ := hrd.out.at_ (k := N - 1) (by omega)
      obtain ⟨t1, t2⟩ := dig_split d2.1 (k := N) (by rw [r2.len]; omega)
      rw [HV2.out] at t1 t2
      have hmt : MORE = true := by
        rw [hM.out, decide_eq_true_eq, q2]
        intro h
        rcases okB_cases HXL.out HK.out with ⟨_, _, h3⟩ | ⟨_, h3⟩
        · omega
        · apply h3
          have : 10 ∣ dp N := ⟨dp (N - 1), by unfold dp; rw [Nat.mul_comm, ← Nat.pow_succ]; congr 1; omega⟩
          exact Nat.mod_eq_zero_of_dvd (Nat.dvd_trans this (Nat.dvd_of_mod_eq_zero h))
      have hht : HALF = decide (5 ≤ nth ds (N - 1)) := by
        have hd := half_dig d2.1 (k := N - 1) (by rw [r2.len]; omega)
        rw [show N - 1 + 1 = N by omega, ← t2, ← q2, ← q3] at hd
        rw [hH.out]; exact hd
      have HMT := Lib.hid hmt
      have HHT := Lib.hid (show HALF = decide ((5 : Int) ≤ (nth ds (N - 1) : Int)) by rw [hht, decide_eq_decide]; omega)
      have HQ := Lib.hid (show dval (ds.drop N) = wq (val xs) e1 by rw [q1, t1])
      clear hht hmt t1 t2 q1 q2 q3 hM hH
      have yd : W1.cell? ⟨b2, o2 + (N - 1), none⟩ = some (.int .i64 (nth ds (N - 1) : Int)) := hcell
      clear hcell
      generalize w1.heap.size = G at mz y0 y1 y2 ⊢
      have hx10 := dth_lt d2.1 (N - 1)
      have hwN : IntKind.i64.wrap ((N : Int) - 1) = ((N - 1 : Nat) : Int) := by rw [IntWalk.i64_in _ (by omega)]; omega
      go_upto_region 7 with fail
      go_wp2_with fail
      refine wp_region_held_drew (S := fun w' => w'.cell? ⟨G, 0, none⟩ = some (.bool na) ∧ w'.cell? ⟨G, 1, none⟩ = some (.slice (some ⟨b2, o2, none⟩) n2 c2) ∧ w'.cell? ⟨G, 2, none⟩ = some (.int .i64 e1) ∧ w'.cell? ⟨b2, o2 + (N - 1), none⟩ = some (.int .i64 (nth ds (N - 1) : Int))) (by kernel_rfl) ⟨y0, y1, y2, yd⟩ (fun hHeld => ?_)
      (try simp only [List.size_toArray, List.length_cons, List.length_nil, Nat.reduceAdd, Array.replicate_succ, Array.replicate_zero, List.push_toArray, List.append_toArray, List.nil_append, List.cons_append])
      refine wpAnyH_take (i := 0) (oi := ⟨_, _, _, _, _, _⟩) (v := ?_) rfl (by kernel_rfl) (by kernel_rfl) (by kernel_rfl) (fun _ _ _ h => h) (Or.inl ⟨by rfl, ?_⟩) (by assumption) ?_
      rotate_left
      · intro w hSw
        (try dsimp only at hSw)
        go_split_ands
        go_simp
        try with_reducible rfl
      try simp only [Act.put, List.setIfInBounds_toArray, List.set_cons_zero, List.set_cons_succ]
      refine wpAnyH_take (i := 1) (oi := ⟨_, _, _, _, _, _⟩) (v := ?_) rfl (by kernel_rfl) (by kernel_rfl) (by kernel_rfl) (fun _ _ _ h => h) (Or.inl ⟨by rfl, ?_⟩) (by assumption) ?_
      rotate_left
      · intro w hSw
        (try dsimp only at hSw)
        go_split_ands
        go_simp
        try with_reducible rfl
      try simp only [Act.put, List.setIfInBounds_toArray, List.set_cons_zero, List.set_cons_succ]
      refine wpAnyH_take (i := 2) (oi := ⟨_, _, _, _, _, _⟩) (v := ?_) rfl (by kernel_rfl) (by kernel_rfl) (by kernel_rfl) (fun _ _ _ h => h) (Or.inl ⟨by rfl, ?_⟩) (by assumption) ?_
      rotate_left
      · intro w hSw
        (try dsimp only at hSw)
        go_split_ands
        go_simp
        try with_reducible rfl
      try simp only [Act.put, List.setIfInBounds_toArray, List.set_cons_zero, List.set_cons_succ]
      refine wpAnyH_take (i := 3) (oi := ⟨_, _, _, _, _, _⟩) (v := ?_) rfl (by kernel_rfl) (by kernel_rfl) (by kernel_rfl) (fun _ _ _ h => h) (Or.inl ⟨by rfl, ?_⟩) (by assumption) ?_
      rotate_left
      · intro w hSw
        (try dsimp only at hSw)
        go_split_ands
        go_simp
        try with_reducible rfl
      try simp only [Act.put, List.setIfInBounds_toArray, List.set_cons_zero, List.set_cons_succ]
      refine wpAnyH_take (i := 5) (oi := ⟨_, _, _, _, _, _⟩) (v := ?_) rfl (by kernel_rfl) (by kernel_rfl) (by kernel_rfl) (fun _ _ _ h => h) (Or.inl ⟨by rfl, ?_⟩) (by assumption) ?_
      rotate_left
      · intro w hSw
        (try dsimp only at hSw)
        go_split_ands
        go_simp
        try with_reducible rfl
      try simp only [Act.put, List.setIfInBounds_toArray, List.set_cons_zero, List.set_cons_succ]
      refine wpAnyH_take (i := 6) (oi := ⟨_, _, _, _, _, _⟩) (v := ?_) rfl (by kernel_rfl) (by kernel_rfl) (by kernel_rfl) (fun _ _ _ h => h) (Or.inl ⟨by rfl, ?_⟩) (by assumption) ?_
      rotate_left
      · intro w hSw
        (try dsimp only at hSw)
        go_split_ands
        go_simp
        try with_reducible rfl
      try simp only [Act.put, List.setIfInBounds_toArray, List.set_cons_zero, List.set_cons_succ]
      refine wpAnyH_take (i := 7) (oi := ⟨_, _, _, _, _, _⟩) (v := ?_) rfl (by kernel_rfl) (by kernel_rfl) (by kernel_rfl) (fun _ _ _ h => h) (Or.inl ⟨by rfl, ?_⟩) (by assumption) ?_
      rotate_left
      · intro w hSw
        (try dsimp only at hSw)
        go_split_ands
        go_simp
        try with_reducible rfl
      try simp only [Act.put, List.setIfInBounds_toArray, List.set_cons_zero, List.set_cons_succ]
      refine wpAnyH_take (i := 8) (oi := ⟨_, _, _, _, _, _⟩) (v := ?_) rfl (by kernel_rfl) (by kernel_rfl) (by kernel_rfl) (fun _ _ _ h => h) (Or.inl ⟨by rfl, ?_⟩) (by assumption) ?_
      rotate_left
      · intro w hSw
        (try dsimp only at hSw)
        go_split_ands
        go_simp
        try with_reducible rfl
      try simp only [Act.put, List.setIfInBounds_toArray, List.set_cons_zero, List.set_cons_succ]
      refine wpAnyH_take (i := 9) (oi := ⟨_, _, _, _, _, _⟩) (v := .pointer (some ⟨b2, o2 + (N - 1), none⟩)) rfl (by kernel_rfl) (by kernel_rfl) (by kernel_rfl) (fun _ _ _ h => h) (Or.inl ⟨by rfl, ?_⟩) (by assumption) ?_
      · intro w hSw
        (try dsimp only at hSw)
        go_split_ands
        go_simp
        intro h
        exact absurd h (by omega)
      try simp only [Act.put, List.setIfInBounds_toArray, List.set_cons_zero, List.set_cons_succ]
      refine wpAnyH_take (i := 10) (oi := ⟨_, _, _, _, _, _⟩) (v := ?_) rfl (by kernel_rfl) (by kernel_rfl) (by kernel_rfl) (fun _ _ _ h => h) (Or.inl ⟨by rfl, ?_⟩) (by assumption) ?_
      rotate_left
      · intro w hSw
        (try dsimp only at hSw)
        go_split_ands
        go_simp
        try with_reducible rfl
      try simp only [Act.put, List.setIfInBounds_toArray, List.set_cons_zero, List.set_cons_succ]
      refine wpAnyH_take (i := 11) (oi := ⟨_, _, _, _, _, _⟩) (v := ?_) rfl (by kernel_rfl) (by kernel_rfl) (by kernel_rfl) (fun _ _ _ h => h) (Or.inl ⟨by rfl, ?_⟩) (by assumption) ?_
      rotate_left
      · intro w hSw
        (try dsimp only at hSw)
        go_split_ands
        go_simp
        try with_reducible rfl
      try simp only [Act.put, List.setIfInBounds_toArray, List.set_cons_zero, List.set_cons_succ]
      refine wpAnyH_ready (rs := [4]) (by kernel_rfl) (by simp) ?_
      refine (AllReadyH.cons (o := ⟨_, _, _, _, _, _⟩) rfl (fun K hK => ?_) AllReadyH.nil)
      go_simp
      obtain ⟨AD, hAD⟩ : ∃ a, a = (if c2 = N then (some ⟨b2, o2, none⟩ : Option Addr) else some ⟨b2, o2 + N, none⟩) := ⟨_, rfl⟩
      rw [← hAD]
      have rr : RdI W1.drew (fun b => b < W1.drew.heap.size) AD (n2 - N) (ds.drop N) := by
        have r0 : RdI W1.drew (fun b => b < W1.drew.heap.size) (some ⟨b2, o2, none⟩) n2 ds := hrd.out.keep fun _ _ => rfl
        by_cases hc : c2 = N
        · have h0 : n2 - N = 0 := by omega
          have h1 : ds.drop N = [] := List.drop_of_length_le (by rw [r2.len]; omega)
          rw [h0, h1]
          exact ⟨rfl, fun x hx => by simp at hx, fun h => absurd h (by omega)⟩
        · rw [hAD, if_neg hc]
          exact r0.drop (by omega)
      have hdd := d2.drop N
      refine (rTrim_c (c := c2 - N) W1.drew rr (by omega) (by omega)).mono ?_
      rintro e w' ⟨rfl, rfl⟩
      (try dsimp only)
      refine hK.out _ _ ⟨y0, y1, y2, yd⟩ (fun hHeld => ?_)
      clear hK K
      try simp only [Act.put, List.setIfInBounds_toArray, List.set_cons_zero, List.set_cons_succ]
      try rw [← hAD]
      clear hAD
      refine wpAnyH_take (i := 12) (oi := ⟨_, _, _, _, _, _⟩) (v := ?_) rfl (by kernel_rfl) (by kernel_rfl) (by kernel_rfl) (fun _ _ _ h => h) (Or.inl ⟨by rfl, ?_⟩) (by assumption) ?_
      rotate_left
      · intro w hSw
        (try dsimp only at hSw)
        go_split_ands
        go_simp
        try with_reducible rfl
      try simp only [Act.put, List.setIfInBounds_toArray, List.set_cons_zero, List.set_cons_succ]
      refine wpAnyH_take (i := 13) (oi := ⟨_, _, _, _, _, _⟩) (v := ?_) rfl (by kernel_rfl) (by kernel_rfl) (by kernel_rfl) (fun _ _ _ h => h) (Or.inl ⟨by rfl, ?_⟩) (by assumption) ?_
      rotate_left
      · intro w hSw
        (try dsimp only at hSw)
        go_split_ands
        go_simp
        try with_reducible rfl
      try simp only [Act.put, List.setIfInBounds_toArray, List.set_cons_zero, List.set_cons_succ]
      refine wpAnyH_take (i := 14) (oi := ⟨_, _, _, _, _, _⟩) (v := ?_) rfl (by kernel_rfl) (by kernel_rfl) (by kernel_rfl) (fun _ _ _ h => h) (Or.inl ⟨by rfl, ?_⟩) (by assumption) ?_
      rotate_left
      · intro w hSw
        (try dsimp only at hSw)
        go_split_ands
        go_simp
        try with_reducible rfl
      try simp only [Act.put, List.setIfInBounds_toArray, List.set_cons_zero, List.set_cons_succ]
      refine wpAnyH_done (by kernel_rfl) ?_ _
      go_wp2
      refine bodyPost_ret (v := .tuple #[.slice AD (tl (ds.drop N) (n2 - N)) (c2 - N), .bool MORE, .bool HALF]) (by rw [HMT.out, HHT.out]; simp [results, Tryz.results71, go_sem]) rfl ?_
      have htl : tl (ds.drop N) (n2 - N) ≤ n2 - N := tl_le _ _
      refine ⟨AD, tl (ds.drop N) (n2 - N), c2 - N, trimmed (ds.drop N), rfl, ?_, trimmed_dcan hdd.1, ?_, by omega, by omega, by omega, only_drewB hB⟩
      · have := rr.take htl
        unfold trimmed
        rw [rr.len]
        exact this
      · rw [trimmed_dval]; exact HQ.out
end Go.Proofs.YtbbafggejnjjiaaGreatDoor
