/-
  Contracts of the reference's Plus and Minus, of digits.
-/
import Derived.Test.YtdlphdbojkdfoaaRefc
set_option linter.unusedVariables false
set_option linter.unusedSimpArgs false
namespace Go.Proofs.Ytdlphdbojkdfoaa
open Go.RowKit

theorem plus_step {os xs ys : List Nat} {k : Nat} (hl : os.length = k) (h : dval os = dval (xs.take k) + dval (ys.take k)) : dval (os ++ [nth xs k + nth ys k]) = dval (xs.take (k + 1)) + dval (ys.take (k + 1)) := by
  rw [dval_snoc, hl, h, dval_take_succ, dval_take_succ, Nat.mul_add]
  omega
theorem upto_snoc {M : Nat} {xs : List Nat} {x : Nat} (h : Upto M xs) (hx : x ≤ M) : Upto M (xs ++ [x]) := fun y hy => by
  rcases List.mem_append.1 hy with h1 | h1
  · exact h y h1
  · rw [List.mem_singleton.1 h1]; exact hx

set_option maxRecDepth 100000 in
set_option maxHeartbeats 1000000 in
theorem Plus_c {S S' : Nat → Prop} {n m c d : Nat} {A B : Option Addr} {xs ys : List Nat} (w : World) (ha : RdI w S A n xs) (hb : RdI w S' B m ys) (hS : ∀ b, S b → b < w.heap.size) (hS' : ∀ b, S' b → b < w.heap.size) (hx : D10 xs) (hy : D10 ys) (hn : n ≤ 100000) (hm : m ≤ 100000) :
    Calls Try.prog 39 #[.slice A n c, .slice B m d] w fun e w' => ∃ A' n' c' os, e = .returned (.slice A' n' c') ∧ ResI w' w.heap.size A' n' c' os ∧ DCan os ∧ dval os = dval xs + dval ys ∧ Below w.heap.size w w' := by
  have HL := Lib.hid ha.len
  have HM := Lib.hid hb.len
  have HX := Lib.hid hx
  have HY := Lib.hid hy
  clear hx hy
  obtain ⟨i0, hi, hz0, hz1, hz2⟩ := info_parts infoI
  go_enter Try.func39, Try.ntmps39
  go_wp2
  go_loopw [5, 6] (fun ov iv wr => ∃ (k : Nat) (Ao : Option Addr) (co : Nat) (os : List Nat), k ≤ 100000 ∧ iv = .int .i64 (k : Int) ∧ ov = .slice Ao k co ∧
      ResI wr w.heap.size Ao k co os ∧ Upto 18 os ∧ Hid (dval os = dval (xs.take k) + dval (ys.take k)) ∧ Below w.heap.size w wr) (fun _ iv _ => (n + m) - (intOf iv).toNat)
  case atStart => exact ⟨0, none, 0, [], Nat.zero_le _, rfl, rfl, ResI.nil _ _, (fun x hx => absurd hx (by simp)), rfl, Below.refl _ _⟩
  case round =>
    obtain ⟨k, Ao, co, os, hk, rfl, rfl, hres, hos, hval, hbel⟩ := hrel
    have hro : ∀ o, (wr.alloc o).ownsRow w.heap.size 3 1 (.slice Ao k co) k (i64s os) := fun o => hres.own.alloc o
    have hx9 := dth_lt HX.out k
    have hy9 := dth_lt HY.out k
    by_cases h1 : k < n
    · obtain ⟨b, off, rfl, hSb, hcell0⟩ := ha.at_ (k := k) h1
      have hcell : wr.cell? ⟨b, off + k, none⟩ = some (.int .i64 (nth xs k : Int)) := (hbel.cell (p := ⟨b, off + k, none⟩) (hS _ hSb)).trans hcell0
      by_cases h2 : k < m
      · obtain ⟨b2, off2, rfl, hSb2, hcell20⟩ := hb.at_ (k := k) h2
        have hcell2 : wr.cell? ⟨b2, off2 + k, none⟩ = some (.int .i64 (nth ys k : Int)) := (hbel.cell (p := ⟨b2, off2 + k, none⟩) (hS' _ hSb2)).trans hcell20
        obtain ⟨t, ht⟩ : ∃ t, t = nth xs k + nth ys k := ⟨_, rfl⟩
        have hti : (nth xs k : Int) + (nth ys k : Int) = (t : Int) := by omega
        have htb : t ≤ 18 := by omega
        have HT := Lib.hid ht
        clear ht
        go_wp2_with (at_builtin; refine wpList_append_own_at _ rfl (.tmp 40) (.tmp 42) _ rfl w.heap.size 3 i0 (.int .i64 0) 1 8 Try.underlying58 hi hz0 hz1 hz2 rfl (by decide) (.slice Ao k co) k (i64s os) rfl (hro _) ⟨wr.heap.size, 0, none⟩ 1 1 [.int .i64 ((t : Nat) : Int)] rfl rfl (cell_new1 _ _ _ _ rfl) (by simp [Value.oneCell']) (by unfold maxLen; omega) (by omega) (by simp; have := hbel.size; omega) ?_; intro v1 w1 hown1 hg1 _ hat1)
        obtain ⟨g', cap', hv'⟩ := ownsRow_succ hown1
        subst hv'
        refine ⟨⟨k + 1, _, _, os ++ [t], by omega, by go_num, rfl, ResI.snoc hres.len hres.l32 (by omega) hown1, upto_snoc hos htb, ?_, hres.below_append hbel hbel.size hg1⟩, by simp [intOf]; omega⟩
        rw [HT.out]
        exact Lib.hid (plus_step hres.len hval.out)
      · have hy0 : Hid (nth ys k = 0) := nth_none (by rw [HM.out]; omega)
        go_wp2_with (at_builtin; refine wpList_append_own_at _ rfl (.tmp 40) (.tmp 42) _ rfl w.heap.size 3 i0 (.int .i64 0) 1 8 Try.underlying58 hi hz0 hz1 hz2 rfl (by decide) (.slice Ao k co) k (i64s os) rfl (hro _) ⟨wr.heap.size, 0, none⟩ 1 1 [.int .i64 ((nth xs k : Nat) : Int)] rfl rfl (cell_new1 _ _ _ _ rfl) (by simp [Value.oneCell']) (by unfold maxLen; omega) (by omega) (by simp; have := hbel.size; omega) ?_; intro v1 w1 hown1 hg1 _ hat1)
        obtain ⟨g', cap', hv'⟩ := ownsRow_succ hown1
        subst hv'
        refine ⟨⟨k + 1, _, _, os ++ [nth xs k], by omega, by go_num, rfl, ResI.snoc hres.len hres.l32 (by omega) hown1, upto_snoc hos (by omega), ?_, hres.below_append hbel hbel.size hg1⟩, by simp [intOf]; omega⟩
        have := plus_step hres.len hval.out
        rw [hy0.out, Nat.add_zero] at this
        exact Lib.hid this
    · by_cases h2 : k < m
      · obtain ⟨b2, off2, rfl, hSb2, hcell20⟩ := hb.at_ (k := k) h2
        have hcell2 : wr.cell? ⟨b2, off2 + k, none⟩ = some (.int .i64 (nth ys k : Int)) := (hbel.cell (p := ⟨b2, off2 + k, none⟩) (hS' _ hSb2)).trans hcell20
        have hx0 : Hid (nth xs k = 0) := nth_none (by rw [HL.out]; omega)
        go_wp2_with (at_builtin; refine wpList_append_own_at _ rfl (.tmp 40) (.tmp 42) _ rfl w.heap.size 3 i0 (.int .i64 0) 1 8 Try.underlying58 hi hz0 hz1 hz2 rfl (by decide) (.slice Ao k co) k (i64s os) rfl (hro _) ⟨wr.heap.size, 0, none⟩ 1 1 [.int .i64 ((nth ys k : Nat) : Int)] rfl rfl (cell_new1 _ _ _ _ rfl) (by simp [Value.oneCell']) (by unfold maxLen; omega) (by omega) (by simp; have := hbel.size; omega) ?_; intro v1 w1 hown1 hg1 _ hat1)
        obtain ⟨g', cap', hv'⟩ := ownsRow_succ hown1
        subst hv'
        refine ⟨⟨k + 1, _, _, os ++ [nth ys k], by omega, by go_num, rfl, ResI.snoc hres.len hres.l32 (by omega) hown1, upto_snoc hos (by omega), ?_, hres.below_append hbel hbel.size hg1⟩, by simp [intOf]; omega⟩
        have := plus_step hres.len hval.out
        rw [hx0.out, Nat.zero_add] at this
        exact Lib.hid this
      · have HV : Hid (dval os = dval xs + dval ys) := by
          have := hval.out
          rwa [List.take_of_length_le (by rw [HL.out]; omega), List.take_of_length_le (by rw [HM.out]; omega)] at this
        clear hval
        go_wp2_with fail
        refine (carry_c wr hres.rd (fun b h => h.2) hos (by omega) (by omega)).mono ?_
        rintro e w1 ⟨A', n', c', os', rfl, hres1, hcan1, hval1, hbel1⟩
        go_wp2
        go_ret
        exact ⟨_, _, _, os', rfl, hres1.more hbel.size, hcan1, hval1.trans HV.out, hbel.trans (hbel1.mono hbel.size)⟩

theorem minus_step {os xs ys : List Nat} {k le le2 d : Nat} (hl : os.length = k) (h : dval os + dval (ys.take k) = dval (xs.take k) + dp k * le) (hd : d + le + nth ys k = nth xs k + 10 * le2) :
    dval (os ++ [d]) + dval (ys.take (k + 1)) = dval (xs.take (k + 1)) + dp (k + 1) * le2 := by
  rw [dval_snoc, hl, dval_take_succ, dval_take_succ, dp_succ]
  have e1 : dp k * (d + le + nth ys k) = dp k * (nth xs k + 10 * le2) := by rw [hd]
  rw [Nat.mul_add, Nat.mul_add, Nat.mul_add] at e1
  have e2 : 10 * dp k * le2 = dp k * (10 * le2) := by rw [Nat.mul_comm 10, Nat.mul_assoc]
  omega

set_option maxRecDepth 100000 in
set_option maxHeartbeats 1000000 in
theorem Minus_c {S S' : Nat → Prop} {n m c d : Nat} {A B : Option Addr} {xs ys : List Nat} (w : World) (ha : RdI w S A n xs) (hb : RdI w S' B m ys) (hS : ∀ b, S b → b < w.heap.size) (hS' : ∀ b, S' b → b < w.heap.size) (hx : D10 xs) (hy : DCan ys) (hle : dval ys ≤ dval xs) (hn : n ≤ 100000) (hm : m ≤ 100000) :
    Calls Try.prog 42 #[.slice A n c, .slice B m d] w fun e w' => ∃ A' n' c' os, e = .returned (.slice A' n' c') ∧ ResI w' w.heap.size A' n' c' os ∧ DCan os ∧ dval os + dval ys = dval xs ∧ Below w.heap.size w w' := by
  have HL := Lib.hid ha.len
  have HM := Lib.hid hb.len
  have hmn : m ≤ n := by
    rw [← hb.len, ← ha.len]
    rcases Nat.lt_or_ge xs.length ys.length with h | h
    · have := DCan.lt_of_length hx hy h; omega
    · exact h
  have HX := Lib.hid hx
  have HY := Lib.hid hy
  have HLE := Lib.hid hle
  clear hx hy hle
  obtain ⟨i0, hi, hz0, hz1, hz2⟩ := info_parts infoI
  go_enter Try.func42, Try.ntmps42
  go_wp2
  go_loopw [5, 6, 7] (fun ov lv iv wr => ∃ (k le : Nat) (Ao : Option Addr) (co : Nat) (os : List Nat), k ≤ n ∧ iv = .int .i64 (k : Int) ∧ lv = .int .i64 (le : Int) ∧ le ≤ 1 ∧ ov = .slice Ao k co ∧
      ResI wr w.heap.size Ao k co os ∧ D10 os ∧ Hid (dval os + dval (ys.take k) = dval (xs.take k) + dp k * le) ∧ Below w.heap.size w wr) (fun _ _ iv _ => n - (intOf iv).toNat)
  case atStart => exact ⟨0, 0, none, 0, [], Nat.zero_le _, rfl, rfl, by omega, rfl, ResI.nil _ _, D10.nil, rfl, Below.refl _ _⟩
  case round =>
    obtain ⟨k, le, Ao, co, os, hk, rfl, rfl, hle1, rfl, hres, hos, hval, hbel⟩ := hrel
    by_cases h0 : k = n
    · subst h0
      have HV : Hid (dval os + dval ys = dval xs) := by
        have h1 := hval.out
        rw [List.take_of_length_le (by rw [HM.out]; omega), List.take_of_length_le (by rw [HL.out]; exact Nat.le_refl _)] at h1
        have h2 := dval_lt hos
        rw [hres.len] at h2
        have h3 := HLE.out
        rcases Nat.eq_zero_or_pos le with e | e
        · rw [e, Nat.mul_zero, Nat.add_zero] at h1; exact h1
        · have e1 : le = 1 := by omega
          rw [e1, Nat.mul_one] at h1
          omega
      clear hval hk
      go_wp2_with fail
      refine (rTrim_own wr hres).mono ?_
      rintro e w1 ⟨rfl, hres1, rfl⟩
      go_wp2
      go_ret
      refine ⟨_, _, _, trimmed os, rfl, hres1, trimmed_dcan hos, ?_, hbel⟩
      rw [trimmed_dval]
      exact HV.out
    · have hlt : k < n := by omega
      have hro : ∀ o, (wr.alloc o).ownsRow w.heap.size 3 1 (.slice Ao k co) k (i64s os) := fun o => hres.own.alloc o
      have hx9 := dth_lt HX.out k
      have hy9 := dth_lt HY.out.1 k
      obtain ⟨b, off, rfl, hSb, hcell0⟩ := ha.at_ (k := k) hlt
      have hcell : wr.cell? ⟨b, off + k, none⟩ = some (.int .i64 (nth xs k : Int)) := (hbel.cell (p := ⟨b, off + k, none⟩) (hS _ hSb)).trans hcell0
      clear h0
      by_cases h2 : k < m
      · obtain ⟨b2, off2, rfl, hSb2, hcell20⟩ := hb.at_ (k := k) h2
        have hcell2 : wr.cell? ⟨b2, off2 + k, none⟩ = some (.int .i64 (nth ys k : Int)) := (hbel.cell (p := ⟨b2, off2 + k, none⟩) (hS' _ hSb2)).trans hcell20
        by_cases h3 : le + nth ys k ≤ nth xs k
        · obtain ⟨t, ht⟩ : ∃ t, t = nth xs k - le - nth ys k := ⟨_, rfl⟩
          have hti : (nth xs k : Int) - (le : Int) - (nth ys k : Int) = (t : Int) := by omega
          have htb : t ≤ 9 := by omega
          have HT : Hid (t + le + nth ys k = nth xs k + 10 * 0) := by show _ = _; omega
          clear ht h3
          go_wp2_with (at_builtin; refine wpList_append_own_at _ rfl (.tmp 35) (.tmp 37) _ rfl w.heap.size 3 i0 (.int .i64 0) 1 8 Try.underlying58 hi hz0 hz1 hz2 rfl (by decide) (.slice Ao k co) k (i64s os) rfl (hro _) ⟨wr.heap.size, 0, none⟩ 1 1 [.int .i64 ((t : Nat) : Int)] rfl rfl (cell_new1 _ _ _ _ rfl) (by simp [Value.oneCell']) (by unfold maxLen; omega) (by omega) (by simp; have := hbel.size; omega) ?_; intro v1 w1 hown1 hg1 _ hat1)
          obtain ⟨g', cap', hv'⟩ := ownsRow_succ hown1
          subst hv'
          exact ⟨⟨k + 1, 0, _, _, os ++ [t], by omega, by go_num, rfl, by omega, rfl, ResI.snoc hres.len hres.l32 (by omega) hown1, hos.snoc (by omega), Lib.hid (minus_step hres.len hval.out HT.out), hres.below_append hbel hbel.size hg1⟩, by simp [intOf]; omega⟩
        · obtain ⟨t, ht⟩ : ∃ t, t = nth xs k + 10 - le - nth ys k := ⟨_, rfl⟩
          obtain ⟨z, hz⟩ : ∃ z : Int, z = (nth xs k : Int) - (le : Int) - (nth ys k : Int) := ⟨_, rfl⟩
          have hzi : (nth xs k : Int) - (le : Int) - (nth ys k : Int) = z := hz.symm
          have hzn : z < 0 := by omega
          have hzm : -10 ≤ z := by omega
          have hti : z + 10 = (t : Int) := by omega
          have htb : t ≤ 9 := by omega
          have HT : Hid (t + le + nth ys k = nth xs k + 10 * 1) := by show _ = _; omega
          clear ht h3 hz
          go_wp2_with (at_builtin; refine wpList_append_own_at _ rfl (.tmp 35) (.tmp 37) _ rfl w.heap.size 3 i0 (.int .i64 0) 1 8 Try.underlying58 hi hz0 hz1 hz2 rfl (by decide) (.slice Ao k co) k (i64s os) rfl (hro _) ⟨wr.heap.size, 0, none⟩ 1 1 [.int .i64 ((t : Nat) : Int)] rfl rfl (cell_new1 _ _ _ _ rfl) (by simp [Value.oneCell']) (by unfold maxLen; omega) (by omega) (by simp; have := hbel.size; omega) ?_; intro v1 w1 hown1 hg1 _ hat1)
          obtain ⟨g', cap', hv'⟩ := ownsRow_succ hown1
          subst hv'
          exact ⟨⟨k + 1, 1, _, _, os ++ [t], by omega, by go_num, rfl, by omega, rfl, ResI.snoc hres.len hres.l32 (by omega) hown1, hos.snoc (by omega), Lib.hid (minus_step hres.len hval.out HT.out), hres.below_append hbel hbel.size hg1⟩, by simp [intOf]; omega⟩
      · have hy0 : Hid (nth ys k = 0) := nth_none (by rw [HM.out]; omega)
        by_cases h3 : le ≤ nth xs k
        · obtain ⟨t, ht⟩ : ∃ t, t = nth xs k - le := ⟨_, rfl⟩
          have hti : (nth xs k : Int) - (le : Int) = (t : Int) := by omega
          have htb : t ≤ 9 := by omega
          have HT : Hid (t + le + nth ys k = nth xs k + 10 * 0) := by show _ = _; rw [hy0.out]; omega
          clear ht h3
          go_wp2_with (at_builtin; refine wpList_append_own_at _ rfl (.tmp 35) (.tmp 37) _ rfl w.heap.size 3 i0 (.int .i64 0) 1 8 Try.underlying58 hi hz0 hz1 hz2 rfl (by decide) (.slice Ao k co) k (i64s os) rfl (hro _) ⟨wr.heap.size, 0, none⟩ 1 1 [.int .i64 ((t : Nat) : Int)] rfl rfl (cell_new1 _ _ _ _ rfl) (by simp [Value.oneCell']) (by unfold maxLen; omega) (by omega) (by simp; have := hbel.size; omega) ?_; intro v1 w1 hown1 hg1 _ hat1)
          obtain ⟨g', cap', hv'⟩ := ownsRow_succ hown1
          subst hv'
          exact ⟨⟨k + 1, 0, _, _, os ++ [t], by omega, by go_num, rfl, by omega, rfl, ResI.snoc hres.len hres.l32 (by omega) hown1, hos.snoc (by omega), Lib.hid (minus_step hres.len hval.out HT.out), hres.below_append hbel hbel.size hg1⟩, by simp [intOf]; omega⟩
        · obtain ⟨t, ht⟩ : ∃ t, t = nth xs k + 10 - le := ⟨_, rfl⟩
          obtain ⟨z, hz⟩ : ∃ z : Int, z = (nth xs k : Int) - (le : Int) := ⟨_, rfl⟩
          have hzi : (nth xs k : Int) - (le : Int) = z := hz.symm
          have hzn : z < 0 := by omega
          have hzm : -10 ≤ z := by omega
          have hti : z + 10 = (t : Int) := by omega
          have htb : t ≤ 9 := by omega
          have HT : Hid (t + le + nth ys k = nth xs k + 10 * 1) := by show _ = _; rw [hy0.out]; omega
          clear ht h3 hz
          go_wp2_with (at_builtin; refine wpList_append_own_at _ rfl (.tmp 35) (.tmp 37) _ rfl w.heap.size 3 i0 (.int .i64 0) 1 8 Try.underlying58 hi hz0 hz1 hz2 rfl (by decide) (.slice Ao k co) k (i64s os) rfl (hro _) ⟨wr.heap.size, 0, none⟩ 1 1 [.int .i64 ((t : Nat) : Int)] rfl rfl (cell_new1 _ _ _ _ rfl) (by simp [Value.oneCell']) (by unfold maxLen; omega) (by omega) (by simp; have := hbel.size; omega) ?_; intro v1 w1 hown1 hg1 _ hat1)
          obtain ⟨g', cap', hv'⟩ := ownsRow_succ hown1
          subst hv'
          exact ⟨⟨k + 1, 1, _, _, os ++ [t], by omega, by go_num, rfl, by omega, rfl, ResI.snoc hres.len hres.l32 (by omega) hown1, hos.snoc (by omega), Lib.hid (minus_step hres.len hval.out HT.out), hres.below_append hbel hbel.size hg1⟩, by simp [intOf]; omega⟩
end Go.Proofs.Ytdlphdbojkdfoaa
