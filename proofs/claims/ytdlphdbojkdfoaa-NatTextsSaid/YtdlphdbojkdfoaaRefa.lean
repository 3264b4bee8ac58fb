/-
  Contracts of the reference's Trim and times.
-/
import Derived.Test.YtdlphdbojkdfoaaInts
import Derived.Outline
set_option linter.unusedVariables false
set_option linter.unusedSimpArgs false
namespace Go.Proofs.Ytdlphdbojkdfoaa
open Go.RowKit

theorem refTrim_c {base n c : Nat} {A : Option Addr} {ds : List Nat} (w : World) (h : ResI w base A n c ds) :
    Calls Try.prog 51 #[.slice A n c] w fun e w' => e = .returned (.slice A (tl ds n) c) ∧ w = w' := by
  have hn := h.n_le
  unfold maxLen at hn
  obtain ⟨hn1, hn2⟩ := hn
  go_enter Try.func51, Try.ntmps51
  go_wp2
  go_loop [3] (fun i => ∃ k : Nat, k ≤ n ∧ Hid (tl ds k = tl ds n) ∧ i = .int .i64 k) (fun i => (intOf i).toNat)
  case atStart => exact ⟨n, Nat.le_refl _, rfl, rfl⟩
  case round =>
    obtain ⟨k, hk, ht, rfl⟩ := hrel
    by_cases h0 : k = 0
    · subst h0
      have he : Hid (tl ds n = 0) := ht.out.symm
      clear ht
      go_wp2
      go_ret
      rw [he.out]
      exact ⟨rfl, rfl⟩
    · obtain ⟨j, rfl⟩ : ∃ j, k = j + 1 := ⟨k - 1, by omega⟩
      obtain ⟨g, hA⟩ : ∃ g, A = some ⟨g, 0, none⟩ := by
        rcases h.form with ⟨_, h, _⟩ | ⟨g, h, _⟩
        · omega
        · exact ⟨g, h⟩
      subst hA
      have hcell := h.cell (j := j) (by omega)
      by_cases hz : nth ds j = 0
      · have hs : Hid (tl ds j = tl ds n) := (tl_step hz).symm.trans ht.out
        rw [hz] at hcell
        clear hz ht
        go_wp2
        go_round
        case rel => exact ⟨j, by omega, hs, by go_num⟩
        case measure => simp [intOf]
      · have he : Hid (tl ds n = j + 1) := ht.out.symm.trans (tl_stop hz)
        have hb : (((nth ds j : Nat) : Int) == 0) = false := by rw [beq_eq_false_iff_ne]; omega
        clear hz ht
        go_wp2
        go_ret
        rw [he.out]
        exact ⟨rfl, rfl⟩

set_option maxRecDepth 100000 in
set_option maxHeartbeats 1000000 in
theorem times_c {base n c : Nat} {A : Option Addr} {ds : List Nat} (b m : Nat) (w : World) (h : ResI w base A n c ds) (hd : DCan ds) (hn : n ≤ 100000) (hb1 : 1 ≤ b) (hb2 : b ≤ 4294967296) (hm : m ≤ 4294967296) :
    Calls Try.prog 59 #[.slice A n c, .int .i64 (b : Int), .int .i64 (m : Int)] w fun e w' => ∃ A' n' c' os, e = .returned (.slice A' n' c') ∧ ResI w' w.heap.size A' n' c' os ∧ DCan os ∧ dval os = dval ds * b + m ∧ Below w.heap.size w w' := by
  have HL := Lib.hid h.len
  obtain ⟨i0, hi, hz0, hz1, hz2⟩ := info_parts infoI
  go_enter Try.func59, Try.ntmps59
  go_wp2
  go_loopw [2, 7, 8] (fun mv ov iv wr => ∃ (k mo : Nat) (Ao : Option Addr) (co : Nat) (os : List Nat), k ≤ n ∧ iv = .int .i64 (k : Int) ∧ mv = .int .i64 (mo : Int) ∧ mo ≤ 4294967296 ∧ ov = .slice Ao k co ∧
      ResI wr w.heap.size Ao k co os ∧ D10 os ∧ Hid (dval os + dp k * mo = dval (ds.take k) * b + m) ∧ Below w.heap.size w wr) (fun _ _ iv _ => n - (intOf iv).toNat)
  case atStart => exact ⟨0, m, none, 0, [], Nat.zero_le _, rfl, rfl, hm, rfl, ResI.nil _ _, D10.nil, by show _ = _; rw [List.take_zero, dval_nil, dp_zero]; omega, Below.refl _ _⟩
  case round =>
    obtain ⟨k, mo, Ao, co, os, hk, rfl, rfl, hmo, rfl, hres, hos, hval, hbel⟩ := hrel
    by_cases h0 : k = n
    · subst h0
      have hv := hval.out
      rw [List.take_of_length_le (by rw [HL.out]; exact Nat.le_refl _)] at hv
      have HV := Lib.hid hv
      have hcan0 : Hid (mo = 0 → DCan os) := Lib.hid fun hz => by
        rw [hz, Nat.mul_zero, Nat.add_zero] at hv
        refine dcan_of_ge hos ?_
        rcases Nat.eq_zero_or_pos k with h1 | h1
        · left; exact List.eq_nil_of_length_eq_zero (by rw [hres.len]; exact h1)
        · right
          have h2 := hd.ge (by intro e; have := HL.out; rw [e] at this; simp at this; omega)
          rw [HL.out] at h2
          rw [hres.len, hv]
          have h3 : dval ds * 1 ≤ dval ds * b := Nat.mul_le_mul_left _ hb1
          omega
      clear hv hval hk
      go_wp2
      go_loopw [2, 7] (fun mv ov wr => ∃ (mo : Nat) (Ao : Option Addr) (no co : Nat) (os : List Nat), mv = .int .i64 (mo : Int) ∧ mo ≤ 4294967296 ∧ ov = .slice Ao no co ∧
          ResI wr w.heap.size Ao no co os ∧ D10 os ∧ Hid (dval os + dp no * mo = dval ds * b + m) ∧ Hid (mo = 0 → DCan os) ∧ Hid (∃ j, no = k + j ∧ mo * 10 ^ j ≤ 4294967296) ∧ no ≤ 100020 ∧ Below w.heap.size w wr) (fun mv _ _ => (intOf mv).toNat)
      case atStart => exact ⟨mo, Ao, k, co, os, rfl, hmo, rfl, hres, hos, HV, hcan0, Lib.hid ⟨0, rfl, by omega⟩, by omega, hbel⟩
      case round =>
        clear hres hos HV hcan0 hbel hmo
        obtain ⟨mo, Ao, no, co, os, rfl, hmo, rfl, hres, hos, hval, hcan, hj, hno, hbel⟩ := hrel
        by_cases h0 : mo = 0
        · have hlast := hcan.out h0
          have hvl := hval.out
          rw [h0, Nat.mul_zero, Nat.add_zero] at hvl
          have HC := Lib.hid hlast
          have HVL := Lib.hid hvl
          have hm1 : mo < 1 := by omega
          clear h0 hlast hvl
          go_wp2
          go_ret
          exact ⟨_, _, _, os, rfl, hres, HC.out, HVL.out, hbel⟩
        · have hm1 : 0 < mo := by omega
          have hnn : no ≤ 100010 := by
            obtain ⟨j, h1, h2⟩ := hj.out
            rcases Nat.lt_or_ge 10 j with h3 | h3
            · have h4 : (10 : Nat) ^ 11 ≤ 10 ^ j := Nat.pow_le_pow_right (by omega) (by omega)
              have h5 : 1 * 10 ^ j ≤ mo * 10 ^ j := Nat.mul_le_mul_right _ hm1
              omega
            · omega
          have hro : ∀ o, (wr.alloc o).ownsRow w.heap.size 3 1 (.slice Ao no co) no (i64s os) := fun o => hres.own.alloc o
          clear h0
          go_wp2_with (at_builtin; refine wpList_append_own_at _ rfl (.tmp 32) (.tmp 35) _ rfl w.heap.size 3 i0 (.int .i64 0) 1 8 Try.underlying58 hi hz0 hz1 hz2 rfl (by decide) (.slice Ao no co) no (i64s os) rfl (hro _) ⟨wr.heap.size, 0, none⟩ 1 1 [.int .i64 ((mo % 10 : Nat) : Int)] rfl rfl (cell_new1 _ _ _ _ rfl) (by simp [Value.oneCell']) (by unfold maxLen; omega) (by omega) (by simp; have := hbel.size; omega) ?_; intro v' w1 hown1 hg1 _ hat1)
          obtain ⟨g', cap', hv'⟩ := ownsRow_succ hown1
          subst hv'
          have hd2 := hos.snoc (x := mo % 10) (by omega)
          refine ⟨⟨mo / 10, _, no + 1, _, os ++ [mo % 10], congrArg (Value.int .i64) (by omega), by omega, rfl, ⟨by rw [List.length_append, hres.len]; rfl, fun z hz => by have := hd2 z hz; omega, by rw [i64s_append]; exact hown1⟩, hd2, ?_, ?_, ?_, by omega, (((hbel.alloc hbel.size _).grown hg1 (by simp; have := hbel.size; omega) (by
          intro q hq
          rcases hres.form with ⟨h1, _⟩ | ⟨g1, h1, h2, _⟩
          · rw [h1] at hq; simp [Value.ownBlock] at hq
          · rw [h1] at hq; simp [Value.ownBlock] at hq; omega)))⟩, by simp [intOf]; omega⟩
          · show _ = _
            rw [dval_snoc, hres.len, dp_succ]
            have e : dp no * (mo % 10) + 10 * dp no * (mo / 10) = dp no * mo := by
              conv => rhs; rw [← Nat.mod_add_div mo 10]
              rw [Nat.mul_add, ← Nat.mul_assoc, Nat.mul_comm 10 (dp no)]
            have e3 := hval.out
            omega
          · exact Lib.hid fun hz => ⟨hd2, .inr (by
              rw [List.length_append, List.length_singleton, Nat.add_sub_cancel, nth_append_right (Nat.le_refl _), Nat.sub_self, nth_cons_zero]
              omega)⟩
          · obtain ⟨j, h1, h2⟩ := hj.out
            refine Lib.hid ⟨j + 1, by omega, ?_⟩
            rw [Nat.pow_succ, Nat.mul_comm (10 ^ j), ← Nat.mul_assoc]
            exact Nat.le_trans (Nat.mul_le_mul_right _ (by omega)) h2
    · have hlt : k < n := by omega
      obtain ⟨g, hA⟩ : ∃ g, A = some ⟨g, 0, none⟩ := by
        rcases h.form with ⟨_, h, _⟩ | ⟨g, h, _⟩
        · omega
        · exact ⟨g, h⟩
      subst hA
      have hcell : wr.cell? ⟨g, k, none⟩ = some (.int .i64 (nth ds k : Int)) := by
        have hg : g < w.heap.size := by
          rcases h.form with ⟨h, _⟩ | ⟨g', h, _, hh⟩
          · cases h
          · injection h with h; injection h with h; omega
        exact (hbel.cell (p := ⟨g, k, none⟩) hg).trans (h.cell hlt)
      have hx := dth_lt hd.1 k
      obtain ⟨y, hy⟩ : ∃ y, y = nth ds k * b := ⟨_, rfl⟩
      have hyb : y ≤ 9 * 4294967296 := by rw [hy]; exact Nat.mul_le_mul (by omega) hb2
      have hyi : (nth ds k : Int) * (b : Int) = (y : Int) := by rw [hy]; simp
      obtain ⟨t, ht⟩ : ∃ t, t = mo + y := ⟨_, rfl⟩
      have hti : (mo : Int) + (y : Int) = (t : Int) := by omega
      have htb : t ≤ 10 * 4294967296 := by omega
      have hro : ∀ o, (wr.alloc o).ownsRow w.heap.size 3 1 (.slice Ao k co) k (i64s os) := fun o => hres.own.alloc o
      have HY := Lib.hid hy
      have HT := Lib.hid ht
      clear hy ht
      go_wp2_with (at_builtin; refine wpList_append_own_at _ rfl (.tmp 23) (.tmp 26) _ rfl w.heap.size 3 i0 (.int .i64 0) 1 8 Try.underlying58 hi hz0 hz1 hz2 rfl (by decide) (.slice Ao k co) k (i64s os) rfl (hro _) ⟨wr.heap.size, 0, none⟩ 1 1 [.int .i64 ((t % 10 : Nat) : Int)] rfl rfl (cell_new1 _ _ _ _ rfl) (by simp [Value.oneCell']) (by unfold maxLen; omega) (by omega) (by simp; have := hbel.size; omega) ?_; intro v' w1 hown1 hg1 _ hat1)
      obtain ⟨g', cap', hv'⟩ := ownsRow_succ hown1
      subst hv'
      have hd2 := hos.snoc (x := t % 10) (by omega)
      refine ⟨⟨k + 1, t / 10, _, _, os ++ [t % 10], by omega, by go_num, congrArg (Value.int .i64) (by omega), by omega, rfl, ⟨by rw [List.length_append, hres.len]; rfl, fun z hz => by have := hd2 z hz; omega, by rw [i64s_append]; exact hown1⟩, hd2, ?_, (((hbel.alloc hbel.size _).grown hg1 (by simp; have := hbel.size; omega) (by
          intro q hq
          rcases hres.form with ⟨h1, _⟩ | ⟨g1, h1, h2, _⟩
          · rw [h1] at hq; simp [Value.ownBlock] at hq
          · rw [h1] at hq; simp [Value.ownBlock] at hq; omega)))⟩, by simp [intOf]; omega⟩
      · show _ = _
        rw [dval_snoc, hres.len, dval_take_succ, dp_succ]
        have e : dp k * (t % 10) + 10 * dp k * (t / 10) = dp k * t := by
          conv => rhs; rw [← Nat.mod_add_div t 10]
          rw [Nat.mul_add, ← Nat.mul_assoc, Nat.mul_comm 10 (dp k)]
        have e2 : dp k * t = dp k * mo + dp k * nth ds k * b := by rw [HT.out, HY.out, Nat.mul_add, Nat.mul_assoc]
        have e3 := hval.out
        rw [Nat.add_mul]
        omega
end Go.Proofs.Ytdlphdbojkdfoaa
