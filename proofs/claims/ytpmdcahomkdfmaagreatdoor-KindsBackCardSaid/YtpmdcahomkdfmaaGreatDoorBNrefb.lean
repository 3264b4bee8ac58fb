/-
  Contracts of the reference's Check, checks, Trim, Digits and Order: what they answer; they change nothing that was there.
  Contracts of the reference's Order and carry: the order of two numbers by their digits; what stands at places made digits.
  Contracts of the reference's Plus and Minus, of digits.
-/
import Derived.Test.YtpmdcahomkdfmaaGreatDoorBNdig
import Derived.Test.YtpmdcahomkdfmaaGreatDoorBNparse
set_option linter.unusedVariables false
set_option linter.unusedSimpArgs false
namespace Go.Proofs.YtpmdcahomkdfmaaGreatDoor
open Go.RowKit

theorem rTrim_c {S : Nat → Prop} {n c : Nat} {A : Option Addr} {ds : List Nat} (w : World) (h : RdI w S A n ds) (hn1 : n ≤ c) (hn2 : n ≤ 9223372036854775807) :
    Calls Tryz.prog 81 #[.slice A n c] w fun e w' => e = .returned (.slice A (tl ds n) c) ∧ w = w' := by
  go_enter Tryz.func81, Tryz.ntmps81
  go_wp2
  go_loop [3] (fun i => ∃ k : Nat, k ≤ n ∧ Hid (tl ds k = tl ds n) ∧ i = .int .i64 k) (fun i => (RowKit.intOf i).toNat)
  case atStart => exact ⟨n, Nat.le_refl _, rfl, rfl⟩
  case round =>
    obtain ⟨k, hk, ht, rfl⟩ := hrel
    by_cases h0 : k = 0
    · subst h0
      have he : Hid (tl ds n = 0) := ht.out.symm
      clear ht
      go_wp2
      go_ret
      rw [he.out]
      exact ⟨rfl, rfl⟩
    · obtain ⟨j, rfl⟩ : ∃ j, k = j + 1 := ⟨k - 1, by omega⟩
      obtain ⟨b, off, rfl, _, hcell⟩ := h.at_ (k := j) (by omega)
      by_cases hz : nth ds j = 0
      · have hs : Hid (tl ds j = tl ds n) := (tl_step hz).symm.trans ht.out
        rw [hz] at hcell
        clear hz ht
        go_wp2
        go_round
        case rel => exact ⟨j, by omega, hs, by go_num⟩
        case measure => simp [RowKit.intOf]
      · have he : Hid (tl ds n = j + 1) := ht.out.symm.trans (tl_stop hz)
        have hb : (((nth ds j : Nat) : Int) == 0) = false := by rw [beq_eq_false_iff_ne]; omega
        clear hz ht
        go_wp2
        go_ret
        rw [he.out]
        exact ⟨rfl, rfl⟩

/-- Trim of a row of the call's own. -/
theorem rTrim_own {base n c : Nat} {A : Option Addr} {ds : List Nat} (w : World) (h : ResI w base A n c ds) :
    Calls Tryz.prog 81 #[.slice A n c] w fun e w' => e = .returned (.slice A (tl ds n) c) ∧ ResI w' base A (tl ds n) c (trimmed ds) ∧ w = w' := by
  have hn := h.n_le
  unfold maxLen at hn
  refine (rTrim_c w h.rd hn.1 (by omega)).mono ?_
  rintro e w' ⟨rfl, rfl⟩
  refine ⟨rfl, ?_, rfl⟩
  have := h.take (tl_le ds n)
  unfold trimmed
  rw [h.len]
  exact this

set_option maxRecDepth 100000 in
theorem Digits_c {S : Nat → Prop} {n c : Nat} {A : Option Addr} {xs : List Nat} (w : World) (h : Rd w S A n xs) (hS : ∀ b, S b → b < w.heap.size) (hn : n ≤ 256) :
    Calls Tryz.prog 78 #[.slice A n c] w fun e w' => ∃ A' n' c' ds, e = .returned (.slice A' n' c') ∧ ResI w' w.heap.size A' n' c' ds ∧ DCan ds ∧ dval ds = val xs ∧ Below w.heap.size w w' := by
  have HL := Lib.hid h.len
  go_enter Tryz.func78, Tryz.ntmps78
  go_wp2
  go_loopw [3, 4] (fun dv iv wr => ∃ (k : Nat) (Ao : Option Addr) (no co : Nat) (ds : List Nat), k ≤ n ∧ iv = .int .i64 ((k : Int) - 1) ∧ dv = .slice Ao no co ∧ ResI wr w.heap.size Ao no co ds ∧ Hid (DCan ds) ∧ Hid (dval ds = val (xs.drop k)) ∧ Below w.heap.size w wr)
    (fun _ iv _ => (RowKit.intOf iv + 1).toNat)
  case atStart => exact ⟨n, none, 0, 0, [], Nat.le_refl _, rfl, rfl, ResI.nil _ _, DCan.nil, by show _ = _; rw [List.drop_of_length_le (by rw [HL.out]; exact Nat.le_refl _)]; rfl, Below.refl _ _⟩
  case round =>
    obtain ⟨k, Ao, no, co, ds, hk, rfl, rfl, hres, hcan, hval, hbel⟩ := hrel
    by_cases h0 : k = 0
    · subst h0
      have hv := hval
      clear hval
      go_wp2
      go_ret
      have := hv.out
      rw [List.drop_zero] at this
      exact ⟨_, _, _, ds, rfl, hres, hcan.out, this, hbel⟩
    · obtain ⟨j, rfl⟩ : ∃ j, k = j + 1 := ⟨k - 1, by omega⟩
      obtain ⟨b, off, rfl, hSb, hcell0⟩ := h.at_ (k := j) (by omega)
      have hcell : wr.cell? ⟨b, off + j, none⟩ = some (.int .u32 (nth xs j : Int)) := (hbel.cell (p := ⟨b, off + j, none⟩) (hS _ hSb)).trans hcell0
      have hx := h.lt j
      have hsz := hbel.size
      have hlen : no ≤ 2731 := by
        obtain ⟨m, hm0, hm, hv⟩ := bp_lt_ten (n := n) (v := dval ds) hn (by
          rw [hval.out]
          have h1 := val_split xs (j + 1) (by rw [HL.out]; omega)
          have h2 := val_lt h.l32
          rw [HL.out] at h2
          have h3 : 1 * val (xs.drop (j + 1)) ≤ bp (j + 1) * val (xs.drop (j + 1)) := Nat.mul_le_mul_right _ (bp_pos _)
          omega)
        have := hcan.out.len_le hv
        rw [hres.len] at this
        omega
      go_wp2_with fail
      refine (times_c 4294967296 (nth xs j) wr hres hcan.out (by omega) (by omega) (by omega) (by omega)).mono ?_
      rintro e w1 ⟨A', n', c', os, rfl, hres1, hcan1, hval1, hbel1⟩
      have HC1 := Lib.hid hcan1
      have HV1 := Lib.hid hval1
      clear hval1 hcan1
      go_wp2
      refine ⟨⟨j, A', n', c', os, by omega, by go_num, rfl, hres1.more hsz, HC1.out, ?_, hbel.trans (hbel1.mono hsz)⟩, by simp [RowKit.intOf]⟩
      show _ = _
      rw [HV1.out, hval.out, val_drop j]
      omega
end Go.Proofs.YtpmdcahomkdfmaaGreatDoor

namespace Go.Proofs.YtpmdcahomkdfmaaGreatDoor
open Go.RowKit

/-- All are at most M. -/
def Upto (M : Nat) (xs : List Nat) : Prop := ∀ x ∈ xs, x ≤ M
theorem Upto.nth {M : Nat} {xs : List Nat} (h : Upto M xs) (k : Nat) : nth xs k ≤ M := by
  unfold Proofs.YtpmdcahomkdfmaaGreatDoor.nth
  rw [List.getD_eq_getElem?_getD]
  by_cases hk : k < xs.length
  · rw [List.getElem?_eq_getElem hk]; exact h _ (List.getElem_mem hk)
  · rw [List.getElem?_eq_none (by omega)]; simp

set_option maxRecDepth 100000 in
set_option maxHeartbeats 1000000 in
theorem carry_c {S : Nat → Prop} {n c M : Nat} {A : Option Addr} {ds : List Nat} (w : World) (h : RdI w S A n ds) (hS : ∀ b, S b → b < w.heap.size) (hM : Upto M ds) (hM2 : M ≤ 2305843009213693951) (hn : n ≤ 100000) :
    Calls Tryz.prog 80 #[.slice A n c] w fun e w' => ∃ A' n' c' os, e = .returned (.slice A' n' c') ∧ ResI w' w.heap.size A' n' c' os ∧ DCan os ∧ dval os = dval ds ∧ Below w.heap.size w w' := by
  have HL := Lib.hid h.len
  obtain ⟨i0, hi, hz0, hz1, hz2⟩ := info_parts infoI
  go_enter Tryz.func80, Tryz.ntmps80
  go_wp2
  go_loopw [3, 4, 5] (fun ov mv iv wr => ∃ (k mo : Nat) (Ao : Option Addr) (co : Nat) (os : List Nat), k ≤ n ∧ iv = .int .i64 (k : Int) ∧ mv = .int .i64 (mo : Int) ∧ mo ≤ M ∧ ov = .slice Ao k co ∧
      ResI wr w.heap.size Ao k co os ∧ D10 os ∧ Hid (dval os + dp k * mo = dval (ds.take k)) ∧ Below w.heap.size w wr) (fun _ _ iv _ => n - (RowKit.intOf iv).toNat)
  case atStart => exact ⟨0, 0, none, 0, [], Nat.zero_le _, rfl, rfl, Nat.zero_le _, rfl, ResI.nil _ _, D10.nil, by show _ = _; rw [List.take_zero, dval_nil, dp_zero], Below.refl _ _⟩
  case round =>
    obtain ⟨k, mo, Ao, co, os, hk, rfl, rfl, hmo, rfl, hres, hos, hval, hbel⟩ := hrel
    by_cases h0 : k = n
    · subst h0
      have hv := hval.out
      rw [List.take_of_length_le (by rw [HL.out]; exact Nat.le_refl _)] at hv
      have HV := Lib.hid hv
      clear hv hval hk
      go_wp2
      go_loopw [3, 4] (fun ov mv wr => ∃ (mo : Nat) (Ao : Option Addr) (no co : Nat) (os : List Nat), mv = .int .i64 (mo : Int) ∧ mo ≤ M ∧ ov = .slice Ao no co ∧
          ResI wr w.heap.size Ao no co os ∧ D10 os ∧ Hid (dval os + dp no * mo = dval ds) ∧ Hid (∃ j, no = k + j ∧ mo * 10 ^ j ≤ M) ∧ no ≤ 100020 ∧ Below w.heap.size w wr) (fun _ mv _ => (RowKit.intOf mv).toNat)
      case atStart => exact ⟨mo, Ao, k, co, os, rfl, hmo, rfl, hres, hos, HV, Lib.hid ⟨0, rfl, by omega⟩, by omega, hbel⟩
      case round =>
        clear hres hos HV hbel hmo
        obtain ⟨mo, Ao, no, co, os, rfl, hmo, rfl, hres, hos, hval, hj, hno, hbel⟩ := hrel
        by_cases h0 : mo = 0
        · have hvl := hval.out
          rw [h0, Nat.mul_zero, Nat.add_zero] at hvl
          have HVL := Lib.hid hvl
          have hm1 : mo < 1 := by omega
          clear h0 hvl
          go_wp2_with fail
          refine (rTrim_own wr hres).mono ?_
          rintro e w1 ⟨rfl, hres1, rfl⟩
          go_wp2
          go_ret
          exact ⟨_, _, _, trimmed os, rfl, hres1, trimmed_dcan hos, (trimmed_dval os).trans HVL.out, hbel⟩
        · have hm1 : 0 < mo := by omega
          have hnn : no ≤ 100019 := by
            obtain ⟨j, h1, h2⟩ := hj.out
            rcases Nat.lt_or_ge 19 j with h3 | h3
            · have h4 : (10 : Nat) ^ 20 ≤ 10 ^ j := Nat.pow_le_pow_right (by omega) (by omega)
              have h5 : 1 * 10 ^ j ≤ mo * 10 ^ j := Nat.mul_le_mul_right _ hm1
              omega
            · omega
          have hro : ∀ o, (wr.alloc o).ownsRow w.heap.size 3 1 (.slice Ao no co) no (i64s os) := fun o => hres.own.alloc o
          clear h0
          go_wp2_with (at_builtin; refine wpList_append_own_at _ rfl (.tmp 27) (.tmp 30) _ rfl w.heap.size 3 i0 (.int .i64 0) 1 8 Tryz.underlying45 hi hz0 hz1 hz2 rfl (by decide) (.slice Ao no co) no (i64s os) rfl (hro _) ⟨wr.heap.size, 0, none⟩ 1 1 [.int .i64 ((mo % 10 : Nat) : Int)] rfl rfl (cell_new1 _ _ _ _ rfl) (by simp [Value.oneCell']) (by unfold maxLen; omega) (by omega) (by simp; have := hbel.size; omega) ?_; intro v1 w1 hown1 hg1 _ hat1)
          obtain ⟨g', cap', hv'⟩ := ownsRow_succ hown1
          subst hv'
          refine ⟨⟨mo / 10, _, no + 1, _, os ++ [mo % 10], congrArg (Value.int .i64) (by omega), by omega, rfl, ResI.snoc hres.len hres.l32 (by omega) hown1, hos.snoc (by omega), ?_, ?_, by omega, hres.below_append hbel hbel.size hg1⟩, by simp [RowKit.intOf]; omega⟩
          · show _ = _
            rw [dval_snoc, hres.len, dp_succ]
            have e : dp no * (mo % 10) + 10 * dp no * (mo / 10) = dp no * mo := by
              conv => rhs; rw [← Nat.mod_add_div mo 10]
              rw [Nat.mul_add, ← Nat.mul_assoc, Nat.mul_comm 10 (dp no)]
            have e3 := hval.out
            omega
          · obtain ⟨j, h1, h2⟩ := hj.out
            refine Lib.hid ⟨j + 1, by omega, ?_⟩
            rw [Nat.pow_succ, Nat.mul_comm (10 ^ j), ← Nat.mul_assoc]
            exact Nat.le_trans (Nat.mul_le_mul_right _ (by omega)) h2
    · have hlt : k < n := by omega
      obtain ⟨b, off, rfl, hSb, hcell0⟩ := h.at_ (k := k) hlt
      have hcell : wr.cell? ⟨b, off + k, none⟩ = some (.int .i64 (nth ds k : Int)) := (hbel.cell (p := ⟨b, off + k, none⟩) (hS _ hSb)).trans hcell0
      have hx := hM.nth k
      obtain ⟨t, ht⟩ : ∃ t, t = mo + nth ds k := ⟨_, rfl⟩
      have hti : (mo : Int) + (nth ds k : Int) = (t : Int) := by omega
      have htb : t ≤ 2 * M := by omega
      have hro : ∀ o, (wr.alloc o).ownsRow w.heap.size 3 1 (.slice Ao k co) k (i64s os) := fun o => hres.own.alloc o
      have HT := Lib.hid ht
      clear ht
      go_wp2_with (at_builtin; refine wpList_append_own_at _ rfl (.tmp 18) (.tmp 21) _ rfl w.heap.size 3 i0 (.int .i64 0) 1 8 Tryz.underlying45 hi hz0 hz1 hz2 rfl (by decide) (.slice Ao k co) k (i64s os) rfl (hro _) ⟨wr.heap.size, 0, none⟩ 1 1 [.int .i64 ((t % 10 : Nat) : Int)] rfl rfl (cell_new1 _ _ _ _ rfl) (by simp [Value.oneCell']) (by unfold maxLen; omega) (by omega) (by simp; have := hbel.size; omega) ?_; intro v1 w1 hown1 hg1 _ hat1)
      obtain ⟨g', cap', hv'⟩ := ownsRow_succ hown1
      subst hv'
      refine ⟨⟨k + 1, t / 10, _, _, os ++ [t % 10], by omega, by go_num, congrArg (Value.int .i64) (by omega), by omega, rfl, ResI.snoc hres.len hres.l32 (by omega) hown1, hos.snoc (by omega), ?_, hres.below_append hbel hbel.size hg1⟩, by simp [RowKit.intOf]; omega⟩
      show _ = _
      rw [dval_snoc, hres.len, dval_take_succ, dp_succ]
      have e : dp k * (t % 10) + 10 * dp k * (t / 10) = dp k * t := by
        conv => rhs; rw [← Nat.mod_add_div t 10]
        rw [Nat.mul_add, ← Nat.mul_assoc, Nat.mul_comm 10 (dp k)]
      have e2 : dp k * t = dp k * mo + dp k * nth ds k := by rw [HT.out, Nat.mul_add]
      have e3 := hval.out
      omega
end Go.Proofs.YtpmdcahomkdfmaaGreatDoor

namespace Go.Proofs.YtpmdcahomkdfmaaGreatDoor
open Go.RowKit

theorem plus_step {os xs ys : List Nat} {k : Nat} (hl : os.length = k) (h : dval os = dval (xs.take k) + dval (ys.take k)) : dval (os ++ [nth xs k + nth ys k]) = dval (xs.take (k + 1)) + dval (ys.take (k + 1)) := by
  rw [dval_snoc, hl, h, dval_take_succ, dval_take_succ, Nat.mul_add]
  omega
theorem upto_snoc {M : Nat} {xs : List Nat} {x : Nat} (h : Upto M xs) (hx : x ≤ M) : Upto M (xs ++ [x]) := fun y hy => by
  rcases List.mem_append.1 hy with h1 | h1
  · exact h y h1
  · rw [List.mem_singleton.1 h1]; exact hx

set_option maxRecDepth 100000 in
set_option maxHeartbeats 1000000 in
theorem Plus_c {S S' : Nat → Prop} {n m c d : Nat} {A B : Option Addr} {xs ys : List Nat} (w : World) (ha : RdI w S A n xs) (hb : RdI w S' B m ys) (hS : ∀ b, S b → b < w.heap.size) (hS' : ∀ b, S' b → b < w.heap.size) (hx : D10 xs) (hy : D10 ys) (hn : n ≤ 100000) (hm : m ≤ 100000) :
    Calls Tryz.prog 56 #[.slice A n c, .slice B m d] w fun e w' => ∃ A' n' c' os, e = .returned (.slice A' n' c') ∧ ResI w' w.heap.size A' n' c' os ∧ DCan os ∧ dval os = dval xs + dval ys ∧ Below w.heap.size w w' := by
  have HL := Lib.hid ha.len
  have HM := Lib.hid hb.len
  have HX := Lib.hid hx
  have HY := Lib.hid hy
  clear hx hy
  obtain ⟨i0, hi, hz0, hz1, hz2⟩ := info_parts infoI
  go_enter Tryz.func56, Tryz.ntmps56
  go_wp2
  go_loopw [5, 6] (fun ov iv wr => ∃ (k : Nat) (Ao : Option Addr) (co : Nat) (os : List Nat), k ≤ 100000 ∧ iv = .int .i64 (k : Int) ∧ ov = .slice Ao k co ∧
      ResI wr w.heap.size Ao k co os ∧ Upto 18 os ∧ Hid (dval os = dval (xs.take k) + dval (ys.take k)) ∧ Below w.heap.size w wr) (fun _ iv _ => (n + m) - (RowKit.intOf iv).toNat)
  case atStart => exact ⟨0, none, 0, [], Nat.zero_le _, rfl, rfl, ResI.nil _ _, (fun x hx => absurd hx (by simp)), rfl, Below.refl _ _⟩
  case round =>
    obtain ⟨k, Ao, co, os, hk, rfl, rfl, hres, hos, hval, hbel⟩ := hrel
    have hro : ∀ o, (wr.alloc o).ownsRow w.heap.size 3 1 (.slice Ao k co) k (i64s os) := fun o => hres.own.alloc o
    have hx9 := dth_lt HX.out k
    have hy9 := dth_lt HY.out k
    by_cases h1 : k < n
    · obtain ⟨b, off, rfl, hSb, hcell0⟩ := ha.at_ (k := k) h1
      have hcell : wr.cell? ⟨b, off + k, none⟩ = some (.int .i64 (nth xs k : Int)) := (hbel.cell (p := ⟨b, off + k, none⟩) (hS _ hSb)).trans hcell0
      by_cases h2 : k < m
      · obtain ⟨b2, off2, rfl, hSb2, hcell20⟩ := hb.at_ (k := k) h2
        have hcell2 : wr.cell? ⟨b2, off2 + k, none⟩ = some (.int .i64 (nth ys k : Int)) := (hbel.cell (p := ⟨b2, off2 + k, none⟩) (hS' _ hSb2)).trans hcell20
        obtain ⟨t, ht⟩ : ∃ t, t = nth xs k + nth ys k := ⟨_, rfl⟩
        have hti : (nth xs k : Int) + (nth ys k : Int) = (t : Int) := by omega
        have htb : t ≤ 18 := by omega
        have HT := Lib.hid ht
        clear ht
        go_wp2_with (at_builtin; refine wpList_append_own_at _ rfl (.tmp 40) (.tmp 42) _ rfl w.heap.size 3 i0 (.int .i64 0) 1 8 Tryz.underlying45 hi hz0 hz1 hz2 rfl (by decide) (.slice Ao k co) k (i64s os) rfl (hro _) ⟨wr.heap.size, 0, none⟩ 1 1 [.int .i64 ((t : Nat) : Int)] rfl rfl (cell_new1 _ _ _ _ rfl) (by simp [Value.oneCell']) (by unfold maxLen; omega) (by omega) (by simp; have := hbel.size; omega) ?_; intro v1 w1 hown1 hg1 _ hat1)
        obtain ⟨g', cap', hv'⟩ := ownsRow_succ hown1
        subst hv'
        refine ⟨⟨k + 1, _, _, os ++ [t], by omega, by go_num, rfl, ResI.snoc hres.len hres.l32 (by omega) hown1, upto_snoc hos htb, ?_, hres.below_append hbel hbel.size hg1⟩, by simp [RowKit.intOf]; omega⟩
        rw [HT.out]
        exact Lib.hid (plus_step hres.len hval.out)
      · have hy0 : Hid (nth ys k = 0) := nth_none (by rw [HM.out]; omega)
        go_wp2_with (at_builtin; refine wpList_append_own_at _ rfl (.tmp 40) (.tmp 42) _ rfl w.heap.size 3 i0 (.int .i64 0) 1 8 Tryz.underlying45 hi hz0 hz1 hz2 rfl (by decide) (.slice Ao k co) k (i64s os) rfl (hro _) ⟨wr.heap.size, 0, none⟩ 1 1 [.int .i64 ((nth xs k : Nat) : Int)] rfl rfl (cell_new1 _ _ _ _ rfl) (by simp [Value.oneCell']) (by unfold maxLen; omega) (by omega) (by simp; have := hbel.size; omega) ?_; intro v1 w1 hown1 hg1 _ hat1)
        obtain ⟨g', cap', hv'⟩ := ownsRow_succ hown1
        subst hv'
        refine ⟨⟨k + 1, _, _, os ++ [nth xs k], by omega, by go_num, rfl, ResI.snoc hres.len hres.l32 (by omega) hown1, upto_snoc hos (by omega), ?_, hres.below_append hbel hbel.size hg1⟩, by simp [RowKit.intOf]; omega⟩
        have := plus_step hres.len hval.out
        rw [hy0.out, Nat.add_zero] at this
        exact Lib.hid this
    · by_cases h2 : k < m
      · obtain ⟨b2, off2, rfl, hSb2, hcell20⟩ := hb.at_ (k := k) h2
        have hcell2 : wr.cell? ⟨b2, off2 + k, none⟩ = some (.int .i64 (nth ys k : Int)) := (hbel.cell (p := ⟨b2, off2 + k, none⟩) (hS' _ hSb2)).trans hcell20
        have hx0 : Hid (nth xs k = 0) := nth_none (by rw [HL.out]; omega)
        go_wp2_with (at_builtin; refine wpList_append_own_at _ rfl (.tmp 40) (.tmp 42) _ rfl w.heap.size 3 i0 (.int .i64 0) 1 8 Tryz.underlying45 hi hz0 hz1 hz2 rfl (by decide) (.slice Ao k co) k (i64s os) rfl (hro _) ⟨wr.heap.size, 0, none⟩ 1 1 [.int .i64 ((nth ys k : Nat) : Int)] rfl rfl (cell_new1 _ _ _ _ rfl) (by simp [Value.oneCell']) (by unfold maxLen; omega) (by omega) (by simp; have := hbel.size; omega) ?_; intro v1 w1 hown1 hg1 _ hat1)
        obtain ⟨g', cap', hv'⟩ := ownsRow_succ hown1
        subst hv'
        refine ⟨⟨k + 1, _, _, os ++ [nth ys k], by omega, by go_num, rfl, ResI.snoc hres.len hres.l32 (by omega) hown1, upto_snoc hos (by omega), ?_, hres.below_append hbel hbel.size hg1⟩, by simp [RowKit.intOf]; omega⟩
        have := plus_step hres.len hval.out
        rw [hx0.out, Nat.zero_add] at this
        exact Lib.hid this
      · have HV : Hid (dval os = dval xs + dval ys) := by
          have := hval.out
          rwa [List.take_of_length_le (by rw [HL.out]; omega), List.take_of_length_le (by rw [HM.out]; omega)] at this
        clear hval
        go_wp2_with fail
        refine (carry_c wr hres.rd (fun b h => h.2) hos (by omega) (by omega)).mono ?_
        rintro e w1 ⟨A', n', c', os', rfl, hres1, hcan1, hval1, hbel1⟩
        go_wp2
        go_ret
        exact ⟨_, _, _, os', rfl, hres1.more hbel.size, hcan1, hval1.trans HV.out, hbel.trans (hbel1.mono hbel.size)⟩

end Go.Proofs.YtpmdcahomkdfmaaGreatDoor
