/-
  Contracts of the reference's Check, checks, Trim, Digits and Order: what they answer; they change nothing that was there.
  Contracts of the reference's Order and carry: the order of two numbers by their digits; what stands at places made digits.
  Contracts of the reference's Plus and Minus, of digits.
-/
import Derived.Test.YtjjpagdnjafgaaaGreatDoorKNdig
import Derived.Test.YtjjpagdnjafgaaaGreatDoorKNparse
set_option linter.unusedVariables false
set_option linter.unusedSimpArgs false
namespace Go.Proofs.YtjjpagdnjafgaaaGreatDoor
open Go.RowKit

theorem rTrim_c {S : Nat → Prop} {n c : Nat} {A : Option Addr} {ds : List Nat} (w : World) (h : RdI w S A n ds) (hn1 : n ≤ c) (hn2 : n ≤ 9223372036854775807) :
    Calls Tryz.prog 104 #[.slice A n c] w fun e w' => e = .returned (.slice A (tl ds n) c) ∧ w = w' := by
  go_enter Tryz.func104, Tryz.ntmps104
  go_wp2
  go_loop [3] (fun i => ∃ k : Nat, k ≤ n ∧ Hid (tl ds k = tl ds n) ∧ i = .int .i64 k) (fun i => (intOf i).toNat)
  case atStart => exact ⟨n, Nat.le_refl _, rfl, rfl⟩
  case round =>
    obtain ⟨k, hk, ht, rfl⟩ := hrel
    by_cases h0 : k = 0
    · subst h0
      have he : Hid (tl ds n = 0) := ht.out.symm
      clear ht
      go_wp2
      go_ret
      rw [he.out]
      exact ⟨rfl, rfl⟩
    · obtain ⟨j, rfl⟩ : ∃ j, k = j + 1 := ⟨k - 1, by omega⟩
      obtain ⟨b, off, rfl, _, hcell⟩ := h.at_ (k := j) (by omega)
      by_cases hz : nth ds j = 0
      · have hs : Hid (tl ds j = tl ds n) := (tl_step hz).symm.trans ht.out
        rw [hz] at hcell
        clear hz ht
        go_wp2
        go_round
        case rel => exact ⟨j, by omega, hs, by go_num⟩
        case measure => simp [intOf]
      · have he : Hid (tl ds n = j + 1) := ht.out.symm.trans (tl_stop hz)
        have hb : (((nth ds j : Nat) : Int) == 0) = false := by rw [beq_eq_false_iff_ne]; omega
        clear hz ht
        go_wp2
        go_ret
        rw [he.out]
        exact ⟨rfl, rfl⟩

/-- Trim of a row of the call's own. -/
theorem rTrim_own {base n c : Nat} {A : Option Addr} {ds : List Nat} (w : World) (h : ResI w base A n c ds) :
    Calls Tryz.prog 104 #[.slice A n c] w fun e w' => e = .returned (.slice A (tl ds n) c) ∧ ResI w' base A (tl ds n) c (trimmed ds) ∧ w = w' := by
  have hn := h.n_le
  unfold maxLen at hn
  refine (rTrim_c w h.rd hn.1 (by omega)).mono ?_
  rintro e w' ⟨rfl, rfl⟩
  refine ⟨rfl, ?_, rfl⟩
  have := h.take (tl_le ds n)
  unfold trimmed
  rw [h.len]
  exact this

set_option maxRecDepth 100000 in
theorem Digits_c {S : Nat → Prop} {n c : Nat} {A : Option Addr} {xs : List Nat} (w : World) (h : Rd w S A n xs) (hS : ∀ b, S b → b < w.heap.size) (hn : n ≤ 256) :
    Calls Tryz.prog 108 #[.slice A n c] w fun e w' => ∃ A' n' c' ds, e = .returned (.slice A' n' c') ∧ ResI w' w.heap.size A' n' c' ds ∧ DCan ds ∧ dval ds = val xs ∧ Below w.heap.size w w' := by
  have HL := Lib.hid h.len
  go_enter Tryz.func108, Tryz.ntmps108
  go_wp2
  go_loopw [3, 4] (fun dv iv wr => ∃ (k : Nat) (Ao : Option Addr) (no co : Nat) (ds : List Nat), k ≤ n ∧ iv = .int .i64 ((k : Int) - 1) ∧ dv = .slice Ao no co ∧ ResI wr w.heap.size Ao no co ds ∧ Hid (DCan ds) ∧ Hid (dval ds = val (xs.drop k)) ∧ Below w.heap.size w wr)
    (fun _ iv _ => (intOf iv + 1).toNat)
  case atStart => exact ⟨n, none, 0, 0, [], Nat.le_refl _, rfl, rfl, ResI.nil _ _, DCan.nil, by show _ = _; rw [List.drop_of_length_le (by rw [HL.out]; exact Nat.le_refl _)]; rfl, Below.refl _ _⟩
  case round =>
    obtain ⟨k, Ao, no, co, ds, hk, rfl, rfl, hres, hcan, hval, hbel⟩ := hrel
    by_cases h0 : k = 0
    · subst h0
      have hv := hval
      clear hval
      go_wp2
      go_ret
      have := hv.out
      rw [List.drop_zero] at this
      exact ⟨_, _, _, ds, rfl, hres, hcan.out, this, hbel⟩
    · obtain ⟨j, rfl⟩ : ∃ j, k = j + 1 := ⟨k - 1, by omega⟩
      obtain ⟨b, off, rfl, hSb, hcell0⟩ := h.at_ (k := j) (by omega)
      have hcell : wr.cell? ⟨b, off + j, none⟩ = some (.int .u32 (nth xs j : Int)) := (hbel.cell (p := ⟨b, off + j, none⟩) (hS _ hSb)).trans hcell0
      have hx := h.lt j
      have hsz := hbel.size
      have hlen : no ≤ 2731 := by
        obtain ⟨m, hm0, hm, hv⟩ := bp_lt_ten (n := n) (v := dval ds) hn (by
          rw [hval.out]
          have h1 := val_split xs (j + 1) (by rw [HL.out]; omega)
          have h2 := val_lt h.l32
          rw [HL.out] at h2
          have h3 : 1 * val (xs.drop (j + 1)) ≤ bp (j + 1) * val (xs.drop (j + 1)) := Nat.mul_le_mul_right _ (bp_pos _)
          omega)
        have := hcan.out.len_le hv
        rw [hres.len] at this
        omega
      go_wp2_with fail
      refine (times_c 4294967296 (nth xs j) wr hres hcan.out (by omega) (by omega) (by omega) (by omega)).mono ?_
      rintro e w1 ⟨A', n', c', os, rfl, hres1, hcan1, hval1, hbel1⟩
      have HC1 := Lib.hid hcan1
      have HV1 := Lib.hid hval1
      clear hval1 hcan1
      go_wp2
      refine ⟨⟨j, A', n', c', os, by omega, by go_num, rfl, hres1.more hsz, HC1.out, ?_, hbel.trans (hbel1.mono hsz)⟩, by simp [intOf]⟩
      show _ = _
      rw [HV1.out, hval.out, val_drop j]
      omega
end Go.Proofs.YtjjpagdnjafgaaaGreatDoor

namespace Go.Proofs.YtjjpagdnjafgaaaGreatDoor
open Go.RowKit

/-- The order of two numbers by their digits. -/
def dcmp (xs ys : List Nat) : Int := if dval xs < dval ys then -1 else if dval ys < dval xs then 1 else 0
theorem dcmp_lt {xs ys : List Nat} (h : dval xs < dval ys) : dcmp xs ys = -1 := if_pos h
theorem dcmp_gt {xs ys : List Nat} (h : dval ys < dval xs) : dcmp xs ys = 1 := by unfold dcmp; rw [if_neg (by omega), if_pos h]
theorem dcmp_eq {xs ys : List Nat} (h : dval xs = dval ys) : dcmp xs ys = 0 := by unfold dcmp; rw [if_neg (by omega), if_neg (by omega)]

set_option maxRecDepth 100000 in
theorem Order_c {S S' : Nat → Prop} {n m c d : Nat} {A B : Option Addr} {xs ys : List Nat} (w : World) (ha : RdI w S A n xs) (hb : RdI w S' B m ys) (hx : DCan xs) (hy : DCan ys) (hn : n ≤ 1000000) (hm : m ≤ 1000000) :
    Calls Tryz.prog 73 #[.slice A n c, .slice B m d] w fun e w' => e = .returned (.int .i64 (dcmp xs ys)) ∧ ∃ k, w' = w.drewN k := by
  have hl1 := ha.len
  have hl2 := hb.len
  subst hl1 hl2
  by_cases h1 : xs.length < ys.length
  · rw [dcmp_lt (DCan.lt_of_length hx.1 hy h1)]
    go_enter Tryz.func73, Tryz.ntmps73
    go_wp2
    go_ret
    exact ⟨rfl, 0, rfl⟩
  · by_cases h2 : ys.length < xs.length
    · rw [dcmp_gt (DCan.lt_of_length hy.1 hx h2)]
      go_enter Tryz.func73, Tryz.ntmps73
      go_wp2
      go_ret
      exact ⟨rfl, 0, rfl⟩
    · have hle : xs.length = ys.length := by omega
      have HL := Lib.hid hle
      have HX := Lib.hid hx
      have HY := Lib.hid hy
      clear hle hx hy
      go_enter Tryz.func73, Tryz.ntmps73
      go_wp2
      go_loopw [5] (fun i wr => ∃ k q : Nat, k ≤ xs.length ∧ Hid (∀ j, k ≤ j → j < xs.length → nth xs j = nth ys j) ∧ i = .int .i64 ((k : Int) - 1) ∧ wr = w.drewN q) (fun i _ => (intOf i + 1).toNat)
      case atStart => exact ⟨xs.length, 0, Nat.le_refl _, (fun j h1 h2 => by omega), rfl, rfl⟩
      case round =>
        obtain ⟨k, q, hk, ht, rfl, rfl⟩ := hrel
        by_cases h0 : k = 0
        · subst h0
          have he : Hid (dcmp xs ys = 0) := by
            refine dcmp_eq (congrArg dval (List.ext_getElem HL.out fun i h1 h2 => ?_))
            have := ht.out i (by omega) h1
            rwa [nth_get h1, nth_get h2] at this
          clear ht
          go_wp2
          go_ret
          rw [he.out]
          exact ⟨rfl, by first | exact ⟨_, rfl⟩ | (simp only [World.drewN_drewN]; exact ⟨_, rfl⟩)⟩
        · obtain ⟨j, rfl⟩ : ∃ j, k = j + 1 := ⟨k - 1, by omega⟩
          obtain ⟨b1, o1, rfl, _, hc1⟩ := ha.at_ (k := j) (by omega)
          obtain ⟨b2, o2, rfl, _, hc2⟩ := hb.at_ (k := j) (by rw [← HL.out]; omega)
          have hj2 : (j : Int) < (ys.length : Int) := by rw [← HL.out]; omega
          rcases Nat.lt_trichotomy (nth xs j) (nth ys j) with h3 | h3 | h3
          · have hs : Hid (dcmp xs ys = -1) := dcmp_lt (dval_lt_of_high HX.out.1 HY.out.1 j HL.out (by omega) h3 (fun i h1 h2 => ht.out i (by omega) h2))
            have hd : decide (nth xs j < nth ys j) = true := by simpa using h3
            clear ht h3
            go_wp2
            go_quiet (fail)
            go_wp2
            go_ret
            rw [hs.out]
            exact ⟨rfl, by first | exact ⟨_, rfl⟩ | (simp only [World.drewN_drewN]; exact ⟨_, rfl⟩)⟩
          · have hs : Hid (∀ i, j ≤ i → i < xs.length → nth xs i = nth ys i) := fun i h1 h2 => by
              rcases Nat.eq_or_lt_of_le h1 with e | h
              · rw [← e]; exact h3
              · exact ht.out i (by omega) h2
            have hd : decide (nth xs j < nth ys j) = false := by simp; omega
            have hd2 : decide (nth ys j < nth xs j) = false := by simp; omega
            clear ht h3
            go_wp2
            go_quiet (fail)
            go_wp2
            go_quiet (fail)
            go_wp2
            go_roundw
            case rel => exact ⟨j, _, by omega, hs, by go_num, by first | rfl | (simp only [World.drewN_drewN])⟩
            case measure => simp [intOf]
          · have hs : Hid (dcmp xs ys = 1) := dcmp_gt (dval_lt_of_high HY.out.1 HX.out.1 j HL.out.symm (by rw [← HL.out]; omega) h3 (fun i h1 h2 => (ht.out i (by omega) (by rw [HL.out]; exact h2)).symm))
            have hd : decide (nth xs j < nth ys j) = false := by simp; omega
            have hd2 : decide (nth ys j < nth xs j) = true := by simpa using h3
            clear ht h3
            go_wp2
            go_quiet (fail)
            go_wp2
            go_quiet (fail)
            go_wp2
            go_ret
            rw [hs.out]
            exact ⟨rfl, by first | exact ⟨_, rfl⟩ | (simp only [World.drewN_drewN]; exact ⟨_, rfl⟩)⟩

/-- All are at most M. -/
def Upto (M : Nat) (xs : List Nat) : Prop := ∀ x ∈ xs, x ≤ M
theorem Upto.nth {M : Nat} {xs : List Nat} (h : Upto M xs) (k : Nat) : nth xs k ≤ M := by
  unfold Proofs.YtjjpagdnjafgaaaGreatDoor.nth
  rw [List.getD_eq_getElem?_getD]
  by_cases hk : k < xs.length
  · rw [List.getElem?_eq_getElem hk]; exact h _ (List.getElem_mem hk)
  · rw [List.getElem?_eq_none (by omega)]; simp

set_option maxRecDepth 100000 in
set_option maxHeartbeats 1000000 in
theorem carry_c {S : Nat → Prop} {n c M : Nat} {A : Option Addr} {ds : List Nat} (w : World) (h : RdI w S A n ds) (hS : ∀ b, S b → b < w.heap.size) (hM : Upto M ds) (hM2 : M ≤ 2305843009213693951) (hn : n ≤ 100000) :
    Calls Tryz.prog 110 #[.slice A n c] w fun e w' => ∃ A' n' c' os, e = .returned (.slice A' n' c') ∧ ResI w' w.heap.size A' n' c' os ∧ DCan os ∧ dval os = dval ds ∧ Below w.heap.size w w' := by
  have HL := Lib.hid h.len
  obtain ⟨i0, hi, hz0, hz1, hz2⟩ := info_parts infoI
  go_enter Tryz.func110, Tryz.ntmps110
  go_wp2
  go_loopw [3, 4, 5] (fun ov mv iv wr => ∃ (k mo : Nat) (Ao : Option Addr) (co : Nat) (os : List Nat), k ≤ n ∧ iv = .int .i64 (k : Int) ∧ mv = .int .i64 (mo : Int) ∧ mo ≤ M ∧ ov = .slice Ao k co ∧
      ResI wr w.heap.size Ao k co os ∧ D10 os ∧ Hid (dval os + dp k * mo = dval (ds.take k)) ∧ Below w.heap.size w wr) (fun _ _ iv _ => n - (intOf iv).toNat)
  case atStart => exact ⟨0, 0, none, 0, [], Nat.zero_le _, rfl, rfl, Nat.zero_le _, rfl, ResI.nil _ _, D10.nil, by show _ = _; rw [List.take_zero, dval_nil, dp_zero], Below.refl _ _⟩
  case round =>
    obtain ⟨k, mo, Ao, co, os, hk, rfl, rfl, hmo, rfl, hres, hos, hval, hbel⟩ := hrel
    by_cases h0 : k = n
    · subst h0
      have hv := hval.out
      rw [List.take_of_length_le (by rw [HL.out]; exact Nat.le_refl _)] at hv
      have HV := Lib.hid hv
      clear hv hval hk
      go_wp2
      go_loopw [3, 4] (fun ov mv wr => ∃ (mo : Nat) (Ao : Option Addr) (no co : Nat) (os : List Nat), mv = .int .i64 (mo : Int) ∧ mo ≤ M ∧ ov = .slice Ao no co ∧
          ResI wr w.heap.size Ao no co os ∧ D10 os ∧ Hid (dval os + dp no * mo = dval ds) ∧ Hid (∃ j, no = k + j ∧ mo * 10 ^ j ≤ M) ∧ no ≤ 100020 ∧ Below w.heap.size w wr) (fun _ mv _ => (intOf mv).toNat)
      case atStart => exact ⟨mo, Ao, k, co, os, rfl, hmo, rfl, hres, hos, HV, Lib.hid ⟨0, rfl, by omega⟩, by omega, hbel⟩
      case round =>
        clear hres hos HV hbel hmo
        obtain ⟨mo, Ao, no, co, os, rfl, hmo, rfl, hres, hos, hval, hj, hno, hbel⟩ := hrel
        by_cases h0 : mo = 0
        · have hvl := hval.out
          rw [h0, Nat.mul_zero, Nat.add_zero] at hvl
          have HVL := Lib.hid hvl
          have hm1 : mo < 1 := by omega
          clear h0 hvl
          go_wp2_with fail
          refine (rTrim_own wr hres).mono ?_
          rintro e w1 ⟨rfl, hres1, rfl⟩
          go_wp2
          go_ret
          exact ⟨_, _, _, trimmed os, rfl, hres1, trimmed_dcan hos, (trimmed_dval os).trans HVL.out, hbel⟩
        · have hm1 : 0 < mo := by omega
          have hnn : no ≤ 100019 := by
            obtain ⟨j, h1, h2⟩ := hj.out
            rcases Nat.lt_or_ge 19 j with h3 | h3
            · have h4 : (10 : Nat) ^ 20 ≤ 10 ^ j := Nat.pow_le_pow_right (by omega) (by omega)
              have h5 : 1 * 10 ^ j ≤ mo * 10 ^ j := Nat.mul_le_mul_right _ hm1
              omega
            · omega
          have hro : ∀ o, (wr.alloc o).ownsRow w.heap.size 3 1 (.slice Ao no co) no (i64s os) := fun o => hres.own.alloc o
          clear h0
          go_wp2_with (at_builtin; refine wpList_append_own_at _ rfl (.tmp 27) (.tmp 30) _ rfl w.heap.size 3 i0 (.int .i64 0) 1 8 Tryz.underlying67 hi hz0 hz1 hz2 rfl (by decide) (.slice Ao no co) no (i64s os) rfl (hro _) ⟨wr.heap.size, 0, none⟩ 1 1 [.int .i64 ((mo % 10 : Nat) : Int)] rfl rfl (cell_new1 _ _ _ _ rfl) (by simp [Value.oneCell']) (by unfold maxLen; omega) (by omega) (by simp; have := hbel.size; omega) ?_; intro v1 w1 hown1 hg1 _ hat1)
          obtain ⟨g', cap', hv'⟩ := ownsRow_succ hown1
          subst hv'
          refine ⟨⟨mo / 10, _, no + 1, _, os ++ [mo % 10], congrArg (Value.int .i64) (by omega), by omega, rfl, ResI.snoc hres.len hres.l32 (by omega) hown1, hos.snoc (by omega), ?_, ?_, by omega, hres.below_append hbel hbel.size hg1⟩, by simp [intOf]; omega⟩
          · show _ = _
            rw [dval_snoc, hres.len, dp_succ]
            have e : dp no * (mo % 10) + 10 * dp no * (mo / 10) = dp no * mo := by
              conv => rhs; rw [← Nat.mod_add_div mo 10]
              rw [Nat.mul_add, ← Nat.mul_assoc, Nat.mul_comm 10 (dp no)]
            have e3 := hval.out
            omega
          · obtain ⟨j, h1, h2⟩ := hj.out
            refine Lib.hid ⟨j + 1, by omega, ?_⟩
            rw [Nat.pow_succ, Nat.mul_comm (10 ^ j), ← Nat.mul_assoc]
            exact Nat.le_trans (Nat.mul_le_mul_right _ (by omega)) h2
    · have hlt : k < n := by omega
      obtain ⟨b, off, rfl, hSb, hcell0⟩ := h.at_ (k := k) hlt
      have hcell : wr.cell? ⟨b, off + k, none⟩ = some (.int .i64 (nth ds k : Int)) := (hbel.cell (p := ⟨b, off + k, none⟩) (hS _ hSb)).trans hcell0
      have hx := hM.nth k
      obtain ⟨t, ht⟩ : ∃ t, t = mo + nth ds k := ⟨_, rfl⟩
      have hti : (mo : Int) + (nth ds k : Int) = (t : Int) := by omega
      have htb : t ≤ 2 * M := by omega
      have hro : ∀ o, (wr.alloc o).ownsRow w.heap.size 3 1 (.slice Ao k co) k (i64s os) := fun o => hres.own.alloc o
      have HT := Lib.hid ht
      clear ht
      go_wp2_with (at_builtin; refine wpList_append_own_at _ rfl (.tmp 18) (.tmp 21) _ rfl w.heap.size 3 i0 (.int .i64 0) 1 8 Tryz.underlying67 hi hz0 hz1 hz2 rfl (by decide) (.slice Ao k co) k (i64s os) rfl (hro _) ⟨wr.heap.size, 0, none⟩ 1 1 [.int .i64 ((t % 10 : Nat) : Int)] rfl rfl (cell_new1 _ _ _ _ rfl) (by simp [Value.oneCell']) (by unfold maxLen; omega) (by omega) (by simp; have := hbel.size; omega) ?_; intro v1 w1 hown1 hg1 _ hat1)
      obtain ⟨g', cap', hv'⟩ := ownsRow_succ hown1
      subst hv'
      refine ⟨⟨k + 1, t / 10, _, _, os ++ [t % 10], by omega, by go_num, congrArg (Value.int .i64) (by omega), by omega, rfl, ResI.snoc hres.len hres.l32 (by omega) hown1, hos.snoc (by omega), ?_, hres.below_append hbel hbel.size hg1⟩, by simp [intOf]; omega⟩
      show _ = _
      rw [dval_snoc, hres.len, dval_take_succ, dp_succ]
      have e : dp k * (t % 10) + 10 * dp k * (t / 10) = dp k * t := by
        conv => rhs; rw [← Nat.mod_add_div t 10]
        rw [Nat.mul_add, ← Nat.mul_assoc, Nat.mul_comm 10 (dp k)]
      have e2 : dp k * t = dp k * mo + dp k * nth ds k := by rw [HT.out, Nat.mul_add]
      have e3 := hval.out
      omega
end Go.Proofs.YtjjpagdnjafgaaaGreatDoor

namespace Go.Proofs.YtjjpagdnjafgaaaGreatDoor
open Go.RowKit

theorem plus_step {os xs ys : List Nat} {k : Nat} (hl : os.length = k) (h : dval os = dval (xs.take k) + dval (ys.take k)) : dval (os ++ [nth xs k + nth ys k]) = dval (xs.take (k + 1)) + dval (ys.take (k + 1)) := by
  rw [dval_snoc, hl, h, dval_take_succ, dval_take_succ, Nat.mul_add]
  omega
theorem upto_snoc {M : Nat} {xs : List Nat} {x : Nat} (h : Upto M xs) (hx : x ≤ M) : Upto M (xs ++ [x]) := fun y hy => by
  rcases List.mem_append.1 hy with h1 | h1
  · exact h y h1
  · rw [List.mem_singleton.1 h1]; exact hx

set_option maxRecDepth 100000 in
set_option maxHeartbeats 1000000 in
theorem Plus_c {S S' : Nat → Prop} {n m c d : Nat} {A B : Option Addr} {xs ys : List Nat} (w : World) (ha : RdI w S A n xs) (hb : RdI w S' B m ys) (hS : ∀ b, S b → b < w.heap.size) (hS' : ∀ b, S' b → b < w.heap.size) (hx : D10 xs) (hy : D10 ys) (hn : n ≤ 100000) (hm : m ≤ 100000) :
    Calls Tryz.prog 78 #[.slice A n c, .slice B m d] w fun e w' => ∃ A' n' c' os, e = .returned (.slice A' n' c') ∧ ResI w' w.heap.size A' n' c' os ∧ DCan os ∧ dval os = dval xs + dval ys ∧ Below w.heap.size w w' := by
  have HL := Lib.hid ha.len
  have HM := Lib.hid hb.len
  have HX := Lib.hid hx
  have HY := Lib.hid hy
  clear hx hy
  obtain ⟨i0, hi, hz0, hz1, hz2⟩ := info_parts infoI
  go_enter Tryz.func78, Tryz.ntmps78
  go_wp2
  go_loopw [5, 6] (fun ov iv wr => ∃ (k : Nat) (Ao : Option Addr) (co : Nat) (os : List Nat), k ≤ 100000 ∧ iv = .int .i64 (k : Int) ∧ ov = .slice Ao k co ∧
      ResI wr w.heap.size Ao k co os ∧ Upto 18 os ∧ Hid (dval os = dval (xs.take k) + dval (ys.take k)) ∧ Below w.heap.size w wr) (fun _ iv _ => (n + m) - (intOf iv).toNat)
  case atStart => exact ⟨0, none, 0, [], Nat.zero_le _, rfl, rfl, ResI.nil _ _, (fun x hx => absurd hx (by simp)), rfl, Below.refl _ _⟩
  case round =>
    obtain ⟨k, Ao, co, os, hk, rfl, rfl, hres, hos, hval, hbel⟩ := hrel
    have hro : ∀ o, (wr.alloc o).ownsRow w.heap.size 3 1 (.slice Ao k co) k (i64s os) := fun o => hres.own.alloc o
    have hx9 := dth_lt HX.out k
    have hy9 := dth_lt HY.out k
    by_cases h1 : k < n
    · obtain ⟨b, off, rfl, hSb, hcell0⟩ := ha.at_ (k := k) h1
      have hcell : wr.cell? ⟨b, off + k, none⟩ = some (.int .i64 (nth xs k : Int)) := (hbel.cell (p := ⟨b, off + k, none⟩) (hS _ hSb)).trans hcell0
      by_cases h2 : k < m
      · obtain ⟨b2, off2, rfl, hSb2, hcell20⟩ := hb.at_ (k := k) h2
        have hcell2 : wr.cell? ⟨b2, off2 + k, none⟩ = some (.int .i64 (nth ys k : Int)) := (hbel.cell (p := ⟨b2, off2 + k, none⟩) (hS' _ hSb2)).trans hcell20
        obtain ⟨t, ht⟩ : ∃ t, t = nth xs k + nth ys k := ⟨_, rfl⟩
        have hti : (nth xs k : Int) + (nth ys k : Int) = (t : Int) := by omega
        have htb : t ≤ 18 := by omega
        have HT := Lib.hid ht
        clear ht
        go_wp2_with (at_builtin; refine wpList_append_own_at _ rfl (.tmp 40) (.tmp 42) _ rfl w.heap.size 3 i0 (.int .i64 0) 1 8 Tryz.underlying67 hi hz0 hz1 hz2 rfl (by decide) (.slice Ao k co) k (i64s os) rfl (hro _) ⟨wr.heap.size, 0, none⟩ 1 1 [.int .i64 ((t : Nat) : Int)] rfl rfl (cell_new1 _ _ _ _ rfl) (by simp [Value.oneCell']) (by unfold maxLen; omega) (by omega) (by simp; have := hbel.size; omega) ?_; intro v1 w1 hown1 hg1 _ hat1)
        obtain ⟨g', cap', hv'⟩ := ownsRow_succ hown1
        subst hv'
        refine ⟨⟨k + 1, _, _, os ++ [t], by omega, by go_num, rfl, ResI.snoc hres.len hres.l32 (by omega) hown1, upto_snoc hos htb, ?_, hres.below_append hbel hbel.size hg1⟩, by simp [intOf]; omega⟩
        rw [HT.out]
        exact Lib.hid (plus_step hres.len hval.out)
      · have hy0 : Hid (nth ys k = 0) := nth_none (by rw [HM.out]; omega)
        go_wp2_with (at_builtin; refine wpList_append_own_at _ rfl (.tmp 40) (.tmp 42) _ rfl w.heap.size 3 i0 (.int .i64 0) 1 8 Tryz.underlying67 hi hz0 hz1 hz2 rfl (by decide) (.slice Ao k co) k (i64s os) rfl (hro _) ⟨wr.heap.size, 0, none⟩ 1 1 [.int .i64 ((nth xs k : Nat) : Int)] rfl rfl (cell_new1 _ _ _ _ rfl) (by simp [Value.oneCell']) (by unfold maxLen; omega) (by omega) (by simp; have := hbel.size; omega) ?_; intro v1 w1 hown1 hg1 _ hat1)
        obtain ⟨g', cap', hv'⟩ := ownsRow_succ hown1
        subst hv'
        refine ⟨⟨k + 1, _, _, os ++ [nth xs k], by omega, by go_num, rfl, ResI.snoc hres.len hres.l32 (by omega) hown1, upto_snoc hos (by omega), ?_, hres.below_append hbel hbel.size hg1⟩, by simp [intOf]; omega⟩
        have := plus_step hres.len hval.out
        rw [hy0.out, Nat.add_zero] at this
        exact Lib.hid this
    · by_cases h2 : k < m
      · obtain ⟨b2, off2, rfl, hSb2, hcell20⟩ := hb.at_ (k := k) h2
        have hcell2 : wr.cell? ⟨b2, off2 + k, none⟩ = some (.int .i64 (nth ys k : Int)) := (hbel.cell (p := ⟨b2, off2 + k, none⟩) (hS' _ hSb2)).trans hcell20
        have hx0 : Hid (nth xs k = 0) := nth_none (by rw [HL.out]; omega)
        go_wp2_with (at_builtin; refine wpList_append_own_at _ rfl (.tmp 40) (.tmp 42) _ rfl w.heap.size 3 i0 (.int .i64 0) 1 8 Tryz.underlying67 hi hz0 hz1 hz2 rfl (by decide) (.slice Ao k co) k (i64s os) rfl (hro _) ⟨wr.heap.size, 0, none⟩ 1 1 [.int .i64 ((nth ys k : Nat) : Int)] rfl rfl (cell_new1 _ _ _ _ rfl) (by simp [Value.oneCell']) (by unfold maxLen; omega) (by omega) (by simp; have := hbel.size; omega) ?_; intro v1 w1 hown1 hg1 _ hat1)
        obtain ⟨g', cap', hv'⟩ := ownsRow_succ hown1
        subst hv'
        refine ⟨⟨k + 1, _, _, os ++ [nth ys k], by omega, by go_num, rfl, ResI.snoc hres.len hres.l32 (by omega) hown1, upto_snoc hos (by omega), ?_, hres.below_append hbel hbel.size hg1⟩, by simp [intOf]; omega⟩
        have := plus_step hres.len hval.out
        rw [hx0.out, Nat.zero_add] at this
        exact Lib.hid this
      · have HV : Hid (dval os = dval xs + dval ys) := by
          have := hval.out
          rwa [List.take_of_length_le (by rw [HL.out]; omega), List.take_of_length_le (by rw [HM.out]; omega)] at this
        clear hval
        go_wp2_with fail
        refine (carry_c wr hres.rd (fun b h => h.2) hos (by omega) (by omega)).mono ?_
        rintro e w1 ⟨A', n', c', os', rfl, hres1, hcan1, hval1, hbel1⟩
        go_wp2
        go_ret
        exact ⟨_, _, _, os', rfl, hres1.more hbel.size, hcan1, hval1.trans HV.out, hbel.trans (hbel1.mono hbel.size)⟩

theorem minus_step {os xs ys : List Nat} {k le le2 d : Nat} (hl : os.length = k) (h : dval os + dval (ys.take k) = dval (xs.take k) + dp k * le) (hd : d + le + nth ys k = nth xs k + 10 * le2) :
    dval (os ++ [d]) + dval (ys.take (k + 1)) = dval (xs.take (k + 1)) + dp (k + 1) * le2 := by
  rw [dval_snoc, hl, dval_take_succ, dval_take_succ, dp_succ]
  have e1 : dp k * (d + le + nth ys k) = dp k * (nth xs k + 10 * le2) := by rw [hd]
  rw [Nat.mul_add, Nat.mul_add, Nat.mul_add] at e1
  have e2 : 10 * dp k * le2 = dp k * (10 * le2) := by rw [Nat.mul_comm 10, Nat.mul_assoc]
  omega

set_option maxRecDepth 100000 in
set_option maxHeartbeats 1000000 in
theorem Minus_c {S S' : Nat → Prop} {n m c d : Nat} {A B : Option Addr} {xs ys : List Nat} (w : World) (ha : RdI w S A n xs) (hb : RdI w S' B m ys) (hS : ∀ b, S b → b < w.heap.size) (hS' : ∀ b, S' b → b < w.heap.size) (hx : D10 xs) (hy : DCan ys) (hle : dval ys ≤ dval xs) (hn : n ≤ 100000) (hm : m ≤ 100000) :
    Calls Tryz.prog 107 #[.slice A n c, .slice B m d] w fun e w' => ∃ A' n' c' os, e = .returned (.slice A' n' c') ∧ ResI w' w.heap.size A' n' c' os ∧ DCan os ∧ dval os + dval ys = dval xs ∧ Below w.heap.size w w' := by
  have HL := Lib.hid ha.len
  have HM := Lib.hid hb.len
  have hmn : m ≤ n := by
    rw [← hb.len, ← ha.len]
    rcases Nat.lt_or_ge xs.length ys.length with h | h
    · have := DCan.lt_of_length hx hy h; omega
    · exact h
  have HX := Lib.hid hx
  have HY := Lib.hid hy
  have HLE := Lib.hid hle
  clear hx hy hle
  obtain ⟨i0, hi, hz0, hz1, hz2⟩ := info_parts infoI
  go_enter Tryz.func107, Tryz.ntmps107
  go_wp2
  go_loopw [5, 6, 7] (fun ov lv iv wr => ∃ (k le : Nat) (Ao : Option Addr) (co : Nat) (os : List Nat), k ≤ n ∧ iv = .int .i64 (k : Int) ∧ lv = .int .i64 (le : Int) ∧ le ≤ 1 ∧ ov = .slice Ao k co ∧
      ResI wr w.heap.size Ao k co os ∧ D10 os ∧ Hid (dval os + dval (ys.take k) = dval (xs.take k) + dp k * le) ∧ Below w.heap.size w wr) (fun _ _ iv _ => n - (intOf iv).toNat)
  case atStart => exact ⟨0, 0, none, 0, [], Nat.zero_le _, rfl, rfl, by omega, rfl, ResI.nil _ _, D10.nil, rfl, Below.refl _ _⟩
  case round =>
    obtain ⟨k, le, Ao, co, os, hk, rfl, rfl, hle1, rfl, hres, hos, hval, hbel⟩ := hrel
    by_cases h0 : k = n
    · subst h0
      have HV : Hid (dval os + dval ys = dval xs) := by
        have h1 := hval.out
        rw [List.take_of_length_le (by rw [HM.out]; omega), List.take_of_length_le (by rw [HL.out]; exact Nat.le_refl _)] at h1
        have h2 := dval_lt hos
        rw [hres.len] at h2
        have h3 := HLE.out
        rcases Nat.eq_zero_or_pos le with e | e
        · rw [e, Nat.mul_zero, Nat.add_zero] at h1; exact h1
        · have e1 : le = 1 := by omega
          rw [e1, Nat.mul_one] at h1
          omega
      clear hval hk
      go_wp2_with fail
      refine (rTrim_own wr hres).mono ?_
      rintro e w1 ⟨rfl, hres1, rfl⟩
      go_wp2
      go_ret
      refine ⟨_, _, _, trimmed os, rfl, hres1, trimmed_dcan hos, ?_, hbel⟩
      rw [trimmed_dval]
      exact HV.out
    · have hlt : k < n := by omega
      have hro : ∀ o, (wr.alloc o).ownsRow w.heap.size 3 1 (.slice Ao k co) k (i64s os) := fun o => hres.own.alloc o
      have hx9 := dth_lt HX.out k
      have hy9 := dth_lt HY.out.1 k
      obtain ⟨b, off, rfl, hSb, hcell0⟩ := ha.at_ (k := k) hlt
      have hcell : wr.cell? ⟨b, off + k, none⟩ = some (.int .i64 (nth xs k : Int)) := (hbel.cell (p := ⟨b, off + k, none⟩) (hS _ hSb)).trans hcell0
      clear h0
      by_cases h2 : k < m
      · obtain ⟨b2, off2, rfl, hSb2, hcell20⟩ := hb.at_ (k := k) h2
        have hcell2 : wr.cell? ⟨b2, off2 + k, none⟩ = some (.int .i64 (nth ys k : Int)) := (hbel.cell (p := ⟨b2, off2 + k, none⟩) (hS' _ hSb2)).trans hcell20
        by_cases h3 : le + nth ys k ≤ nth xs k
        · obtain ⟨t, ht⟩ : ∃ t, t = nth xs k - le - nth ys k := ⟨_, rfl⟩
          have hti : (nth xs k : Int) - (le : Int) - (nth ys k : Int) = (t : Int) := by omega
          have htb : t ≤ 9 := by omega
          have HT : Hid (t + le + nth ys k = nth xs k + 10 * 0) := by show _ = _; omega
          clear ht h3
          go_wp2_with (at_builtin; refine wpList_append_own_at _ rfl (.tmp 35) (.tmp 37) _ rfl w.heap.size 3 i0 (.int .i64 0) 1 8 Tryz.underlying67 hi hz0 hz1 hz2 rfl (by decide) (.slice Ao k co) k (i64s os) rfl (hro _) ⟨wr.heap.size, 0, none⟩ 1 1 [.int .i64 ((t : Nat) : Int)] rfl rfl (cell_new1 _ _ _ _ rfl) (by simp [Value.oneCell']) (by unfold maxLen; omega) (by omega) (by simp; have := hbel.size; omega) ?_; intro v1 w1 hown1 hg1 _ hat1)
          obtain ⟨g', cap', hv'⟩ := ownsRow_succ hown1
          subst hv'
          exact ⟨⟨k + 1, 0, _, _, os ++ [t], by omega, by go_num, rfl, by omega, rfl, ResI.snoc hres.len hres.l32 (by omega) hown1, hos.snoc (by omega), Lib.hid (minus_step hres.len hval.out HT.out), hres.below_append hbel hbel.size hg1⟩, by simp [intOf]; omega⟩
        · obtain ⟨t, ht⟩ : ∃ t, t = nth xs k + 10 - le - nth ys k := ⟨_, rfl⟩
          obtain ⟨z, hz⟩ : ∃ z : Int, z = (nth xs k : Int) - (le : Int) - (nth ys k : Int) := ⟨_, rfl⟩
          have hzi : (nth xs k : Int) - (le : Int) - (nth ys k : Int) = z := hz.symm
          have hzn : z < 0 := by omega
          have hzm : -10 ≤ z := by omega
          have hti : z + 10 = (t : Int) := by omega
          have htb : t ≤ 9 := by omega
          have HT : Hid (t + le + nth ys k = nth xs k + 10 * 1) := by show _ = _; omega
          clear ht h3 hz
          go_wp2_with (at_builtin; refine wpList_append_own_at _ rfl (.tmp 35) (.tmp 37) _ rfl w.heap.size 3 i0 (.int .i64 0) 1 8 Tryz.underlying67 hi hz0 hz1 hz2 rfl (by decide) (.slice Ao k co) k (i64s os) rfl (hro _) ⟨wr.heap.size, 0, none⟩ 1 1 [.int .i64 ((t : Nat) : Int)] rfl rfl (cell_new1 _ _ _ _ rfl) (by simp [Value.oneCell']) (by unfold maxLen; omega) (by omega) (by simp; have := hbel.size; omega) ?_; intro v1 w1 hown1 hg1 _ hat1)
          obtain ⟨g', cap', hv'⟩ := ownsRow_succ hown1
          subst hv'
          exact ⟨⟨k + 1, 1, _, _, os ++ [t], by omega, by go_num, rfl, by omega, rfl, ResI.snoc hres.len hres.l32 (by omega) hown1, hos.snoc (by omega), Lib.hid (minus_step hres.len hval.out HT.out), hres.below_append hbel hbel.size hg1⟩, by simp [intOf]; omega⟩
      · have hy0 : Hid (nth ys k = 0) := nth_none (by rw [HM.out]; omega)
        by_cases h3 : le ≤ nth xs k
        · obtain ⟨t, ht⟩ : ∃ t, t = nth xs k - le := ⟨_, rfl⟩
          have hti : (nth xs k : Int) - (le : Int) = (t : Int) := by omega
          have htb : t ≤ 9 := by omega
          have HT : Hid (t + le + nth ys k = nth xs k + 10 * 0) := by show _ = _; rw [hy0.out]; omega
          clear ht h3
          go_wp2_with (at_builtin; refine wpList_append_own_at _ rfl (.tmp 35) (.tmp 37) _ rfl w.heap.size 3 i0 (.int .i64 0) 1 8 Tryz.underlying67 hi hz0 hz1 hz2 rfl (by decide) (.slice Ao k co) k (i64s os) rfl (hro _) ⟨wr.heap.size, 0, none⟩ 1 1 [.int .i64 ((t : Nat) : Int)] rfl rfl (cell_new1 _ _ _ _ rfl) (by simp [Value.oneCell']) (by unfold maxLen; omega) (by omega) (by simp; have := hbel.size; omega) ?_; intro v1 w1 hown1 hg1 _ hat1)
          obtain ⟨g', cap', hv'⟩ := ownsRow_succ hown1
          subst hv'
          exact ⟨⟨k + 1, 0, _, _, os ++ [t], by omega, by go_num, rfl, by omega, rfl, ResI.snoc hres.len hres.l32 (by omega) hown1, hos.snoc (by omega), Lib.hid (minus_step hres.len hval.out HT.out), hres.below_append hbel hbel.size hg1⟩, by simp [intOf]; omega⟩
        · obtain ⟨t, ht⟩ : ∃ t, t = nth xs k + 10 - le := ⟨_, rfl⟩
          obtain ⟨z, hz⟩ : ∃ z : Int, z = (nth xs k : Int) - (le : Int) := ⟨_, rfl⟩
          have hzi : (nth xs k : Int) - (le : Int) = z := hz.symm
          have hzn : z < 0 := by omega
          have hzm : -10 ≤ z := by omega
          have hti : z + 10 = (t : Int) := by omega
          have htb : t ≤ 9 := by omega
          have HT : Hid (t + le + nth ys k = nth xs k + 10 * 1) := by show _ = _; rw [hy0.out]; omega
          clear ht h3 hz
          go_wp2_with (at_builtin; refine wpList_append_own_at _ rfl (.tmp 35) (.tmp 37) _ rfl w.heap.size 3 i0 (.int .i64 0) 1 8 Tryz.underlying67 hi hz0 hz1 hz2 rfl (by decide) (.slice Ao k co) k (i64s os) rfl (hro _) ⟨wr.heap.size, 0, none⟩ 1 1 [.int .i64 ((t : Nat) : Int)] rfl rfl (cell_new1 _ _ _ _ rfl) (by simp [Value.oneCell']) (by unfold maxLen; omega) (by omega) (by simp; have := hbel.size; omega) ?_; intro v1 w1 hown1 hg1 _ hat1)
          obtain ⟨g', cap', hv'⟩ := ownsRow_succ hown1
          subst hv'
          exact ⟨⟨k + 1, 1, _, _, os ++ [t], by omega, by go_num, rfl, by omega, rfl, ResI.snoc hres.len hres.l32 (by omega) hown1, hos.snoc (by omega), Lib.hid (minus_step hres.len hval.out HT.out), hres.below_append hbel hbel.size hg1⟩, by simp [intOf]; omega⟩
end Go.Proofs.YtjjpagdnjafgaaaGreatDoor
