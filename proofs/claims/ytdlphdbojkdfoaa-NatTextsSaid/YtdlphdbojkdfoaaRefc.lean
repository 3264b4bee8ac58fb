/-
  Contracts of the reference's Order and carry: the order of two numbers by their digits; what stands at places made digits.
-/
import Derived.Test.YtdlphdbojkdfoaaRefb
set_option linter.unusedVariables false
set_option linter.unusedSimpArgs false
namespace Go.Proofs.Ytdlphdbojkdfoaa
open Go.RowKit

/-- The order of two numbers by their digits. -/
def dcmp (xs ys : List Nat) : Int := if dval xs < dval ys then -1 else if dval ys < dval xs then 1 else 0
theorem dcmp_lt {xs ys : List Nat} (h : dval xs < dval ys) : dcmp xs ys = -1 := if_pos h
theorem dcmp_gt {xs ys : List Nat} (h : dval ys < dval xs) : dcmp xs ys = 1 := by unfold dcmp; rw [if_neg (by omega), if_pos h]
theorem dcmp_eq {xs ys : List Nat} (h : dval xs = dval ys) : dcmp xs ys = 0 := by unfold dcmp; rw [if_neg (by omega), if_neg (by omega)]

set_option maxRecDepth 100000 in
theorem Order_c {S S' : Nat → Prop} {n m c d : Nat} {A B : Option Addr} {xs ys : List Nat} (w : World) (ha : RdI w S A n xs) (hb : RdI w S' B m ys) (hx : DCan xs) (hy : DCan ys) (hn : n ≤ 1000000) (hm : m ≤ 1000000) :
    Calls Try.prog 34 #[.slice A n c, .slice B m d] w fun e w' => e = .returned (.int .i64 (dcmp xs ys)) ∧ ∃ k, w' = w.drewN k := by
  have hl1 := ha.len
  have hl2 := hb.len
  subst hl1 hl2
  by_cases h1 : xs.length < ys.length
  · rw [dcmp_lt (DCan.lt_of_length hx.1 hy h1)]
    go_enter Try.func34, Try.ntmps34
    go_wp2
    go_ret
    exact ⟨rfl, 0, rfl⟩
  · by_cases h2 : ys.length < xs.length
    · rw [dcmp_gt (DCan.lt_of_length hy.1 hx h2)]
      go_enter Try.func34, Try.ntmps34
      go_wp2
      go_ret
      exact ⟨rfl, 0, rfl⟩
    · have hle : xs.length = ys.length := by omega
      have HL := Lib.hid hle
      have HX := Lib.hid hx
      have HY := Lib.hid hy
      clear hle hx hy
      go_enter Try.func34, Try.ntmps34
      go_wp2
      go_loopw [5] (fun i wr => ∃ k q : Nat, k ≤ xs.length ∧ Hid (∀ j, k ≤ j → j < xs.length → nth xs j = nth ys j) ∧ i = .int .i64 ((k : Int) - 1) ∧ wr = w.drewN q) (fun i _ => (intOf i + 1).toNat)
      case atStart => exact ⟨xs.length, 0, Nat.le_refl _, (fun j h1 h2 => by omega), rfl, rfl⟩
      case round =>
        obtain ⟨k, q, hk, ht, rfl, rfl⟩ := hrel
        by_cases h0 : k = 0
        · subst h0
          have he : Hid (dcmp xs ys = 0) := by
            refine dcmp_eq (congrArg dval (List.ext_getElem HL.out fun i h1 h2 => ?_))
            have := ht.out i (by omega) h1
            rwa [nth_get h1, nth_get h2] at this
          clear ht
          go_wp2
          go_ret
          rw [he.out]
          exact ⟨rfl, by first | exact ⟨_, rfl⟩ | (simp only [World.drewN_drewN]; exact ⟨_, rfl⟩)⟩
        · obtain ⟨j, rfl⟩ : ∃ j, k = j + 1 := ⟨k - 1, by omega⟩
          obtain ⟨b1, o1, rfl, _, hc1⟩ := ha.at_ (k := j) (by omega)
          obtain ⟨b2, o2, rfl, _, hc2⟩ := hb.at_ (k := j) (by rw [← HL.out]; omega)
          have hj2 : (j : Int) < (ys.length : Int) := by rw [← HL.out]; omega
          rcases Nat.lt_trichotomy (nth xs j) (nth ys j) with h3 | h3 | h3
          · have hs : Hid (dcmp xs ys = -1) := dcmp_lt (dval_lt_of_high HX.out.1 HY.out.1 j HL.out (by omega) h3 (fun i h1 h2 => ht.out i (by omega) h2))
            have hd : decide (nth xs j < nth ys j) = true := by simpa using h3
            clear ht h3
            go_wp2
            go_quiet (fail)
            go_wp2
            go_ret
            rw [hs.out]
            exact ⟨rfl, by first | exact ⟨_, rfl⟩ | (simp only [World.drewN_drewN]; exact ⟨_, rfl⟩)⟩
          · have hs : Hid (∀ i, j ≤ i → i < xs.length → nth xs i = nth ys i) := fun i h1 h2 => by
              rcases Nat.eq_or_lt_of_le h1 with e | h
              · rw [← e]; exact h3
              · exact ht.out i (by omega) h2
            have hd : decide (nth xs j < nth ys j) = false := by simp; omega
            have hd2 : decide (nth ys j < nth xs j) = false := by simp; omega
            clear ht h3
            go_wp2
            go_quiet (fail)
            go_wp2
            go_quiet (fail)
            go_wp2
            go_roundw
            case rel => exact ⟨j, _, by omega, hs, by go_num, by first | rfl | (simp only [World.drewN_drewN])⟩
            case measure => simp [intOf]
          · have hs : Hid (dcmp xs ys = 1) := dcmp_gt (dval_lt_of_high HY.out.1 HX.out.1 j HL.out.symm (by rw [← HL.out]; omega) h3 (fun i h1 h2 => (ht.out i (by omega) (by rw [HL.out]; exact h2)).symm))
            have hd : decide (nth xs j < nth ys j) = false := by simp; omega
            have hd2 : decide (nth ys j < nth xs j) = true := by simpa using h3
            clear ht h3
            go_wp2
            go_quiet (fail)
            go_wp2
            go_quiet (fail)
            go_wp2
            go_ret
            rw [hs.out]
            exact ⟨rfl, by first | exact ⟨_, rfl⟩ | (simp only [World.drewN_drewN]; exact ⟨_, rfl⟩)⟩

/-- All are at most M. -/
def Upto (M : Nat) (xs : List Nat) : Prop := ∀ x ∈ xs, x ≤ M
theorem Upto.nth {M : Nat} {xs : List Nat} (h : Upto M xs) (k : Nat) : nth xs k ≤ M := by
  unfold Proofs.Ytdlphdbojkdfoaa.nth
  rw [List.getD_eq_getElem?_getD]
  by_cases hk : k < xs.length
  · rw [List.getElem?_eq_getElem hk]; exact h _ (List.getElem_mem hk)
  · rw [List.getElem?_eq_none (by omega)]; simp

set_option maxRecDepth 100000 in
set_option maxHeartbeats 1000000 in
theorem carry_c {S : Nat → Prop} {n c M : Nat} {A : Option Addr} {ds : List Nat} (w : World) (h : RdI w S A n ds) (hS : ∀ b, S b → b < w.heap.size) (hM : Upto M ds) (hM2 : M ≤ 2305843009213693951) (hn : n ≤ 100000) :
    Calls Try.prog 61 #[.slice A n c] w fun e w' => ∃ A' n' c' os, e = .returned (.slice A' n' c') ∧ ResI w' w.heap.size A' n' c' os ∧ DCan os ∧ dval os = dval ds ∧ Below w.heap.size w w' := by
  have HL := Lib.hid h.len
  obtain ⟨i0, hi, hz0, hz1, hz2⟩ := info_parts infoI
  go_enter Try.func61, Try.ntmps61
  go_wp2
  go_loopw [3, 4, 5] (fun ov mv iv wr => ∃ (k mo : Nat) (Ao : Option Addr) (co : Nat) (os : List Nat), k ≤ n ∧ iv = .int .i64 (k : Int) ∧ mv = .int .i64 (mo : Int) ∧ mo ≤ M ∧ ov = .slice Ao k co ∧
      ResI wr w.heap.size Ao k co os ∧ D10 os ∧ Hid (dval os + dp k * mo = dval (ds.take k)) ∧ Below w.heap.size w wr) (fun _ _ iv _ => n - (intOf iv).toNat)
  case atStart => exact ⟨0, 0, none, 0, [], Nat.zero_le _, rfl, rfl, Nat.zero_le _, rfl, ResI.nil _ _, D10.nil, by show _ = _; rw [List.take_zero, dval_nil, dp_zero], Below.refl _ _⟩
  case round =>
    obtain ⟨k, mo, Ao, co, os, hk, rfl, rfl, hmo, rfl, hres, hos, hval, hbel⟩ := hrel
    by_cases h0 : k = n
    · subst h0
      have hv := hval.out
      rw [List.take_of_length_le (by rw [HL.out]; exact Nat.le_refl _)] at hv
      have HV := Lib.hid hv
      clear hv hval hk
      go_wp2
      go_loopw [3, 4] (fun ov mv wr => ∃ (mo : Nat) (Ao : Option Addr) (no co : Nat) (os : List Nat), mv = .int .i64 (mo : Int) ∧ mo ≤ M ∧ ov = .slice Ao no co ∧
          ResI wr w.heap.size Ao no co os ∧ D10 os ∧ Hid (dval os + dp no * mo = dval ds) ∧ Hid (∃ j, no = k + j ∧ mo * 10 ^ j ≤ M) ∧ no ≤ 100020 ∧ Below w.heap.size w wr) (fun _ mv _ => (intOf mv).toNat)
      case atStart => exact ⟨mo, Ao, k, co, os, rfl, hmo, rfl, hres, hos, HV, Lib.hid ⟨0, rfl, by omega⟩, by omega, hbel⟩
      case round =>
        clear hres hos HV hbel hmo
        obtain ⟨mo, Ao, no, co, os, rfl, hmo, rfl, hres, hos, hval, hj, hno, hbel⟩ := hrel
        by_cases h0 : mo = 0
        · have hvl := hval.out
          rw [h0, Nat.mul_zero, Nat.add_zero] at hvl
          have HVL := Lib.hid hvl
          have hm1 : mo < 1 := by omega
          clear h0 hvl
          go_wp2_with fail
          refine (rTrim_own wr hres).mono ?_
          rintro e w1 ⟨rfl, hres1, rfl⟩
          go_wp2
          go_ret
          exact ⟨_, _, _, trimmed os, rfl, hres1, trimmed_dcan hos, (trimmed_dval os).trans HVL.out, hbel⟩
        · have hm1 : 0 < mo := by omega
          have hnn : no ≤ 100019 := by
            obtain ⟨j, h1, h2⟩ := hj.out
            rcases Nat.lt_or_ge 19 j with h3 | h3
            · have h4 : (10 : Nat) ^ 20 ≤ 10 ^ j := Nat.pow_le_pow_right (by omega) (by omega)
              have h5 : 1 * 10 ^ j ≤ mo * 10 ^ j := Nat.mul_le_mul_right _ hm1
              omega
            · omega
          have hro : ∀ o, (wr.alloc o).ownsRow w.heap.size 3 1 (.slice Ao no co) no (i64s os) := fun o => hres.own.alloc o
          clear h0
          go_wp2_with (at_builtin; refine wpList_append_own_at _ rfl (.tmp 27) (.tmp 30) _ rfl w.heap.size 3 i0 (.int .i64 0) 1 8 Try.underlying58 hi hz0 hz1 hz2 rfl (by decide) (.slice Ao no co) no (i64s os) rfl (hro _) ⟨wr.heap.size, 0, none⟩ 1 1 [.int .i64 ((mo % 10 : Nat) : Int)] rfl rfl (cell_new1 _ _ _ _ rfl) (by simp [Value.oneCell']) (by unfold maxLen; omega) (by omega) (by simp; have := hbel.size; omega) ?_; intro v1 w1 hown1 hg1 _ hat1)
          obtain ⟨g', cap', hv'⟩ := ownsRow_succ hown1
          subst hv'
          refine ⟨⟨mo / 10, _, no + 1, _, os ++ [mo % 10], congrArg (Value.int .i64) (by omega), by omega, rfl, ResI.snoc hres.len hres.l32 (by omega) hown1, hos.snoc (by omega), ?_, ?_, by omega, hres.below_append hbel hbel.size hg1⟩, by simp [intOf]; omega⟩
          · show _ = _
            rw [dval_snoc, hres.len, dp_succ]
            have e : dp no * (mo % 10) + 10 * dp no * (mo / 10) = dp no * mo := by
              conv => rhs; rw [← Nat.mod_add_div mo 10]
              rw [Nat.mul_add, ← Nat.mul_assoc, Nat.mul_comm 10 (dp no)]
            have e3 := hval.out
            omega
          · obtain ⟨j, h1, h2⟩ := hj.out
            refine Lib.hid ⟨j + 1, by omega, ?_⟩
            rw [Nat.pow_succ, Nat.mul_comm (10 ^ j), ← Nat.mul_assoc]
            exact Nat.le_trans (Nat.mul_le_mul_right _ (by omega)) h2
    · have hlt : k < n := by omega
      obtain ⟨b, off, rfl, hSb, hcell0⟩ := h.at_ (k := k) hlt
      have hcell : wr.cell? ⟨b, off + k, none⟩ = some (.int .i64 (nth ds k : Int)) := (hbel.cell (p := ⟨b, off + k, none⟩) (hS _ hSb)).trans hcell0
      have hx := hM.nth k
      obtain ⟨t, ht⟩ : ∃ t, t = mo + nth ds k := ⟨_, rfl⟩
      have hti : (mo : Int) + (nth ds k : Int) = (t : Int) := by omega
      have htb : t ≤ 2 * M := by omega
      have hro : ∀ o, (wr.alloc o).ownsRow w.heap.size 3 1 (.slice Ao k co) k (i64s os) := fun o => hres.own.alloc o
      have HT := Lib.hid ht
      clear ht
      go_wp2_with (at_builtin; refine wpList_append_own_at _ rfl (.tmp 18) (.tmp 21) _ rfl w.heap.size 3 i0 (.int .i64 0) 1 8 Try.underlying58 hi hz0 hz1 hz2 rfl (by decide) (.slice Ao k co) k (i64s os) rfl (hro _) ⟨wr.heap.size, 0, none⟩ 1 1 [.int .i64 ((t % 10 : Nat) : Int)] rfl rfl (cell_new1 _ _ _ _ rfl) (by simp [Value.oneCell']) (by unfold maxLen; omega) (by omega) (by simp; have := hbel.size; omega) ?_; intro v1 w1 hown1 hg1 _ hat1)
      obtain ⟨g', cap', hv'⟩ := ownsRow_succ hown1
      subst hv'
      refine ⟨⟨k + 1, t / 10, _, _, os ++ [t % 10], by omega, by go_num, congrArg (Value.int .i64) (by omega), by omega, rfl, ResI.snoc hres.len hres.l32 (by omega) hown1, hos.snoc (by omega), ?_, hres.below_append hbel hbel.size hg1⟩, by simp [intOf]; omega⟩
      show _ = _
      rw [dval_snoc, hres.len, dval_take_succ, dp_succ]
      have e : dp k * (t % 10) + 10 * dp k * (t / 10) = dp k * t := by
        conv => rhs; rw [← Nat.mod_add_div t 10]
        rw [Nat.mul_add, ← Nat.mul_assoc, Nat.mul_comm 10 (dp k)]
      have e2 : dp k * t = dp k * mo + dp k * nth ds k := by rw [HT.out, Nat.mul_add]
      have e3 := hval.out
      omega
end Go.Proofs.Ytdlphdbojkdfoaa
