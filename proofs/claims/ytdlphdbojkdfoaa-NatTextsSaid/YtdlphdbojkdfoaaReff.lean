/-
  Contracts of the reference's Product and Shift, of digits.
-/
import Derived.Test.YtdlphdbojkdfoaaRefe
import Derived.BigRegion
set_option linter.unusedVariables false
set_option linter.unusedSimpArgs false
namespace Go.Proofs.Ytdlphdbojkdfoaa
open Go.RowKit

theorem dval_set {zs : List Nat} {j v : Nat} (h : j < zs.length) : dval (zs.set j (nth zs j + v)) = dval zs + dp j * v := by
  induction zs generalizing j with
  | nil => simp at h
  | cons z r ih =>
    cases j with
    | zero => rw [List.set_cons_zero, dval_cons, dval_cons, nth_cons_zero, dp_zero]; omega
    | succ j =>
      rw [List.set_cons_succ, dval_cons, dval_cons, nth_cons_succ, ih (by simpa using h), dp_succ, Nat.mul_add, Nat.mul_assoc]
      omega
theorem only_drewB {B : Nat} {a w : World} (h : Below B a w) : Below B a w.drew := ⟨h.os, h.tape, h.output, h.size, h.block⟩
theorem upto_set {M : Nat} {zs : List Nat} (h : Upto M zs) {j x : Nat} (hx : x ≤ M) : Upto M (zs.set j x) := fun y hy => by
  rcases List.mem_or_eq_of_mem_set hy with h1 | h1
  · exact h y h1
  · rw [h1]; exact hx
theorem Upto.mono {M N : Nat} {zs : List Nat} (h : Upto M zs) (hm : M ≤ N) : Upto N zs := fun x hx => Nat.le_trans (h x hx) hm

set_option maxRecDepth 100000 in
set_option maxHeartbeats 2000000 in
theorem Product_c {S S' : Nat → Prop} {n m c d : Nat} {A B : Option Addr} {xs ys : List Nat} (w : World) (ha : RdI w S A n xs) (hb : RdI w S' B m ys) (hS : ∀ b, S b → b < w.heap.size) (hS' : ∀ b, S' b → b < w.heap.size) (hx : D10 xs) (hy : D10 ys) (hn : n ≤ 20000) (hm : m ≤ 20000) :
    Calls Try.prog 44 #[.slice A n c, .slice B m d] w fun e w' => ∃ A' n' c' os, e = .returned (.slice A' n' c') ∧ ResI w' w.heap.size A' n' c' os ∧ DCan os ∧ dval os = dval xs * dval ys ∧ Below w.heap.size w w' := by
  have HL := Lib.hid ha.len
  have HM := Lib.hid hb.len
  have HX := Lib.hid hx
  have HY := Lib.hid hy
  clear hx hy
  have hmk := fun W => makeI_at (z := (n : Int) + (m : Int)) (n + m) (by omega) (by omega) W
  obtain ⟨i0, hi, hz0, hz1, hz2⟩ := info_parts infoI
  go_enter Try.func44, Try.ntmps44
  go_wp2
  clear hmk
  have hmn1 : n * m ≤ 20000 * 20000 := Nat.mul_le_mul hn hm
  go_loopw [6] (fun iv wr => ∃ (k : Nat) (zs : List Nat), k ≤ n ∧ iv = .int .i64 (k : Int) ∧ Hid (Upto (81 * (k * m)) zs) ∧ Hid (dval zs = dval (xs.take k) * dval ys) ∧
      ResI wr w.heap.size (some ⟨w.heap.size, 0, none⟩) (n + m) (n + m) zs ∧ Below w.heap.size w wr) (fun iv _ => n - (intOf iv).toNat)
  case atStart =>
    refine ⟨0, List.replicate (n + m) 0, Nat.zero_le _, rfl, (fun x hx => by rw [(List.mem_replicate.1 hx).2]; omega), by show _ = _; rw [dval_replicate]; simp [dval], ResI.made w (n + m) (by omega), (Below.refl _ _).alloc (Nat.le_refl _) _⟩
  case round =>
    obtain ⟨i, zs, hi1, rfl, hup, hval, hres, hbel⟩ := hrel
    have hmi : i * m ≤ n * m := Nat.mul_le_mul_right _ hi1
    by_cases h0 : i = n
    · subst h0
      have HV : Hid (dval zs = dval xs * dval ys) := by
        have := hval.out
        rwa [List.take_of_length_le (by rw [HL.out]; exact Nat.le_refl _)] at this
      clear hval
      go_wp2_with fail
      refine (carry_c wr hres.rd (fun b h => h.2) hup.out (by omega) (by omega)).mono ?_
      rintro e w1 ⟨A', n', c', os', rfl, hres1, hcan1, hval1, hbel1⟩
      go_wp2
      go_ret
      exact ⟨_, _, _, os', rfl, hres1.more hbel.size, hcan1, hval1.trans HV.out, hbel.trans (hbel1.mono hbel.size)⟩
    · have hlt : i < n := by omega
      have hmi2 : (i + 1) * m ≤ n * m := Nat.mul_le_mul_right _ hlt
      have hmi3 : (i + 1) * m = i * m + m := Nat.succ_mul i m
      have HMI := Lib.hid hmi3
      obtain ⟨P, hP⟩ : ∃ P, P = i * m := ⟨_, rfl⟩
      rw [hmi3, ← hP] at hmi2
      rw [← hP] at hup
      have HPm := Lib.hid hP
      clear hmi hmi3 hP
      have hPb : P + m ≤ 400000000 := by omega
      clear hmi2
      obtain ⟨b, off, rfl, hSb, hcx0⟩ := ha.at_ (k := i) hlt
      go_wp2
      go_loopw [7] (fun kv wr => ∃ (k : Nat) (zs : List Nat), k ≤ m ∧ kv = .int .i64 (k : Int) ∧ Upto (81 * (P + k)) zs ∧ Hid (dval zs = dval (xs.take i) * dval ys + dp i * nth xs i * dval (ys.take k)) ∧
        ResI wr w.heap.size (some ⟨w.heap.size, 0, none⟩) (n + m) (n + m) zs ∧ Below w.heap.size w wr) (fun kv _ => m - (intOf kv).toNat)
      case atStart => exact ⟨0, zs, Nat.zero_le _, rfl, hup.out, by show _ = _; rw [List.take_zero, dval_nil, Nat.mul_zero, Nat.add_zero]; exact hval.out, hres, hbel⟩
      case round =>
        clear hup hval hres hbel
        obtain ⟨k, zs, hk, rfl, hup, hval, hres, hbel⟩ := hrel
        by_cases h1 : k = m
        · subst h1
          have HV : Hid (dval zs = dval (xs.take (i + 1)) * dval ys) := by
            have h1 := hval.out
            rw [List.take_of_length_le (l := ys) (by rw [HM.out]; exact Nat.le_refl _)] at h1
            show _ = _
            rw [h1, dval_take_succ, Nat.add_mul]
          clear hval
          go_wp2
          refine ⟨⟨i + 1, zs, by omega, by go_num, ?_, HV, hres, hbel⟩, by simp [intOf]; omega⟩
          show Upto _ _
          rw [HMI.out, ← HPm.out]
          exact hup
        · have hkm : k < m := by omega
          clear h1
          obtain ⟨b2, off2, rfl, hSb2, hcy0⟩ := hb.at_ (k := k) hkm
          have hcx : wr.cell? ⟨b, off + i, none⟩ = some (.int .i64 (nth xs i : Int)) := (hbel.cell (p := ⟨b, off + i, none⟩) (hS _ hSb)).trans hcx0
          have hcy : wr.cell? ⟨b2, off2 + k, none⟩ = some (.int .i64 (nth ys k : Int)) := (hbel.cell (p := ⟨b2, off2 + k, none⟩) (hS' _ hSb2)).trans hcy0
          obtain ⟨s, hs⟩ : ∃ s, s = i + k := ⟨_, rfl⟩
          have hcz : wr.cell? ⟨w.heap.size, s, none⟩ = some (.int .i64 (nth zs s : Int)) := hres.cell (by omega)
          have hfr : wr.frozen? ⟨w.heap.size, s, none⟩ = false := hres.frozen _
          have hx9 := dth_lt HX.out i
          have hy9 := dth_lt HY.out k
          have hz9 := hup.nth s
          have hik : (i : Int) + (k : Int) = (s : Int) := by omega
          have hikb : (s : Int) < (n : Int) + (m : Int) := by omega
          obtain ⟨v, hv⟩ : ∃ v, v = nth xs i * nth ys k := ⟨_, rfl⟩
          have hvi : (nth xs i : Int) * (nth ys k : Int) = (v : Int) := by rw [hv]; simp
          have hvb : v ≤ 81 := by rw [hv]; exact Nat.mul_le_mul (show nth xs i ≤ 9 by omega) (show nth ys k ≤ 9 by omega)
          obtain ⟨t, ht⟩ : ∃ t, t = nth zs s + v := ⟨_, rfl⟩
          have hti : (nth zs s : Int) + (v : Int) = (t : Int) := by omega
          have htb : t ≤ 81 * (P + k) + 81 := by omega
          have HVV := Lib.hid hv
          have HT := Lib.hid ht
          have HSS := Lib.hid hs
          clear hv ht hs
          go_wp2
          go_region
          go_wp2
          refine ⟨⟨k + 1, zs.set s t, by omega, by go_num, upto_set (hup.mono (by omega)) (by omega), ?_, (hres.set (by omega)).drew, only_drewB (hbel.setCell (Nat.le_refl _) _)⟩, by simp [intOf]; omega⟩
          show _ = _
          rw [HT.out, dval_set (by rw [hres.len]; omega), hval.out, HVV.out, HSS.out, dval_take_succ, dp_add, Nat.mul_add]
          have e1 : dp i * dp k * (nth xs i * nth ys k) = dp i * nth xs i * (dp k * nth ys k) := by
            rw [Nat.mul_assoc, Nat.mul_assoc, Nat.mul_left_comm (dp k)]
          omega
/-- n digits 0 put below. -/
theorem shift_dval (n : Nat) (xs : List Nat) : dval (List.replicate n 0 ++ xs) = dp n * dval xs := by
  rw [dval_append, dval_replicate, List.length_replicate, Nat.zero_add]
theorem shift_dcan {xs : List Nat} (h : DCan xs) (h0 : xs ≠ []) (n : Nat) : DCan (List.replicate n 0 ++ xs) := by
  refine dcan_of_ge (D10.append.2 ⟨D10.replicate n, h.1⟩) (.inr ?_)
  have hl := List.length_pos_iff.2 h0
  rw [shift_dval, List.length_append, List.length_replicate, show n + xs.length - 1 = n + (xs.length - 1) by omega, dp_add]
  exact Nat.mul_le_mul_left _ (h.ge h0)

set_option maxRecDepth 100000 in
theorem Shift_c {S : Nat → Prop} {n c : Nat} {A : Option Addr} {xs : List Nat} (k : Nat) (w : World) (h : RdI w S A n xs) (hS : ∀ b, S b → b < w.heap.size) (hx : DCan xs) (hn : n ≤ 100000) (hk : k ≤ 100000) :
    Calls Try.prog 55 #[.slice A n c, .int .i64 (k : Int)] w fun e w' => ∃ A' n' c' os, e = .returned (.slice A' n' c') ∧ ResI w' w.heap.size A' n' c' os ∧ DCan os ∧ dval os = dp k * dval xs ∧ n' ≤ n + k ∧ Below w.heap.size w w' := by
  have HL := Lib.hid h.len
  have HX := Lib.hid hx
  clear hx
  by_cases h0 : n = 0
  · subst h0
    have hx0 : Hid (xs = []) := List.eq_nil_of_length_eq_zero HL.out
    go_enter Try.func55, Try.ntmps55
    go_wp2
    go_ret
    refine ⟨none, 0, 0, [], rfl, ResI.nil _ _, DCan.nil, ?_, by omega, Below.refl _ _⟩
    rw [hx0.out, dval_nil, Nat.mul_zero]
  · have hnb : ((n : Int) == 0) = false := by rw [beq_eq_false_iff_ne]; omega
    have hx0 : Hid (xs ≠ []) := by intro e; have := HL.out; rw [e, List.length_nil] at this; omega
    obtain ⟨b, off, rfl, _⟩ := h.cells (by omega)
    clear h0
    have hmk := fun W => makeI_at (z := (k : Int)) k rfl (by omega) W
    obtain ⟨i0, hi, hz0, hz1, hz2⟩ := info_parts infoI
    have hm := ResI.made w k (by omega)
    have h2 : RdI (w.alloc (zerosI k)) S (some ⟨b, off, none⟩) n xs := h.below (B := w.heap.size) ((Below.refl _ _).alloc (Nat.le_refl _) _) hS
    go_enter Try.func55, Try.ntmps55
    go_wp2_with (at_builtin; refine wpList_append_own _ rfl (.tmp 11) (.tmp 12) _ rfl w.heap.size 3 i0 (.int .i64 0) 1 8 Try.underlying58 hi hz0 hz1 hz2 rfl (by decide) (.slice (some ⟨w.heap.size, 0, none⟩) k k) k (i64s (List.replicate k 0)) rfl hm.own ⟨b, off, none⟩ n c (i64s xs) rfl (by rw [i64s_length, HL.out, Nat.mul_one]) h2.cellsAt (i64s_one xs) (by unfold maxLen; omega) (by omega) (by simp) ?_; intro v' w1 hown1 hg1 _)
    go_ret
    rw [← i64s_append] at hown1
    obtain ⟨A', c', e, hr⟩ := ResI.of_row (by rw [List.length_append, List.length_replicate, HL.out]) (LI.append (LI.replicate k) h.li) hown1
    subst e
    refine ⟨A', _, c', _, rfl, hr, shift_dcan HX.out hx0.out k, shift_dval _ _, by omega, ((Below.refl _ w).alloc (Nat.le_refl _) _).grown hg1 (by simp) (by intro q hq; simp [Value.ownBlock] at hq; omega)⟩
end Go.Proofs.Ytdlphdbojkdfoaa
