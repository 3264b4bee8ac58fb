/-
  Contracts of nat.root and nat.Root: the greatest number whose square is not above the number.
-/
import Derived.Test.YtecpapkffinlbaaRootb
set_option linter.unusedVariables false
set_option linter.unusedSimpArgs false
namespace Go.Proofs.Ytecpapkffinlbaa
open Go.RowKit

/-- One step down keeps above the root. -/
theorem root_step {a g q r nx : Nat} (h : a = q * g + r) (hr : r < g) (hn : nx = (g + q) / 2) : a < (nx + 1) * (nx + 1) := by
  have h1 : a < (q + 1) * g := by rw [Nat.add_mul]; omega
  have h2 : g + (q + 1) ≤ 2 * (nx + 1) := by omega
  have h3 : (g + (q + 1)) * (g + (q + 1)) ≤ 2 * (nx + 1) * (2 * (nx + 1)) := Nat.mul_le_mul h2 h2
  have h4 : 2 * (nx + 1) * (2 * (nx + 1)) = 4 * ((nx + 1) * (nx + 1)) := by
    rw [Nat.mul_assoc, Nat.mul_left_comm (nx + 1), ← Nat.mul_assoc 2 2]
  have h5 : 4 * ((q + 1) * g) ≤ (g + (q + 1)) * (g + (q + 1)) := by
    rcases Nat.le_total g (q + 1) with h | h
    · obtain ⟨k, hk⟩ : ∃ k, q + 1 = g + k := ⟨q + 1 - g, by omega⟩
      rw [hk]
      have e1 : (g + (g + k)) * (g + (g + k)) = 4 * ((g + k) * g) + k * k := by
        simp only [Nat.mul_add, Nat.add_mul, Nat.mul_comm k g]; omega
      omega
    · obtain ⟨k, hk⟩ : ∃ k, g = q + 1 + k := ⟨g - (q + 1), by omega⟩
      rw [hk]
      have e1 : (q + 1 + k + (q + 1)) * (q + 1 + k + (q + 1)) = 4 * ((q + 1) * (q + 1 + k)) + k * k := by
        generalize q + 1 = u
        simp only [Nat.mul_add, Nat.add_mul, Nat.mul_comm k u]; omega
      omega
  omega
/-- The first step that comes no lower stands on it. -/
theorem root_stop {a g q r nx : Nat} (h : a = q * g + r) (hn : nx = (g + q) / 2) (hge : g ≤ nx) : g * g ≤ a := by
  have h1 : g ≤ q := by omega
  have := Nat.mul_le_mul_right g h1
  omega
theorem root_pos {a nx : Nat} (h : a < (nx + 1) * (nx + 1)) (ha : 1 ≤ a) : 1 ≤ nx := by
  rcases Nat.eq_zero_or_pos nx with h0 | h0
  · subst h0; omega
  · exact h0
theorem root_start {a bl : Nat} (h : a < 2 ^ bl) : a < (2 ^ ((bl + 1) / 2) + 1) * (2 ^ ((bl + 1) / 2) + 1) := by
  have h1 : 2 ^ bl ≤ 2 ^ ((bl + 1) / 2 + (bl + 1) / 2) := Nat.pow_le_pow_right (by omega) (by omega)
  rw [Nat.pow_add] at h1
  have h2 : 2 ^ ((bl + 1) / 2) * 2 ^ ((bl + 1) / 2) ≤ (2 ^ ((bl + 1) / 2) + 1) * (2 ^ ((bl + 1) / 2) + 1) := Nat.mul_le_mul (by omega) (by omega)
  omega

set_option maxRecDepth 100000 in
set_option maxHeartbeats 1000000 in
theorem root_c {S : Nat → Prop} {n c : Nat} {A : Option Addr} {xs : List Nat} (w : World) (ha : Rd w S A n xs) (hS : ∀ b, S b → b < w.heap.size) (hn : n ≤ 1000) (hc : Can xs) :
    Calls Try.prog 23 #[.slice A n c] w fun e w' => ∃ A1 n1 c1 rs, e = .returned (.slice A1 n1 c1) ∧ Res w' w.heap.size A1 n1 c1 rs ∧ Can rs ∧ val rs * val rs ≤ val xs ∧ val xs < (val rs + 1) * (val rs + 1) ∧ Below w.heap.size w w' := by
  by_cases hn0 : n = 0
  · have hx : xs = [] := List.eq_nil_of_length_eq_zero (by rw [ha.len]; exact hn0)
    subst hx
    have hn1 : n < 1 := by omega
    clear hn0
    go_enter Try.func23, Try.ntmps23
    go_wp2
    go_ret
    exact ⟨none, 0, 0, [], rfl, Res.nil _ _, Can.nil, by rw [val_nil]; omega, by rw [val_nil]; omega, Below.refl _ _⟩
  · have hn1 : 1 ≤ n := by omega
    clear hn0
    have hx1 : 1 ≤ val xs := by
      rcases Nat.eq_zero_or_pos (val xs) with h | h
      · have := hc.val_zero h
        have h2 := ha.len
        rw [this] at h2; simp at h2; omega
      · exact h
    go_enter Try.func23, Try.ntmps23
    go_wp2_with fail
    refine (bitLen_c w ha (by omega) hn1 hc).mono ?_
    rintro e w0 ⟨bl, rfl, hbl, hbv, rfl⟩
    have hst := root_start hbv
    obtain ⟨ex, hex⟩ : ∃ ex, ex = (bl + 1) / 2 := ⟨_, rfl⟩
    rw [← hex] at hst
    have hei : ((bl : Int) + 1) / 2 = (ex : Int) := by omega
    have hel : ex ≤ 32000 := by omega
    have HST := Lib.hid hst
    clear hst hbv hex
    go_wp2_with fail
    refine (powerOfTwo_c ex w0 (by omega)).mono ?_
    rintro e w1 ⟨A1, n1, c1, gs, rfl, hr1, hc1, hv1, hl1, hb1⟩
    have hst2 : Hid (val xs < (val gs + 1) * (val gs + 1)) := by
      show _ < _
      rw [hv1]; exact HST.out
    have hg1 : 1 ≤ val gs := by rw [hv1]; exact Nat.two_pow_pos _
    clear hv1 HST
    go_wp2_with fail
    go_loopw [3] (fun gv wr => ∃ (A1 : Option Addr) (n1 c1 : Nat) (gs : List Nat), gv = .slice A1 n1 c1 ∧ Res wr w0.heap.size A1 n1 c1 gs ∧ Can gs ∧ Hid (val xs < (val gs + 1) * (val gs + 1)) ∧ 1 ≤ val gs ∧ n1 ≤ 1001 ∧ Below w0.heap.size w0 wr)
      (fun gv wr => readVal wr gv)
    case atStart => exact ⟨A1, n1, c1, gs, rfl, hr1, hc1, hst2, hg1, by omega, hb1⟩
    case round =>
      obtain ⟨Ag, ng, cg, us, rfl, hru, hcu, hsu, hpu, hlu, hbu⟩ := hrel
      clear hr1 hc1 hst2 hg1 hl1 hb1
      have har := ha.below hbu hS
      have hup : ∀ b, S b → b < wr.heap.size := fun b h => by have := hS b h; have := hbu.size; omega
      have hng : 1 ≤ ng := by
        rcases Nat.eq_zero_or_pos ng with h | h
        · have := hru.len
          rw [h] at this
          rw [List.eq_nil_of_length_eq_zero this, val_nil] at hpu; omega
        · exact h
      have HRV := Lib.hid (readVal_rd (c := cg) hru.rd)
      go_wp2_with fail
      refine (divide_c wr har hru.rd hup (fun b h => h.2) (by omega) hng (by omega) hc hcu).mono ?_
      rintro e w2 ⟨A2, n2, c2, qs, A3, n3, c3, rs, rfl, hr2, hr3, hc2, hc3, hv, hl, hb2⟩
      have hru2 := hru.below hb2 (Nat.le_refl _)
      have HV := Lib.hid hv
      clear hv
      obtain ⟨K, hK⟩ : ∃ K, K = 1001 := ⟨_, rfl⟩
      have hqx : val qs ≤ val xs := by
        have h1 := HV.out
        have h2 : val qs ≤ val qs * val us := Nat.le_mul_of_pos_right _ hpu
        omega
      have hxb : val xs < bp n := by have := val_lt hc.l32; rwa [ha.len] at this
      have hub : val us < bp K := Nat.lt_of_lt_of_le (by have := val_lt hcu.l32; rwa [hru.len] at this) (bp_mono (by omega))
      have hqn : n2 ≤ n := by have := hc2.len_le (Nat.lt_of_le_of_lt hqx hxb); rwa [hr2.len] at this
      have hqb : val qs < bp K := Nat.lt_of_lt_of_le (Nat.lt_of_le_of_lt hqx hxb) (bp_mono (by omega))
      clear hqx hxb
      go_wp2_with fail
      refine (sum_c w2 hru2.rd hr2.rd (fun b h => h.2) (fun b h => h.2) (by omega) (by omega)).mono ?_
      rintro e w3 ⟨A4, n4, c4, zs, rfl, hr4, hc4, hv4, hb4⟩
      have hn4 : n4 ≤ K + 1 := by
        have := hc4.len_le (k := K + 1) (by rw [hv4, bp_succ]; omega)
        rwa [hr4.len] at this
      have hru3 := hru2.below hb4 (Nat.le_refl _)
      clear hub hqb
      have HV4 := Lib.hid hv4
      clear hv4
      go_wp2_with fail
      refine (shiftRight_c 1 w3 hr4.rd (fun b h => h.2) (by omega) (by omega)).mono ?_
      rintro e w4 ⟨A5, n5, c5, nx, rfl, hr5, hc5, hv5, hb5⟩
      have hnx : val nx = (val us + val qs) / 2 := by rw [hv5, HV4.out]
      have hru4 := hru3.below hb5 (Nat.le_refl _)
      have hcv := cmp_val hc5 hcu
      have hbw4 : Below w0.heap.size w0 w4 := ((hbu.trans (hb2.mono hbu.size)).trans (hb4.mono (Nat.le_trans hbu.size hb2.size))).trans (hb5.mono (Nat.le_trans (Nat.le_trans hbu.size hb2.size) hb4.size))
      have hr5' := hr5.more (base' := w0.heap.size) (Nat.le_trans (Nat.le_trans hbu.size hb2.size) hb4.size)
      clear hv5
      by_cases hge : val us ≤ val nx
      · have hcn : 0 ≤ cmp nx us := by
          rw [hcv, if_neg (by omega)]; split <;> omega
        have hsq := root_stop HV.out hnx hge
        have HSQ := Lib.hid hsq
        clear hcv hnx hge hsq
        go_wp2_with fail
        refine (compare_c w4 hr5.rd hru4.rd hr5.lt hru4.lt).mono ?_
        rintro e w5 ⟨rfl, k, hk⟩
        have hru5 : Res w5 w0.heap.size Ag ng cg us := by rw [hk]; exact hru4.drewN k
        have hbw5 : Below w0.heap.size w0 w5 := by rw [hk]; exact below_drewN hbw4 k
        clear hk
        go_wp2
        go_ret
        exact ⟨Ag, ng, cg, us, rfl, hru5, hcu, HSQ.out, hsu.out, hbw5⟩
      · have hlt : val nx < val us := by omega
        have hcn : cmp nx us < 0 := by
          rw [hcv, if_pos hlt]; omega
        have hst := root_step HV.out hl hnx
        have hpx := root_pos hst hx1
        have HST := Lib.hid hst
        have HLT := Lib.hid hlt
        have hn5 : n5 ≤ ng := by
          have h1 := hc5.len_le (Nat.lt_trans hlt (val_lt hcu.l32))
          rwa [hr5.len, hru.len] at h1
        clear hcv hnx hge hst hlt
        go_wp2_with fail
        refine (compare_c w4 hr5.rd hru4.rd hr5.lt hru4.lt).mono ?_
        rintro e w5 ⟨rfl, k, hk⟩
        have hr55 : Res w5 w0.heap.size A5 n5 c5 nx := by rw [hk]; exact hr5'.drewN k
        have hbw5 : Below w0.heap.size w0 w5 := by rw [hk]; exact below_drewN hbw4 k
        clear hk
        go_wp2
        refine ⟨⟨A5, n5, c5, nx, rfl, hr55, hc5, HST, hpx, by omega, hbw5⟩, ?_⟩
        rw [HRV.out, readVal_rd hr55.rd]
        exact HLT.out

set_option maxRecDepth 100000 in
theorem Root_c {S : Nat → Prop} {n c : Nat} {A : Option Addr} {xs : List Nat} (w : World) (ha : Rd w S A n xs) (hS : ∀ b, S b → b < w.heap.size) (hn : n ≤ 9223372036854775807) :
    Calls Try.prog 12 #[.slice A n c] w fun e w' => ∃ A1 n1 c1 rs, e = .returned (.tuple #[.slice A1 n1 c1, .int .i64 (chk xs : Int)]) ∧ Res w' w.heap.size A1 n1 c1 rs ∧ Below w.heap.size w w' ∧
      (chk xs ≠ 0 → n1 = 0) ∧ (chk xs = 0 → Can rs ∧ val rs * val rs ≤ val xs ∧ val xs < (val rs + 1) * (val rs + 1)) := by
  have h1 := Check_c (c := c) w ha hn
  have H1 := Lib.hid h1
  clear h1
  by_cases h2 : chk xs = 0
  · obtain ⟨cx, lx⟩ := can_of_chk ha.l32 h2
    rw [ha.len] at lx
    have H2 := Lib.hid h2
    clear h2
    go_enter Try.func12, Try.ntmps12
    go_wp2_with fail
    refine H1.out.mono ?_
    rintro e w1 ⟨rfl, rfl⟩
    rw [H2.out]
    go_wp2_with fail
    refine (root_c _ ha hS (by omega) cx).mono ?_
    rintro e w1 ⟨A1, n1, c1, rs, rfl, hr1, hc1, h3, h4, hb1⟩
    go_wp2_with fail
    go_ret2
    exact ⟨_, _, _, rs, by rw [H2.out]; rfl, hr1, hb1, fun h => absurd H2.out h, fun _ => ⟨hc1, h3, h4⟩⟩
  · have h3 : 1 ≤ chk xs := by omega
    have H2 := Lib.hid h2
    clear h2
    go_enter Try.func12, Try.ntmps12
    go_wp2_with fail
    refine H1.out.mono ?_
    rintro e w1 ⟨rfl, rfl⟩
    go_wp2_with fail
    go_ret2
    exact ⟨none, 0, 0, [], rfl, Res.nil _ _, Below.refl _ _, fun _ => rfl, fun h => absurd h H2.out⟩
end Go.Proofs.Ytecpapkffinlbaa
