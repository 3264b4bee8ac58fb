/-
  Contract of nat.shiftRight: a number divided by a power of two below a limb, in memory of its own.
-/
import Derived.Test.YtecpapkffinlbaaShl
set_option linter.unusedVariables false
set_option linter.unusedSimpArgs false
namespace Go.Proofs.Ytecpapkffinlbaa
open Go.RowKit

theorem shr_high {s x : Nat} (hs : s < 32) : (x * 2 ^ (32 - s)) / 4294967296 = x / 2 ^ s := by
  rw [← pow_split hs, Nat.mul_comm (2 ^ s), Nat.mul_comm x, Nat.mul_div_mul_left _ _ (Nat.two_pow_pos _)]
theorem shr_low {s x : Nat} (hs : s < 32) : (x * 2 ^ (32 - s)) % 4294967296 = 2 ^ (32 - s) * (x % 2 ^ s) := by
  rw [← pow_split hs, Nat.mul_comm (2 ^ s), Nat.mul_comm x, Nat.mul_mod_mul_left]
theorem shr_whole {s x : Nat} (hs : s < 32) : (x * 4294967296) / 2 ^ s = x * 2 ^ (32 - s) := by
  rw [← pow_split hs, Nat.mul_left_comm, Nat.mul_div_cancel_left _ (Nat.two_pow_pos _)]
theorem shr_top {s x : Nat} (hs : s < 32) (hx : x < 4294967296) : x / 2 ^ s < 2 ^ (32 - s) := by
  rw [Nat.div_lt_iff_lt_mul (Nat.two_pow_pos _), Nat.mul_comm, pow_split hs]; exact hx
theorem shr_add {s V x j : Nat} (hs : s < 32) : (V + bp (j + 1) * x) / 2 ^ s = V / 2 ^ s + bp j * (x * 2 ^ (32 - s)) := by
  have e : bp (j + 1) * x = 2 ^ s * (bp j * (x * 2 ^ (32 - s))) := by
    rw [bp_succ, ← pow_split hs]
    simp only [Nat.mul_assoc, Nat.mul_comm, Nat.mul_left_comm]
  rw [e, Nat.add_mul_div_left _ _ (Nat.two_pow_pos _)]
theorem or_zero {x : Nat} (hx : x < 4294967296) : bits .or .u32 0 (x : Int) = (x : Int) := by
  have := u32_or_nat 0 x (by omega) hx
  simpa using this

set_option maxRecDepth 100000 in
theorem shiftRight_c {S : Nat → Prop} {n c : Nat} {A : Option Addr} {xs : List Nat} (s : Nat) (w : World) (ha : Rd w S A n xs) (hS : ∀ b, S b → b < w.heap.size) (hn : n ≤ 1048576) (hs : s < 32) :
    Calls Try.prog 38 #[.slice A n c, .int .i64 (s : Int)] w fun e w' => ∃ A' n' c' zs, e = .returned (.slice A' n' c') ∧ Res w' w.heap.size A' n' c' zs ∧ Can zs ∧ val zs = val xs / 2 ^ s ∧ Below w.heap.size w w' := by
  have hl1 := Lib.hid ha.len
  have hmk := fun W => make_at (z := (n : Int)) n rfl (by omega) W
  go_enter Try.func38, Try.ntmps38
  go_wp2
  clear hmk
  go_loopw [14] (fun i wr => ∃ (k : Nat) (low : List Nat), k ≤ n ∧ i = .int .i64 (k : Int) ∧ Hid (low.length = k) ∧ Hid (∀ j, k = j + 1 → nth low j < 2 ^ (32 - s)) ∧ Hid (val low = val (xs.take k) / 2 ^ s) ∧
      Res wr w.heap.size (some ⟨w.heap.size, 0, none⟩) n n (low ++ List.replicate (n - k) 0) ∧ Below w.heap.size w wr) (fun i _ => n - (intOf i).toNat)
  case atStart =>
    refine ⟨0, [], Nat.zero_le _, rfl, rfl, Lib.hid (fun j h => by omega), by show _ = _; simp [val], ?_, (Below.refl _ _).alloc (Nat.le_refl _) _⟩
    exact Res.made w n (by omega)
  case round =>
    obtain ⟨k, low, hk, rfl, hlen, htop, hval, hres, hbel⟩ := hrel
    by_cases h0 : k = n
    · subst h0
      have e1 : xs.take k = xs := List.take_of_length_le (by rw [hl1.out]; omega)
      have hv := Lib.hid hval.out
      rw [e1] at hv
      clear hval e1
      rw [Nat.sub_self, List.replicate_zero, List.append_nil] at hres
      have hf := trim_c wr hres.rd (by omega) (Nat.le_refl _)
      have HF := Lib.hid hf
      clear hf
      go_wp2_with fail
      refine HF.out.mono ?_
      rintro e w' ⟨rfl, rfl⟩
      go_wp2
      go_ret
      have ht := hres.take (tl_le low k)
      refine ⟨_, _, _, trimmed low, rfl, ?_, trimmed_can hres.l32, ?_, hbel⟩
      · unfold trimmed; rw [hlen.out]; exact ht
      · rw [trimmed_val]; exact hv.out
    · have hlt : k < n := by omega
      obtain ⟨b1, o1, rfl, hSb, hc0⟩ := ha.at_ hlt
      have hc1 : wr.cell? ⟨b1, o1 + k, none⟩ = some (.int .u32 (nth xs k : Int)) := (hbel.cell (p := ⟨b1, o1 + k, none⟩) (hS _ hSb)).trans hc0
      clear hc0
      have hx1 := ha.lt k
      have hrep : List.replicate (n - k) 0 = 0 :: List.replicate (n - (k + 1)) 0 := by rw [show n - k = (n - (k + 1)) + 1 by omega, List.replicate_succ]
      rw [hrep] at hres
      clear hrep
      have hoc : wr.cell? ⟨w.heap.size, k, none⟩ = some (.int .u32 0) := by
        have := hres.cell (j := k) (by omega)
        rwa [nth_snoc _ _ _ hlen.out.symm] at this
      have hfr : wr.frozen? ⟨w.heap.size, k, none⟩ = false := hres.frozen _
      obtain ⟨m, hm⟩ : ∃ m, m = nth xs k * 2 ^ (32 - s) := ⟨_, rfl⟩
      have hmb : m ≤ 4294967295 * 4294967296 := by
        rw [hm]
        have : 2 ^ (32 - s) ≤ 2 ^ 32 := Nat.pow_le_pow_right (by omega) (by omega)
        exact Nat.mul_le_mul (by omega) this
      have hmd : (nth xs k : Int) * 4294967296 / 2 ^ s = (m : Int) := by
        rw [hm, ← shr_whole hs]
        simp
      have hmh : m / 4294967296 = nth xs k / 2 ^ s := by rw [hm]; exact shr_high hs
      have hml : m % 4294967296 = 2 ^ (32 - s) * (nth xs k % 2 ^ s) := by rw [hm]; exact shr_low hs
      have hht := shr_top hs hx1
      rw [← hmh] at hht
      have hor1 : bits .or .u32 0 ((m : Int) / 4294967296) = ((m / 4294967296 : Nat) : Int) := by
        rw [div_cast]
        exact or_zero (by omega)
      have HM := Lib.hid hm
      have HML := Lib.hid hml
      have HMT := Lib.hid hht
      clear hm hml hmh hht
      by_cases hk0 : k = 0
      · have hk1 : k < 1 := by omega
        have HK := Lib.hid hk0
        clear hk0
        go_wp2
        refine ⟨⟨k + 1, [m / 4294967296], by omega, by go_num, ?_, ?_, ?_, ?_, hbel.setCell (Nat.le_refl _) _⟩, by simp [intOf]; omega⟩
        · show _ = _
          rw [HK.out]; rfl
        · exact Lib.hid (fun j hj => by
            have : j = 0 := by omega
            subst this
            rw [nth_cons_zero]; exact HMT.out)
        · show _ = _
          have e0 := HK.out
          subst e0
          rw [val_take_succ, List.take_zero, val_nil, bp_zero, Nat.one_mul, Nat.zero_add, val_cons, val_nil, HM.out, shr_high hs]
          omega
        · have h1 := hres.set (j := k) (x := m / 4294967296) (by omega)
          have e0 : low = [] := List.eq_nil_of_length_eq_zero (by rw [hlen.out, HK.out])
          rw [set_snoc _ _ _ _ hlen.out.symm, e0, List.nil_append] at h1
          simpa using h1
      · obtain ⟨j, rfl⟩ : ∃ j, k = j + 1 := ⟨k - 1, by omega⟩
        obtain ⟨y, hy⟩ : ∃ y, y = nth low j := ⟨_, rfl⟩
        have hyt : y < 2 ^ (32 - s) := by rw [hy]; exact htop.out j rfl
        have hoj : wr.cell? ⟨w.heap.size, j, none⟩ = some (.int .u32 (y : Int)) := by
          rw [hres.cell (by omega), nth_append_left (by rw [hlen.out]; omega), hy]
        have hfj : wr.frozen? ⟨w.heap.size, j, none⟩ = false := hres.frozen _
        have hyl : y < 4294967296 := by rw [hy]; exact nth_lt (L32.append.1 hres.l32).1 j
        have hor2 : bits .or .u32 (y : Int) ((m : Int) % 4294967296) = ((m % 4294967296 + y : Nat) : Int) := by
          rw [rem_cast, HML.out]
          exact or_low hyt (by rw [← HML.out]; omega) hyl
        have HY := Lib.hid hy
        clear hy
        go_wp2
        have hlo : low = low.take j ++ [y] := by
          have := take_succ_nth (xs := low) (k := j) (by rw [hlen.out]; omega)
          rw [← HY.out, List.take_of_length_le (by rw [hlen.out]; exact Nat.le_refl _)] at this
          exact this
        have hlj : j = (low.take j).length := by rw [List.length_take, hlen.out]; omega
        have hsum : m % 4294967296 + y < 4294967296 := by
          rw [HML.out]
          have h1 := Nat.mod_lt (nth xs (j + 1)) (Nat.two_pow_pos s)
          have h2 : 2 ^ (32 - s) * (nth xs (j + 1) % 2 ^ s + 1) ≤ 2 ^ (32 - s) * 2 ^ s := Nat.mul_le_mul_left _ h1
          rw [Nat.mul_comm (2 ^ (32 - s)) (2 ^ s), pow_split hs, Nat.mul_add] at h2
          omega
        refine ⟨⟨j + 1 + 1, (low.take j ++ [m % 4294967296 + y]) ++ [m / 4294967296], by omega, by go_num, ?_, ?_, ?_, ?_, (hbel.setCell (Nat.le_refl _) _).setCell (Nat.le_refl _) _⟩, by simp [intOf]; omega⟩
        · show _ = _
          rw [List.length_append, List.length_append, ← hlj]; rfl
        · exact Lib.hid (fun i hi => by
            have : i = j + 1 := by omega
            subst this
            rw [nth_append_right (by rw [List.length_append, ← hlj]; exact Nat.le_refl _), List.length_append, ← hlj]
            simp only [List.length_singleton, Nat.sub_self, nth_cons_zero]
            exact HMT.out)
        · show _ = _
          rw [val_take_succ, shr_add hs, ← hval.out, ← HM.out]
          conv => rhs; rw [hlo]
          rw [val_snoc, val_snoc, val_snoc, List.length_append, ← hlj, List.length_singleton, Nat.mul_add, bp_succ]
          have e : bp j * (m % 4294967296) + 4294967296 * bp j * (m / 4294967296) = bp j * m := by
            conv => rhs; rw [← Nat.mod_add_div m 4294967296]
            rw [Nat.mul_add, ← Nat.mul_assoc, Nat.mul_comm 4294967296 (bp j)]
          omega
        · have h1 := hres.set (j := j + 1) (x := m / 4294967296) (by omega)
          rw [set_snoc _ _ _ _ hlen.out.symm] at h1
          have h2 := h1.set (j := j) hsum
          have e2 : (low ++ [m / 4294967296] ++ List.replicate (n - (j + 1 + 1)) 0).set j (m % 4294967296 + y) = (low.take j ++ [m % 4294967296 + y]) ++ [m / 4294967296] ++ List.replicate (n - (j + 1 + 1)) 0 := by
            conv => lhs; rw [hlo]
            have := set_snoc (low.take j) ([m / 4294967296] ++ List.replicate (n - (j + 1 + 1)) 0) (m % 4294967296 + y) y hlj
            simpa using this
          rw [e2] at h2
          simpa using h2
end Go.Proofs.Ytecpapkffinlbaa
