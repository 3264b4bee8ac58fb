/-
  Contracts of nat.shiftLeft and nat.shiftRight: a number times, and divided by, a power of two below a limb, in memory of its own.
-/
import Derived.Test.YtecpapkffinlbaaProd
set_option linter.unusedVariables false
set_option linter.unusedSimpArgs false
namespace Go.Proofs.Ytecpapkffinlbaa
open Go.RowKit

/-- What one limb, moved, leaves. -/
theorem shl_step {z x p k : Nat} : bp k * ((x * p) % 4294967296 + z) + bp (k + 1) * ((x * p) / 4294967296) = bp k * z + bp k * x * p := by
  rw [Nat.mul_add, bp_succ]
  have e : bp k * ((x * p) % 4294967296) + 4294967296 * bp k * ((x * p) / 4294967296) = bp k * (x * p) := by
    conv => rhs; rw [← Nat.mod_add_div (x * p) 4294967296]
    rw [Nat.mul_add, ← Nat.mul_assoc, Nat.mul_comm 4294967296 (bp k)]
  rw [← Nat.mul_assoc] at e
  omega

/-- A number below a power of two, and a multiple of that, put together. -/
theorem or_low {t z y : Nat} (hz : z < 2 ^ t) (hy : 2 ^ t * y < 4294967296) (hzl : z < 4294967296) : bits .or .u32 (z : Int) ((2 ^ t * y : Nat) : Int) = ((2 ^ t * y + z : Nat) : Int) := by
  rw [u32_or_nat _ _ (by omega) (by omega)]
  have h := Nat.two_pow_add_eq_or_of_lt hz y
  rw [h, Nat.or_comm]
theorem pow_split {s : Nat} (hs : s < 32) : 2 ^ s * 2 ^ (32 - s) = 4294967296 := by
  rw [← Nat.pow_add, show s + (32 - s) = 32 by omega]
theorem shl_low {s x : Nat} (hs : s < 32) : (x * 2 ^ s) % 4294967296 = 2 ^ s * (x % 2 ^ (32 - s)) := by
  rw [← pow_split hs, Nat.mul_comm x, Nat.mul_mod_mul_left]
theorem shl_high {s x : Nat} (hs : s < 32) (hx : x < 4294967296) : (x * 2 ^ s) / 4294967296 < 2 ^ s := by
  rw [Nat.div_lt_iff_lt_mul (by omega), Nat.mul_comm]
  exact Nat.mul_lt_mul_of_pos_left hx (Nat.two_pow_pos _)
theorem pow_le31 {s : Nat} (hs : s < 32) : 2 ^ s ≤ 2147483648 := by
  have := Nat.pow_le_pow_right (n := 2) (by omega) (show s ≤ 31 by omega)
  omega

set_option maxRecDepth 100000 in
theorem shiftLeft_c {S : Nat → Prop} {n c : Nat} {A : Option Addr} {xs : List Nat} (s : Nat) (w : World) (ha : Rd w S A n xs) (hS : ∀ b, S b → b < w.heap.size) (hn : n ≤ 1048576) (hs : s < 32) :
    Calls Try.prog 42 #[.slice A n c, .int .i64 (s : Int)] w fun e w' => ∃ zs, e = .returned (.slice (some ⟨w.heap.size, 0, none⟩) (n + 1) (n + 1)) ∧ Res w' w.heap.size (some ⟨w.heap.size, 0, none⟩) (n + 1) (n + 1) zs ∧ val zs = val xs * 2 ^ s ∧ Below w.heap.size w w' := by
  have hl1 := Lib.hid ha.len
  have hmk := fun W => make_at (z := (n : Int) + 1) (n + 1) (by omega) (by omega) W
  go_enter Try.func42, Try.ntmps42
  go_wp2
  clear hmk
  go_loopw [15] (fun i wr => ∃ (k : Nat) (low : List Nat) (z : Nat), k ≤ n ∧ i = .int .i64 (k : Int) ∧ Hid (low.length = k) ∧ z < 2 ^ s ∧ Hid (val low + bp k * z = val (xs.take k) * 2 ^ s) ∧
      Res wr w.heap.size (some ⟨w.heap.size, 0, none⟩) (n + 1) (n + 1) (low ++ (z :: List.replicate (n - k) 0)) ∧ Below w.heap.size w wr) (fun i _ => n - (intOf i).toNat)
  case atStart =>
    refine ⟨0, [], 0, Nat.zero_le _, rfl, rfl, Nat.two_pow_pos _, by show _ = _; simp [val], ?_, (Below.refl _ _).alloc (Nat.le_refl _) _⟩
    exact Res.made w (n + 1) (by omega)
  case round =>
    obtain ⟨k, low, z, hk, rfl, hlen, hz, hval, hres, hbel⟩ := hrel
    by_cases h0 : k = n
    · subst h0
      have e1 : xs.take k = xs := List.take_of_length_le (by rw [hl1.out]; omega)
      have hv := Lib.hid hval.out
      rw [e1] at hv
      clear hval e1
      rw [Nat.sub_self, List.replicate_zero] at hres
      go_wp2
      go_ret
      exact ⟨low ++ [z], rfl, hres, by rw [val_snoc, hlen.out]; exact hv.out, hbel⟩
    · have hlt : k < n := by omega
      obtain ⟨b1, o1, rfl, hSb, hc0⟩ := ha.at_ hlt
      have hc1 : wr.cell? ⟨b1, o1 + k, none⟩ = some (.int .u32 (nth xs k : Int)) := (hbel.cell (p := ⟨b1, o1 + k, none⟩) (hS _ hSb)).trans hc0
      clear hc0
      have hx1 := ha.lt k
      have hrep : List.replicate (n - k) 0 = 0 :: List.replicate (n - (k + 1)) 0 := by rw [show n - k = (n - (k + 1)) + 1 by omega, List.replicate_succ]
      rw [hrep] at hres
      clear hrep
      have hoc : wr.cell? ⟨w.heap.size, k, none⟩ = some (.int .u32 (z : Int)) := by
        rw [hres.cell (by omega), nth_snoc _ _ _ hlen.out.symm]
      have hoc2 : wr.cell? ⟨w.heap.size, k + 1, none⟩ = some (.int .u32 ((0 : Nat) : Int)) := by
        rw [hres.cell (by omega), nth_append_right (by rw [hlen.out]; omega), hlen.out, show k + 1 - k = 0 + 1 by omega, nth_cons_succ, nth_cons_zero]
      have hfr : wr.frozen? ⟨w.heap.size, k, none⟩ = false := hres.frozen _
      have hfr2 : wr.frozen? ⟨w.heap.size, k + 1, none⟩ = false := hres.frozen _
      have hp31 := pow_le31 hs
      obtain ⟨m, hm⟩ : ∃ m, m = nth xs k * 2 ^ s := ⟨_, rfl⟩
      have hmb : m ≤ 4294967296 * 2147483648 := by rw [hm]; exact Nat.mul_le_mul (by omega) hp31
      have hwr : IntKind.u64.wrap ((nth xs k : Int) * 2 ^ s) = (m : Int) := by
        rw [hm, Int.natCast_mul, Int.natCast_pow]
        rw [hm] at hmb
        have h2 : ((nth xs k * 2 ^ s : Nat) : Int) = (nth xs k : Int) * 2 ^ s := by rw [Int.natCast_mul, Int.natCast_pow]; rfl
        have h3 := IntWalk.u64_in ((nth xs k : Int) * 2 ^ s) (by omega)
        exact h3
      have hor : bits .or .u32 (z : Int) ((m : Int) % 4294967296) = ((m % 4294967296 + z : Nat) : Int) := by
        rw [rem_cast, hm, shl_low hs]
        exact or_low hz (by rw [← shl_low hs]; omega) (by omega)
      have hmz : m % 4294967296 + z < 4294967296 := by
        rw [hm, shl_low hs]
        have h1 := Nat.mod_lt (nth xs k) (Nat.two_pow_pos (32 - s))
        have h2 : 2 ^ s * (nth xs k % 2 ^ (32 - s) + 1) ≤ 2 ^ s * 2 ^ (32 - s) := Nat.mul_le_mul_left _ h1
        rw [pow_split hs, Nat.mul_add] at h2
        omega
      have hmh : m / 4294967296 < 2 ^ s := by rw [hm]; exact shl_high hs hx1
      have HM := Lib.hid hm
      clear hm
      go_wp2
      refine ⟨⟨k + 1, low ++ [m % 4294967296 + z], m / 4294967296, by omega, by go_num, ?_, hmh, ?_, ?_, (hbel.setCell (Nat.le_refl _) _).setCell (Nat.le_refl _) _⟩, by simp [intOf]; omega⟩
      · show _ = _
        rw [List.length_append, hlen.out]; rfl
      · show _ = _
        rw [val_snoc, hlen.out, Nat.add_assoc, HM.out, shl_step, val_take_succ, Nat.add_mul, ← hval.out]
        omega
      · have h1 := hres.set (j := k) hmz
        rw [set_snoc _ _ _ _ hlen.out.symm] at h1
        have h2 := h1.set (j := k + 1) (x := m / 4294967296) (by have := pow_le31 hs; omega)
        rw [set_snoc _ _ _ _ (by rw [List.length_append, hlen.out]; rfl)] at h2
        have e : ((m : Int) / 4294967296) % 4294967296 = ((m / 4294967296 : Nat) : Int) := by omega
        simpa [e] using h2
end Go.Proofs.Ytecpapkffinlbaa
