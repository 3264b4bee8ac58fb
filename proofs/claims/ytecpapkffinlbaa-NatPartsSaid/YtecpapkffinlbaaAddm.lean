/-
  Contract of nat.addMultiple: over a window of a row of one's own, it adds a multiple in place, and answers the carry.
-/
import Derived.Test.YtecpapkffinlbaaSmall
import Derived.Outline
set_option linter.unusedVariables false
set_option linter.unusedSimpArgs false
namespace Go.Proofs.Ytecpapkffinlbaa
open Go.RowKit

theorem mul_le_u32 {f y : Nat} (hf : f < 4294967296) (hy : y < 4294967296) : f * y ≤ 4294967295 * 4294967295 := Nat.mul_le_mul (by omega) (by omega)

theorem mul_int {f y : Nat} (hf : f < 4294967296) (hy : y < 4294967296) : 0 ≤ (f : Int) * (y : Int) ∧ (f : Int) * (y : Int) ≤ 18446744065119617025 := by
  have h := mul_le_u32 hf hy
  have h1 : (f : Int) * (y : Int) = ((f * y : Nat) : Int) := by rw [Int.natCast_mul]
  rw [h1]; omega

/-- One step of the sum, in numbers. -/
theorem addm_step {new old ys : List Nat} {k carry f t : Nat} (hk : k < old.length) (hl : new.length = k) (hv : val new + bp k * carry = val (old.take k) + f * val (ys.take k)) (ht : t = carry + (f * nth ys k + nth old k)) :
    val (new ++ [t % 4294967296]) + bp (k + 1) * (t / 4294967296) = val (old.take (k + 1)) + f * val (ys.take (k + 1)) := by
  rw [val_snoc, hl, val_take_succ, val_take_succ, bp_succ]
  have e : bp k * (t % 4294967296) + 4294967296 * bp k * (t / 4294967296) = bp k * t := by
    conv => rhs; rw [← Nat.mod_add_div t 4294967296]
    rw [Nat.mul_add, ← Nat.mul_assoc, Nat.mul_comm 4294967296 (bp k)]
  have e2 : bp k * t = bp k * carry + (f * (bp k * nth ys k) + bp k * nth old k) := by
    rw [ht, Nat.mul_add, Nat.mul_add, ← Nat.mul_assoc (bp k) f, Nat.mul_comm (bp k) f, Nat.mul_assoc f]
  rw [Nat.mul_add f]
  omega

theorem addMultiple_c {S : Nat → Prop} {base g n c m c2 c3 : Nat} {B : Option Addr} {old ys : List Nat} (pre post : List Nat) (off f : Nat) (w : World) (hoff : off = pre.length)
    (hown : Res w base (some ⟨g, 0, none⟩) n c (pre ++ (old ++ post))) (hlen : old.length = m) (hy : Rd w S B m ys) (hS : ∀ b, S b → b ≠ g) (hf : f < 4294967296) (hm : m ≤ 4294967296) (hc2 : m ≤ c2) :
    Calls Try.prog 33 #[.slice (some ⟨g, off, none⟩) m c2, .slice B m c3, .int .u32 f] w fun e w' =>
      ∃ new carry, e = .returned (.int .u32 (carry : Nat)) ∧ new.length = m ∧ L32 new ∧ carry < 4294967296 ∧ val new + bp m * carry = val old + f * val ys ∧
        Res w' base (some ⟨g, 0, none⟩) n c (pre ++ (new ++ post)) ∧ w.grownBy w' (some g) := by
  subst hoff
  have hyl := hy.len
  have HM := Lib.hid hlen
  have HY := Lib.hid hyl
  clear hlen hyl
  go_enter Try.func33, Try.ntmps33
  go_wp2
  go_loopw [7, 12] (fun cr i wr => ∃ (k carry : Nat) (new : List Nat), k ≤ m ∧ i = .int .i64 (k : Int) ∧ cr = .int .u64 (carry : Int) ∧ carry < 4294967296 ∧ L32 new ∧ Hid (new.length = k) ∧
      Hid (val new + bp k * carry = val (old.take k) + f * val (ys.take k)) ∧ Res wr base (some ⟨g, 0, none⟩) n c (pre ++ (new ++ (old.drop k ++ post))) ∧ w.grownBy wr (some g)) (fun _ i _ => m - (intOf i).toNat)
  case atStart => exact ⟨0, 0, [], Nat.zero_le _, rfl, rfl, by omega, L32.nil, rfl, by show _ = _; simp [val], hown, World.grownBy.refl w _⟩
  case round =>
    obtain ⟨k, carry, new, hk, rfl, rfl, hcar, hnew, hlen, hval, hres, hg⟩ := hrel
    by_cases h0 : k = m
    · subst h0
      go_wp2
      go_ret
      have e1 : old.take k = old := List.take_of_length_le (by rw [HM.out]; omega)
      have e2 : ys.take k = ys := List.take_of_length_le (by rw [HY.out]; omega)
      have e3 : old.drop k = [] := List.drop_of_length_le (by rw [HM.out]; omega)
      have hv := hval.out
      rw [e1, e2] at hv
      rw [e3, List.nil_append] at hres
      exact ⟨new, carry, congrArg Ending.returned (congrArg (Value.int .u32) (by omega)), hlen.out, hnew, hcar, hv, hres, hg⟩
    · have hlt : k < m := by omega
      obtain ⟨b2, o2, rfl, hSb, hc1⟩ := hy.at_ hlt
      have hcy : wr.cell? ⟨b2, o2 + k, none⟩ = some (.int .u32 (nth ys k : Int)) := only_cell hg (hS _ hSb) hc1
      have hod : old.drop k = nth old k :: old.drop (k + 1) := drop_eq_nth (by rw [HM.out]; exact hlt)
      have hkl : k < n - pre.length := by
        have := hres.len
        simp only [List.length_append, List.length_drop] at this
        have h1 := hlen.out; have h2 := HM.out
        omega
      have hoc : wr.cell? ⟨g, pre.length + k, none⟩ = some (.int .u32 (nth old k : Int)) := by
        rw [hres.cell (by omega), nth_mid pre new _ post (by rw [hlen.out]) (by rw [hod]; simp), hod, nth_cons_zero]
      have hfr : wr.frozen? ⟨g, pre.length + k, none⟩ = false := hres.frozen _
      have hy1 := hy.lt k
      have ho1 : nth old k < 4294967296 := nth_lt (L32.append.1 (L32.append.1 hown.l32).2).1 k
      have HD := Lib.hid hod
      obtain ⟨hm0, hm1⟩ := mul_int hf hy1
      clear hc1 hod
      go_wp2
      obtain ⟨t, ht⟩ : ∃ t, t = carry + (f * nth ys k + nth old k) := ⟨_, rfl⟩
      have htb : t < 18446744073709551616 := by have := mul_le_u32 hf hy1; omega
      have hw : (carry : Int) + ((f : Int) * (nth ys k : Int) + (nth old k : Int)) = ((t : Nat) : Int) := by rw [ht]; simp
      rw [hw, div_cast, rem_cast]
      refine ⟨⟨k + 1, t / 4294967296, new ++ [t % 4294967296], by omega, by go_num, rfl, by omega, hnew.snoc (by omega), ?_, ?_, ?_, only_set hg _ _⟩, by simp [intOf]; omega⟩
      · show _ = _
        rw [List.length_append, hlen.out]; rfl
      · exact addm_step (by rw [HM.out]; exact hlt) hlen.out hval.out ht
      · have := hres.set (j := pre.length + k) (x := t % 4294967296) (by omega)
        rwa [HD.out, set_mid pre new _ post _ _ (by rw [hlen.out])] at this
end Go.Proofs.Ytecpapkffinlbaa
