/-
  Contract of nat.takeMultiple: over a window of a row of one's own, it takes a multiple out, in place, and tells whether the highest limb could not lend what is missing.
-/
import Derived.Test.YtecpapkffinlbaaAddm
set_option linter.unusedVariables false
set_option linter.unusedSimpArgs false
namespace Go.Proofs.Ytecpapkffinlbaa
open Go.RowKit

/-- One step of the difference, in numbers. -/
theorem takem_step {new old ys : List Nat} {k carry carry' f t x : Nat} (hl : new.length = k) (hv : val new + f * val (ys.take k) = val (old.take k) + bp k * carry) (ht : t = carry + f * nth ys k)
    (hx : x + t = nth old k + 4294967296 * carry') :
    val (new ++ [x]) + f * val (ys.take (k + 1)) = val (old.take (k + 1)) + bp (k + 1) * carry' := by
  rw [val_snoc, hl, val_take_succ, val_take_succ, bp_succ]
  have e : bp k * x + bp k * t = bp k * nth old k + bp k * (4294967296 * carry') := by rw [← Nat.mul_add, hx, Nat.mul_add]
  have e2 : bp k * t = bp k * carry + f * (bp k * nth ys k) := by
    rw [ht, Nat.mul_add, ← Nat.mul_assoc (bp k) f, Nat.mul_comm (bp k) f, Nat.mul_assoc f]
  have e3 : bp k * (4294967296 * carry') = 4294967296 * bp k * carry' := by rw [← Nat.mul_assoc, Nat.mul_comm (bp k)]
  rw [Nat.mul_add f]
  omega

theorem takeMultiple_c {S : Nat → Prop} {base g n c m c2 c3 h : Nat} {B : Option Addr} {old ys : List Nat} (pre post : List Nat) (off f : Nat) (w : World) (hoff : off = pre.length)
    (hown : Res w base (some ⟨g, 0, none⟩) n c (pre ++ (old ++ (h :: post)))) (hlen : old.length = m) (hy : Rd w S B m ys) (hS : ∀ b, S b → b ≠ g) (hf : f < 4294967296) (hm : m ≤ 1048576) (hc2 : m + 1 ≤ c2) :
    Calls Try.prog 48 #[.slice (some ⟨g, off, none⟩) (m + 1) c2, .slice B m c3, .int .u32 f] w fun e w' =>
      ∃ new carry, e = .returned (.bool (decide (h < carry))) ∧ new.length = m ∧ L32 new ∧ val new + f * val ys = val old + bp m * carry ∧
        Res w' base (some ⟨g, 0, none⟩) n c (pre ++ (new ++ (h :: post))) ∧ w.grownBy w' (some g) := by
  subst hoff
  have hyl := hy.len
  have hrow := hown.len
  simp only [List.length_append, List.length_cons] at hrow
  have HM := Lib.hid hlen
  have HY := Lib.hid hyl
  have hpn : pre.length + m < n := by omega
  clear hlen hyl hrow
  go_enter Try.func48, Try.ntmps48
  go_wp2
  go_loopw [7, 13] (fun cr i wr => ∃ (k carry : Nat) (new : List Nat), k ≤ m ∧ i = .int .i64 (k : Int) ∧ cr = .int .u64 (carry : Int) ∧ carry < 4294967296 ∧ L32 new ∧ Hid (new.length = k) ∧
      Hid (val new + f * val (ys.take k) = val (old.take k) + bp k * carry) ∧ Res wr base (some ⟨g, 0, none⟩) n c (pre ++ (new ++ (old.drop k ++ (h :: post)))) ∧ w.grownBy wr (some g)) (fun _ i _ => m - (intOf i).toNat)
  case atStart => exact ⟨0, 0, [], Nat.zero_le _, rfl, rfl, by omega, L32.nil, rfl, by show _ = _; simp [val], hown, World.grownBy.refl w _⟩
  case round =>
    obtain ⟨k, carry, new, hk, rfl, rfl, hcar, hnew, hlen, hval, hres, hg⟩ := hrel
    by_cases h0 : k = m
    · subst h0
      have e1 : old.take k = old := List.take_of_length_le (by rw [HM.out]; omega)
      have e2 : ys.take k = ys := List.take_of_length_le (by rw [HY.out]; omega)
      have e3 : old.drop k = [] := List.drop_of_length_le (by rw [HM.out]; omega)
      have hv := Lib.hid hval.out
      rw [e1, e2] at hv
      rw [e3, List.nil_append] at hres
      clear e1 e2 e3 hval
      have hch : wr.cell? ⟨g, pre.length + k, none⟩ = some (.int .u32 (h : Int)) := by
        rw [hres.cell hpn, nth_append_right (by omega), nth_append_right (by rw [hlen.out]; omega), hlen.out, show pre.length + k - pre.length - k = 0 by omega, nth_cons_zero]
      have hh : h < 4294967296 := (L32.cons.1 (L32.append.1 (L32.append.1 hown.l32).2).2).1
      go_wp2
      go_ret
      exact ⟨new, carry, by simp, hlen.out, hnew, hv.out, hres, hg⟩
    · have hlt : k < m := by omega
      obtain ⟨b2, o2, rfl, hSb, hc1⟩ := hy.at_ hlt
      have hcy : wr.cell? ⟨b2, o2 + k, none⟩ = some (.int .u32 (nth ys k : Int)) := only_cell hg (hS _ hSb) hc1
      have hod : old.drop k = nth old k :: old.drop (k + 1) := drop_eq_nth (by rw [HM.out]; exact hlt)
      have hoc : wr.cell? ⟨g, pre.length + k, none⟩ = some (.int .u32 (nth old k : Int)) := by
        rw [hres.cell (by omega), nth_mid pre new _ (h :: post) (by rw [hlen.out]) (by rw [hod]; simp), hod, nth_cons_zero]
      have hfr : wr.frozen? ⟨g, pre.length + k, none⟩ = false := hres.frozen _
      have hy1 := hy.lt k
      have ho1 : nth old k < 4294967296 := nth_lt (L32.append.1 (L32.append.1 hown.l32).2).1 k
      have HD := Lib.hid hod
      obtain ⟨hm0, hm1⟩ := mul_int hf hy1
      clear hc1 hod
      obtain ⟨t, ht⟩ : ∃ t, t = carry + f * nth ys k := ⟨_, rfl⟩
      have htb : t ≤ 4294967295 * 4294967296 := by have := mul_le_u32 hf hy1; omega
      have hw : (carry : Int) + (f : Int) * (nth ys k : Int) = ((t : Nat) : Int) := by rw [ht]; simp
      have HT := Lib.hid ht
      clear ht
      by_cases hb : nth old k < t % 4294967296
      · have hbi : (nth old k : Int) < (t : Int) % 4294967296 := by omega
        go_wp2
        obtain ⟨x, hx⟩ : ∃ x, x = nth old k + 4294967296 - t % 4294967296 := ⟨_, rfl⟩
        obtain ⟨q, hq⟩ : ∃ q, q = t / 4294967296 + 1 := ⟨_, rfl⟩
        have hxl : x < 4294967296 := by omega
        have hql : q < 4294967296 := by omega
        have hxe : ((nth old k : Int) - (t : Int)) % 4294967296 = ((x : Nat) : Int) := by omega
        have hqe : (t : Int) / 4294967296 + 1 = ((q : Nat) : Int) := by omega
        have hstep : x + t = nth old k + 4294967296 * q := by omega
        rw [hxe, hqe]
        refine ⟨⟨k + 1, q, new ++ [x], by omega, by go_num, rfl, hql, hnew.snoc hxl, ?_, ?_, ?_, only_set hg _ _⟩, by simp [intOf]; omega⟩
        · show _ = _
          rw [List.length_append, hlen.out]; rfl
        · exact takem_step hlen.out hval.out HT.out hstep
        · have := hres.set (j := pre.length + k) (x := x) hxl
          rwa [HD.out, set_mid pre new _ (h :: post) _ _ (by rw [hlen.out])] at this
      · have hbi : ¬ (nth old k : Int) < (t : Int) % 4294967296 := by omega
        go_wp2
        obtain ⟨x, hx⟩ : ∃ x, x = nth old k - t % 4294967296 := ⟨_, rfl⟩
        obtain ⟨q, hq⟩ : ∃ q, q = t / 4294967296 := ⟨_, rfl⟩
        have hxl : x < 4294967296 := by omega
        have hql : q < 4294967296 := by omega
        have hxe : (nth old k : Int) - (t : Int) % 4294967296 = ((x : Nat) : Int) := by omega
        have hqe : (t : Int) / 4294967296 = ((q : Nat) : Int) := by omega
        have hstep : x + t = nth old k + 4294967296 * q := by omega
        rw [hxe, hqe]
        refine ⟨⟨k + 1, q, new ++ [x], by omega, by go_num, rfl, hql, hnew.snoc hxl, ?_, ?_, ?_, only_set hg _ _⟩, by simp [intOf]; omega⟩
        · show _ = _
          rw [List.length_append, hlen.out]; rfl
        · exact takem_step hlen.out hval.out HT.out hstep
        · have := hres.set (j := pre.length + k) (x := x) hxl
          rwa [HD.out, set_mid pre new _ (h :: post) _ _ (by rw [hlen.out])] at this
end Go.Proofs.Ytecpapkffinlbaa
