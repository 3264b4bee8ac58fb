/-
  Contract of nat.product: the product of two numbers' limbs, without 0 at its end, in memory of its own.
-/
import Derived.Test.YtecpapkffinlbaaAddm
set_option linter.unusedVariables false
set_option linter.unusedSimpArgs false
namespace Go.Proofs.Ytecpapkffinlbaa
open Go.RowKit

/-- One round of the product, in numbers. -/
theorem prod_step {low pre old new ys xs : List Nat} {i m carry x : Nat} (hl : low.length = i + m) (hp : pre = low.take i) (ho : old = low.drop i) (hn : new.length = m)
    (hv : val new + bp m * carry = val old + x * val ys) (h : val low = val (xs.take i) * val ys) (hx : x = nth xs i) :
    val (pre ++ (new ++ [carry])) = val (xs.take (i + 1)) * val ys := by
  have hpl : pre.length = i := by rw [hp, List.length_take]; omega
  rw [val_append, val_snoc, hn, hpl, hv, val_take_succ, Nat.add_mul, ← h, val_split low i (by omega), ← hp, ← ho, hx, Nat.mul_add, Nat.mul_assoc, Nat.add_assoc]

set_option maxRecDepth 100000 in
theorem product_c {S S' : Nat → Prop} {n m c d : Nat} {A B : Option Addr} {xs ys : List Nat} (w : World) (ha : Rd w S A n xs) (hb : Rd w S' B m ys)
    (hS : ∀ b, S b → b < w.heap.size) (hS' : ∀ b, S' b → b < w.heap.size) (hn : n ≤ 1048576) (hm : m ≤ 1048576) :
    Calls Try.prog 19 #[.slice A n c, .slice B m d] w fun e w' => ∃ A' n' c' zs, e = .returned (.slice A' n' c') ∧ Res w' w.heap.size A' n' c' zs ∧ Can zs ∧ val zs = val xs * val ys ∧ Below w.heap.size w w' := by
  have hl1 := Lib.hid ha.len
  have hl2 := Lib.hid hb.len
  have hmk := fun W => make_at (z := (n : Int) + (m : Int)) (n + m) (by omega) (by omega) W
  go_enter Try.func19, Try.ntmps19
  go_wp2
  clear hmk
  go_loopw [16] (fun i wr => ∃ (k : Nat) (low : List Nat), k ≤ n ∧ i = .int .i64 (k : Int) ∧ Hid (low.length = k + m) ∧ Hid (val low = val (xs.take k) * val ys) ∧
      Res wr w.heap.size (some ⟨w.heap.size, 0, none⟩) (n + m) (n + m) (low ++ List.replicate (n - k) 0) ∧ Below w.heap.size w wr) (fun i _ => n - (intOf i).toNat)
  case atStart =>
    refine ⟨0, List.replicate m 0, Nat.zero_le _, rfl, by show _ = _; simp, by show _ = _; rw [val_replicate]; simp [val], ?_, (Below.refl _ _).alloc (Nat.le_refl _) _⟩
    rw [List.replicate_append_replicate, Nat.sub_zero, Nat.add_comm m n]
    exact Res.made w (n + m) (by omega)
  case round =>
    obtain ⟨k, low, hk, rfl, hlen, hval, hres, hbel⟩ := hrel
    by_cases h0 : k = n
    · subst h0
      have hf := trim_c wr hres.rd (by omega) (Nat.le_refl _)
      rw [Nat.sub_self, List.replicate_zero, List.append_nil] at hres hf
      have e1 : xs.take k = xs := List.take_of_length_le (by rw [hl1.out]; omega)
      have hv := Lib.hid hval.out
      rw [e1] at hv
      have HF := Lib.hid hf
      clear hf hval
      go_wp2_with fail
      refine HF.out.mono ?_
      rintro e w' ⟨rfl, rfl⟩
      go_wp2
      go_ret
      have ht := hres.take (tl_le low (k + m))
      refine ⟨_, _, _, trimmed low, rfl, ?_, trimmed_can hres.l32, ?_, hbel⟩
      · unfold trimmed; rw [hlen.out]; exact ht
      · rw [trimmed_val]; exact hv.out
    · have hlt : k < n := by omega
      obtain ⟨b1, o1, rfl, hSb, hc0⟩ := ha.at_ hlt
      have hc1 : wr.cell? ⟨b1, o1 + k, none⟩ = some (.int .u32 (nth xs k : Int)) := (hbel.cell (p := ⟨b1, o1 + k, none⟩) (hS _ hSb)).trans hc0
      clear hc0
      have hx1 := ha.lt k
      have hrep : List.replicate (n - k) 0 = 0 :: List.replicate (n - (k + 1)) 0 := by rw [show n - k = (n - (k + 1)) + 1 by omega, List.replicate_succ]
      have hsplit : low ++ List.replicate (n - k) 0 = low.take k ++ (low.drop k ++ List.replicate (n - k) 0) := by rw [← List.append_assoc, List.take_append_drop]
      rw [hsplit, hrep] at hres
      have hpl : k = (low.take k).length := by rw [List.length_take, hlen.out]; omega
      have hw := addMultiple_c (low.take k) (0 :: List.replicate (n - (k + 1)) 0) k (nth xs k) wr hpl hres (by rw [List.length_drop, hlen.out]; omega) (c2 := n + m - k) (c3 := d) (B := B) (hb.below hbel hS') (fun b hb' => by have := hS' b hb'; omega) hx1 (by omega) (by omega)
      have HW := Lib.hid hw
      clear hw hsplit hrep
      have HP := Lib.hid hpl
      clear hpl
      go_wp2_with fail
      refine HW.out.mono ?_
      rintro e w1 ⟨new, carry, rfl, hnl, hn32, hcar, hv, hres1, hg1⟩
      have HN := Lib.hid hnl
      have HV := Lib.hid hv
      clear hnl hv
      have hfr : w1.frozen? ⟨w.heap.size, k + m, none⟩ = false := hres1.frozen _
      have hce : w1.cell? ⟨w.heap.size, k + m, none⟩ = some (.int .u32 (0 : Nat)) := by
        rw [hres1.cell (by omega), nth_append_right (by rw [← HP.out]; omega), nth_append_right (by rw [← HP.out, HN.out]; omega), ← HP.out, HN.out]
        rw [show k + m - k - m = 0 by omega, nth_cons_zero]
      go_wp2
      refine ⟨⟨k + 1, low.take k ++ (new ++ [carry]), by omega, by go_num, ?_, ?_, ?_, (hbel.trans (below_of_only hg1 (Nat.le_refl _) hbel.size)).setCell (Nat.le_refl _) _⟩, by simp [intOf]; omega⟩
      · show _ = _
        rw [List.length_append, List.length_append, ← HP.out, HN.out]; simp; omega
      · exact prod_step hlen.out rfl rfl HN.out HV.out hval.out rfl
      · have h2 := hres1.set (j := k + m) (x := carry) hcar
        have h3 := set_mid (low.take k) new (List.replicate (n - (k + 1)) 0) [] (k := k + m) carry 0 (by rw [← HP.out, HN.out])
        rw [List.append_nil, List.append_nil] at h3
        rw [h3] at h2
        simpa only [List.append_assoc] using h2
end Go.Proofs.Ytecpapkffinlbaa
