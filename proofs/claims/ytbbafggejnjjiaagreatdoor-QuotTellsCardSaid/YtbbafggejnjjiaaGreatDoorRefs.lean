/-
  Contract of the reference's SquareRoot: digit by digit.
-/
import Derived.Test.YtbbafggejnjjiaaGreatDoorNrefe
import Derived.Test.YtbbafggejnjjiaaGreatDoorRefg
set_option linter.unusedVariables false
set_option linter.unusedSimpArgs false
namespace Go.Proofs.YtbbafggejnjjiaaGreatDoor
open Go.RowKit

theorem sq_mono {a b : Nat} (h : a ≤ b) : a * a ≤ b * b := Nat.mul_le_mul h h
set_option maxRecDepth 100000 in
set_option maxHeartbeats 2000000 in
theorem SquareRoot_c {S : Nat → Prop} {n c : Nat} {A : Option Addr} {xs : List Nat} (w : World) (ha : RdI w S A n xs) (hS : ∀ b, S b → b < w.heap.size) (hx : DCan xs) (hn : n ≤ 10000) :
    Calls Tryz.prog 81 #[.slice A n c] w fun e w' => ∃ A1 n1 c1 rs, e = .returned (.slice A1 n1 c1) ∧ ResI w' w.heap.size A1 n1 c1 rs ∧ DCan rs ∧ dval rs * dval rs ≤ dval xs ∧ dval xs < (dval rs + 1) * (dval rs + 1) ∧ n1 ≤ 10000 ∧ Below w.heap.size w w' := by
  obtain ⟨m, hm⟩ : ∃ m : Nat, m = (n + 1) / 2 := ⟨_, rfl⟩
  have hmi : ((n : Int) + 1).tdiv 2 = (m : Int) := by rw [hm, Int.tdiv_eq_ediv_of_nonneg (by omega)]; omega
  have hmb : m ≤ 5001 := by omega
  have HX := Lib.hid hx
  have hlt : dval xs < dp m * dp m := by
    have h1 := dval_lt hx.1
    rw [ha.len] at h1
    unfold dp at *
    rw [← Nat.pow_add]
    exact Nat.lt_of_lt_of_le h1 (Nat.pow_le_pow_right (by omega) (by omega))
  have HLT := Lib.hid hlt
  have HM := Lib.hid hm
  have hmk := fun W => makeI_at (z := (m : Int)) m rfl (by omega) W
  clear hlt hm hx
  go_enter Tryz.func81, Tryz.ntmps81
  go_wp2
  clear hmk
  go_loopw [5] (fun iv wr => ∃ (k : Nat) (rs : List Nat), k ≤ m ∧ iv = .int .i64 ((k : Int) - 1) ∧ D10 rs ∧ Hid (rs.length = m - k) ∧ Hid ((dp k * dval rs) * (dp k * dval rs) ≤ dval xs) ∧ Hid (dval xs < (dp k * dval rs + dp k) * (dp k * dval rs + dp k)) ∧
      ResI wr w.heap.size (some ⟨w.heap.size, 0, none⟩) m m (List.replicate k 0 ++ rs) ∧ w.heap.size < wr.heap.size ∧ Below w.heap.size w wr) (fun iv _ => (intOf iv + 1).toNat)
  case atStart =>
    refine ⟨m, [], Nat.le_refl _, rfl, D10.nil, ?_, ?_, ?_, ?_, ?_, (Below.refl _ _).alloc (Nat.le_refl _) _⟩
    · show _ = _
      rw [Nat.sub_self]; rfl
    · show _ ≤ _
      simp [dval]
    · show _ < _
      simp only [dval, Nat.mul_zero, Nat.zero_add]; exact HLT.out
    · rw [List.append_nil]; exact ResI.made w m (by omega)
    · simp
  case round =>
    obtain ⟨k, rs, hk, rfl, hds, hl, hle, hgt, hr, hsz, hbel⟩ := hrel
    by_cases h0 : k = 0
    · subst h0
      rw [List.replicate_zero, List.nil_append] at hr
      have h1 := hle.out
      have h2 := hgt.out
      rw [dp_zero, Nat.one_mul] at h1 h2
      have H1 := Lib.hid h1
      have H2 := Lib.hid h2
      clear h1 h2 hle hgt
      go_wp2_with fail
      refine (rTrim_own wr hr).mono ?_
      rintro e w1 ⟨rfl, hres, rfl⟩
      go_wp2
      go_ret
      refine ⟨_, _, _, trimmed rs, rfl, hres, trimmed_dcan hds, ?_, ?_, Nat.le_trans (tl_le _ _) (by omega), hbel⟩
      · rw [trimmed_dval]; exact H1.out
      · rw [trimmed_dval]; exact H2.out
    · obtain ⟨j, rfl⟩ : ∃ j, k = j + 1 := ⟨k - 1, by omega⟩
      clear h0
      rw [show (((j + 1 : Nat) : Int) - 1) = (j : Int) by omega]
      rw [List.replicate_succ', List.append_assoc, List.singleton_append] at hr
      have HJ : Hid ((List.replicate j 0).length = j) := List.length_replicate ..
      have hjm : j < m := by omega
      have hle0 : Hid ((dp j * (10 * dval rs)) * (dp j * (10 * dval rs)) ≤ dval xs) := by
        have := hle.out
        rw [dp_succ] at this
        show _ ≤ _
        rwa [show dp j * (10 * dval rs) = 10 * dp j * dval rs by rw [Nat.mul_left_comm, Nat.mul_assoc]]
      have hgt0 : Hid (dval xs < (dp j * (10 * dval rs) + 10 * dp j) * (dp j * (10 * dval rs) + 10 * dp j)) := by
        have := hgt.out
        rw [dp_succ] at this
        show _ < _
        rwa [show dp j * (10 * dval rs) = 10 * dp j * dval rs by rw [Nat.mul_left_comm, Nat.mul_assoc]]
      clear hle hgt
      go_wp2
      go_loopw [6] (fun ov wr => ∃ (t : Nat) (vo : Value), ov = vo ∧ t ≤ 9 ∧ Hid ((dp j * (t + 10 * dval rs)) * (dp j * (t + 10 * dval rs)) ≤ dval xs) ∧ ResI wr w.heap.size (some ⟨w.heap.size, 0, none⟩) m m (List.replicate j 0 ++ (t :: rs)) ∧ w.heap.size < wr.heap.size ∧ Below w.heap.size w wr) (fun _ wr => 10 - readI wr ⟨w.heap.size, j, none⟩)
      case atStart => exact ⟨0, _, rfl, by omega, by show _ ≤ _; rw [Nat.zero_add]; exact hle0.out, hr, hsz, hbel⟩
      case round =>
        clear hr hsz hbel
        obtain ⟨t, vo, rfl, ht9, hV, hr, hsz, hbel⟩ := hrel
        have hcq : wr.cell? ⟨w.heap.size, j, none⟩ = some (.int .i64 (t : Int)) := by
          rw [hr.cell (by omega), nth_snoc _ _ _ HJ.out.symm]
        have hfr : wr.frozen? ⟨w.heap.size, j, none⟩ = false := hr.frozen _
        by_cases h9 : t = 9
        · subst h9
          have hfin : Hid (dval xs < (dp j * dval (9 :: rs) + dp j) * (dp j * dval (9 :: rs) + dp j)) := by
            show _ < _
            rw [dval_cons, show dp j * (9 + 10 * dval rs) + dp j = dp j * (10 * dval rs) + 10 * dp j by rw [Nat.mul_add]; omega]
            exact hgt0.out
          go_wp2
          refine ⟨⟨j, 9 :: rs, by omega, by go_num, D10.cons.2 ⟨by omega, hds⟩, ?_, ?_, hfin, hr, hsz, hbel⟩, by simp [intOf]⟩
          · show _ = _
            rw [List.length_cons, hl.out]; omega
          · show _ ≤ _
            rw [dval_cons]; exact hV.out
        · have ht8 : t < 9 := by omega
          have hti : ((t : Int) < 9) := by omega
          have hset := hr.set (j := j) (x := t + 1) (by omega)
          rw [set_snoc _ _ _ _ HJ.out.symm, List.append_assoc, List.singleton_append] at hset
          have e : ((t + 1 : Nat) : Int) = (t : Int) + 1 := by omega
          rw [e] at hset
          have hsz1 : w.heap.size < (wr.setCell ⟨w.heap.size, j, none⟩ (.int .i64 ((t : Int) + 1))).heap.size := by simp [World.setCell]; omega
          have hbel1 := hbel.setCell (p := ⟨w.heap.size, j, none⟩) (Nat.le_refl _) (.int .i64 ((t : Int) + 1))
          clear h9
          have hvv : dval (List.replicate j 0 ++ (t + 1) :: rs) = dp j * (t + 10 * dval rs) + dp j := by
            rw [shift_dval, dval_cons, show t + 1 + 10 * dval rs = (t + 10 * dval rs) + 1 by omega, Nat.mul_add, Nat.mul_one]
          have hd10 : D10 (List.replicate j 0 ++ (t + 1) :: rs) := D10.append.2 ⟨fun x hx => by rw [(List.mem_replicate.1 hx).2]; omega, D10.cons.2 ⟨by omega, hds⟩⟩
          have hvm : dp j * (t + 10 * dval rs) + dp j < dp m := by
            rw [← hvv]
            have h1 := dval_lt hd10
            rwa [hset.len] at h1
          have HVV := Lib.hid hvv
          have HVM := Lib.hid hvm
          have HD := Lib.hid hd10
          clear hvv hvm hd10
          go_wp2_with fail
          generalize wr.setCell ⟨w.heap.size, j, none⟩ (.int .i64 ((t : Int) + 1)) = W1 at hset hsz1 hbel1 ⊢
          refine (rTrim_own W1 hset).mono ?_
          rintro e w1 ⟨rfl, hown, rfl⟩
          have hto : D10 (trimmed (List.replicate j 0 ++ (t + 1) :: rs)) := (trimmed_dcan HD.out).1
          have htl : tl (List.replicate j 0 ++ (t + 1) :: rs) m ≤ m := tl_le _ _
          have htv := Lib.hid ((trimmed_dval (List.replicate j 0 ++ (t + 1) :: rs)).trans HVV.out)
          generalize trimmed (List.replicate j 0 ++ (t + 1) :: rs) = os at *
          generalize tl (List.replicate j 0 ++ (t + 1) :: rs) m = no at *
          go_wp2_with fail
          refine (Product_c W1 hown.rd hown.rd (fun b h => h.2) (fun b h => h.2) hto hto (by omega) (by omega)).mono ?_
          rintro e w2 ⟨A2, n2, c2, ps, rfl, hr2, hd2, hv2, hb2⟩
          have hpl : n2 ≤ m + m := by
            rw [← hr2.len]
            refine hd2.len_le ?_
            rw [hv2, htv.out]
            unfold dp
            rw [Nat.pow_add]
            exact Nat.mul_lt_mul'' HVM.out HVM.out
          have hset2 := hset.below hb2 (Nat.le_refl _)
          have hbel2 := hbel1.trans (hb2.mono hbel1.size)
          have hsz2 : w.heap.size < w2.heap.size := Nat.lt_of_lt_of_le hsz1 hb2.size
          have hO := Order_c (c := c2) (d := c) w2 hr2.rd (ha.below hbel2 hS) hd2 HX.out (by omega) (by omega)
          have HO := Lib.hid hO
          have HV2 := Lib.hid (hv2.trans (by rw [htv.out]))
          clear hO hv2 htv hr2 hb2 hown hset
          go_wp2_with fail
          refine HO.out.mono ?_
          rintro e w3 ⟨rfl, q, rfl⟩
          have hset3 := hset2.drewN q
          have hbel3 := below_drewN hbel2 q
          have hsz3 : w.heap.size < (w2.drewN q).heap.size := hsz2
          have e : ((t + 1 : Nat) : Int) = (t : Int) + 1 := by omega
          have hcq3 : (w2.drewN q).cell? ⟨w.heap.size, j, none⟩ = some (.int .i64 ((t : Int) + 1)) := by
            rw [hset3.cell (by omega), nth_snoc _ _ _ HJ.out.symm, e]
          have hfr3 : (w2.drewN q).frozen? ⟨w.heap.size, j, none⟩ = false := hset3.frozen _
          clear hset2 hbel2 hsz2
          by_cases hgt : dval xs < dval ps
          · rw [dcmp_gt hgt]
            have hback := hset3.set (j := j) (x := t) (by omega)
            rw [set_snoc _ _ _ _ HJ.out.symm, List.append_assoc, List.singleton_append] at hback
            have hfin : Hid (dval xs < (dp j * dval (t :: rs) + dp j) * (dp j * dval (t :: rs) + dp j)) := by
              show _ < _
              rw [dval_cons]
              rw [HV2.out] at hgt
              exact hgt
            clear hgt
            go_wp2
            refine ⟨⟨j, t :: rs, by omega, by go_num, D10.cons.2 ⟨by omega, hds⟩, ?_, ?_, hfin, ?_, ?_, ?_⟩, by simp [intOf]⟩
            · show _ = _
              rw [List.length_cons, hl.out]; omega
            · show _ ≤ _
              rw [dval_cons]; exact hV.out
            · first | exact hback | (simpa using hback)
            · simp [World.setCell] at hsz3 ⊢; omega
            · exact hbel3.setCell (Nat.le_refl _) _
          · have hz : dcmp ps xs ≤ 0 := by
              unfold dcmp
              split
              · omega
              · first | omega | (rw [if_neg (by omega)]; omega)
            have hV1 : Hid ((dp j * (t + 1 + 10 * dval rs)) * (dp j * (t + 1 + 10 * dval rs)) ≤ dval xs) := by
              show _ ≤ _
              rw [HV2.out] at hgt
              rw [show dp j * (t + 1 + 10 * dval rs) = dp j * (t + 10 * dval rs) + dp j by rw [show t + 1 + 10 * dval rs = (t + 10 * dval rs) + 1 by omega, Nat.mul_add, Nat.mul_one]]
              omega
            clear hgt
            generalize dcmp ps xs = z at *
            go_wp2
            refine ⟨⟨t + 1, _, rfl, by omega, hV1, hset3, hsz3, hbel3⟩, ?_⟩
            have h1 := readI_at hcq
            have h3 : ((t : Int) + 1) = ((t + 1 : Nat) : Int) := by omega
            rw [h3] at hcq3
            have h4 := readI_at hcq3
            omega
end Go.Proofs.YtbbafggejnjjiaaGreatDoor
