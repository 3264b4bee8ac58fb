/-
  Contract of nat.divideLong: quotient and rest by a divisor of two limbs or more.
-/
import Derived.Test.YtecpapkffinlbaaTake
import Derived.Test.YtecpapkffinlbaaShr
import Derived.Test.YtecpapkffinlbaaBits
import Derived.Test.YtecpapkffinlbaaPow
import Derived.Lib.ItoaNum
import Derived.BigRegion
import Derived.Deep.RegionWith
set_option linter.unusedVariables false
set_option linter.unusedSimpArgs false
namespace Go.Proofs.Ytecpapkffinlbaa
open Go.RowKit

/-- How far the highest limb is moved up. -/
theorem lead_ok {t : Nat} (h0 : t ≠ 0) (h1 : t < 4294967296) : ∃ s : Nat, s < 32 ∧ (32 - (Lib.bitLen t : Int)) = (s : Int) ∧ 2147483648 ≤ t * 2 ^ s ∧ t * 2 ^ s < 4294967296 := by
  obtain ⟨a, b, c⟩ := Lib.bitLenAux_bounds 64 t (by omega) h0
  have h32 : Lib.bitLen t ≤ 32 := Lib.bitLen_le t 32 (by omega) (by omega)
  obtain ⟨L, hL⟩ : ∃ L, L = Lib.bitLen t := ⟨_, rfl⟩
  change 1 ≤ Lib.bitLen t at a
  change 2 ^ (Lib.bitLen t - 1) ≤ t at b
  change t < 2 ^ Lib.bitLen t at c
  rw [← hL] at a b c h32 ⊢
  refine ⟨32 - L, by omega, by omega, ?_, ?_⟩
  · have h2 : 2 ^ (L - 1) * 2 ^ (32 - L) ≤ t * 2 ^ (32 - L) := Nat.mul_le_mul_right _ b
    rw [← Nat.pow_add, show L - 1 + (32 - L) = 31 by omega] at h2
    exact h2
  · have h2 : t * 2 ^ (32 - L) < 2 ^ L * 2 ^ (32 - L) := Nat.mul_lt_mul_of_pos_right c (Nat.two_pow_pos _)
    rw [← Nat.pow_add, show L + (32 - L) = 32 by omega] at h2
    exact h2
/-- The divisor, moved up. -/
theorem moved_up {ys ds : List Nat} {m s : Nat} (hy : L32 ys) (hl : ys.length = m + 2) (hd : Can ds) (hv : val ds = val ys * 2 ^ s) (h1 : 2147483648 ≤ nth ys (m + 1) * 2 ^ s) (h2 : nth ys (m + 1) * 2 ^ s < 4294967296) (hs : s < 32) :
    ds.length = m + 2 ∧ 2147483648 ≤ nth ds (m + 1) := by
  have ht := val_take_succ (xs := ys) (m + 1)
  rw [List.take_of_length_le (by omega)] at ht
  have hlo := val_take_lt hy (n := m + 1) (by omega)
  have hval : val ds = val (ys.take (m + 1)) * 2 ^ s + bp (m + 1) * (nth ys (m + 1) * 2 ^ s) := by rw [hv, ht, Nat.add_mul, Nat.mul_assoc]
  have hup : val ds < bp (m + 2) := by
    rw [hv]
    have e1 := shl_high (s := s) (x := nth ys (m + 1)) hs (nth_lt hy _)
    have hlow : 2 ^ s * (nth ys (m + 1) + 1) ≤ 4294967296 := by
      have hp := pow_split hs
      have : nth ys (m + 1) < 2 ^ (32 - s) := by
        rcases Nat.lt_or_ge (nth ys (m + 1)) (2 ^ (32 - s)) with h | h
        · exact h
        · have := Nat.mul_le_mul_left (2 ^ s) h
          rw [hp, Nat.mul_comm] at this; omega
      have := Nat.mul_le_mul_left (2 ^ s) this
      rw [hp] at this; exact this
    have h3 : val ys < bp (m + 1) * (nth ys (m + 1) + 1) := by rw [ht, Nat.mul_add]; omega
    have h4 : val ys * 2 ^ s < bp (m + 1) * (nth ys (m + 1) + 1) * 2 ^ s := Nat.mul_lt_mul_of_pos_right h3 (Nat.two_pow_pos _)
    have h5 : bp (m + 1) * (nth ys (m + 1) + 1) * 2 ^ s ≤ bp (m + 1) * 4294967296 := by
      rw [Nat.mul_assoc, Nat.mul_comm (nth ys (m + 1) + 1)]; exact Nat.mul_le_mul_left _ hlow
    have h6 : bp (m + 2) = bp (m + 1) * 4294967296 := by rw [show m + 2 = m + 1 + 1 from rfl, bp_succ, Nat.mul_comm]
    rw [h6]
    exact Nat.lt_of_lt_of_le h4 h5
  have hge : bp (m + 1) * 2147483648 ≤ val ds := by
    rw [hval]
    have := Nat.mul_le_mul_left (bp (m + 1)) h1
    omega
  have hlen : ds.length = m + 2 := by
    have h3 := hd.len_le hup
    rcases Nat.lt_or_ge ds.length (m + 2) with h4 | h4
    · have h5 := val_lt hd.l32
      have h6 := bp_mono (show ds.length ≤ m + 1 by omega)
      have h7 := bp_pos (m + 1)
      omega
    · omega
  refine ⟨hlen, ?_⟩
  have h3 := val_take_succ (xs := ds) (m + 1)
  rw [List.take_of_length_le (by omega)] at h3
  have h4 := val_take_lt hd.l32 (n := m + 1) (by omega)
  rcases Nat.lt_or_ge (nth ds (m + 1)) 2147483648 with h5 | h5
  · have h6 := Nat.mul_le_mul_left (bp (m + 1)) (show nth ds (m + 1) + 1 ≤ 2147483648 by omega)
    rw [Nat.mul_add] at h6
    omega
  · exact h5
/-- One round of the long division, in numbers. -/
theorem divl_step {X pv old new q D qs j T T' : Nat} (h : X = qs * bp (j + 1) * D + T) (hT : T = pv + bp j * old) (ho : new + q * D = old) (hT' : T' = pv + bp j * new) :
    X = (q + 4294967296 * qs) * bp j * D + T' := by
  rw [h, hT, hT', ← ho, bp_succ, Nat.mul_add, Nat.add_mul, Nat.add_mul]
  have e1 : qs * (4294967296 * bp j) * D = 4294967296 * qs * bp j * D := by rw [← Nat.mul_assoc qs, Nat.mul_comm qs]
  have e2 : bp j * (q * D) = q * bp j * D := by rw [← Nat.mul_assoc, Nat.mul_comm (bp j)]
  rw [e1, e2]; omega
theorem divl_low {D T j o0 d pv old : Nat} (h : T < D * bp (j + 1)) (hT : T = pv + bp j * old) (ho : old = o0 + 4294967296 * d) : d < D := by
  rcases Nat.lt_or_ge d D with h1 | h1
  · exact h1
  · have h2 : D * bp (j + 1) ≤ d * bp (j + 1) := Nat.mul_le_mul_right _ h1
    have h3 : d * bp (j + 1) = bp j * (4294967296 * d) := by rw [bp_succ]; simp only [Nat.mul_assoc, Nat.mul_comm, Nat.mul_left_comm]
    have h4 : bp j * (4294967296 * d) ≤ bp j * old := Nat.mul_le_mul_left _ (by omega)
    omega
theorem divl_bound {D j pv new : Nat} (hp : pv < bp j) (hn : new < D) : pv + bp j * new < D * bp j := by
  have h1 : bp j * (new + 1) ≤ bp j * D := Nat.mul_le_mul_left _ hn
  rw [Nat.mul_add] at h1
  rw [Nat.mul_comm D]
  omega
/-- The end: what is moved down again is the rest. -/
theorem divl_end {X Y Q r s : Nat} (h : X * 2 ^ s = Q * (Y * 2 ^ s) + r) (hr : r < Y * 2 ^ s) : X = Q * Y + r / 2 ^ s ∧ r / 2 ^ s < Y := by
  have hp := Nat.two_pow_pos s
  refine ⟨?_, by rw [Nat.div_lt_iff_lt_mul hp]; exact hr⟩
  have h1 : (r + 2 ^ s * (Q * Y)) / 2 ^ s = X := by
    rw [show r + 2 ^ s * (Q * Y) = 2 ^ s * X by rw [Nat.mul_comm (2 ^ s) X, h, ← Nat.mul_assoc Q, Nat.mul_comm (2 ^ s)]; omega]
    exact Nat.mul_div_cancel_left _ hp
  rw [Nat.add_mul_div_left _ _ hp] at h1
  omega

theorem divl_start {X Z D n cnt m s : Nat} (hn : n = cnt + (m + 1)) (hx : X < bp n) (hz : Z = X * 2 ^ s) (hs : s < 32) (hD : bp (m + 1) * 2147483648 ≤ D) : Z < D * bp cnt := by
  have h1 := pow_le31 hs
  have h2 : X * 2 ^ s < bp n * 2 ^ s := Nat.mul_lt_mul_of_pos_right hx (Nat.two_pow_pos _)
  have h3 : bp n * 2 ^ s ≤ bp n * 2147483648 := Nat.mul_le_mul_left _ h1
  have h4 : bp n * 2147483648 = bp (m + 1) * 2147483648 * bp cnt := by rw [hn, bp_add]; simp only [Nat.mul_assoc, Nat.mul_comm, Nat.mul_left_comm]
  have h5 : bp (m + 1) * 2147483648 * bp cnt ≤ D * bp cnt := Nat.mul_le_mul_right _ hD
  omega
theorem top_ge {ds : List Nat} {m : Nat} (hl : ds.length = m + 2) (h : 2147483648 ≤ nth ds (m + 1)) : bp (m + 1) * 2147483648 ≤ val ds := by
  have h3 := val_take_succ (xs := ds) (m + 1)
  rw [List.take_of_length_le (by omega)] at h3
  have := Nat.mul_le_mul_left (bp (m + 1)) h
  omega

set_option maxRecDepth 100000 in
set_option maxHeartbeats 2000000 in
theorem divideLong_c {S S' : Nat → Prop} {n m c d : Nat} {A B : Option Addr} {xs ys : List Nat} (w : World) (ha : Rd w S A n xs) (hb : Rd w S' B (m + 2) ys)
    (hS : ∀ b, S b → b < w.heap.size) (hS' : ∀ b, S' b → b < w.heap.size) (hn : n ≤ 1000000) (hm : m + 2 ≤ n) (hc : Can ys) :
    Calls Try.prog 32 #[.slice A n c, .slice B (m + 2) d] w fun e w' => ∃ A1 n1 c1 qs A2 n2 c2 rs, e = .returned (.tuple #[.slice A1 n1 c1, .slice A2 n2 c2]) ∧
      Res w' w.heap.size A1 n1 c1 qs ∧ Res w' w.heap.size A2 n2 c2 rs ∧ Can qs ∧ Can rs ∧ val xs = val qs * val ys + val rs ∧ val rs < val ys ∧ Below w.heap.size w w' := by
  obtain ⟨b2, o2, rfl, hSb2, hct⟩ := hb.at_ (k := m + 1) (by omega)
  have ht0 : nth ys (m + 1) ≠ 0 := by
    rcases hc.2 with h | h
    · have := hb.len; rw [h] at this; simp at this
    · have := hb.len; rw [this] at h; exact h
  have ht1 := hb.lt (m + 1)
  obtain ⟨s, hs, hse, hs1, hs2⟩ := lead_ok ht0 ht1
  have HSE := Lib.hid hse
  have HS1 := Lib.hid hs1
  have HS2 := Lib.hid hs2
  clear hse hs1 hs2 ht0
  have HXL := Lib.hid ha.len
  have HYL := Lib.hid hb.len
  go_enter Try.func32, Try.ntmps32
  go_wp2_with fail
  refine (LeadingZeros32_c _ w ht1).mono ?_
  rintro e w0 ⟨rfl, rfl⟩
  rw [HSE.out]
  go_wp2_with fail
  refine (shiftLeft_c s w0 ha hS (by omega) hs).mono ?_
  rintro e w1 ⟨zs, rfl, hr1, hz1, hb1⟩
  have hg1 : w0.heap.size < w1.heap.size := by
    rcases hr1.form with ⟨_, h, _⟩ | ⟨g, e, _, h⟩
    · omega
    · injection e with e; injection e with e; omega
  go_wp2_with fail
  refine (shiftLeft_c s w1 (hb.below hb1 hS') (fun b h => by have := hS' b h; omega) (by omega) hs).mono ?_
  rintro e w2 ⟨us, rfl, hr2, hz2, hb2⟩
  have hr1' := hr1.below hb2 (Nat.le_refl _)
  go_wp2_with fail
  refine (trim_c w2 hr2.rd (by omega) (Nat.le_refl _)).mono ?_
  rintro e w3 ⟨rfl, rfl⟩
  have hdc := trimmed_can hr2.l32
  have hdv : val (trimmed us) = val ys * 2 ^ s := by rw [trimmed_val]; exact hz2
  obtain ⟨hdl, hdt⟩ := moved_up hb.l32 HYL.out hdc hdv HS1.out HS2.out hs
  have hrd := hr2.take (tl_le us (m + 2 + 1))
  have htl : tl us (m + 2 + 1) = m + 2 := by
    have := trimmed_length us
    rw [hr2.len] at this
    omega
  have htr : us.take (tl us (m + 2 + 1)) = trimmed us := by unfold trimmed; rw [hr2.len]
  rw [htr, htl] at hrd
  rw [htl]
  obtain ⟨ds, hds⟩ : ∃ ds, ds = trimmed us := ⟨_, rfl⟩
  rw [← hds] at hrd hdc hdv hdl hdt
  have HDV := Lib.hid hdv
  have HZ1 := Lib.hid hz1
  clear hdv hz1 hz2 htl htr hr2 hr1 hds hdl
  obtain ⟨cnt, hcnt⟩ : ∃ cnt, n = cnt + (m + 1) := ⟨n - (m + 1), by omega⟩
  have hmk := fun W => make_at (z := (n : Int) - ((m : Int) + 2) + 1) cnt (by omega) (by omega) W
  have hc1 : 1 ≤ cnt := by omega
  have hc2 : cnt ≤ n := by omega
  have hstart := divl_start hcnt (by have := val_lt ha.l32; rwa [HXL.out] at this) HZ1.out hs (top_ge hrd.len hdt)
  have HST := Lib.hid hstart
  have HC := Lib.hid hcnt
  clear hcnt hstart
  have hg2 : w1.heap.size < w2.heap.size := by
    rcases hrd.form with ⟨_, h, _⟩ | ⟨g, e, _, h⟩
    · omega
    · injection e with e; injection e with e; omega
  go_wp2_with fail
  clear hmk
  go_loopw [11] (fun i wr => ∃ (k : Nat) (rs qs : List Nat), k ≤ cnt ∧ i = .int .i64 ((k : Int) - 1) ∧ Hid (qs.length = cnt - k) ∧ Hid (val xs * 2 ^ s = val qs * bp k * val ds + val (rs.take (k + (m + 2)))) ∧
      Hid (val (rs.take (k + (m + 2))) < val ds * bp k) ∧ Res wr w0.heap.size (some ⟨w0.heap.size, 0, none⟩) (n + 1) (n + 1) rs ∧ Res wr w2.heap.size (some ⟨w2.heap.size, 0, none⟩) cnt cnt (List.replicate k 0 ++ qs) ∧
      Res wr w1.heap.size (some ⟨w1.heap.size, 0, none⟩) (m + 2) (m + 2 + 1) ds ∧ Below w0.heap.size w0 wr) (fun i _ => (intOf i + 1).toNat)
  case atStart =>
    have hal : Below w2.heap.size w2 (w2.alloc (zeros32 cnt)) := (Below.refl _ _).alloc (Nat.le_refl _) _
    have ez : zs.take (cnt + (m + 2)) = zs := List.take_of_length_le (by rw [hr1'.len]; have := HC.out; omega)
    refine ⟨cnt, zs, [], Nat.le_refl _, rfl, by show _ = _; simp, ?_, ?_, hr1'.below hal (Nat.le_refl _), ?_, hrd.below hal (Nat.le_refl _), (hb1.trans (hb2.mono hb1.size)).trans (hal.mono (by omega))⟩
    · show _ = _
      rw [ez, HZ1.out, val_nil]; omega
    · show _ < _
      rw [ez]; exact HST.out
    · rw [List.append_nil]; exact Res.made w2 cnt (by omega)
  case round =>
    obtain ⟨k, rs, qs, hk, rfl, hql, hval, hbnd, hrest, hquo, hdiv, hbel⟩ := hrel
    by_cases h0 : k = 0
    · subst h0
      rw [List.replicate_zero, List.nil_append] at hquo
      rw [Nat.zero_add] at hval hbnd
      rw [bp_zero, Nat.mul_one] at hval hbnd
      have hr9 : Rd wr (fun b => w0.heap.size ≤ b ∧ b < wr.heap.size) (some ⟨w0.heap.size, 0, none⟩) (m + 2) (rs.take (m + 2)) := hrest.rd.take (by omega)
      have hq9 := hquo.rd
      obtain ⟨hend1, hend2⟩ := divl_end (X := val xs) (Y := val ys) (Q := val qs) (r := val (rs.take (m + 2))) (s := s) (by rw [hval.out, HDV.out]) (by rw [← HDV.out]; exact hbnd.out)
      have HE1 := Lib.hid hend1
      have HE2 := Lib.hid hend2
      clear hend1 hend2
      go_wp2
      go_region_with (first
        | (go_at_call 24; refine (trim_c wr.drew hq9.drew (by omega) (Nat.le_refl _)).mono ?_; rintro e w' ⟨rfl, rfl⟩)
        | (go_at_call 38; refine (shiftRight_c (S := fun b => w0.heap.size ≤ b ∧ b < wr.heap.size) (xs := rs.take (m + 2)) s wr.drew hr9.drew (fun b h => h.2) (by omega) hs).mono ?_; rintro e w5 ⟨A5, n5, c5, r5, rfl, hr5, hc5, hv5, hb5⟩))
      all_goals
        go_wp2
        go_ret2
        have hq10 := ((hquo.take (tl_le qs cnt)).keep (w' := wr.drew) fun _ _ => rfl).below hb5 (Nat.le_refl _)
        have hql2 := hquo.len
        refine ⟨_, _, _, trimmed qs, _, _, _, r5, rfl, ?_, hr5.more hbel.size, trimmed_can hquo.l32, hc5, ?_, ?_, ?_⟩
        · unfold trimmed; rw [hql2]; exact hq10.more (by omega)
        · rw [trimmed_val, hv5]; exact HE1.out
        · rw [hv5]; exact HE2.out
        · exact (show Below w0.heap.size w0 wr.drew from ⟨hbel.os, hbel.tape, hbel.output, hbel.size, hbel.block⟩).trans (hb5.mono hbel.size)
    · obtain ⟨j, rfl⟩ : ∃ j, k = j + 1 := ⟨k - 1, by omega⟩
      have hrl := Lib.hid hrest.len
      have hjn : j + (m + 3) ≤ n + 1 := by have := HC.out; omega
      have hrest' : Res wr w0.heap.size (some ⟨w0.heap.size, 0, none⟩) (n + 1) (n + 1) (rs.take j ++ ((rs.drop j).take (m + 3) ++ (rs.drop j).drop (m + 3))) := by
        rw [List.take_append_drop, List.take_append_drop]; exact hrest
      have hpl : Hid (j = (rs.take j).length) := by
        show _ = _
        rw [List.length_take, hrl.out]; omega
      have hol : Hid (((rs.drop j).take (m + 3)).length = m + 3) := by
        show _ = _
        rw [List.length_take, List.length_drop, hrl.out]; omega
      have hT : Hid (val (rs.take (j + 1 + (m + 2))) = val (rs.take j) + bp j * val ((rs.drop j).take (m + 3))) := by
        show _ = _
        have h1 := val_split (rs.take (j + 1 + (m + 2))) j (by rw [List.length_take, hrl.out]; omega)
        rw [List.take_take, Nat.min_eq_left (by omega), List.drop_take, show j + 1 + (m + 2) - j = m + 3 by omega] at h1
        exact h1
      have hlow : val (((rs.drop j).take (m + 3)).drop 1) < val ds := by
        refine divl_low hbnd.out hT.out (o0 := nth ((rs.drop j).take (m + 3)) 0) ?_
        have := val_drop (xs := (rs.drop j).take (m + 3)) 0
        rwa [List.drop_zero] at this
      have hw := takeOut_c (c2 := n + 1 - j) (c3 := m + 2 + 1) (rs.take j) ((rs.drop j).drop (m + 3)) j wr hpl.out hrest' hol.out hdiv.rd (fun b h => by omega) (by omega) (by omega) hdt hlow
      have HW := Lib.hid hw
      clear hw hlow hrest'
      go_wp2_with fail
      rw [show j + (m + 2) + 1 - j = m + 3 by omega]
      refine HW.out.mono ?_
      rintro e w4 ⟨q, new, x, rfl, hq, hnl, hsum, hlt, hres1, w4', hg4, rfl⟩
      have HNL := Lib.hid hnl
      have HSUM := Lib.hid hsum
      have HLT := Lib.hid hlt
      clear hnl hsum hlt HW
      have hquo1 := hquo.grown hg4 (fun g e => by injection e with e; injection e with e; intro h; injection h with h; omega)
      have hdiv1 := hdiv.grown hg4 (fun g e => by injection e with e; injection e with e; intro h; injection h with h; omega)
      have hqc : w4.cell? ⟨w2.heap.size, j, none⟩ = some (.int .u32 ((0 : Nat) : Int)) := by
        rw [hquo1.cell (by omega), nth_append_left (by simp), nth_replicate_zero]
      have hqf : w4.frozen? ⟨w2.heap.size, j, none⟩ = false := hquo1.frozen _
      go_wp2
      have hne : ∀ g, (some (⟨w0.heap.size, 0, none⟩ : Addr)) = some ⟨g, 0, none⟩ → some g ≠ some w2.heap.size := fun g e => by injection e with e; injection e with e; intro h; injection h with h; omega
      have hne2 : ∀ g, (some (⟨w1.heap.size, 0, none⟩ : Addr)) = some ⟨g, 0, none⟩ → some g ≠ some w2.heap.size := fun g e => by injection e with e; injection e with e; intro h; injection h with h; omega
      have etk : (rs.take j ++ (new ++ (x :: (rs.drop j).drop (m + 3)))).take (j + (m + 2)) = rs.take j ++ new := by
        rw [← List.append_assoc]
        exact List.take_left' (by rw [List.length_append, ← hpl.out, HNL.out])
      have evt : val (rs.take j ++ new) = val (rs.take j) + bp j * val new := by rw [val_append, ← hpl.out]
      refine ⟨⟨j, _, q :: qs, by omega, congrArg (Value.int .i64) (by omega), ?_, ?_, ?_, hres1.grown (only_set (World.grownBy.refl w4 (some w2.heap.size)) j _) hne, ?_, hdiv1.grown (only_set (World.grownBy.refl w4 (some w2.heap.size)) j _) hne2, (hbel.trans (below_of_only hg4 (Nat.le_refl _) hbel.size)).setCell (by show w0.heap.size ≤ w2.heap.size; omega) _⟩, by simp only [intOf]; omega⟩
      · show _ = _
        rw [List.length_cons, hql.out]; omega
      · show _ = _
        rw [etk, val_cons]
        exact divl_step hval.out hT.out HSUM.out evt
      · show _ < _
        rw [etk, evt]
        exact divl_bound (by have := val_lt ((hrest.l32).take j); rwa [← hpl.out] at this) HLT.out
      · have h1 := hquo1.set (j := j) hq
        rw [List.replicate_succ', List.append_assoc, List.singleton_append, set_snoc _ _ _ _ (by simp), List.append_assoc, List.singleton_append] at h1
        exact h1
end Go.Proofs.Ytecpapkffinlbaa
