/-
  Contracts of nat.From, slices.Clone of limbs, bolterplain.CopyLimbs, nat.smallPower, nat.scale: what they make, in memory of the call's own or in place.
-/
import Derived.Test.YtecpapkffinlbaaAddm
import Derived.Maps.AppendAt
import Derived.RangeFuncBox
set_option linter.unusedVariables false
set_option linter.unusedSimpArgs false
namespace Go.Proofs.Ytecpapkffinlbaa
open Go.RowKit

/-- A row of limbs just laid. -/
theorem Res.lit (w : World) (zs : List Nat) (n : Nat) (hn : zs.length = n) (hl : L32 zs) (hm : n ≤ 1099511627776) : Res (w.alloc (.cells (u32s zs).toArray 40)) w.heap.size (some ⟨w.heap.size, 0, none⟩) n n zs := by
  refine ⟨hn, hl, ?_⟩
  have h := World.ownsRow_lit (base := w.heap.size) (e := 40) (size := 1) w (u32s zs).toArray n (Nat.le_refl _) (by unfold maxLen; omega) (by simp [u32s_length, hn])
  simpa using h

theorem From_c (x : Nat) (w : World) (hx : x < 18446744073709551616) :
    Calls Try.prog 13 #[.int .u64 x] w fun e w' => ∃ A n c zs, e = .returned (.slice A n c) ∧ Res w' w.heap.size A n c zs ∧ Can zs ∧ val zs = x ∧ Below w.heap.size w w' := by
  have hr := Res.lit w [x % 4294967296, x / 4294967296] 2 rfl (L32.cons.2 ⟨by omega, L32.cons.2 ⟨by omega, L32.nil⟩⟩) (by omega)
  have ht := trim_c _ hr.rd (by omega) (Nat.le_refl _)
  have hq : (u32s [x % 4294967296, x / 4294967296]).toArray = #[Value.int .u32 ((x : Int) % 4294967296), Value.int .u32 ((x : Int) / 4294967296)] := by
    simp [u32s]
  rw [hq] at ht hr
  have HT := Lib.hid ht
  clear ht hq
  go_enter Try.func13, Try.ntmps13
  go_wp2_with fail
  refine HT.out.mono ?_
  rintro e w' ⟨rfl, rfl⟩
  go_wp2
  go_ret
  refine ⟨_, _, _, trimmed [x % 4294967296, x / 4294967296], rfl, hr.take (tl_le _ _), trimmed_can hr.l32, ?_, (Below.refl _ _).alloc (Nat.le_refl _) _⟩
  rw [trimmed_val]
  simp [val]
  omega

theorem smallPower_c (n : Nat) (w : World) (hn : n ≤ 9) :
    Calls Try.prog 27 #[.int .i64 n] w fun e w' => e = .returned (.int .u32 ((10 ^ n : Nat) : Int)) ∧ w = w' := by
  go_enter Try.func27, Try.ntmps27
  go_wp2
  go_loop [3, 5] (fun p i => ∃ k q : Nat, k ≤ n ∧ i = .int .i64 (k : Int) ∧ p = .int .u32 (q : Int) ∧ Hid (q = 10 ^ k) ∧ (k < 9 → q ≤ 100000000)) (fun _ i => n - (intOf i).toNat)
  case atStart => exact ⟨0, 1, Nat.zero_le _, rfl, rfl, rfl, by omega⟩
  case round =>
    obtain ⟨k, q, hk, rfl, rfl, hq, hb⟩ := hrel
    by_cases h0 : k = n
    · subst h0
      clear hb
      go_wp2
      go_ret
      rw [hq.out]
      exact ⟨rfl, rfl⟩
    · have hb' := hb (by omega)
      clear hb
      go_wp2
      go_round
      case rel =>
        refine ⟨k + 1, q * 10, by omega, by go_num, by go_num, ?_, fun h9 => ?_⟩
        · show _ = _
          rw [hq.out, Nat.pow_succ]
        · have h1 : 10 ^ (k + 1) ≤ 10 ^ 8 := Nat.pow_le_pow_right (by omega) (by omega)
          rw [hq.out, ← Nat.pow_succ]
          omega
      case measure => simp [intOf]; omega

/-- One step of the multiple, in numbers. -/
theorem scale_step {new zs : List Nat} {k carry f t more : Nat} (hl : new.length = k) (hv : val new + bp k * carry = val (zs.take k) * f + more) (ht : t = carry + nth zs k * f) :
    val (new ++ [t % 4294967296]) + bp (k + 1) * (t / 4294967296) = val (zs.take (k + 1)) * f + more := by
  have e := cut_place k t
  rw [val_snoc, hl, val_take_succ, Nat.add_mul]
  have e2 : bp k * t = bp k * carry + bp k * nth zs k * f := by rw [ht, Nat.mul_add, Nat.mul_assoc]
  omega

set_option maxRecDepth 100000 in
theorem scale_c {base n c : Nat} {A : Option Addr} {zs : List Nat} (f more : Nat) (w : World) (hown : Res w base A n c zs) (hcan : Can zs) (hf : f < 4294967296) (hf1 : 1 ≤ f) (hmore : more < 4294967296) (hn : n ≤ 1048576) (hbase : base ≤ w.heap.size) :
    Calls Try.prog 26 #[.slice A n c, .int .u32 f, .int .u32 more] w fun e w' =>
      ∃ A' n' c' zs', e = .returned (.slice A' n' c') ∧ Res w' base A' n' c' zs' ∧ Can zs' ∧ val zs' = val zs * f + more ∧ n' ≤ n + 1 ∧ w.grownBy w' (Value.slice A n c).ownBlock ∧ (A' = A ∨ ∃ g, A' = some ⟨g, 0, none⟩ ∧ w.heap.size ≤ g) := by
  have HZ := Lib.hid hown.len
  go_enter Try.func26, Try.ntmps26
  go_wp2
  go_loopw [7, 14] (fun cr i wr => ∃ (k carry : Nat) (new : List Nat), k ≤ n ∧ i = .int .i64 (k : Int) ∧ cr = .int .u64 (carry : Int) ∧ carry < 4294967296 ∧ L32 new ∧ Hid (new.length = k) ∧
      Hid (val new + bp k * carry = val (zs.take k) * f + more) ∧ Res wr base A n c (new ++ zs.drop k) ∧ w.grownBy wr (Value.slice A n c).ownBlock) (fun _ i _ => n - (intOf i).toNat)
  case atStart => exact ⟨0, more, [], Nat.zero_le _, rfl, by go_num, hmore, L32.nil, rfl, by show _ = _; simp [val, bp], hown, World.grownBy.refl w _⟩
  case round =>
    obtain ⟨k, carry, new, hk, rfl, rfl, hcar, hnew, hlen, hval, hres, hg⟩ := hrel
    by_cases h0 : k = n
    · subst h0
      have e1 : zs.take k = zs := List.take_of_length_le (by rw [HZ.out]; omega)
      have e2 : zs.drop k = [] := List.drop_of_length_le (by rw [HZ.out]; omega)
      have HV := Lib.hid hval.out
      rw [e1] at HV
      rw [e2, List.append_nil] at hres
      clear hval e1 e2
      have hge : zs = [] ∨ bp (k - 1) ≤ val zs := by
        by_cases hne : zs = []
        · exact .inl hne
        · right; rw [← HZ.out]; exact hcan.ge hne
      by_cases hc0 : carry = 0
      · subst hc0
        go_wp2
        go_ret
        have hv := HV.out
        rw [Nat.mul_zero, Nat.add_zero] at hv
        refine ⟨_, _, _, new, rfl, hres, can_of_ge hnew ?_, hv, by omega, hg, .inl rfl⟩
        rcases hge with h | h
        · left
          apply List.eq_nil_of_length_eq_zero
          rw [hlen.out, ← HZ.out, h]; rfl
        · right
          rw [hlen.out, hv]
          have : val zs * 1 ≤ val zs * f := Nat.mul_le_mul_left _ hf1
          omega
      · have hpos : (0 : Int) < (carry : Int) := by omega
        clear hc0
        obtain ⟨i0, hi, hz0, hz1, hz2⟩ := info_parts info32
        have hlr := Lib.hid hlen.out
        have hro : ∀ o, (wr.alloc o).ownsRow base 40 1 (.slice A k c) k (u32s new) := fun o => hres.own.alloc o
        go_wp2_with (at_builtin; refine wpList_append_own_at _ rfl (.tmp 36) (.tmp 39) _ rfl base 40 i0 (.int .u32 0) 1 4 Try.underlying22 hi hz0 hz1 hz2 rfl (by decide) (.slice A k c) k (u32s new) rfl (hro _) ⟨wr.heap.size, 0, none⟩ 1 1 [.int .u32 (carry : Int)] rfl rfl (cell_new1 _ _ _ _ rfl) (by simp [Value.oneCell']) (by unfold maxLen; omega) (by omega) (by simp; have := hg.size; omega) ?_; intro v' w1 hown1 hg1 _ hat1)
        go_ret
        have hv := HV.out
        obtain ⟨g', cap', hv'⟩ := ownsRow_succ hown1
        subst hv'
        refine ⟨_, _, _, new ++ [carry], rfl, ⟨by rw [List.length_append, hlr.out]; rfl, hnew.snoc hcar, by rw [u32s_append]; exact hown1⟩, ⟨hnew.snoc hcar, .inr ?_⟩, ?_, by omega, only_trans hg (only_trans (World.grownBy_alloc _ _ _) hg1), ?_⟩
        · rw [List.length_append, hlr.out, nth_snoc new [] carry (by rw [hlr.out]; rfl)]
          omega
        · rw [val_snoc, hlr.out]
          exact hv
        · rcases hat1 with h | h
          · left
            rcases hres.form with ⟨h1, _⟩ | ⟨g1, h1, _⟩
            · subst h1; simp [Value.ownBlock] at h
            · subst h1; simp [Value.ownBlock] at h; rw [h]
          · right
            refine ⟨g', rfl, ?_⟩
            simp [Value.ownBlock] at h
            have := hg.size
            omega
    · have hlt : k < n := by omega
      obtain ⟨g, hA⟩ : ∃ g, A = some ⟨g, 0, none⟩ := by
        rcases hown.form with ⟨_, h, _⟩ | ⟨g, h, _⟩
        · omega
        · exact ⟨g, h⟩
      subst hA
      have hod : zs.drop k = nth zs k :: zs.drop (k + 1) := drop_eq_nth (by rw [HZ.out]; exact hlt)
      have hcell : wr.cell? ⟨g, k, none⟩ = some (.int .u32 (nth zs k : Int)) := by
        rw [hres.cell hlt, hod, nth_snoc _ _ _ hlen.out.symm]
      have hfr : wr.frozen? ⟨g, k, none⟩ = false := hres.frozen _
      have hx1 : nth zs k < 4294967296 := nth_lt hcan.l32 k
      have HD := Lib.hid hod
      obtain ⟨hm0, hm1⟩ := mul_int hx1 hf
      clear hod
      go_wp2
      obtain ⟨t, ht⟩ : ∃ t, t = carry + nth zs k * f := ⟨_, rfl⟩
      have htb : t < 18446744073709551616 := by have := mul_le_u32 hx1 hf; omega
      have hw : (carry : Int) + ((nth zs k : Int) * (f : Int)) = ((t : Nat) : Int) := by rw [ht]; simp
      rw [hw, div_cast, rem_cast]
      refine ⟨⟨k + 1, t / 4294967296, new ++ [t % 4294967296], by omega, by go_num, rfl, by omega, hnew.snoc (by omega), ?_, scale_step hlen.out hval.out ht, ?_, only_set hg _ _⟩, by simp [intOf]; omega⟩
      · show _ = _
        rw [List.length_append, hlen.out]; rfl
      · have := hres.set (j := k) (x := t % 4294967296) (by omega)
        rwa [HD.out, set_snoc _ _ _ _ hlen.out.symm] at this
end Go.Proofs.Ytecpapkffinlbaa
