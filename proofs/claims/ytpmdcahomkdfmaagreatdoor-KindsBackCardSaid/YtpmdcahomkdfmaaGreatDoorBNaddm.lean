/-
  Contract of nat.addMultiple: over a window of a row of one's own, it adds a multiple in place, and answers the carry.
  Contracts of nat.From, slices.Clone of limbs, bolterplain.CopyLimbs, nat.smallPower, nat.scale: what they make, in memory of the call's own or in place.
  Contracts of slices.Clone of limbs, bolterplain.CopyLimbs, nat.reduce.
-/
import Derived.Test.YtpmdcahomkdfmaaGreatDoorBNlimb
import Derived.Outline
import Derived.Maps.AppendAt
import Derived.RangeFuncBox
set_option linter.unusedVariables false
set_option linter.unusedSimpArgs false
namespace Go.Proofs.YtpmdcahomkdfmaaGreatDoor
open Go.RowKit

theorem mul_le_u32 {f y : Nat} (hf : f < 4294967296) (hy : y < 4294967296) : f * y ≤ 4294967295 * 4294967295 := Nat.mul_le_mul (by omega) (by omega)

theorem mul_int {f y : Nat} (hf : f < 4294967296) (hy : y < 4294967296) : 0 ≤ (f : Int) * (y : Int) ∧ (f : Int) * (y : Int) ≤ 18446744065119617025 := by
  have h := mul_le_u32 hf hy
  have h1 : (f : Int) * (y : Int) = ((f * y : Nat) : Int) := by rw [Int.natCast_mul]
  rw [h1]; omega

end Go.Proofs.YtpmdcahomkdfmaaGreatDoor

namespace Go.Proofs.YtpmdcahomkdfmaaGreatDoor
open Go.RowKit

/-- A row of limbs just laid. -/
theorem Res.lit (w : World) (zs : List Nat) (n : Nat) (hn : zs.length = n) (hl : L32 zs) (hm : n ≤ 1099511627776) : Res (w.alloc (.cells (u32s zs).toArray 72)) w.heap.size (some ⟨w.heap.size, 0, none⟩) n n zs := by
  refine ⟨hn, hl, ?_⟩
  have h := World.ownsRow_lit (base := w.heap.size) (e := 72) (size := 1) w (u32s zs).toArray n (Nat.le_refl _) (by unfold maxLen; omega) (by simp [u32s_length, hn])
  simpa using h

theorem From_c (x : Nat) (w : World) (hx : x < 18446744073709551616) :
    Calls Tryz.prog 74 #[.int .u64 x] w fun e w' => ∃ A n c zs, e = .returned (.slice A n c) ∧ Res w' w.heap.size A n c zs ∧ Can zs ∧ val zs = x ∧ Below w.heap.size w w' := by
  have hr := Res.lit w [x % 4294967296, x / 4294967296] 2 rfl (L32.cons.2 ⟨by omega, L32.cons.2 ⟨by omega, L32.nil⟩⟩) (by omega)
  have ht := trim_c _ hr.rd (by omega) (Nat.le_refl _)
  have hq : (u32s [x % 4294967296, x / 4294967296]).toArray = #[Value.int .u32 ((x : Int) % 4294967296), Value.int .u32 ((x : Int) / 4294967296)] := by
    simp [u32s]
  rw [hq] at ht hr
  have HT := Lib.hid ht
  clear ht hq
  go_enter Tryz.func74, Tryz.ntmps74
  go_wp2_with fail
  refine HT.out.mono ?_
  rintro e w' ⟨rfl, rfl⟩
  go_wp2
  go_ret
  refine ⟨_, _, _, trimmed [x % 4294967296, x / 4294967296], rfl, hr.take (tl_le _ _), trimmed_can hr.l32, ?_, (Below.refl _ _).alloc (Nat.le_refl _) _⟩
  rw [trimmed_val]
  simp [val]
  omega

theorem smallPower_c (n : Nat) (w : World) (hn : n ≤ 9) :
    Calls Tryz.prog 141 #[.int .i64 n] w fun e w' => e = .returned (.int .u32 ((10 ^ n : Nat) : Int)) ∧ w = w' := by
  go_enter Tryz.func141, Tryz.ntmps141
  go_wp2
  go_loop [3, 5] (fun p i => ∃ k q : Nat, k ≤ n ∧ i = .int .i64 (k : Int) ∧ p = .int .u32 (q : Int) ∧ Hid (q = 10 ^ k) ∧ (k < 9 → q ≤ 100000000)) (fun _ i => n - (RowKit.intOf i).toNat)
  case atStart => exact ⟨0, 1, Nat.zero_le _, rfl, rfl, rfl, by omega⟩
  case round =>
    obtain ⟨k, q, hk, rfl, rfl, hq, hb⟩ := hrel
    by_cases h0 : k = n
    · subst h0
      clear hb
      go_wp2
      go_ret
      rw [hq.out]
      exact ⟨rfl, rfl⟩
    · have hb' := hb (by omega)
      clear hb
      go_wp2
      go_round
      case rel =>
        refine ⟨k + 1, q * 10, by omega, by go_num, by go_num, ?_, fun h9 => ?_⟩
        · show _ = _
          rw [hq.out, Nat.pow_succ]
        · have h1 : 10 ^ (k + 1) ≤ 10 ^ 8 := Nat.pow_le_pow_right (by omega) (by omega)
          rw [hq.out, ← Nat.pow_succ]
          omega
      case measure => simp [RowKit.intOf]; omega

/-- One step of the multiple, in numbers. -/
theorem scale_step {new zs : List Nat} {k carry f t more : Nat} (hl : new.length = k) (hv : val new + bp k * carry = val (zs.take k) * f + more) (ht : t = carry + nth zs k * f) :
    val (new ++ [t % 4294967296]) + bp (k + 1) * (t / 4294967296) = val (zs.take (k + 1)) * f + more := by
  have e := cut_place k t
  rw [val_snoc, hl, val_take_succ, Nat.add_mul]
  have e2 : bp k * t = bp k * carry + bp k * nth zs k * f := by rw [ht, Nat.mul_add, Nat.mul_assoc]
  omega

set_option maxRecDepth 100000 in
theorem scale_c {base n c : Nat} {A : Option Addr} {zs : List Nat} (f more : Nat) (w : World) (hown : Res w base A n c zs) (hcan : Can zs) (hf : f < 4294967296) (hf1 : 1 ≤ f) (hmore : more < 4294967296) (hn : n ≤ 1048576) (hbase : base ≤ w.heap.size) :
    Calls Tryz.prog 140 #[.slice A n c, .int .u32 f, .int .u32 more] w fun e w' =>
      ∃ A' n' c' zs', e = .returned (.slice A' n' c') ∧ Res w' base A' n' c' zs' ∧ Can zs' ∧ val zs' = val zs * f + more ∧ n' ≤ n + 1 ∧ w.grownBy w' (Value.slice A n c).ownBlock ∧ (A' = A ∨ ∃ g, A' = some ⟨g, 0, none⟩ ∧ w.heap.size ≤ g) := by
  have HZ := Lib.hid hown.len
  go_enter Tryz.func140, Tryz.ntmps140
  go_wp2
  go_loopw [7, 14] (fun cr i wr => ∃ (k carry : Nat) (new : List Nat), k ≤ n ∧ i = .int .i64 (k : Int) ∧ cr = .int .u64 (carry : Int) ∧ carry < 4294967296 ∧ L32 new ∧ Hid (new.length = k) ∧
      Hid (val new + bp k * carry = val (zs.take k) * f + more) ∧ Res wr base A n c (new ++ zs.drop k) ∧ w.grownBy wr (Value.slice A n c).ownBlock) (fun _ i _ => n - (RowKit.intOf i).toNat)
  case atStart => exact ⟨0, more, [], Nat.zero_le _, rfl, by go_num, hmore, L32.nil, rfl, by show _ = _; simp [val, bp], hown, World.grownBy.refl w _⟩
  case round =>
    obtain ⟨k, carry, new, hk, rfl, rfl, hcar, hnew, hlen, hval, hres, hg⟩ := hrel
    by_cases h0 : k = n
    · subst h0
      have e1 : zs.take k = zs := List.take_of_length_le (by rw [HZ.out]; omega)
      have e2 : zs.drop k = [] := List.drop_of_length_le (by rw [HZ.out]; omega)
      have HV := Lib.hid hval.out
      rw [e1] at HV
      rw [e2, List.append_nil] at hres
      clear hval e1 e2
      have hge : zs = [] ∨ bp (k - 1) ≤ val zs := by
        by_cases hne : zs = []
        · exact .inl hne
        · right; rw [← HZ.out]; exact hcan.ge hne
      by_cases hc0 : carry = 0
      · subst hc0
        go_wp2
        go_ret
        have hv := HV.out
        rw [Nat.mul_zero, Nat.add_zero] at hv
        refine ⟨_, _, _, new, rfl, hres, can_of_ge hnew ?_, hv, by omega, hg, .inl rfl⟩
        rcases hge with h | h
        · left
          apply List.eq_nil_of_length_eq_zero
          rw [hlen.out, ← HZ.out, h]; rfl
        · right
          rw [hlen.out, hv]
          have : val zs * 1 ≤ val zs * f := Nat.mul_le_mul_left _ hf1
          omega
      · have hpos : (0 : Int) < (carry : Int) := by omega
        clear hc0
        obtain ⟨i0, hi, hz0, hz1, hz2⟩ := info_parts info32
        have hlr := Lib.hid hlen.out
        have hro : ∀ o, (wr.alloc o).ownsRow base 72 1 (.slice A k c) k (u32s new) := fun o => hres.own.alloc o
        go_wp2_with (at_builtin; refine wpList_append_own_at _ rfl (.tmp 36) (.tmp 39) _ rfl base 72 i0 (.int .u32 0) 1 4 Tryz.underlying22 hi hz0 hz1 hz2 rfl (by decide) (.slice A k c) k (u32s new) rfl (hro _) ⟨wr.heap.size, 0, none⟩ 1 1 [.int .u32 (carry : Int)] rfl rfl (cell_new1 _ _ _ _ rfl) (by simp [Value.oneCell']) (by unfold maxLen; omega) (by omega) (by simp; have := hg.size; omega) ?_; intro v' w1 hown1 hg1 _ hat1)
        go_ret
        have hv := HV.out
        obtain ⟨g', cap', hv'⟩ := ownsRow_succ hown1
        subst hv'
        refine ⟨_, _, _, new ++ [carry], rfl, ⟨by rw [List.length_append, hlr.out]; rfl, hnew.snoc hcar, by rw [u32s_append]; exact hown1⟩, ⟨hnew.snoc hcar, .inr ?_⟩, ?_, by omega, only_trans hg (only_trans (World.grownBy_alloc _ _ _) hg1), ?_⟩
        · rw [List.length_append, hlr.out, nth_snoc new [] carry (by rw [hlr.out]; rfl)]
          omega
        · rw [val_snoc, hlr.out]
          exact hv
        · rcases hat1 with h | h
          · left
            rcases hres.form with ⟨h1, _⟩ | ⟨g1, h1, _⟩
            · subst h1; simp [Value.ownBlock] at h
            · subst h1; simp [Value.ownBlock] at h; rw [h]
          · right
            refine ⟨g', rfl, ?_⟩
            simp [Value.ownBlock] at h
            have := hg.size
            omega
    · have hlt : k < n := by omega
      obtain ⟨g, hA⟩ : ∃ g, A = some ⟨g, 0, none⟩ := by
        rcases hown.form with ⟨_, h, _⟩ | ⟨g, h, _⟩
        · omega
        · exact ⟨g, h⟩
      subst hA
      have hod : zs.drop k = nth zs k :: zs.drop (k + 1) := drop_eq_nth (by rw [HZ.out]; exact hlt)
      have hcell : wr.cell? ⟨g, k, none⟩ = some (.int .u32 (nth zs k : Int)) := by
        rw [hres.cell hlt, hod, nth_snoc _ _ _ hlen.out.symm]
      have hfr : wr.frozen? ⟨g, k, none⟩ = false := hres.frozen _
      have hx1 : nth zs k < 4294967296 := nth_lt hcan.l32 k
      have HD := Lib.hid hod
      obtain ⟨hm0, hm1⟩ := mul_int hx1 hf
      clear hod
      go_wp2
      obtain ⟨t, ht⟩ : ∃ t, t = carry + nth zs k * f := ⟨_, rfl⟩
      have htb : t < 18446744073709551616 := by have := mul_le_u32 hx1 hf; omega
      have hw : (carry : Int) + ((nth zs k : Int) * (f : Int)) = ((t : Nat) : Int) := by rw [ht]; simp
      rw [hw, div_cast, rem_cast]
      refine ⟨⟨k + 1, t / 4294967296, new ++ [t % 4294967296], by omega, by go_num, rfl, by omega, hnew.snoc (by omega), ?_, scale_step hlen.out hval.out ht, ?_, only_set hg _ _⟩, by simp [RowKit.intOf]; omega⟩
      · show _ = _
        rw [List.length_append, hlen.out]; rfl
      · have := hres.set (j := k) (x := t % 4294967296) (by omega)
        rwa [HD.out, set_snoc _ _ _ _ hlen.out.symm] at this
end Go.Proofs.YtpmdcahomkdfmaaGreatDoor

namespace Go.Proofs.YtpmdcahomkdfmaaGreatDoor
open Go.RowKit

/-- The cells of a slice that reads as limbs, as append asks for them. -/
theorem Rd.cellsAt {w : World} {S : Nat → Prop} {n : Nat} {ad : Addr} {xs : List Nat} (h : Rd w S (some ad) n xs) : ∀ j u, (u32s xs)[j]? = some u → w.cell? (ad.add j) = some u := by
  intro j u hu
  have hj : j < n := by
    have := (List.getElem?_eq_some_iff.1 hu).1
    rw [u32s_length, h.len] at this; exact this
  obtain ⟨b, off, e, _, hc⟩ := h.cells (by omega)
  injection e with e
  subst e
  rw [Addr.add_lit, hc j hj]
  rw [u32s_get (by rw [h.len]; exact hj)] at hu
  exact hu
theorem u32s_one (xs : List Nat) : ∀ u ∈ u32s xs, u.oneCell' = true := by
  intro u hu
  obtain ⟨x, _, rfl⟩ := List.mem_map.1 hu
  rfl

/-- A row by its value. -/
theorem Res.of_row {w : World} {base n : Nat} {v : Value} {xs : List Nat} (hl : xs.length = n) (h32 : L32 xs) (h : w.ownsRow base 72 1 v n (u32s xs)) : ∃ A c, v = .slice A n c ∧ Res w base A n c xs := by
  rcases h.2 with ⟨e, h0⟩ | ⟨g, cap, cur, e, _⟩
  · subst h0
    exact ⟨none, 0, e, hl, h32, e ▸ h⟩
  · exact ⟨_, cap, e, hl, h32, e ▸ h⟩

set_option maxRecDepth 100000 in
theorem Clone_c {S : Nat → Prop} {n c : Nat} {A : Option Addr} {xs : List Nat} (w : World) (ha : Rd w S A n xs) (hS : ∀ b, S b → b < w.heap.size) (hn : n ≤ 1099511627776) :
    Calls Tryz.prog 129 #[.slice A n c] w fun e w' => ∃ A' c', e = .returned (.slice A' n c') ∧ Res w' w.heap.size A' n c' xs ∧ Below w.heap.size w w' ∧ ∀ g, A' = some ⟨g, 0, none⟩ → g < w'.heap.size := by
  have q : ∀ (w : World) (a : Option Addr) (n c n' c' : Nat), (binOp .eql 22 (.slice a n c) (.slice none n' c')).run Tryz.prog w = .ok (.bool a.isNone) w := fun w a n c n' c' => Lib.run_eql_slice_nil w _ _ a n c n' c' Tryz.underlying22
  cases A with
  | none =>
    obtain rfl : n = 0 := by
      rcases Nat.eq_zero_or_pos n with h | h
      · exact h
      · obtain ⟨b, off, e, _⟩ := ha.cells h; cases e
    obtain rfl : xs = [] := List.eq_nil_of_length_eq_zero ha.len
    go_enter Tryz.func129, Tryz.ntmps129
    go_wp2
    go_ret
    exact ⟨none, 0, rfl, Res.nil _ _, Below.refl _ _, fun g e => by cases e⟩
  | some ad =>
    obtain ⟨i0, hi, hz0, hz1, hz2⟩ := info_parts info32
    have hl := Lib.hid ha.len
    have hro : (w.alloc (.cells #[] 72)).ownsRow w.heap.size 72 1 (.slice (some ⟨w.heap.size, 0, none⟩) 0 0) 0 [] := World.ownsRow_made (e := 72) (size := 1) w #[] 0 (Nat.le_refl _) (by unfold maxLen; omega) rfl
    have ha2 : Rd (w.alloc (.cells #[] 72)) S (some ad) n xs := ha.below (B := w.heap.size) ((Below.refl _ _).alloc (Nat.le_refl _) _) hS
    go_enter Tryz.func129, Tryz.ntmps129
    go_wp2_with (at_builtin; refine wpList_append_own _ rfl (.tmp 5) (.tmp 6) _ rfl w.heap.size 72 i0 (.int .u32 0) 1 4 Tryz.underlying22 hi hz0 hz1 hz2 rfl (by decide) (.slice (some ⟨w.heap.size, 0, none⟩) 0 0) 0 [] rfl hro ad n c (u32s xs) rfl (by rw [u32s_length, hl.out, Nat.mul_one]) ha2.cellsAt (u32s_one xs) (by unfold maxLen; omega) (by omega) (by simp) ?_; intro v' w1 hown1 hg1 _)
    go_ret
    rw [Nat.zero_add, List.nil_append] at hown1
    obtain ⟨A', c', e, hr⟩ := Res.of_row hl.out ha.l32 hown1
    subst e
    refine ⟨A', c', rfl, hr, ((Below.refl _ w).alloc (Nat.le_refl _) _).grown hg1 (by simp) (by intro k hk; simp [Value.ownBlock] at hk; omega), fun g e => ?_⟩
    rcases hr.form with ⟨h, _⟩ | ⟨g', h, _, hlt⟩
    · rw [h] at e; cases e
    · rw [h] at e; injection e with e; injection e with e; omega

/-- One step of the division by one limb, in numbers. -/
theorem reduce_step {zs qs : List Nat} {k r d t : Nat} (hd : 0 < d) (hv : val (zs.drop (k + 1)) = val qs * d + r) (ht : t = r * 4294967296 + nth zs k) :
    val (zs.drop k) = val (t / d :: qs) * d + t % d := by
  rw [val_drop, hv, val_cons, Nat.add_mul]
  have e := Nat.div_add_mod t d
  have e2 : 4294967296 * (val qs * d + r) = 4294967296 * val qs * d + r * 4294967296 := by rw [Nat.mul_add, Nat.mul_assoc, Nat.mul_comm r]
  have e3 : t / d * d = d * (t / d) := Nat.mul_comm _ _
  omega

set_option maxRecDepth 100000 in
theorem reduce_c {base n c : Nat} {A : Option Addr} {zs : List Nat} (d : Nat) (w : World) (hown : Res w base A n c zs) (hd : d < 4294967296) (hd1 : 1 ≤ d) (hn : n ≤ 1048576) :
    Calls Tryz.prog 130 #[.slice A n c, .int .u32 d] w fun e w' =>
      ∃ n' qs r, e = .returned (.tuple #[.slice A n' c, .int .u32 ((r : Nat) : Int)]) ∧ Res w' base A n' c qs ∧ Can qs ∧ val zs = val qs * d + r ∧ r < d ∧ n' ≤ n ∧ w.grownBy w' (Value.slice A n c).ownBlock := by
  have HZ := Lib.hid hown.len
  go_enter Tryz.func130, Tryz.ntmps130
  go_wp2
  go_loopw [6, 7] (fun rs i wr => ∃ (k r : Nat) (qs : List Nat), k ≤ n ∧ i = .int .i64 ((k : Int) - 1) ∧ rs = .int .u64 (r : Int) ∧ r < d ∧ L32 qs ∧ Hid (qs.length = n - k) ∧
      Hid (val (zs.drop k) = val qs * d + r) ∧ Res wr base A n c (zs.take k ++ qs) ∧ w.grownBy wr (Value.slice A n c).ownBlock) (fun _ i _ => (RowKit.intOf i + 1).toNat)
  case atStart => exact ⟨n, 0, [], Nat.le_refl _, rfl, rfl, by omega, L32.nil, by show _ = _; simp, by show _ = _; rw [List.drop_of_length_le (by rw [HZ.out]; omega)]; simp [val], by rw [List.append_nil, List.take_of_length_le (by rw [HZ.out]; omega)]; exact hown, World.grownBy.refl w _⟩
  case round =>
    obtain ⟨k, r, qs, hk, rfl, rfl, hr, hqs, hlen, hval, hres, hg⟩ := hrel
    by_cases h0 : k = 0
    · subst h0
      rw [List.take_zero, List.nil_append] at hres
      have hv := Lib.hid hval.out
      rw [List.drop_zero] at hv
      clear hval
      have hf := trim_c wr hres.rd (by omega) hres.n_le.1
      have HF := Lib.hid hf
      clear hf
      go_wp2_with fail
      refine HF.out.mono ?_
      rintro e w' ⟨rfl, rfl⟩
      go_wp2
      go_ret2
      have ht := hres.take (tl_le qs n)
      have hl := hres.len
      refine ⟨_, trimmed qs, r, ?_, ?_, trimmed_can hqs, ?_, hr, tl_le qs n, hg⟩
      · exact congrArg Ending.returned (congrArg (fun z => Value.tuple #[Value.slice A (tl qs n) c, Value.int .u32 z]) (by omega))
      · unfold trimmed; rw [hl]; exact ht
      · rw [trimmed_val]; exact hv.out
    · obtain ⟨j, rfl⟩ : ∃ j, k = j + 1 := ⟨k - 1, by omega⟩
      obtain ⟨g, hA⟩ : ∃ g, A = some ⟨g, 0, none⟩ := by
        rcases hown.form with ⟨_, h, _⟩ | ⟨g, h, _⟩
        · omega
        · exact ⟨g, h⟩
      subst hA
      have hpl : (zs.take j).length = j := by rw [List.length_take, HZ.out]; omega
      have hcell : wr.cell? ⟨g, j, none⟩ = some (.int .u32 (nth zs j : Int)) := by
        rw [hres.cell (by omega), take_succ_nth (by rw [HZ.out]; omega), List.append_assoc, List.singleton_append, nth_snoc _ _ _ hpl.symm]
      have hfr : wr.frozen? ⟨g, j, none⟩ = false := hres.frozen _
      have hx1 : nth zs j < 4294967296 := nth_lt hown.l32 j
      have HP := Lib.hid hpl
      clear hpl
      obtain ⟨t, ht⟩ : ∃ t, t = r * 4294967296 + nth zs j := ⟨_, rfl⟩
      have hbit := or_shl (show r < 4294967296 by omega) hx1
      rw [← ht] at hbit
      have htb : t < 18446744073709551616 := by omega
      have htd : t / d < 4294967296 := by
        rw [Nat.div_lt_iff_lt_mul hd1]
        have : (r + 1) * 4294967296 ≤ d * 4294967296 := Nat.mul_le_mul_right _ (by omega)
        rw [Nat.mul_comm 4294967296]
        omega
      have hmd := Nat.mod_lt t hd1
      have HT := Lib.hid ht
      clear ht
      go_wp2
      rw [quo_limb htd, rem_limb]
      refine ⟨⟨j, t % d, t / d :: qs, by omega, rfl, rfl, hmd, L32.cons.2 ⟨htd, hqs⟩, ?_, reduce_step hd1 hval.out HT.out, ?_, only_set hg _ _⟩, by simp [RowKit.intOf]⟩
      · show _ = _
        rw [List.length_cons, hlen.out]; omega
      · have h := hres.set (j := j) (x := t / d) htd
        rw [take_succ_nth (by rw [HZ.out]; omega), List.append_assoc, List.singleton_append, set_snoc _ _ _ _ HP.out.symm, List.append_assoc, List.singleton_append] at h
        exact h
end Go.Proofs.YtpmdcahomkdfmaaGreatDoor
