/-
  Contracts of the reference's Pow, Word, Print and Parse.
-/
import Derived.Test.YtdlphdbojkdfoaaRefh
set_option linter.unusedVariables false
set_option linter.unusedSimpArgs false
namespace Go.Proofs.Ytdlphdbojkdfoaa
open Go.RowKit

theorem rPow_range (z : Int) (w : World) (h : z < 0 ∨ 2400 < z) :
    Calls Try.prog 27 #[.int .i64 z] w fun e w' => e = .returned (.tuple #[.slice none 0 0, .int .i64 4]) ∧ w = w' := by
  rcases h with h | h
  all_goals
    go_enter Try.func27, Try.ntmps27
    go_wp2
    go_ret2
    exact ⟨rfl, rfl⟩

set_option maxRecDepth 100000 in
theorem rPow_ok (n : Nat) (w : World) (hn : n ≤ 2400) :
    Calls Try.prog 27 #[.int .i64 (n : Int)] w fun e w' => ∃ A n' c zs, e = .returned (.tuple #[.slice A n' c, .int .i64 0]) ∧ Res w' w.heap.size A n' c zs ∧ Can zs ∧ val zs = 10 ^ n ∧ Below w.heap.size w w' := by
  have hlit := ResI.lit w [1] 1 rfl (LI.one (by omega)) (by omega)
  have hq1 : (i64s [1]).toArray = #[Value.int IntKind.i64 1] := by simp [i64s]
  rw [hq1] at hlit
  have hd1 : Hid (DCan [1]) := ⟨D10.cons.2 ⟨by omega, D10.nil⟩, .inr (by decide)⟩
  clear hq1
  go_enter Try.func27, Try.ntmps27
  go_wp2_with fail
  refine (Shift_c n _ hlit.rd (fun b h => h.2) hd1.out (by omega) (by omega)).mono ?_
  rintro e w1 ⟨A1, n1, c1, ds, rfl, hr1, hc1, hv1, hl1, hb1⟩
  have HV1 : Hid (dval ds = 10 ^ n) := by
    show _ = _
    rw [hv1]; simp [dval, dp]
  clear hv1
  have hw1 : Below w.heap.size w w1 := ((Below.refl _ w).alloc (Nat.le_refl _) _).trans (hb1.mono (by simp))
  go_wp2_with fail
  refine (Limbs_c w1 hr1.rd (fun b h => h.2) hc1 (by omega)).mono ?_
  rintro e w2 ⟨A2, n2, c2, zs, rfl, hr2, hc2, hv2, hb2⟩
  have HV2 := Lib.hid (hv2.trans HV1.out)
  clear hv2
  go_wp2
  go_ret2
  exact ⟨_, _, _, zs, rfl, hr2.more hw1.size, hc2, HV2.out, hw1.trans (hb2.mono hw1.size)⟩

theorem chars_rev (xs : List Nat) {k : Nat} (h : k < xs.length) : chars ((xs.drop k).reverse) = chars ((xs.drop (k + 1)).reverse) ++ [nth xs k + 48] := by
  rw [drop_eq_nth h, List.reverse_cons, chars_snoc]
theorem ResB.below_append {B k c : Nat} {A : Option Addr} {W w w1 : World} {os : List Nat} {o : Obj} (hbel : Below B W w) (hB : B ≤ w.heap.size) (hres : ResB w B A k c os) (hg : (w.alloc o).grownBy w1 (Value.slice A k c).ownBlock) : Below B W w1 :=
  (hbel.alloc hB _).grown hg (by simp; omega) (by
    intro q hq
    rcases hres.form with ⟨h1, _⟩ | ⟨g1, h1, h2, _⟩
    · rw [h1] at hq; simp [Value.ownBlock] at hq
    · rw [h1] at hq; simp [Value.ownBlock] at hq; omega)
theorem ResB.snoc {w : World} {base g k c' x : Nat} {os : List Nat} (hl : os.length = k) (hI : L8 os) (hx : x < 256)
    (ho : w.ownsRow base 5 1 (.slice (some ⟨g, 0, none⟩) (k + 1) c') (k + 1) (u8s os ++ [.int .u8 (x : Int)])) : ResB w base (some ⟨g, 0, none⟩) (k + 1) c' (os ++ [x]) :=
  ⟨by rw [List.length_append, hl]; rfl, hI.append (L8.one hx), by rw [u8s_append]; exact ho⟩

set_option maxRecDepth 100000 in
theorem Word_c {S : Nat → Prop} {n c : Nat} {A : Option Addr} {ds : List Nat} (w : World) (h : RdI w S A n ds) (hS : ∀ b, S b → b < w.heap.size) (hx : DCan ds) (hn : n ≤ 100000) :
    Calls Try.prog 54 #[.slice A n c] w fun e w' => ∃ s, e = .returned (.string s) ∧ IsDec (dval ds) s ∧ Below w.heap.size w w' := by
  have HL := Lib.hid h.len
  have HX := Lib.hid hx
  clear hx
  obtain ⟨i0, hi, hz0, hz1, hz2⟩ := info_parts info8
  go_enter Try.func54, Try.ntmps54
  go_wp2
  go_loopw [3, 4] (fun bv iv wr => ∃ (k no co : Nat) (Ao : Option Addr), k ≤ n ∧ no + k = n ∧ iv = .int .i64 ((k : Int) - 1) ∧ bv = .slice Ao no co ∧ ResB wr w.heap.size Ao no co (chars ((ds.drop k).reverse)) ∧ Below w.heap.size w wr)
    (fun _ iv _ => (intOf iv + 1).toNat)
  case atStart => exact ⟨n, 0, 0, none, Nat.le_refl _, by omega, rfl, rfl, by rw [List.drop_of_length_le (by rw [HL.out]; exact Nat.le_refl _)]; exact ResB.nil _ _, Below.refl _ _⟩
  case round =>
    obtain ⟨k, no, co, Ao, hk, hno, rfl, rfl, hres, hbel⟩ := hrel
    by_cases h0 : k = 0
    · subst h0
      rw [List.drop_zero] at hres
      by_cases hn0 : n = 0
      · have hd : Hid (dval ds = 0) := by
          have : ds = [] := List.eq_nil_of_length_eq_zero (by rw [HL.out]; exact hn0)
          show _ = _
          rw [this]; rfl
        obtain rfl : no = 0 := by omega
        clear hn0 hno
        go_wp2
        go_ret
        exact ⟨_, rfl, .inl ⟨hd.out, rfl⟩, hbel⟩
      · obtain ⟨g, hA⟩ : ∃ g, Ao = some ⟨g, 0, none⟩ := by
          rcases hres.form with ⟨_, h, _⟩ | ⟨g, h, _⟩
          · omega
          · exact ⟨g, h⟩
        subst hA
        have hcv := conv_txt hres
        have hnb : ((no : Int) == 0) = false := by rw [beq_eq_false_iff_ne]; omega
        have hpos : Hid (0 < dval ds) := by
          show _ < _
          rcases Nat.eq_zero_or_pos (dval ds) with h | h
          · have := HX.out.dval_zero h
            have h2 := HL.out
            rw [this] at h2
            exact absurd h2.symm hn0
          · exact h
        clear hn0 hno
        go_wp2
        go_ret
        refine ⟨_, rfl, .inr ⟨hpos.out, ds, HX.out, rfl, ?_⟩, hbel⟩
        unfold chars
        rw [List.map_reverse]
    · obtain ⟨j, rfl⟩ : ∃ j, k = j + 1 := ⟨k - 1, by omega⟩
      obtain ⟨b, off, rfl, hSb, hcell0⟩ := h.at_ (k := j) (by omega)
      have hcell : wr.cell? ⟨b, off + j, none⟩ = some (.int .i64 (nth ds j : Int)) := (hbel.cell (p := ⟨b, off + j, none⟩) (hS _ hSb)).trans hcell0
      have hx9 := dth_lt HX.out.1 j
      have hro : ∀ o, (wr.alloc o).ownsRow w.heap.size 5 1 (.slice Ao no co) no (u8s (chars ((ds.drop (j + 1)).reverse))) := fun o => hres.own.alloc o
      obtain ⟨t, ht⟩ : ∃ t, t = nth ds j + 48 := ⟨_, rfl⟩
      have hti : 48 + (nth ds j : Int) = (t : Int) := by omega
      have htb : t ≤ 57 := by omega
      have HT := Lib.hid ht
      clear ht h0
      go_wp2_with (at_builtin; refine wpList_append_own_at _ rfl (.tmp 12) (.tmp 19) _ rfl w.heap.size 5 i0 (.int .u8 0) 1 1 Try.underlying75 hi hz0 hz1 hz2 rfl (by decide) (.slice Ao no co) no (u8s (chars ((ds.drop (j + 1)).reverse))) rfl (hro _) ⟨wr.heap.size, 0, none⟩ 1 1 [.int .u8 (t : Int)] rfl rfl (cell_new1 _ _ _ _ rfl) (by simp [Value.oneCell']) (by unfold maxLen; omega) (by omega) (by simp; have := hbel.size; omega) ?_; intro v1 w1 hown1 hg1 _ hat1)
      obtain ⟨g', cap', hv'⟩ := ownsRow_succ hown1
      subst hv'
      have hs := ResB.snoc hres.len hres.l32 (by omega) hown1
      rw [HT.out, ← chars_rev ds (by rw [HL.out]; omega)] at hs
      exact ⟨⟨j, no + 1, _, _, by omega, by omega, by go_num, rfl, hs, hres.below_append hbel hbel.size hg1⟩, by simp [intOf]⟩

/-- Print: as nat's. -/
theorem rPrint_c {S : Nat → Prop} {n c : Nat} {A : Option Addr} {xs : List Nat} (w : World) (ha : Rd w S A n xs) (hS : ∀ b, S b → b < w.heap.size) (hn : n ≤ 9223372036854775807) :
    Calls Try.prog 25 #[.slice A n c] w fun e w' => ∃ s, e = .returned (.tuple #[.string s, .int .i64 (chk xs : Int)]) ∧ (chk xs = 0 → Can xs ∧ IsDec (val xs) s) ∧ (chk xs ≠ 0 → s = ⟨#[]⟩) ∧ Below w.heap.size w w' := by
  have h1 := rCheck_c (c := c) w ha hn
  by_cases h0 : chk xs = 0
  · obtain ⟨hcx, hlx⟩ := can_of_chk ha.l32 h0
    rw [h0] at h1 ⊢
    have H1 := Lib.hid h1
    have hn2 : n ≤ 256 := by rw [← ha.len]; exact hlx
    clear h1 h0
    go_enter Try.func25, Try.ntmps25
    go_wp2_with fail
    refine H1.out.mono ?_
    rintro e w' ⟨rfl, rfl⟩
    go_wp2_with fail
    refine (Digits_k w ha hS hn2).mono ?_
    rintro e w1 ⟨A1, n1, c1, ds, rfl, hr1, hc1, hv1, hl1, hb1⟩
    have HV1 := Lib.hid hv1
    clear hv1
    go_wp2_with fail
    refine (Word_c w1 hr1.rd (fun b h => h.2) hc1 (by omega)).mono ?_
    rintro e w2 ⟨s, rfl, hs, hb2⟩
    go_wp2
    go_ret2
    rw [HV1.out] at hs
    exact ⟨s, rfl, fun _ => ⟨hcx, hs⟩, fun h => absurd rfl h, hb1.trans (hb2.mono hb1.size)⟩
  · have hb : (((chk xs : Nat) : Int) != 0) = true := by rw [bne_iff_ne]; omega
    have H1 := Lib.hid h1
    have H0 := Lib.hid h0
    clear h1 h0
    go_enter Try.func25, Try.ntmps25
    go_wp2_with fail
    refine H1.out.mono ?_
    rintro e w' ⟨rfl, rfl⟩
    go_wp2
    go_ret2
    exact ⟨_, rfl, fun h => absurd h H0.out, fun _ => rfl, Below.refl _ _⟩

/-- The digits of a text's end, the lowest first. -/
def lows (xs : List Nat) : List Nat := (xs.map (· - 48)).reverse
theorem lows_step (xs : List Nat) {k : Nat} (h : k < xs.length) : lows (xs.drop k) = lows (xs.drop (k + 1)) ++ [nth xs k - 48] := by
  unfold lows
  rw [drop_eq_nth h, List.map_cons, List.reverse_cons]

set_option maxRecDepth 100000 in
theorem rParse_c (s : ByteArray) (w : World) (hs : s.size ≤ 9223372036854775807) :
    Calls Try.prog 23 #[.string s] w fun e w' => ∃ A n c, e = .returned (.tuple #[.slice A n c, .int .i64 (parseE (octs s) : Int)]) ∧ Res w' w.heap.size A n c (parseZ (octs s)) ∧ Below w.heap.size w w' := by
  have hl := octs_length s
  by_cases h0 : s.size = 0
  · have e : parseE (octs s) = 8 := by unfold parseE; rw [if_pos (by omega)]
    have e2 : parseZ (octs s) = [] := if_neg (by rw [e]; omega)
    rw [e, e2]
    clear hl e e2
    go_enter Try.func23, Try.ntmps23
    go_wp2
    go_ret2
    exact ⟨none, 0, 0, rfl, Res.nil _ _, Below.refl _ _⟩
  · have hb0 : ((s.size : Int) == 0) = false := by rw [beq_eq_false_iff_ne]; omega
    by_cases h1 : 2400 < s.size
    · have e : parseE (octs s) = 5 := by unfold parseE; rw [if_neg (by omega), if_pos (by omega)]
      have e2 : parseZ (octs s) = [] := if_neg (by rw [e]; omega)
      rw [e, e2]
      clear hl e e2 h0
      go_enter Try.func23, Try.ntmps23
      go_wp2
      go_ret2
      exact ⟨none, 0, 0, rfl, Res.nil _ _, Below.refl _ _⟩
    · have HE : Hid (parseE (octs s) = if allDig (octs s) = true then 0 else 32) := by show _ = _; unfold parseE; rw [if_neg (by omega), if_neg (by omega)]
      have HO := Lib.hid hl
      obtain ⟨i0, hi, hz0, hz1, hz2⟩ := info_parts infoI
      clear hl h0
      go_enter Try.func23, Try.ntmps23
      go_wp2
      go_loopw [4, 5] (fun dv iv wr => ∃ (k no co : Nat) (Ao : Option Addr), k ≤ s.size ∧ no + k = s.size ∧ iv = .int .i64 ((k : Int) - 1) ∧ dv = .slice Ao no co ∧ ResI wr w.heap.size Ao no co (lows ((octs s).drop k)) ∧ Hid (allDig ((octs s).drop k) = true) ∧ Below w.heap.size w wr)
        (fun _ iv _ => (intOf iv + 1).toNat)
      case atStart => exact ⟨s.size, 0, 0, none, Nat.le_refl _, by omega, rfl, rfl, by rw [List.drop_of_length_le (by rw [HO.out]; exact Nat.le_refl _)]; exact ResI.nil _ _, by show _ = _; rw [List.drop_of_length_le (by rw [HO.out]; exact Nat.le_refl _)]; rfl, Below.refl _ _⟩
      case round =>
        obtain ⟨k, no, co, Ao, hk, hno, rfl, rfl, hres, had, hbel⟩ := hrel
        by_cases hk0 : k = 0
        · subst hk0
          rw [List.drop_zero] at hres
          have HA : Hid (allDig (octs s) = true) := by have := had.out; rwa [List.drop_zero] at this
          clear had
          go_wp2_with fail
          refine (rTrim_own wr hres).mono ?_
          rintro e w1 ⟨rfl, hres1, rfl⟩
          have htl := tl_le (lows (octs s)) no
          have hcan : DCan (trimmed (lows (octs s))) := trimmed_dcan (digs_of HA.out)
          have HV : Hid (dval (trimmed (lows (octs s))) = pnum (octs s)) := (trimmed_dval _).trans (dval_pnum _)
          go_wp2_with fail
          refine (Limbs_c _ hres1.rd (fun b h => h.2) hcan (by omega)).mono ?_
          rintro e w2 ⟨A2, n2, c2, zs, rfl, hr2, hc2, hv2, hb2⟩
          have HZ : Hid (zs = lim (pnum (octs s))) := (eq_lim hc2).trans (congrArg lim (hv2.trans HV.out))
          clear hv2
          go_wp2
          go_ret2
          have e : parseE (octs s) = 0 := by rw [HE.out, if_pos HA.out]
          have e2 : parseZ (octs s) = zs := by
            have : parseZ (octs s) = lim (pnum (octs s)) := if_pos e
            rw [this]; exact HZ.out.symm
          rw [e, e2]
          exact ⟨_, _, _, rfl, hr2.more hbel.size, hbel.trans (hb2.mono hbel.size)⟩
        · obtain ⟨j, rfl⟩ : ∃ j, k = j + 1 := ⟨k - 1, by omega⟩
          have hjs : j < s.size := by omega
          have ho := octs_get s j hjs
          by_cases hd : 48 ≤ s[j].toNat ∧ s[j].toNat ≤ 57
          · obtain ⟨hd1, hd2⟩ := hd
            have hi1 : 48 ≤ (s[j].toNat : Int) := by omega
            have hi2 : (s[j].toNat : Int) ≤ 57 := by omega
            obtain ⟨t, ht⟩ : ∃ t, t = s[j].toNat - 48 := ⟨_, rfl⟩
            have hti : (s[j].toNat : Int) - 48 = (t : Int) := by omega
            have htb : t ≤ 9 := by omega
            have HS : Hid (lows ((octs s).drop j) = lows ((octs s).drop (j + 1)) ++ [t]) := by
              show _ = _
              rw [lows_step _ (by rw [HO.out]; exact hjs), ho, ht]
            have HA : Hid (allDig ((octs s).drop j) = true) := by
              show _ = _
              rw [drop_eq_nth (by rw [HO.out]; exact hjs), ho]
              have h2 := had.out
              unfold allDig at h2 ⊢
              rw [List.all_cons, h2, Bool.and_true]
              unfold isDig
              exact decide_eq_true ⟨hd1, hd2⟩
            have hro : ∀ o, (wr.alloc o).ownsRow w.heap.size 3 1 (.slice Ao no co) no (i64s (lows ((octs s).drop (j + 1)))) := fun o => hres.own.alloc o
            clear ho ht hk0 hd1 hd2
            go_wp2_with (at_builtin; refine wpList_append_own_at _ rfl (.tmp 31) (.tmp 37) _ rfl w.heap.size 3 i0 (.int .i64 0) 1 8 Try.underlying58 hi hz0 hz1 hz2 rfl (by decide) (.slice Ao no co) no (i64s (lows ((octs s).drop (j + 1)))) rfl (hro _) ⟨wr.heap.size, 0, none⟩ 1 1 [.int .i64 ((t : Nat) : Int)] rfl rfl (cell_new1 _ _ _ _ rfl) (by simp [Value.oneCell']) (by unfold maxLen; omega) (by omega) (by simp; have := hbel.size; omega) ?_; intro v1 w1 hown1 hg1 _ hat1)
            obtain ⟨g', cap', hv'⟩ := ownsRow_succ hown1
            subst hv'
            have hsn := ResI.snoc hres.len hres.l32 (by omega) hown1
            rw [← HS.out] at hsn
            exact ⟨⟨j, no + 1, _, _, by omega, by omega, by go_num, rfl, hsn, HA, hres.below_append hbel hbel.size hg1⟩, by simp [intOf]⟩
          · have HB : Hid (allDig (octs s) = false) := allDig_bad (by rw [HO.out]; exact hjs) (by rw [ho]; exact hd)
            have hdd : (s[j].toNat : Int) < 48 ∨ 57 < (s[j].toNat : Int) := by omega
            clear ho hd hk0
            rcases hdd with hd | hd
            all_goals
              go_wp2
              go_ret2
              have e : parseE (octs s) = 32 := by rw [HE.out, if_neg (by rw [HB.out]; decide)]
              have e2 : parseZ (octs s) = [] := if_neg (by rw [e]; omega)
              rw [e, e2]
              exact ⟨none, 0, 0, rfl, Res.nil _ _, hbel⟩
end Go.Proofs.Ytdlphdbojkdfoaa
