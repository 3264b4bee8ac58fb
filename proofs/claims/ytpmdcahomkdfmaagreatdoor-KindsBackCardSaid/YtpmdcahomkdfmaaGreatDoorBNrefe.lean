/-
  Contract of the reference's Limbs: digits without 0 at their end made limbs, that tell the same number.
  Contracts of the reference's Product and Shift, of digits.
  Contracts of the reference's Digits (with a bound) and From; what nat's Sub answers, in numbers.
-/
import Derived.Test.YtpmdcahomkdfmaaGreatDoorBNrefb
import Derived.BigRegion
set_option linter.unusedVariables false
set_option linter.unusedSimpArgs false
namespace Go.Proofs.YtpmdcahomkdfmaaGreatDoor
open Go.RowKit

/-- A slice's length, of a value. -/
def lenOf : Value → Nat
  | .slice _ n _ => n
  | _ => 0
theorem dreduce_step {ds qs : List Nat} {k r t : Nat} (hv : dval (ds.drop (k + 1)) = dval qs * 4294967296 + r) (ht : t = r * 10 + nth ds k) :
    dval (ds.drop k) = dval (t / 4294967296 :: qs) * 4294967296 + t % 4294967296 := by
  rw [dval_drop, hv, dval_cons, Nat.add_mul]
  omega
/-- What is left has fewer digits. -/
theorem fewer {ds os : List Nat} (hd : DCan ds) (ho : DCan os) (h0 : ds ≠ []) (hv : dval os * 4294967296 ≤ dval ds) : os.length < ds.length := by
  rcases Nat.lt_or_ge os.length ds.length with h | h
  · exact h
  · exfalso
    have hl := List.length_pos_iff.2 h0
    have h1 := dval_lt hd.1
    have h2 := ho.ge (by intro e; rw [e, List.length_nil] at h; omega)
    have h3 := dp_mono (show ds.length - 1 ≤ os.length - 1 by omega)
    have h4 := dp_succ (ds.length - 1)
    rw [show ds.length - 1 + 1 = ds.length by omega] at h4
    have h5 := dp_pos (ds.length - 1)
    omega

set_option maxRecDepth 100000 in
set_option maxHeartbeats 2000000 in
theorem Limbs_c {S : Nat → Prop} {n c : Nat} {A : Option Addr} {xs : List Nat} (w : World) (h : RdI w S A n xs) (hS : ∀ b, S b → b < w.heap.size) (hx : DCan xs) (hn : n ≤ 100000) :
    Calls Tryz.prog 82 #[.slice A n c] w fun e w' => ∃ A' n' c' zs, e = .returned (.slice A' n' c') ∧ Res w' w.heap.size A' n' c' zs ∧ Can zs ∧ val zs = dval xs ∧ Below w.heap.size w w' := by
  obtain ⟨i0, hi, hz0, hz1, hz2⟩ := info_parts infoI
  cases A with
  | none =>
    obtain ⟨rfl, rfl⟩ := h.none_nil
    go_enter Tryz.func82, Tryz.ntmps82
    go_wp2_with (at_builtin; refine wpList_append_own_none _ rfl (.tmp 7) (.tmp 8) _ rfl w.heap.size 3 i0 1 Tryz.underlying45 hi (.slice none 0 0) 0 [] rfl (World.ownsRow_nil _ _ _ _) (hnc ▸ rfl) ?_)
    go_loopw [3, 4] (fun ov dv wr => ov = .slice none 0 0 ∧ dv = .slice none 0 0 ∧ wr = w) (fun _ _ _ => 0)
    case atStart => exact ⟨rfl, rfl, rfl⟩
    case round =>
      obtain ⟨rfl, rfl, rfl⟩ := hrel
      go_wp2
      go_ret
      exact ⟨none, 0, 0, [], rfl, Res.nil _ _, Can.nil, rfl, Below.refl _ _⟩
  | some ad =>
    have hl := Lib.hid h.len
    have HX := Lib.hid hx
    clear hx
    go_enter Tryz.func82, Tryz.ntmps82
    go_wp2_with (at_builtin; refine wpList_append_own _ rfl (.tmp 7) (.tmp 8) _ rfl w.heap.size 3 i0 (.int .i64 0) 1 8 Tryz.underlying45 hi hz0 hz1 hz2 rfl (by decide) (.slice none 0 0) 0 [] rfl (World.ownsRow_nil _ _ _ _) ad n c (i64s xs) rfl (by rw [i64s_length, hl.out, Nat.mul_one]) h.cellsAt (i64s_one xs) (by unfold maxLen; omega) (by omega) (by simp) ?_; intro v' w1 hown1 hg1 _)
    rw [Nat.zero_add, List.nil_append] at hown1
    obtain ⟨A1, c1, e, hr⟩ := ResI.of_row hl.out h.li hown1
    subst e
    have hb1 : Below w.heap.size w w1 := (Below.refl _ w).grown hg1 (by simp) (by intro k hk; simp [Value.ownBlock] at hk)
    clear hown1 hg1
    obtain ⟨j0, hj, hy0, hy1, hy2⟩ := info_parts info32
    go_loopw [3, 4] (fun ov dv wr => ∃ (bo no nw co cw : Nat) (Ao Aw : Option Addr) (ls ds : List Nat), ov = .slice Ao no co ∧ dv = .slice Aw nw cw ∧ Res wr w.heap.size Ao no co ls ∧ ResI wr bo Aw nw cw ds ∧ w.heap.size ≤ bo ∧ bo ≤ wr.heap.size ∧
        (∀ g, Ao = some ⟨g, 0, none⟩ → g < bo) ∧ Hid (DCan ds) ∧ Hid (val ls + bp no * dval ds = dval xs) ∧ Hid (dval ds = 0 → Can ls) ∧ no + nw ≤ n ∧ Below w.heap.size w wr) (fun _ dv _ => lenOf dv)
    case atStart => exact ⟨w.heap.size, 0, n, 0, c1, none, A1, [], xs, rfl, rfl, Res.nil _ _, hr, Nat.le_refl _, hb1.size, (fun g e => by cases e), HX, by show _ = _; simp [val, bp], (fun _ => Can.nil), by omega, hb1⟩
    case round =>
      clear hr hb1
      obtain ⟨bo, no, nw, co, cw, Ao, Aw, ls, ds, rfl, rfl, hro, hrw, hbo, hbo2, hdis, hcan, hval, hend, hsum, hbel⟩ := hrel
      have HN := Lib.hid hrw.len
      by_cases h0 : nw = 0
      · subst h0
        have hd0 : Hid (ds = []) := List.eq_nil_of_length_eq_zero HN.out
        go_wp2
        go_ret
        have hv := hval.out
        have he := hend.out
        rw [hd0.out, dval_nil] at hv he
        exact ⟨_, _, _, ls, rfl, hro, he rfl, by omega, hbel⟩
      · obtain ⟨g, hA⟩ : ∃ g, Aw = some ⟨g, 0, none⟩ := by
          rcases hrw.form with ⟨_, h, _⟩ | ⟨g, h, _⟩
          · omega
          · exact ⟨g, h⟩
        subst hA
        have hgb : bo ≤ g := by
          rcases hrw.form with ⟨h, _⟩ | ⟨g', h, h2, _⟩
          · cases h
          · injection h with h; injection h with h; omega
        have hD9 := Lib.hid hcan.out.1
        go_wp2
        go_loopw [5, 6] (fun rv iv wi => ∃ (k r : Nat) (qs : List Nat), k ≤ nw ∧ iv = .int .i64 ((k : Int) - 1) ∧ rv = .int .i64 (r : Int) ∧ r < 4294967296 ∧ D10 qs ∧ Hid (qs.length = nw - k) ∧
            Hid (dval (ds.drop k) = dval qs * 4294967296 + r) ∧ Res wi w.heap.size Ao no co ls ∧ ResI wi bo (some ⟨g, 0, none⟩) nw cw (ds.take k ++ qs) ∧ bo ≤ wi.heap.size ∧ Below w.heap.size w wi) (fun _ iv _ => (RowKit.intOf iv + 1).toNat)
        case atStart => exact ⟨nw, 0, [], Nat.le_refl _, rfl, rfl, by omega, D10.nil, by show _ = _; simp, by show _ = _; rw [List.drop_of_length_le (by rw [HN.out]; omega)]; rfl, hro, by rw [List.append_nil, List.take_of_length_le (by rw [HN.out]; omega)]; exact hrw, hbo2, hbel⟩
        case round =>
          clear hro hrw hbel hbo2
          obtain ⟨k, r, qs, hk, rfl, rfl, hr, hqs, hlen, hv, hro, hrw, hbo2, hbel⟩ := hrel
          by_cases hk0 : k = 0
          · subst hk0
            rw [List.take_zero, List.nil_append] at hrw
            have HV : Hid (dval ds = dval qs * 4294967296 + r) := by have := hv.out; rwa [List.drop_zero] at this
            have hown : ∀ o, (wr.alloc o).ownsRow w.heap.size 72 1 (.slice Ao no co) no (u32s ls) := fun o => hro.own.alloc o
            have hne : Hid (ds ≠ []) := by intro e; have := HN.out; rw [e] at this; simp at this; omega
            clear hv
            go_wp2_with (at_builtin; refine wpList_append_own_at _ rfl (.tmp 39) (.tmp 42) _ rfl w.heap.size 72 j0 (.int .u32 0) 1 4 Tryz.underlying22 hj hy0 hy1 hy2 rfl (by decide) (.slice Ao no co) no (u32s ls) rfl (hown _) ⟨wr.heap.size, 0, none⟩ 1 1 [.int .u32 (r : Int)] rfl rfl (cell_new1 _ _ _ _ rfl) (by simp [Value.oneCell']) (by unfold maxLen; omega) (by omega) (by simp; have := hbel.size; omega) ?_; intro v2 w2 hown2 hg2 _ hat2)
            obtain ⟨g', cap', hv'⟩ := ownsRow_succ hown2
            subst hv'
            have hres2 : Res w2 w.heap.size (some ⟨g', 0, none⟩) (no + 1) cap' (ls ++ [r]) := Res.of_append hro.len hro.l32 hr hown2
            have hown1b : ∀ q, (Value.slice Ao no co).ownBlock = some q → w.heap.size ≤ q ∧ q < bo := by
              intro q hq
              rcases hro.form with ⟨h1, _⟩ | ⟨g1, h1, h2, _⟩
              · rw [h1] at hq; simp [Value.ownBlock] at hq
              · have := hdis g1 h1
                rw [h1] at hq; simp [Value.ownBlock] at hq; omega
            have hbel2 : Below w.heap.size w w2 := (hbel.alloc hbel.size _).grown hg2 (by simp; have := hbel.size; omega) (fun q hq => (hown1b q hq).1)
            have hrw2 : ResI w2 bo (some ⟨g, 0, none⟩) nw cw qs := by
              have hgl : g < wr.heap.size := by
                rcases hrw.form with ⟨h, _⟩ | ⟨g2, h, _, h2⟩
                · cases h
                · injection h with h; injection h with h; omega
              refine hrw.keep fun g1 e => ?_
              injection e with e; injection e with e
              subst e
              refine (hg2.block g (by simp; omega) (fun e => ?_)).trans (Below.heap_alloc _ _ _ hgl)
              have := hown1b g e.symm
              omega
            clear hown2 hg2 hat2 hown
            go_wp2_with fail
            refine (carry_c w2 hrw2.rd (fun b h => h.2) (M := 9) (fun x hx => by have := hqs x hx; omega) (by omega) (by omega)).mono ?_
            rintro e w3 ⟨A3, n3, c3, os, rfl, hres3, hcan3, hval3, hbel3⟩
            have HC3 := Lib.hid hcan3
            have HV3 := Lib.hid hval3
            clear hcan3 hval3
            have hlt : n3 < nw := by
              have := fewer hcan.out HC3.out hne.out (by rw [HV3.out, HV.out]; omega)
              rw [hres3.len, HN.out] at this
              exact this
            go_wp2
            refine ⟨⟨w2.heap.size, no + 1, n3, cap', c3, _, A3, ls ++ [r], os, rfl, rfl, hres2.below hbel3 (Nat.le_refl _), hres3, hbel2.size, hbel3.size, ?_, HC3, ?_, ?_, by omega, hbel2.trans (hbel3.mono hbel2.size)⟩, by simp [lenOf]; omega⟩
            · intro g1 e
              rcases hres2.form with ⟨h1, _⟩ | ⟨g3, h1, _, h2⟩
              · cases h1
              · rw [h1] at e; injection e with e; injection e with e; omega
            · show _ = _
              rw [val_snoc, hro.len, HV3.out, bp_succ]
              have e1 := hval.out
              rw [HV.out, Nat.mul_add] at e1
              have e2 : bp no * (dval qs * 4294967296) = 4294967296 * bp no * dval qs := by rw [Nat.mul_comm (dval qs), ← Nat.mul_assoc, Nat.mul_comm (bp no)]
              omega
            · refine Lib.hid fun h1 => ⟨hro.l32.snoc hr, .inr ?_⟩
              rw [HV3.out] at h1
              have e1 := HV.out
              rw [h1] at e1
              have h2 : 0 < dval ds := by
                rcases Nat.eq_zero_or_pos (dval ds) with h3 | h3
                · exact absurd (hcan.out.dval_zero h3) hne.out
                · exact h3
              rw [List.length_append, hro.len, nth_snoc ls [] r (by rw [hro.len]; rfl)]
              omega
          · obtain ⟨j, rfl⟩ : ∃ j, k = j + 1 := ⟨k - 1, by omega⟩
            have hpl : (ds.take j).length = j := by rw [List.length_take, HN.out]; omega
            have hcell : wr.cell? ⟨g, j, none⟩ = some (.int .i64 (nth ds j : Int)) := by
              rw [hrw.cell (by omega), take_succ_nth (by rw [HN.out]; omega), List.append_assoc, List.singleton_append, nth_snoc _ _ _ hpl.symm]
            have hfr : wr.frozen? ⟨g, j, none⟩ = false := hrw.frozen _
            have hx1 := dth_lt hD9.out j
            have HP := Lib.hid hpl
            clear hpl
            obtain ⟨t, ht⟩ : ∃ t, t = r * 10 + nth ds j := ⟨_, rfl⟩
            have hti : (r : Int) * 10 + (nth ds j : Int) = (t : Int) := by omega
            have htb : t < 42949672960 := by omega
            obtain ⟨q, hq⟩ : ∃ q, q = t / 4294967296 := ⟨_, rfl⟩
            have hqi : (t : Int) / 4294967296 = (q : Int) := by omega
            have hqb : q < 10 := by omega
            obtain ⟨p, hp⟩ : ∃ p, p = q * 4294967296 := ⟨_, rfl⟩
            have hpi : (q : Int) * 4294967296 = (p : Int) := by omega
            have hpb : p ≤ t := by omega
            obtain ⟨r2, hr2⟩ : ∃ r2, r2 = t % 4294967296 := ⟨_, rfl⟩
            have hri : (t : Int) - (p : Int) = (r2 : Int) := by omega
            have hrb : r2 < 4294967296 := by omega
            have HT := Lib.hid ht
            have HQ := Lib.hid hq
            have HR := Lib.hid hr2
            clear ht hq hp hr2
            go_wp2
            refine ⟨⟨j, r2, q :: qs, by omega, by go_num, rfl, hrb, D10.cons.2 ⟨hqb, hqs⟩, ?_, ?_, ?_, ?_, by simpa [World.setCell] using hbo2, ?_⟩, by simp [RowKit.intOf]⟩
            · show _ = _
              rw [List.length_cons, hlen.out]; omega
            · show _ = _
              rw [HQ.out, HR.out]
              exact dreduce_step hv.out HT.out
            · refine hro.grown (row := some g) (only_set (World.grownBy.refl wr _) _ _) (fun g1 e1 e2 => ?_)
              have := hdis g1 e1
              injection e2 with e2
              omega
            · have h := hrw.set (j := j) (x := q) (by omega)
              rw [take_succ_nth (by rw [HN.out]; omega), List.append_assoc, List.singleton_append, set_snoc _ _ _ _ HP.out.symm, List.append_assoc, List.singleton_append] at h
              exact h
            · exact hbel.trans (below_of_only (only_set (World.grownBy.refl wr _) _ _) (show w.heap.size ≤ g by omega) hbel.size)
end Go.Proofs.YtpmdcahomkdfmaaGreatDoor

namespace Go.Proofs.YtpmdcahomkdfmaaGreatDoor
open Go.RowKit

theorem only_drewB {B : Nat} {a w : World} (h : Below B a w) : Below B a w.drew := ⟨h.os, h.tape, h.output, h.size, h.block⟩
theorem Upto.mono {M N : Nat} {zs : List Nat} (h : Upto M zs) (hm : M ≤ N) : Upto N zs := fun x hx => Nat.le_trans (h x hx) hm

/-- n digits 0 put below. -/
theorem shift_dval (n : Nat) (xs : List Nat) : dval (List.replicate n 0 ++ xs) = dp n * dval xs := by
  rw [dval_append, dval_replicate, List.length_replicate, Nat.zero_add]
theorem shift_dcan {xs : List Nat} (h : DCan xs) (h0 : xs ≠ []) (n : Nat) : DCan (List.replicate n 0 ++ xs) := by
  refine dcan_of_ge (D10.append.2 ⟨D10.replicate n, h.1⟩) (.inr ?_)
  have hl := List.length_pos_iff.2 h0
  rw [shift_dval, List.length_append, List.length_replicate, show n + xs.length - 1 = n + (xs.length - 1) by omega, dp_add]
  exact Nat.mul_le_mul_left _ (h.ge h0)

end Go.Proofs.YtpmdcahomkdfmaaGreatDoor

namespace Go.Proofs.YtpmdcahomkdfmaaGreatDoor
open Go.RowKit

/-- Digits, and how many at most. -/
theorem Digits_k {S : Nat → Prop} {n c : Nat} {A : Option Addr} {xs : List Nat} (w : World) (h : Rd w S A n xs) (hS : ∀ b, S b → b < w.heap.size) (hn : n ≤ 256) :
    Calls Tryz.prog 78 #[.slice A n c] w fun e w' => ∃ A' n' c' ds, e = .returned (.slice A' n' c') ∧ ResI w' w.heap.size A' n' c' ds ∧ DCan ds ∧ dval ds = val xs ∧ n' ≤ 2731 ∧ Below w.heap.size w w' := by
  refine (Digits_c w h hS hn).mono ?_
  rintro e w' ⟨A', n', c', ds, rfl, hr, hc, hv, hb⟩
  refine ⟨A', n', c', ds, rfl, hr, hc, hv, ?_, hb⟩
  obtain ⟨m, hm0, hm, hlt⟩ := bp_lt_ten (n := n) (v := dval ds) hn (by rw [hv]; have := val_lt h.l32; rwa [h.len] at this)
  have := hc.len_le hlt
  rw [hr.len] at this
  omega

set_option maxRecDepth 100000 in
theorem rFrom_c (x : Nat) (w : World) (hx : x < 18446744073709551616) :
    Calls Tryz.prog 79 #[.int .u64 x] w fun e w' => ∃ A n c, e = .returned (.slice A n c) ∧ Res w' w.heap.size A n c (lim x) ∧ n ≤ 2 ∧ Below w.heap.size w w' := by
  by_cases h0 : x = 0
  · subst h0
    go_enter Tryz.func79, Tryz.ntmps79
    go_wp2
    go_ret
    exact ⟨none, 0, 0, rfl, Res.nil _ _, by omega, Below.refl _ _⟩
  · have hb0 : ((x : Int) == 0) = false := by rw [beq_eq_false_iff_ne]; omega
    by_cases h1 : x < 4294967296
    · have hr := Res.lit w [x] 1 rfl (L32.cons.2 ⟨h1, L32.nil⟩) (by omega)
      have hq : (u32s [x]).toArray = #[Value.int .u32 (x : Int)] := by simp [u32s]
      rw [hq] at hr
      have he : Hid (lim x = [x]) := (Can.inj ⟨L32.cons.2 ⟨h1, L32.nil⟩, .inr (by simpa [nth] using h0)⟩ (lim_can x) (by rw [lim_val]; simp [val])).symm
      have hd1 : decide ((x : Int) < 4294967296) = true := by rw [decide_eq_true_eq]; omega
      have HR := Lib.hid hr
      clear h0 hq hr
      go_enter Tryz.func79, Tryz.ntmps79
      go_wp2
      go_ret
      rw [he.out]
      exact ⟨_, _, _, rfl, HR.out, by omega, (Below.refl _ _).alloc (Nat.le_refl _) _⟩
    · have hr := Res.lit w [x % 4294967296, x / 4294967296] 2 rfl (L32.cons.2 ⟨by omega, L32.cons.2 ⟨by omega, L32.nil⟩⟩) (by omega)
      have hq : (u32s [x % 4294967296, x / 4294967296]).toArray = #[Value.int .u32 ((x : Int) % 4294967296), Value.int .u32 ((x : Int) / 4294967296)] := by
        simp [u32s]
      rw [hq] at hr
      have he : Hid (lim x = [x % 4294967296, x / 4294967296]) := (Can.inj ⟨L32.cons.2 ⟨by omega, L32.cons.2 ⟨by omega, L32.nil⟩⟩, .inr (by simp [nth]; omega)⟩ (lim_can x) (by rw [lim_val]; simp [val]; omega)).symm
      have hd1 : decide ((x : Int) < 4294967296) = false := by rw [decide_eq_false_iff_not]; omega
      have HR := Lib.hid hr
      clear h0 hq hr
      go_enter Tryz.func79, Tryz.ntmps79
      go_wp2
      go_ret
      rw [he.out]
      exact ⟨_, _, _, rfl, HR.out, by omega, (Below.refl _ _).alloc (Nat.le_refl _) _⟩

end Go.Proofs.YtpmdcahomkdfmaaGreatDoor

namespace Go.Proofs.YtpmdcahomkdfmaaGreatDoor
open Go.RowKit

theorem ResB.below_append {B k c : Nat} {A : Option Addr} {W w w1 : World} {os : List Nat} {o : Obj} (hbel : Below B W w) (hB : B ≤ w.heap.size) (hres : ResB w B A k c os) (hg : (w.alloc o).grownBy w1 (Value.slice A k c).ownBlock) : Below B W w1 :=
  (hbel.alloc hB _).grown hg (by simp; omega) (by
    intro q hq
    rcases hres.form with ⟨h1, _⟩ | ⟨g1, h1, h2, _⟩
    · rw [h1] at hq; simp [Value.ownBlock] at hq
    · rw [h1] at hq; simp [Value.ownBlock] at hq; omega)
theorem ResB.snoc {w : World} {base g k c' x : Nat} {os : List Nat} (hl : os.length = k) (hI : L8 os) (hx : x < 256)
    (ho : w.ownsRow base 5 1 (.slice (some ⟨g, 0, none⟩) (k + 1) c') (k + 1) (u8s os ++ [.int .u8 (x : Int)])) : ResB w base (some ⟨g, 0, none⟩) (k + 1) c' (os ++ [x]) :=
  ⟨by rw [List.length_append, hl]; rfl, hI.append (L8.one hx), by rw [u8s_append]; exact ho⟩

end Go.Proofs.YtpmdcahomkdfmaaGreatDoor
