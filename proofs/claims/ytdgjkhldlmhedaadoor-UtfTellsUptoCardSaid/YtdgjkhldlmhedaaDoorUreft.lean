/-
  Contract of the reference's Text; contract of bolterplain.CopyInts.
-/
import Derived.Test.YtdgjkhldlmhedaaDoorUref
set_option linter.unusedVariables false
set_option linter.unusedSimpArgs false
namespace Go.Proofs.YtdgjkhldlmhedaaDoor
open Go.RowKit Go.Lib

set_option maxRecDepth 100000 in
theorem CopyInts_c {S : Nat → Prop} {n c : Nat} {A : Option Addr} {l : List Int} (w : World) (ha : RdV w S A n (zs64 l)) (hn : n ≤ 17592186044416) :
    Calls Tryd.prog 24 #[.slice A n c] w fun e w' => ∃ A' c', e = .returned (.slice A' n c') ∧ RowV w' w.heap.size 3 A' n c' (zs64 l) ∧ Below w.heap.size w w' := by
  have hl0 : l.length = n := by rw [← ha.len, zs64_length]
  cases A with
  | none =>
    obtain rfl : n = 0 := by
      rcases Nat.eq_zero_or_pos n with h | h
      · exact h
      · obtain ⟨b, off, e, _⟩ := ha.cells h; cases e
    obtain rfl : l = [] := List.eq_nil_of_length_eq_zero hl0
    go_enter Tryd.func24, Tryd.ntmps24
    go_wp2
    go_ret
    exact ⟨none, 0, rfl, RowV.nil _ _ _, Below.refl _ _⟩
  | some ad =>
    obtain ⟨i0, hi, hz0, hz1, hz2⟩ := info_parts info64
    have hl := Lib.hid hl0
    clear hl0
    go_enter Tryd.func24, Tryd.ntmps24
    go_wp2_with (at_builtin; refine wpList_append_own _ rfl (.tmp 4) (.tmp 5) _ rfl w.heap.size 3 i0 (.int .i64 0) 1 8 Tryd.underlying27 hi hz0 hz1 hz2 rfl (by decide) (.slice none 0 0) 0 [] rfl (World.ownsRow_nil _ _ _ _) ad n c (zs64 l) rfl (by rw [zs64_length, hl.out, Nat.mul_one]) ha.cellsAt (zs64_one l) (by unfold maxLen; omega) (by omega) (by simp) ?_; intro v' w1 hown1 hg1 _)
    go_ret
    rw [Nat.zero_add, List.nil_append] at hown1
    obtain ⟨A', c', e, hr⟩ := RowV.of_row (by rw [zs64_length, hl.out]) hown1
    subst e
    exact ⟨A', c', rfl, hr, (Below.refl _ w).grown hg1 (by simp) (by intro k hk; simp [Value.ownBlock] at hk)⟩

theorem RowV.below_self {w w1 : World} {base n c : Nat} {t : TypeId} {A : Option Addr} {vs : List Value} (h : RowV w base t A n c vs) {W : World} (hb : Below base W w) (hB : base ≤ w.heap.size) (hg : w.grownBy w1 (Value.slice A n c).ownBlock) : Below base W w1 :=
  hb.grown hg hB (by
    intro q hq
    rcases h.form with ⟨h1, _⟩ | ⟨g1, h1, h2, _⟩
    · rw [h1] at hq; simp [Value.ownBlock] at hq
    · rw [h1] at hq; simp [Value.ownBlock] at hq; omega)

set_option maxRecDepth 100000 in
set_option maxHeartbeats 1000000 in
theorem RText_c {S : Nat → Prop} {A : Option Addr} {n c : Nat} {l : List Int} (w : World) (hr : RdV w S A n (zs64 l)) (hS : ∀ b, S b → b < w.heap.size) (hn : n ≤ 17592186044416) :
    Calls Tryd.prog 26 #[.slice A n c] w fun e w' => e = .returned (.tuple #[.string (mk8 (textT l)), .int .i64 (textE l : Int)]) ∧ Below w.heap.size w w' := by
  have hlen : l.length = n := by rw [← hr.len, zs64_length]
  have HLEN := Lib.hid hlen
  have HR := Lib.hid hr
  clear hlen hr
  obtain ⟨TT, hTT⟩ : ∃ x, x = mk8 (textT l) := ⟨_, rfl⟩
  obtain ⟨TE, hTE⟩ : ∃ x, x = textE l := ⟨_, rfl⟩
  rw [← hTT, ← hTE]
  have HTT := Lib.hid hTT
  have HTE := Lib.hid hTE
  clear hTT hTE
  go_enter Tryd.func26, Tryd.ntmps26
  go_wp2
  go_loopw [4, 5] (fun v i wr => ∃ (k : Nat) (A' : Option Addr) (n' c' : Nat), k ≤ n ∧ i = .int .i64 (k : Int) ∧ v = .slice A' n' c' ∧ RowV wr w.heap.size 5 A' n' c' (bs8 (enc (l.take k))) ∧ Below w.heap.size w wr ∧ Hid (badC (l.take k) = false)) (fun _ i _ => n - (RowKit.intOf i).toNat)
  case atStart => exact ⟨0, none, 0, 0, Nat.zero_le _, rfl, rfl, RowV.nil _ _ _, Below.refl _ _, rfl⟩
  case round =>
    obtain ⟨k, A', n', c', hk, rfl, rfl, hrow, hbel, hbad⟩ := hrel
    by_cases hlt : k < n
    · obtain ⟨z, hz⟩ : ∃ z, l[k]? = some z := ⟨l[k]'(by rw [HLEN.out]; exact hlt), List.getElem?_eq_getElem (by rw [HLEN.out]; exact hlt)⟩
      obtain ⟨b, off, rfl, hSb, hc⟩ := (HR.out.below hbel hS).at_ (zs64_get hz)
      have hmy := fun V => may_c z V
      by_cases hch : isCh z
      · rw [show decide (isCh z) = true from decide_eq_true hch] at hmy
        have hn' : n' ≤ 4 * k := by
          rw [← hrow.len, bs8_length]
          have h1 := enc_len_le (l.take k)
          rw [List.length_take] at h1
          omega
        have hstep : enc (l.take (k + 1)) = enc (l.take k) ++ encodeRune z := by
          rw [List.take_add_one, hz, enc_append]
          simp [enc]
        have hb2 : badC (l.take (k + 1)) = false := by rw [badC_take hz, hbad.out, decide_eq_true hch]; rfl
        have hOct := fun V => Octets_c z V hch
        have HB2 := Lib.hid hb2
        have HST := Lib.hid hstep
        have HROW := Lib.hid hrow
        have HBEL := Lib.hid hbel
        have HOCT := Lib.hid hOct
        clear hb2 hstep hrow hbel hOct hch hz hbad
        go_wp2_with fail
        refine (hmy wr).mono ?_
        rintro e w1 ⟨rfl, hw1⟩
        have hw1 := hw1.symm
        subst hw1
        go_wp2_with fail
        refine (HOCT.out wr).mono ?_
        rintro e w2 ⟨m, rfl, hrow2, hbw⟩
        have hro := (HROW.out.below hbw (Nat.le_refl _))
        have hbel2 := HBEL.out.trans (hbw.mono HBEL.out.size)
        have hm : m ≤ 4 ∧ (bs8 (encodeRune z)).length = m := ⟨by have h1 := hrow2.len; rw [bs8_length] at h1; have := enc_len z; omega, hrow2.len⟩
        obtain ⟨hm4, hml⟩ := hm
        have HML := Lib.hid hml
        have hcs := hrow2.rd.cellsAt
        have HCS := Lib.hid hcs
        have HBW := Lib.hid hbel2
        have hsz2 : w.heap.size ≤ w2.heap.size := hbel2.size
        clear hml hcs hbel2 hrow2
        obtain ⟨i0, hi, hz0, hz1, hz2⟩ := info_parts info8
        go_wp2_with (at_builtin; refine wpList_append_own _ rfl (.tmp 18) (.tmp 23) _ rfl w.heap.size 5 i0 (.int .u8 0) 1 1 Tryd.underlying41 hi hz0 hz1 hz2 rfl (by decide) (.slice A' n' c') n' (bs8 (enc (l.take k))) rfl hro.own ⟨wr.heap.size, 0, none⟩ m m (bs8 (encodeRune z)) rfl (by rw [HML.out, Nat.mul_one]) HCS.out (bs8_one _) (by unfold maxLen; omega) (by omega) (by omega) ?_; intro v' w3 hown3 hg3 _)
        obtain ⟨A3, c3, e3, hr3⟩ := RowV.of_row (by rw [List.length_append, hro.len, HML.out]) hown3
        subst e3
        refine ⟨⟨k + 1, A3, n' + m, c3, by omega, by go_num, rfl, ?_, hro.below_self HBW.out hsz2 hg3, HB2.out⟩, by simp [RowKit.intOf]; omega⟩
        rw [HST.out, bs8_append]
        exact hr3
      · rw [show decide (isCh z) = false from decide_eq_false hch] at hmy
        have hbt := badC_mem (List.mem_of_getElem? hz) (by rw [decide_eq_false hch]; rfl)
        have e1 : TE = 4 := by rw [HTE.out]; unfold textE; rw [if_pos hbt]
        have e2 : TT = ⟨#[]⟩ := by rw [HTT.out]; unfold textT; rw [if_pos hbt]; rfl
        subst e1 e2
        clear hch hz hbad hbt
        go_wp2_with fail
        refine (hmy wr).mono ?_
        rintro e w1 ⟨rfl, hw1⟩
        have hw1 := hw1.symm
        subst hw1
        go_wp2
        go_ret2
        exact ⟨rfl, hbel⟩
    · obtain rfl : k = n := by omega
      have htk : l.take k = l := List.take_of_length_le (by rw [HLEN.out]; exact Nat.le_refl _)
      have hbf := hbad.out
      rw [htk] at hbf hrow
      have e1 : TE = 0 := by rw [HTE.out]; unfold textE; rw [hbf]; rfl
      have e2 : TT = mk8 (enc l) := by rw [HTT.out]; unfold textT; rw [hbf]; rfl
      subst e1 e2
      have hcv := hrow.rd.conv (c := c')
      clear hbad hbf htk
      go_wp2
      go_ret2
      exact ⟨rfl, hbel⟩
end Go.Proofs.YtdgjkhldlmhedaaDoor
