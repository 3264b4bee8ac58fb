/-
  Contract of utf.Text: the walk.
-/
import Derived.Test.YtdgjkhldlmhedaaDoorUtextb
set_option linter.unusedVariables false
set_option linter.unusedSimpArgs false
namespace Go.Proofs.YtdgjkhldlmhedaaDoor
open Go.RowKit Go.Lib

theorem badC_ok {l : List Int} {k : Nat} {z : Int} (h : badC l = false) (hz : l[k]? = some z) : isCh z := badC_false h z (List.mem_of_getElem? hz)

set_option maxRecDepth 100000 in
set_option maxHeartbeats 1000000 in
theorem Text_c {S : Nat → Prop} {A : Option Addr} {n c : Nat} {l : List Int} (w : World) (hr : RdV w S A n (zs64 l)) (hS : ∀ b, S b → b < w.heap.size) (hl : L64 l) (hn : n ≤ 17592186044416) :
    Calls Tryd.prog 25 #[.slice A n c] w fun e w' => e = .returned (.tuple #[.string (mk8 (textT l)), .int .i64 (textE l : Int)]) ∧ Below w.heap.size w w' := by
  have hlen : l.length = n := by rw [← hr.len, zs64_length]
  have hC := ContainsFunc_c (c := c) w hr hl hn
  by_cases hbad : badC l = true
  · have e1 : textE l = 4 := by unfold textE; rw [if_pos hbad]
    have e2 : textT l = [] := by unfold textT; rw [if_pos hbad]
    rw [e1, e2]
    rw [hbad] at hC
    clear e1 e2 hbad hlen hr hl
    go_enter Tryd.func25, Tryd.ntmps25
    go_wp2_with fail
    refine hC.mono ?_
    rintro e w1 ⟨rfl, hw1⟩
    have hw1 := hw1.symm
    subst hw1
    go_wp2
    go_ret2
    exact ⟨rfl, Below.refl _ _⟩
  · have hbf : badC l = false := by simpa using hbad
    have e1 : textE l = 0 := by unfold textE; rw [if_neg hbad]
    have e2 : textT l = enc l := by unfold textT; rw [if_neg hbad]
    rw [e1, e2]
    rw [hbf] at hC
    have hmk := fun W => makeB_at (z := (n : Int)) n rfl (by omega) W
    have HLEN := Lib.hid hlen
    have HR := Lib.hid hr
    have HBF := Lib.hid hbf
    have HE := Lib.hid (show (enc l).length ≤ 4 * n by rw [← hlen]; exact enc_len_le l)
    clear e1 e2 hbad hlen hr hl hbf
    go_enter Tryd.func25, Tryd.ntmps25
    go_wp2_with fail
    refine hC.mono ?_
    rintro e w1 ⟨rfl, hw1⟩
    have hw1 := hw1.symm
    subst hw1
    clear hC
    have hr0 := RowV.roomB w n (by omega)
    have hb0 : Below w.heap.size w (w.alloc (roomB n)) := (Below.refl _ _).alloc (Nat.le_refl _) _
    have HR0 := Lib.hid hr0
    have HB0 := Lib.hid hb0
    clear hr0 hb0
    go_wp2
    go_loopw [4, 14] (fun v i wr => ∃ (k : Nat) (A' : Option Addr) (n' c' : Nat), k ≤ n ∧ i = .int .i64 (k : Int) ∧ v = .slice A' n' c' ∧ RowV wr w.heap.size 5 A' n' c' (bs8 (enc (l.take k))) ∧ Below w.heap.size w wr) (fun _ i _ => n - (RowKit.intOf i).toNat)
    case atStart => exact ⟨0, _, _, _, Nat.zero_le _, rfl, rfl, HR0.out, HB0.out⟩
    case round =>
      obtain ⟨k, A', n', c', hk, rfl, rfl, hrow, hbel⟩ := hrel
      by_cases hlt : k < n
      · obtain ⟨z, hz⟩ : ∃ z, l[k]? = some z := ⟨l[k]'(by rw [HLEN.out]; exact hlt), List.getElem?_eq_getElem (by rw [HLEN.out]; exact hlt)⟩
        have hch := badC_ok HBF.out hz
        obtain ⟨b, off, rfl, hSb, hc⟩ := (HR.out.below hbel hS).at_ (zs64_get hz)
        have hn' : n' ≤ 4 * k := by
          rw [← hrow.len, bs8_length]
          have h1 := enc_len_le (l.take k)
          rw [List.length_take] at h1
          omega
        have hap := append_c z wr hrow hch (by omega) hbel.size
        have hstep : enc (l.take (k + 1)) = enc (l.take k) ++ encodeRune z := by
          rw [List.take_add_one, hz, enc_append]
          simp [enc]
        rw [← hstep] at hap
        have hwr : IntKind.i32.wrap z = z := IntWalk.i32_in _ (by unfold isCh at hch; omega)
        have HAP := Lib.hid hap
        have HROW := Lib.hid hrow
        have HBEL := Lib.hid hbel
        clear hap hrow hbel hstep hz hch
        go_wp2_with fail
        refine HAP.out.mono ?_
        rintro e w2 ⟨A2, n2, c2, rfl, hrow2, o, hg⟩
        have hbel2 := HROW.out.below_append HBEL.out HBEL.out.size hg
        go_wp2
        exact ⟨⟨k + 1, A2, n2, c2, by omega, by go_num, rfl, hrow2, hbel2⟩, by simp [RowKit.intOf]; omega⟩
      · obtain rfl : k = n := by omega
        rw [List.take_of_length_le (by rw [HLEN.out]; exact Nat.le_refl _)] at hrow
        have hcv := hrow.rd.conv (c := c')
        go_wp2
        go_ret2
        exact ⟨rfl, hbel⟩
end Go.Proofs.YtdgjkhldlmhedaaDoor
