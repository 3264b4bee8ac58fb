/-
  The walk of the law UtfBack: it returns true, whatever the text and the numbers are.
-/
import Derived.Test.YtmfjmaojhkkhfaaDoorUsame
set_option linter.unusedVariables false
set_option linter.unusedSimpArgs false
namespace Go.Proofs.YtmfjmaojhkkhfaaDoor
open Go.RowKit Go.Lib

theorem isCh_64 {c : Int} (h : isCh c) : -9223372036854775808 ≤ c ∧ c ≤ 9223372036854775807 := by unfold isCh at h; omega
theorem runesT_64 (L : List UInt8) : L64 (runesT L) := by
  intro z hz
  unfold runesT at hz
  by_cases h : isT L = true
  · rw [if_pos h] at hz; exact isCh_64 (chars_ch h z hz)
  · rw [if_neg h] at hz; cases hz
theorem badC_chars {cs : List Int} (h : ∀ c ∈ cs, isCh c) : badC cs = false := by
  cases hb : badC cs with
  | false => rfl
  | true =>
    unfold badC at hb
    rw [List.any_eq_true] at hb
    obtain ⟨c, hc, h2⟩ := hb
    rw [decide_eq_true (h c hc)] at h2; cases h2
theorem back_text {L : List UInt8} (h : isT L = true) : textE (runesT L) = 0 ∧ textT (runesT L) = L := by
  have e3 : runesT L = chars L := by unfold runesT; rw [if_pos h]
  have hb := badC_chars (chars_ch h)
  rw [e3]
  unfold textE textT
  rw [hb]
  exact ⟨rfl, enc_chars h⟩
theorem back_chars {l : List Int} (h : badC l = false) : errT (textT l) = 0 ∧ runesT (textT l) = l := by
  have hc := badC_false h
  have e1 : textT l = enc l := by unfold textT; rw [h]; rfl
  rw [e1]
  refine ⟨by unfold errT; rw [if_pos (isT_enc hc)], ?_⟩
  unfold runesT
  rw [if_pos (isT_enc hc), chars_enc hc]

set_option maxRecDepth 100000 in
set_option maxHeartbeats 1000000 in
theorem UtfBack_c {S : Nat → Prop} {A : Option Addr} {n c : Nat} {l : List Int} (L : List UInt8) (w : World) (hT : Tabs w) (hs : L.length ≤ 1048576) (hr : RdV w S A n (zs64 l)) (hS : ∀ b, S b → b < w.heap.size) (hl : L64 l) (hn : n ≤ 1048576) :
    Calls Tryd.prog 5 #[.string (mk8 L), .slice A n c] w fun e w' => e = .returned (.bool true) ∧ Below w.heap.size w w' := by
  have hA := fun V (h : Tabs V) => alive4_c V h
  have hlen : l.length = n := by rw [← hr.len, zs64_length]
  have hR1 := fun V (h : Tabs V) => Runes_c (mk8 L) V h (by rw [mk8_size]; omega)
  rw [mk8_L] at hR1
  have hrl : (runesT L).length ≤ L.length := by
    unfold runesT
    by_cases h : isT L = true
    · rw [if_pos h, chars_len]; exact pcs_len L
    · rw [if_neg h]; exact Nat.zero_le _
  have hT1 := fun V (S' : Nat → Prop) A' n' c' (h : RdV V S' A' n' (zs64 (runesT L))) hS' hn' => Text_c (c := c') V h hS' (runesT_64 L) hn'
  have hT2 := fun V (h : RdV V S A n (zs64 l)) hS' => Text_c (c := c) V h hS' hl (by omega)
  have htl : (textT l).length ≤ 4 * n := by
    rw [← hlen]
    unfold textT
    by_cases h : badC l = true
    · rw [if_pos h]; exact Nat.zero_le _
    · rw [if_neg h]; exact enc_len_le l
  have hR2 := fun V (h : Tabs V) => Runes_c (mk8 (textT l)) V h (by rw [mk8_size]; omega)
  rw [mk8_L] at hR2
  have hE1 : (errT L = 0 ∧ textE (runesT L) = 0 ∧ textT (runesT L) = L) ∨ errT L = 61 := by
    by_cases h : isT L = true
    · exact .inl ⟨by unfold errT; rw [if_pos h], back_text h⟩
    · exact .inr (by unfold errT; rw [if_neg h])
  have hE2 : (textE l = 0 ∧ errT (textT l) = 0 ∧ runesT (textT l) = l) ∨ textE l = 4 := by
    by_cases h : badC l = true
    · exact .inr (by unfold textE; rw [if_pos h])
    · exact .inl ⟨by unfold textE; rw [if_neg h], back_chars (by simpa using h)⟩
  generalize hG1 : errT L = E1 at *
  generalize hG2 : textE (runesT L) = E2 at *
  generalize hG3 : textT (runesT L) = M1 at *
  generalize hG4 : textE l = E3 at *
  generalize hG5 : textT l = M2 at *
  generalize hG6 : errT M2 = E4 at *
  generalize hG7 : runesT M2 = M3 at *
  generalize hG8 : runesT L = M4 at *
  clear hG1 hG2 hG3 hG4 hG5 hG6 hG7 hG8
  have HA := Lib.hid hA
  have HR1 := Lib.hid hR1
  have HT1 := Lib.hid hT1
  have HT2 := Lib.hid hT2
  have HR2 := Lib.hid hR2
  have HE1 := Lib.hid hE1
  have HE2 := Lib.hid hE2
  have HT := Lib.hid hT
  have HR := Lib.hid hr
  have HLEN := Lib.hid hlen
  have HRL := Lib.hid hrl
  clear hA hR1 hT1 hT2 hR2 hE1 hE2 hT hr hl hlen htl hrl
  go_enter Tryd.func5, Tryd.ntmps5
  go_wp2_with fail
  refine (HA.out w HT.out).mono ?_
  rintro e w1 ⟨rfl, hb1⟩
  go_wp2_with fail
  refine (HR1.out w1 (HT.out.below hb1)).mono ?_
  rintro e w2 ⟨A1, n1, c1, rfl, r1, hb2⟩
  have hb2 := hb1.trans (hb2.mono hb1.size)
  have hn1 : n1 ≤ 1048576 := by have := r1.len; rw [zs64_length] at this; have := HRL.out; omega
  go_wp2_with fail
  refine (HT1.out w2 _ A1 n1 c1 r1.rd (fun b h => h.2) (by omega)).mono ?_
  rintro e w3 ⟨rfl, hb3⟩
  have hb3 := hb2.trans (hb3.mono hb2.size)
  go_wp2_with fail
  refine (HT2.out w3 (HR.out.below hb3 hS) (fun b h => by have := hS b h; have := hb3.size; omega)).mono ?_
  rintro e w4 ⟨rfl, hb4⟩
  have hb4 := hb3.trans (hb4.mono hb3.size)
  go_wp2_with fail
  refine (HR2.out w4 (HT.out.below hb4)).mono ?_
  rintro e w5 ⟨A2, n2, c2, rfl, r2, hb5⟩
  have hb5 := hb4.trans (hb5.mono hb4.size)
  have hrw := HR.out.below hb5 hS
  have HRW := Lib.hid hrw
  clear hrw r1
  have HE2b : Hid (E3 = 0 ∧ E4 = 0 ∧ (∀ V, RowV V w4.heap.size 3 A2 n2 c2 (zs64 M3) → RdV V S A n (zs64 l) → Calls Tryd.prog 20 #[.slice A2 n2 c2, .slice A n c] V fun e w' => e = .returned (.bool true) ∧ Below V.heap.size V w') ∨ E3 = 4) := by
    rcases HE2.out with ⟨h1, h2, h3⟩ | h
    · refine .inl ⟨h1, h2, fun V g1 g2 => ?_⟩
      have : n2 = n := by rw [← g1.len, zs64_length, h3, HLEN.out]
      subst this
      rw [h3] at g1
      exact SameInts_eq V g1.rd g2 (by omega)
    · exact .inr h
  have R2 := Lib.hid r2
  clear r2
  rcases HE1.out with ⟨rfl, rfl, rfl⟩ | rfl
  · rcases HE2b.out with ⟨rfl, rfl, hsm⟩ | rfl
    · have HSM := Lib.hid (hsm w5 R2.out HRW.out)
      clear hsm
      go_wp2_with (first
        | (go_at_call 19; refine (num4_c _ _).mono ?_; rintro e w' ⟨rfl, rfl⟩)
        | (refine HSM.out.mono ?_; rintro e w6 ⟨rfl, hb6⟩))
      go_ret
      exact ⟨rfl, hb5.trans (hb6.mono hb5.size)⟩
    · go_wp2_with (go_at_call 19; refine (num4_c _ _).mono ?_; rintro e w' ⟨rfl, rfl⟩)
      go_ret
      exact ⟨rfl, hb5⟩
  · rcases HE2b.out with ⟨rfl, rfl, hsm⟩ | rfl
    · have HSM := Lib.hid (hsm w5 R2.out HRW.out)
      clear hsm
      go_wp2_with (first
        | (go_at_call 19; refine (num4_c _ _).mono ?_; rintro e w' ⟨rfl, rfl⟩)
        | (refine HSM.out.mono ?_; rintro e w6 ⟨rfl, hb6⟩))
      go_ret
      exact ⟨rfl, hb5.trans (hb6.mono hb5.size)⟩
    · go_wp2_with (go_at_call 19; refine (num4_c _ _).mono ?_; rintro e w' ⟨rfl, rfl⟩)
      go_ret
      exact ⟨rfl, hb5⟩
end Go.Proofs.YtmfjmaojhkkhfaaDoor
