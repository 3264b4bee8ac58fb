/-
  Contract of utf.Text, and of what it calls.
-/
import Derived.Test.YtdgjkhldlmhedaaDoorUslice
set_option linter.unusedVariables false
set_option linter.unusedSimpArgs false
namespace Go.Proofs.YtdgjkhldlmhedaaDoor
open Go.RowKit Go.Lib

theorem isCharacter_c (z : Int) (w : World) (h1 : -9223372036854775808 ≤ z) (h2 : z ≤ 9223372036854775807) :
    Calls Tryd.prog 40 #[.int .i64 z] w fun e w' => e = .returned (.bool (decide (isCh z))) ∧ w' = w := by
  by_cases h0 : 0 ≤ z
  · by_cases h3 : z ≤ 1114111
    · have hv := fun W => Tryd.utf8_ValidRune z W
      have he : Lib.validRune z = decide (isCh z) := by
        rw [Bool.eq_iff_iff, decide_eq_true_eq]
        unfold Lib.validRune isCh
        constructor
        · intro h
          simp at h
          omega
        · intro h
          simp
          omega
      rw [he] at hv
      have hwr : IntKind.i32.wrap z = z := IntWalk.i32_in _ (by omega)
      generalize decide (isCh z) = B at hv ⊢
      clear he
      go_enter Tryd.func40, Tryd.ntmps40
      go_wp2_with fail
      refine (hv w).mono ?_
      rintro e w' ⟨rfl, hw'⟩
      subst hw'
      go_wp2
      go_ret
      exact ⟨rfl, rfl⟩
    · rw [show decide (isCh z) = false by rw [decide_eq_false_iff_not]; unfold isCh; omega]
      have h4 : 1114111 < z := by omega
      clear h3
      go_enter Tryd.func40, Tryd.ntmps40
      go_wp2
      go_ret
      exact ⟨rfl, rfl⟩
  · rw [show decide (isCh z) = false by rw [decide_eq_false_iff_not]; unfold isCh; omega]
    have h4 : z < 0 := by omega
    clear h0
    go_enter Tryd.func40, Tryd.ntmps40
    go_wp2
    go_ret
    exact ⟨rfl, rfl⟩
theorem Text1_c (z : Int) (w : World) (h1 : -9223372036854775808 ≤ z) (h2 : z ≤ 9223372036854775807) :
    Calls Tryd.prog 39 #[.int .i64 z] w fun e w' => e = .returned (.bool (!decide (isCh z))) ∧ w' = w := by
  have hv := isCharacter_c z w h1 h2
  generalize decide (isCh z) = B at hv ⊢
  go_enter Tryd.func39, Tryd.ntmps39
  go_wp2_with fail
  refine hv.mono ?_
  rintro e w' ⟨rfl, hw'⟩
  subst hw'
  go_wp2
  go_ret
  exact ⟨rfl, rfl⟩

/-- Numbers that fit. -/
def L64 (l : List Int) : Prop := ∀ z ∈ l, -9223372036854775808 ≤ z ∧ z ≤ 9223372036854775807
def badC (l : List Int) : Bool := l.any fun z => !decide (isCh z)
theorem badC_take {l : List Int} {k : Nat} {z : Int} (h : l[k]? = some z) : badC (l.take (k + 1)) = (badC (l.take k) || !decide (isCh z)) := by
  unfold badC
  rw [List.take_add_one, h, List.any_append]
  simp
theorem badC_mem {l : List Int} {z : Int} (h : z ∈ l) (hz : (!decide (isCh z)) = true) : badC l = true := by
  unfold badC
  rw [List.any_eq_true]
  exact ⟨z, h, hz⟩

set_option maxRecDepth 100000 in
theorem IndexFunc_c {S : Nat → Prop} {A : Option Addr} {n c : Nat} {l : List Int} (w : World) (hr : RdV w S A n (zs64 l)) (hl : L64 l) (hn : n ≤ 17592186044416) :
    Calls Tryd.prog 50 #[.slice A n c, .func (.func 39) #[] #[]] w fun e w' => (∃ r : Int, e = .returned (.int .i64 r) ∧ decide (0 ≤ r) = badC l) ∧ w' = w := by
  have hlen : l.length = n := by rw [← hr.len, zs64_length]
  have HL := Lib.hid hlen
  have HR := Lib.hid hr
  have H64 := Lib.hid hl
  clear hlen hr hl
  go_enter Tryd.func50, Tryd.ntmps50
  go_wp2
  go_loopw [8] (fun i wr => ∃ k : Nat, k ≤ n ∧ i = .int .i64 (k : Int) ∧ Hid (badC (l.take k) = false) ∧ wr = w) (fun i _ => n - (RowKit.intOf i).toNat)
  case atStart => exact ⟨0, Nat.zero_le _, rfl, rfl, rfl⟩
  case round =>
    obtain ⟨k, hk, rfl, hbad, rfl⟩ := hrel
    by_cases hlt : k < n
    · obtain ⟨z, hz⟩ : ∃ z, l[k]? = some z := ⟨l[k]'(by rw [HL.out]; exact hlt), List.getElem?_eq_getElem (by rw [HL.out]; exact hlt)⟩
      have hzm := List.mem_of_getElem? hz
      obtain ⟨hz1, hz2⟩ := H64.out z hzm
      obtain ⟨b, off, rfl, hSb, hc⟩ := HR.out.at_ (zs64_get hz)
      have hstep := badC_take hz
      have HZ := Lib.hid hz
      have HS := Lib.hid hstep
      have HM := Lib.hid hzm
      have hv := fun W => Text1_c z W hz1 hz2
      clear hz hstep hzm
      by_cases hch : isCh z
      · rw [show decide (isCh z) = true from decide_eq_true hch] at hv
        have hs2 := Lib.hid (show badC (l.take (k + 1)) = false by rw [HS.out, hbad.out, show decide (isCh z) = true from decide_eq_true hch]; rfl)
        clear hch
        go_wp2_with fail
        refine (hv _).mono ?_
        rintro e w' ⟨rfl, hw'⟩
        subst hw'
        go_wp2
        exact ⟨⟨k + 1, by omega, by go_num, hs2, trivial⟩, by simp [RowKit.intOf]; omega⟩
      · rw [show decide (isCh z) = false from decide_eq_false hch] at hv
        have hs2 := Lib.hid (show badC l = true from badC_mem HM.out (by rw [show decide (isCh z) = false from decide_eq_false hch]; rfl))
        clear hch
        go_wp2_with fail
        refine (hv _).mono ?_
        rintro e w' ⟨rfl, hw'⟩
        subst hw'
        go_wp2
        go_ret
        exact ⟨⟨_, rfl, by rw [hs2.out, decide_eq_true_eq]; omega⟩, rfl⟩
    · obtain rfl : k = n := by omega
      have hs2 := Lib.hid (show badC l = false by have := hbad.out; rwa [List.take_of_length_le (by rw [HL.out]; exact Nat.le_refl _)] at this)
      clear hbad
      go_wp2
      go_ret
      exact ⟨⟨_, rfl, by rw [hs2.out]; rfl⟩, rfl⟩
theorem ContainsFunc_c {S : Nat → Prop} {A : Option Addr} {n c : Nat} {l : List Int} (w : World) (hr : RdV w S A n (zs64 l)) (hl : L64 l) (hn : n ≤ 17592186044416) :
    Calls Tryd.prog 38 #[.slice A n c, .func (.func 39) #[] #[]] w fun e w' => e = .returned (.bool (badC l)) ∧ w' = w := by
  have h := IndexFunc_c (c := c) w hr hl hn
  generalize badC l = B at h ⊢
  clear hr hl
  go_enter Tryd.func38, Tryd.ntmps38
  go_wp2_with fail
  refine h.mono ?_
  rintro e w' ⟨⟨r, rfl, hr⟩, hw'⟩
  subst hw'
  subst hr
  go_wp2
  go_ret
  exact ⟨rfl, rfl⟩
end Go.Proofs.YtdgjkhldlmhedaaDoor
