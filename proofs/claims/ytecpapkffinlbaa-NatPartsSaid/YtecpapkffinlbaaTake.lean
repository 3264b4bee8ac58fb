/-
  Contract of nat.takeOut: over a window of a row of one's own, it takes the divisor out as often as it goes in, and answers how often.
-/
import Derived.Test.YtecpapkffinlbaaGuess
import Derived.Test.YtecpapkffinlbaaTakem
set_option linter.unusedVariables false
set_option linter.unusedSimpArgs false
namespace Go.Proofs.Ytecpapkffinlbaa
open Go.RowKit

theorem take_lo {R lo P h carry n1 g D : Nat} (hR : R = lo + P * h) (hv : n1 + g * D = lo + P * carry) (hle : carry ≤ h) (hlt : R < (g + 1) * D) (hD : D < P) : n1 + g * D = R ∧ n1 < D := by
  obtain ⟨e, rfl⟩ : ∃ e, h = carry + e := ⟨h - carry, by omega⟩
  rw [Nat.mul_add] at hR
  rw [Nat.add_mul, Nat.one_mul] at hlt
  rcases Nat.eq_zero_or_pos e with h0 | h0
  · subst h0; omega
  · have : P * 1 ≤ P * e := Nat.mul_le_mul_left _ h0
    omega
theorem take_pos {lo P h carry n1 g D : Nat} (hv : n1 + g * D = lo + P * carry) (hlt : h < carry) (hn1 : n1 < P) : 1 ≤ g := by
  rcases Nat.eq_zero_or_pos g with h0 | h0
  · subst h0
    have : P * 1 ≤ P * carry := Nat.mul_le_mul_left _ (by omega)
    omega
  · exact h0
theorem take_hi {R lo P h carry n1 n2 c2 g D : Nat} (hR : R = lo + P * h) (hv : n1 + g * D = lo + P * carry) (hlt : h < carry) (hn1 : n1 < P) (hD : D < P) (hnear : 1 ≤ g → (g - 1) * D ≤ R)
    (hv2 : n2 + P * c2 = n1 + 1 * D) (hn2 : n2 < P) : n2 + (g - 1) * D = R ∧ n2 < D := by
  have hg := take_pos hv hlt hn1
  have hne := hnear hg
  obtain ⟨q, rfl⟩ : ∃ q, g = q + 1 := ⟨g - 1, by omega⟩
  obtain ⟨e, rfl⟩ : ∃ e, carry = h + 1 + e := ⟨carry - h - 1, by omega⟩
  rw [Nat.mul_add, Nat.mul_add, Nat.mul_one] at hv
  rw [Nat.add_sub_cancel] at hne ⊢
  rw [Nat.add_mul, Nat.one_mul] at hv
  rw [Nat.one_mul] at hv2
  rcases Nat.eq_zero_or_pos e with h0 | h0
  · subst h0
    rcases (show c2 = 0 ∨ c2 = 1 ∨ 2 ≤ c2 by omega) with h1 | h1 | h1
    · subst h1; omega
    · subst h1; omega
    · have : P * 2 ≤ P * c2 := Nat.mul_le_mul_left _ h1
      omega
  · have : P * 1 ≤ P * e := Nat.mul_le_mul_left _ h0
    omega

theorem Res.drewN {w : World} {base n c : Nat} {A : Option Addr} {zs : List Nat} (h : Res w base A n c zs) (k : Nat) : Res (w.drewN k) base A n c zs := h.keep fun _ _ => rfl
theorem Rd.only {a w : World} {S : Nat → Prop} {g n : Nat} {A : Option Addr} {xs : List Nat} (h : Rd a S A n xs) (hg : a.grownBy w (some g)) (hS : ∀ b, S b → b ≠ g) : Rd w S A n xs :=
  ⟨h.len, h.l32, fun hn => by
    obtain ⟨b, off, e, hs, hc⟩ := h.cells hn
    exact ⟨b, off, e, hs, fun j hj => only_cell hg (hS b hs) (hc j hj)⟩⟩
theorem Res.window {w : World} {base n c g : Nat} {pre old post : List Nat} (h : Res w base (some ⟨g, 0, none⟩) n c (pre ++ (old ++ post))) : Rd w (fun b => b = g) (some ⟨g, pre.length, none⟩) old.length old := by
  have hl := h.len
  simp only [List.length_append] at hl
  refine ⟨rfl, (L32.append.1 (L32.append.1 h.l32).2).1, fun _ => ⟨g, pre.length, rfl, rfl, fun j hj => ?_⟩⟩
  rw [h.cell (by omega), nth_append_right (by omega), nth_append_left (by omega), show pre.length + j - pre.length = j by omega]

set_option maxRecDepth 100000 in
theorem takeOut_c {S : Nat → Prop} {base g n c m c2 c3 : Nat} {B : Option Addr} {old ys : List Nat} (pre post : List Nat) (off : Nat) (w : World) (hoff : off = pre.length)
    (hown : Res w base (some ⟨g, 0, none⟩) n c (pre ++ (old ++ post))) (hlen : old.length = m + 3) (hy : Rd w S B (m + 2) ys) (hS : ∀ b, S b → b ≠ g) (hm : m ≤ 1000000) (hc2 : m + 3 ≤ c2)
    (hv1 : 2147483648 ≤ nth ys (m + 1)) (hlow : val (old.drop 1) < val ys) :
    Calls Try.prog 43 #[.slice (some ⟨g, off, none⟩) (m + 3) c2, .slice B (m + 2) c3] w fun e w' =>
      ∃ q new x, e = .returned (.int .u32 ((q : Nat) : Int)) ∧ q < 4294967296 ∧ new.length = m + 2 ∧ val new + q * val ys = val old ∧ val new < val ys ∧
        Res w' base (some ⟨g, 0, none⟩) n c (pre ++ (new ++ (x :: post))) ∧ ∃ w1, w.grownBy w1 (some g) ∧ w' = w1 := by
  subst hoff
  have hwin := hown.window
  rw [hlen] at hwin
  have hD : val ys < bp (m + 2) := by have := val_lt hy.l32; rwa [hy.len] at this
  have hsp : old.take (m + 2) ++ (nth old (m + 2) :: post) = old ++ post := by
    have h1 := take_succ_nth (xs := old) (k := m + 2) (by omega)
    rw [List.take_of_length_le (by omega)] at h1
    conv => rhs; rw [h1]
    simp
  have hR : val old = val (old.take (m + 2)) + bp (m + 2) * nth old (m + 2) := by
    have h1 := val_take_succ (xs := old) (m + 2)
    rwa [List.take_of_length_le (by omega)] at h1
  have hlt : (old.take (m + 2)).length = m + 2 := by rw [List.length_take]; omega
  have HD := Lib.hid hD
  have HSP := Lib.hid hsp
  have HR := Lib.hid hR
  have HL := Lib.hid hlt
  clear hD hsp hR hlt
  go_enter Try.func43, Try.ntmps43
  go_wp2_with fail
  refine (guessDigit_c w hwin hy (by omega) hv1 hlow).mono ?_
  rintro e w1 ⟨q, rfl, hq, hab, hne, k, rfl⟩
  have HAB := Lib.hid hab
  have HNE := Lib.hid hne
  clear hab hne
  have hown1 := hown.drewN k
  rw [← HSP.out] at hown1
  go_wp2_with fail
  refine (takeMultiple_c (old := old.take (m + 2)) (h := nth old (m + 2)) pre post pre.length q _ rfl hown1 HL.out (hy.drewN k) hS hq (by omega) hc2).mono ?_
  rintro e w2 ⟨n1, carry, rfl, hn1l, hn132, hv, hres2, hg2⟩
  have HN1 := Lib.hid hn1l
  have HV := Lib.hid hv
  have hg0 : w.grownBy w2 (some g) := only_trans (only_drewN (World.grownBy.refl w (some g)) k) hg2
  have hn1v : val n1 < bp (m + 2) := by have := val_lt hn132; rwa [hn1l] at this
  have HN1V := Lib.hid hn1v
  clear hn1l hv hn1v
  by_cases hc : nth old (m + 2) < carry
  · have hq1 := take_pos HV.out hc HN1V.out
    have hy2 : Rd w2 S B (m + 2) ys := hy.only hg0 hS
    go_wp2_with fail
    refine (addMultiple_c (old := n1) pre (nth old (m + 2) :: post) pre.length 1 w2 rfl hres2 HN1.out hy2 hS (by omega) (by omega) (by omega)).mono ?_
    rintro e w3 ⟨n2, c2', rfl, hn2l, hn232, hc2', hv2, hres3, hg3⟩
    have HN2 := Lib.hid hn2l
    have HV2 := Lib.hid hv2
    clear hn2l hv2
    go_wp2
    go_ret
    obtain ⟨f1, f2⟩ := take_hi HR.out HV.out hc HN1V.out HD.out HNE.out HV2.out (by have := val_lt hn232; rwa [HN2.out] at this)
    exact ⟨q - 1, n2, _, congrArg Ending.returned (congrArg (Value.int .u32) (by omega)), by omega, HN2.out, f1, f2, hres3, w3, only_trans hg0 hg3, rfl⟩
  · go_wp2_with fail
    go_ret
    obtain ⟨f1, f2⟩ := take_lo HR.out HV.out (by omega) HAB.out HD.out
    exact ⟨q, n1, _, rfl, hq, HN1.out, f1, f2, hres2, w2, hg0, rfl⟩
end Go.Proofs.Ytecpapkffinlbaa
