/-
  Contracts of one, isDigit, isLetter, need and skip.
  Contracts of Space, space, begin and apart.
  An argument that is a row of octets, as the walks of reader's laws want it.
-/
import Derived.Test.YtpjllcengnolkaaGreatDoorPLsc
import Derived.Test.YtpjllcengnolkaaGreatDoorShelf
import Derived.Test.YtpjllcengnolkaaGreatDoorPNlimb
import Derived.Test.YtpjllcengnolkaaGreatDoorRows
import Derived.ProofKit
import Derived.OpenShut
import Derived.SizedLaws
import Derived.Lib.LaidU8
import Derived.PinnedBridge
import Derived.MakeChecks
set_option linter.unusedVariables false
set_option linter.unusedSimpArgs false
namespace Go.Proofs.YtpjllcengnolkaaGreatDoor
open Go.RowKit Go.Lib
variable {B : Nat} {L : List UInt8} {A : Option Addr} {c sb : Nat}

theorem u8I_eq (y z : UInt8) : ((y.toNat : Int) == (z.toNat : Int)) = (y == z) := by
  rw [Bool.eq_iff_iff]; simp only [beq_iff_eq, Int.natCast_inj, UInt8.toNat_inj]
theorem one_c (x : UInt8) (w : World) : Calls Tryz.prog 55 #[.int .u8 (x.toNat : Int)] w fun e w' => e = .returned (.func (.func 71) #[] #[ptr w.heap.size]) ∧ w' = w.alloc (.cells #[.int .u8 (x.toNat : Int)] 5) := by
  have hmf : ∀ (fn : Fn) (first cap : Array Value) (w : World), (Instr.makeFunc fn first cap).run Tryz.prog w = .ok (.func fn first cap) w := fun _ _ _ _ => rfl
  go_enter Tryz.func55, Tryz.ntmps55
  go_wp2
  go_ret
  exact ⟨rfl, rfl⟩
theorem one1_c (x y : UInt8) {b : Nat} (w : World) (hb : w.cell? ⟨b, 0, none⟩ = some (.int .u8 (x.toNat : Int))) : Calls Tryz.prog 71 #[.int .u8 (y.toNat : Int), ptr b] w fun e w' => e = .returned (.bool (y == x)) ∧ w' = w := by
  have hi := u8I_eq y x
  go_enter Tryz.func71, Tryz.ntmps71
  go_wp2
  go_ret
  exact ⟨rfl, rfl⟩
theorem u8_ge (y : UInt8) (n : UInt8) : decide ((n.toNat : Int) ≤ (y.toNat : Int)) = decide (n ≤ y) := by
  rw [Bool.eq_iff_iff]; simp only [decide_eq_true_eq, UInt8.le_iff_toNat_le]; omega
theorem ldigit_c (y : UInt8) (w : World) : Calls Tryz.prog 47 #[.int .u8 (y.toNat : Int)] w fun e w' => e = .returned (.bool (isDg y)) ∧ w' = w := by
  have h1 : isDg y = (decide ((48 : Int) ≤ (y.toNat : Int)) && decide ((y.toNat : Int) ≤ 57)) := by
    unfold isDg
    rw [← u8_ge y 48, ← u8_ge 57 y]; rfl
  rw [h1]
  by_cases g1 : (48 : Int) ≤ (y.toNat : Int)
  · rw [decide_eq_true g1]
    go_enter Tryz.func47, Tryz.ntmps47
    go_wp2
    go_ret
    exact ⟨rfl, rfl⟩
  · rw [decide_eq_false g1]
    go_enter Tryz.func47, Tryz.ntmps47
    go_wp2
    go_ret
    exact ⟨rfl, rfl⟩
def isLt (y : UInt8) : Bool := (97 ≤ y && y ≤ 122) || (65 ≤ y && y ≤ 90)
theorem isLetter_c (y : UInt8) (w : World) : Calls Tryz.prog 80 #[.int .u8 (y.toNat : Int)] w fun e w' => e = .returned (.bool (isLt y)) ∧ w' = w := by
  have h1 : isLt y = (decide ((97 : Int) ≤ (y.toNat : Int)) && decide ((y.toNat : Int) ≤ 122) || (decide ((65 : Int) ≤ (y.toNat : Int)) && decide ((y.toNat : Int) ≤ 90))) := by
    unfold isLt
    rw [← u8_ge y 97, ← u8_ge 122 y, ← u8_ge y 65, ← u8_ge 90 y]; rfl
  rw [h1]
  by_cases g1 : (97 : Int) ≤ (y.toNat : Int) <;> by_cases g2 : (y.toNat : Int) ≤ 122 <;> by_cases g3 : (65 : Int) ≤ (y.toNat : Int)
  all_goals
    simp only [g1, g2, g3, decide_true, decide_false, Bool.true_and, Bool.false_and, Bool.true_or, Bool.false_or]
    go_enter Tryz.func80, Tryz.ntmps80
    go_wp2
    go_ret
    exact ⟨rfl, rfl⟩
theorem num1_c (y : UInt8) (w : World) : Calls Tryz.prog 65 #[.int .u8 (y.toNat : Int)] w fun e w' => e = .returned (.bool (y == 101 || y == 69)) ∧ w' = w := by
  have i1 : ((y.toNat : Int) == 101) = (y == 101) := u8I_eq y 101
  have i2 : ((y.toNat : Int) == 69) = (y == 69) := u8I_eq y 69
  cases g1 : (y == 101)
  all_goals
    rw [g1] at i1
    go_enter Tryz.func65, Tryz.ntmps65
    go_wp2
    go_ret
    exact ⟨rfl, rfl⟩
theorem num2_c (y : UInt8) (w : World) : Calls Tryz.prog 66 #[.int .u8 (y.toNat : Int)] w fun e w' => e = .returned (.bool (y == 43 || y == 45)) ∧ w' = w := by
  have i1 : ((y.toNat : Int) == 43) = (y == 43) := u8I_eq y 43
  have i2 : ((y.toNat : Int) == 45) = (y == 45) := u8I_eq y 45
  cases g1 : (y == 43)
  all_goals
    rw [g1] at i1
    go_enter Tryz.func66, Tryz.ntmps66
    go_wp2
    go_ret
    exact ⟨rfl, rfl⟩
set_option maxRecDepth 100000 in
theorem needOne_c {w : World} {p o : Nat} (E : Env B L A c sb w p o) (x : UInt8) {b : Nat} (hb : w.cell? ⟨b, 0, none⟩ = some (.int .u8 (x.toNat : Int))) :
    Calls Tryz.prog 54 #[ptr sb, .func (.func 71) #[] #[ptr b]] w (Po B L A c sb (fun k => k = sb) o rU w (rNeed (· == x) L p)) := by
  have hpn : ∀ (T : Nat) (v : Value) (w : World), (Instr.panic (.iface T v)).run Tryz.prog w = .halt (.panic (.iface T v)) w := fun _ _ _ => rfl
  have hPK := Lib.hid (peek_c E)
  have hE := Lib.hid E
  have hfit := E.fits
  unfold rNeed
  unfold rPeek at hPK
  cases hx : L[p]? with
  | none =>
    rw [hx] at hPK
    clear E hx
    go_enter Tryz.func54, Tryz.ntmps54
    go_wp2_with (go_at_call 36; refine hPK.out.mono ?_; rintro e w1 ⟨rfl, hb⟩)
    exact ⟨rfl, rfl, hb.mono (fun _ _ h => h.elim)⟩
  | some y =>
    have hp : p < L.length := (List.getElem?_eq_some_iff.1 hx).1
    have hpw : IntKind.i64.wrap ((p : Int) + 1) = (p : Int) + 1 := IntWalk.i64_in _ (by omega)
    rw [hx] at hPK
    clear E hx
    have HC := fun (W : World) (h : But (fun _ => False) w W) => h.cell_some hb (fun h => h)
    obtain ⟨R, hR⟩ : ∃ R, (y == x) = R := ⟨_, rfl⟩
    have hcc := fun (W : World) (h : But (fun _ => False) w W) => one1_c x y W (HC W h)
    rw [hR] at hcc
    simp only [show ((· == x) : UInt8 → Bool) y = R from hR]
    have hCC := Lib.hid hcc
    clear hcc hR HC hb
    go_enter Tryz.func54, Tryz.ntmps54
    go_wp2_with (go_at_call 36; refine hPK.out.mono ?_; rintro e w1 ⟨⟨v, rfl, rfl⟩, E1, hb1⟩)
    obtain ⟨c0, c1, c2⟩ := E1.cells
    have f1 := E1.frozen 1 (by omega)
    have hcc := hCC.out w1 hb1
    have HB := Lib.hid hb1
    have HE1 := Lib.hid E1
    clear hb1 E1 hCC hPK
    cases R
    · go_wp2_with (go_at_call 71; refine hcc.mono ?_; rintro e w2 ⟨rfl, rfl⟩)
      exact ⟨rfl, rfl, HB.out.mono (fun _ _ h => h.elim)⟩
    · go_wp2_with (go_at_call 71; refine hcc.mono ?_; rintro e w2 ⟨rfl, rfl⟩)
      first | go_end0 | refine bodyPost_ret (results_none rfl _ _ _) rfl ?_
      exact ⟨⟨_, rfl, rfl⟩, HE1.out.move (q := p + 1) (by omega), But.setCell (C := fun k => k = sb) (p := ⟨sb, 1, none⟩) (HB.out.mono (fun _ _ h => h.elim)) (.inl rfl) _⟩
set_option maxRecDepth 100000 in
theorem needDg_c {w : World} {p o : Nat} (E : Env B L A c sb w p o)  :
    Calls Tryz.prog 54 #[ptr sb, .func (.func 47) #[] #[]] w (Po B L A c sb (fun k => k = sb) o rU w (rNeed isDg L p)) := by
  have hpn : ∀ (T : Nat) (v : Value) (w : World), (Instr.panic (.iface T v)).run Tryz.prog w = .halt (.panic (.iface T v)) w := fun _ _ _ => rfl
  have hPK := Lib.hid (peek_c E)
  have hE := Lib.hid E
  have hfit := E.fits
  unfold rNeed
  unfold rPeek at hPK
  cases hx : L[p]? with
  | none =>
    rw [hx] at hPK
    clear E hx
    go_enter Tryz.func54, Tryz.ntmps54
    go_wp2_with (go_at_call 36; refine hPK.out.mono ?_; rintro e w1 ⟨rfl, hb⟩)
    exact ⟨rfl, rfl, hb.mono (fun _ _ h => h.elim)⟩
  | some y =>
    have hp : p < L.length := (List.getElem?_eq_some_iff.1 hx).1
    have hpw : IntKind.i64.wrap ((p : Int) + 1) = (p : Int) + 1 := IntWalk.i64_in _ (by omega)
    rw [hx] at hPK
    clear E hx
    skip
    obtain ⟨R, hR⟩ : ∃ R, (isDg y) = R := ⟨_, rfl⟩
    have hcc := fun (W : World) (h : But (fun _ => False) w W) => ldigit_c y W
    rw [hR] at hcc
    simp only [show (isDg : UInt8 → Bool) y = R from hR]
    have hCC := Lib.hid hcc
    clear hcc hR
    go_enter Tryz.func54, Tryz.ntmps54
    go_wp2_with (go_at_call 36; refine hPK.out.mono ?_; rintro e w1 ⟨⟨v, rfl, rfl⟩, E1, hb1⟩)
    obtain ⟨c0, c1, c2⟩ := E1.cells
    have f1 := E1.frozen 1 (by omega)
    have hcc := hCC.out w1 hb1
    have HB := Lib.hid hb1
    have HE1 := Lib.hid E1
    clear hb1 E1 hCC hPK
    cases R
    · go_wp2_with (go_at_call 47; refine hcc.mono ?_; rintro e w2 ⟨rfl, rfl⟩)
      exact ⟨rfl, rfl, HB.out.mono (fun _ _ h => h.elim)⟩
    · go_wp2_with (go_at_call 47; refine hcc.mono ?_; rintro e w2 ⟨rfl, rfl⟩)
      first | go_end0 | refine bodyPost_ret (results_none rfl _ _ _) rfl ?_
      exact ⟨⟨_, rfl, rfl⟩, HE1.out.move (q := p + 1) (by omega), But.setCell (C := fun k => k = sb) (p := ⟨sb, 1, none⟩) (HB.out.mono (fun _ _ h => h.elim)) (.inl rfl) _⟩
set_option maxRecDepth 100000 in
theorem skipOne_c {w : World} {p o : Nat} (E : Env B L A c sb w p o) (x : UInt8) {b : Nat} (hb : w.cell? ⟨b, 0, none⟩ = some (.int .u8 (x.toNat : Int))) :
    Calls Tryz.prog 63 #[ptr sb, .func (.func 71) #[] #[ptr b]] w (Po B L A c sb (fun k => k = sb) o rB w (rSkip (· == x) L p)) := by
  obtain ⟨c0, c1, c2⟩ := E.cells
  have hE := Lib.hid E
  have hfit := E.fits
  have hh := E.here
  unfold rSkip
  cases hx : L[p]? with
  | none =>
    have hp : p = L.length := by have := List.getElem?_eq_none_iff.1 hx; omega
    clear E hx hh
    subst hp
    go_enter Tryz.func63, Tryz.ntmps63
    go_wp2
    go_quiet (fail)
    go_wp2
    go_ret
    exact ⟨⟨_, rfl, rfl⟩, hE.out.stay ((But.refl (fun _ => False) _).drewN _) (fun _ _ h => h) (fun h => h), (But.refl _ _).drewN _⟩
  | some y =>
    have hp : p < L.length := (List.getElem?_eq_some_iff.1 hx).1
    obtain ⟨g, off, hA, hg, cx⟩ := E.oct p y hx
    have hpw : IntKind.i64.wrap ((p : Int) + 1) = (p : Int) + 1 := IntWalk.i64_in _ (by omega)
    have hpn : ((p : Int) == (L.length : Int)) = false := by rw [beq_eq_false_iff_ne]; omega
    clear E hx hh
    subst hA
    obtain ⟨R, hR⟩ : ∃ R, (y == x) = R := ⟨_, rfl⟩
    have f1 := hE.out.frozen 1 (by omega)
    have hcc := fun (m : Nat) => one1_c x y (w.drewN m) hb
    rw [hR] at hcc
    simp only [show ((· == x) : UInt8 → Bool) y = R from hR]
    have hCC := Lib.hid hcc
    clear hcc hR
    go_enter Tryz.func63, Tryz.ntmps63
    go_wp2
    cases R
    · go_quiet ((go_at_call 71; exact Calls.quiet_of_same (hCC.out _)))
      go_wp2
      go_ret
      exact ⟨⟨_, rfl, rfl⟩, hE.out.stay ((But.refl (fun _ => False) _).drewN _) (fun _ _ h => h) (fun h => h), (But.refl _ _).drewN _⟩
    · go_quiet ((go_at_call 71; exact Calls.quiet_of_same (hCC.out _)))
      go_wp2
      go_ret
      exact ⟨⟨_, rfl, rfl⟩, (hE.out.stay ((But.refl (fun _ => False) _).drewN _) (fun _ _ h => h) (fun h => h)).move (q := p + 1) (by omega), But.setCell (C := fun k => k = sb) (p := ⟨sb, 1, none⟩) ((But.refl _ _).drewN _) (.inl rfl) _⟩
set_option maxRecDepth 100000 in
theorem skipDg_c {w : World} {p o : Nat} (E : Env B L A c sb w p o)  :
    Calls Tryz.prog 63 #[ptr sb, .func (.func 47) #[] #[]] w (Po B L A c sb (fun k => k = sb) o rB w (rSkip isDg L p)) := by
  obtain ⟨c0, c1, c2⟩ := E.cells
  have hE := Lib.hid E
  have hfit := E.fits
  have hh := E.here
  unfold rSkip
  cases hx : L[p]? with
  | none =>
    have hp : p = L.length := by have := List.getElem?_eq_none_iff.1 hx; omega
    clear E hx hh
    subst hp
    go_enter Tryz.func63, Tryz.ntmps63
    go_wp2
    go_quiet (fail)
    go_wp2
    go_ret
    exact ⟨⟨_, rfl, rfl⟩, hE.out.stay ((But.refl (fun _ => False) _).drewN _) (fun _ _ h => h) (fun h => h), (But.refl _ _).drewN _⟩
  | some y =>
    have hp : p < L.length := (List.getElem?_eq_some_iff.1 hx).1
    obtain ⟨g, off, hA, hg, cx⟩ := E.oct p y hx
    have hpw : IntKind.i64.wrap ((p : Int) + 1) = (p : Int) + 1 := IntWalk.i64_in _ (by omega)
    have hpn : ((p : Int) == (L.length : Int)) = false := by rw [beq_eq_false_iff_ne]; omega
    clear E hx hh
    subst hA
    obtain ⟨R, hR⟩ : ∃ R, (isDg y) = R := ⟨_, rfl⟩
    have f1 := hE.out.frozen 1 (by omega)
    have hcc := fun (m : Nat) => ldigit_c y (w.drewN m)
    rw [hR] at hcc
    simp only [show (isDg : UInt8 → Bool) y = R from hR]
    have hCC := Lib.hid hcc
    clear hcc hR
    go_enter Tryz.func63, Tryz.ntmps63
    go_wp2
    cases R
    · go_quiet ((go_at_call 47; exact Calls.quiet_of_same (hCC.out _)))
      go_wp2
      go_ret
      exact ⟨⟨_, rfl, rfl⟩, hE.out.stay ((But.refl (fun _ => False) _).drewN _) (fun _ _ h => h) (fun h => h), (But.refl _ _).drewN _⟩
    · go_quiet ((go_at_call 47; exact Calls.quiet_of_same (hCC.out _)))
      go_wp2
      go_ret
      exact ⟨⟨_, rfl, rfl⟩, (hE.out.stay ((But.refl (fun _ => False) _).drewN _) (fun _ _ h => h) (fun h => h)).move (q := p + 1) (by omega), But.setCell (C := fun k => k = sb) (p := ⟨sb, 1, none⟩) ((But.refl _ _).drewN _) (.inl rfl) _⟩
set_option maxRecDepth 100000 in
theorem skipE_c {w : World} {p o : Nat} (E : Env B L A c sb w p o)  :
    Calls Tryz.prog 63 #[ptr sb, .func (.func 65) #[] #[]] w (Po B L A c sb (fun k => k = sb) o rB w (rSkip (fun c => c == 101 || c == 69) L p)) := by
  obtain ⟨c0, c1, c2⟩ := E.cells
  have hE := Lib.hid E
  have hfit := E.fits
  have hh := E.here
  unfold rSkip
  cases hx : L[p]? with
  | none =>
    have hp : p = L.length := by have := List.getElem?_eq_none_iff.1 hx; omega
    clear E hx hh
    subst hp
    go_enter Tryz.func63, Tryz.ntmps63
    go_wp2
    go_quiet (fail)
    go_wp2
    go_ret
    exact ⟨⟨_, rfl, rfl⟩, hE.out.stay ((But.refl (fun _ => False) _).drewN _) (fun _ _ h => h) (fun h => h), (But.refl _ _).drewN _⟩
  | some y =>
    have hp : p < L.length := (List.getElem?_eq_some_iff.1 hx).1
    obtain ⟨g, off, hA, hg, cx⟩ := E.oct p y hx
    have hpw : IntKind.i64.wrap ((p : Int) + 1) = (p : Int) + 1 := IntWalk.i64_in _ (by omega)
    have hpn : ((p : Int) == (L.length : Int)) = false := by rw [beq_eq_false_iff_ne]; omega
    clear E hx hh
    subst hA
    obtain ⟨R, hR⟩ : ∃ R, (y == 101 || y == 69) = R := ⟨_, rfl⟩
    have f1 := hE.out.frozen 1 (by omega)
    have hcc := fun (m : Nat) => num1_c y (w.drewN m)
    rw [hR] at hcc
    simp only [show ((fun c => c == 101 || c == 69) : UInt8 → Bool) y = R from hR]
    have hCC := Lib.hid hcc
    clear hcc hR
    go_enter Tryz.func63, Tryz.ntmps63
    go_wp2
    cases R
    · go_quiet ((go_at_call 65; exact Calls.quiet_of_same (hCC.out _)))
      go_wp2
      go_ret
      exact ⟨⟨_, rfl, rfl⟩, hE.out.stay ((But.refl (fun _ => False) _).drewN _) (fun _ _ h => h) (fun h => h), (But.refl _ _).drewN _⟩
    · go_quiet ((go_at_call 65; exact Calls.quiet_of_same (hCC.out _)))
      go_wp2
      go_ret
      exact ⟨⟨_, rfl, rfl⟩, (hE.out.stay ((But.refl (fun _ => False) _).drewN _) (fun _ _ h => h) (fun h => h)).move (q := p + 1) (by omega), But.setCell (C := fun k => k = sb) (p := ⟨sb, 1, none⟩) ((But.refl _ _).drewN _) (.inl rfl) _⟩
set_option maxRecDepth 100000 in
theorem skipS_c {w : World} {p o : Nat} (E : Env B L A c sb w p o)  :
    Calls Tryz.prog 63 #[ptr sb, .func (.func 66) #[] #[]] w (Po B L A c sb (fun k => k = sb) o rB w (rSkip (fun c => c == 43 || c == 45) L p)) := by
  obtain ⟨c0, c1, c2⟩ := E.cells
  have hE := Lib.hid E
  have hfit := E.fits
  have hh := E.here
  unfold rSkip
  cases hx : L[p]? with
  | none =>
    have hp : p = L.length := by have := List.getElem?_eq_none_iff.1 hx; omega
    clear E hx hh
    subst hp
    go_enter Tryz.func63, Tryz.ntmps63
    go_wp2
    go_quiet (fail)
    go_wp2
    go_ret
    exact ⟨⟨_, rfl, rfl⟩, hE.out.stay ((But.refl (fun _ => False) _).drewN _) (fun _ _ h => h) (fun h => h), (But.refl _ _).drewN _⟩
  | some y =>
    have hp : p < L.length := (List.getElem?_eq_some_iff.1 hx).1
    obtain ⟨g, off, hA, hg, cx⟩ := E.oct p y hx
    have hpw : IntKind.i64.wrap ((p : Int) + 1) = (p : Int) + 1 := IntWalk.i64_in _ (by omega)
    have hpn : ((p : Int) == (L.length : Int)) = false := by rw [beq_eq_false_iff_ne]; omega
    clear E hx hh
    subst hA
    obtain ⟨R, hR⟩ : ∃ R, (y == 43 || y == 45) = R := ⟨_, rfl⟩
    have f1 := hE.out.frozen 1 (by omega)
    have hcc := fun (m : Nat) => num2_c y (w.drewN m)
    rw [hR] at hcc
    simp only [show ((fun c => c == 43 || c == 45) : UInt8 → Bool) y = R from hR]
    have hCC := Lib.hid hcc
    clear hcc hR
    go_enter Tryz.func63, Tryz.ntmps63
    go_wp2
    cases R
    · go_quiet ((go_at_call 66; exact Calls.quiet_of_same (hCC.out _)))
      go_wp2
      go_ret
      exact ⟨⟨_, rfl, rfl⟩, hE.out.stay ((But.refl (fun _ => False) _).drewN _) (fun _ _ h => h) (fun h => h), (But.refl _ _).drewN _⟩
    · go_quiet ((go_at_call 66; exact Calls.quiet_of_same (hCC.out _)))
      go_wp2
      go_ret
      exact ⟨⟨_, rfl, rfl⟩, (hE.out.stay ((But.refl (fun _ => False) _).drewN _) (fun _ _ h => h) (fun h => h)).move (q := p + 1) (by omega), But.setCell (C := fun k => k = sb) (p := ⟨sb, 1, none⟩) ((But.refl _ _).drewN _) (.inl rfl) _⟩
end Go.Proofs.YtpjllcengnolkaaGreatDoor

namespace Go.Proofs.YtpjllcengnolkaaGreatDoor
open Go.RowKit Go.Lib
variable {B : Nat} {L : List UInt8} {A : Option Addr} {c sb : Nat}

theorem forall_u8 {p : UInt8 → Bool} (h : (List.range 256).all (fun n => p n.toUInt8) = true) (x : UInt8) : p x = true := by
  have h1 := List.all_eq_true.1 h x.toNat (List.mem_range.2 x.toNat_lt)
  rwa [show x.toNat.toUInt8 = x from UInt8.ofNat_toNat] at h1
/-- Where an octet stands in a text of the library's. -/
theorem idx_c (s : ByteArray) (x : UInt8) (w : World) : Calls Tryz.prog 21 #[.string s, .int .u8 (x.toNat : Int)] w fun e w' => e = .returned (.int .i64 (indexByte s.data.toList x)) ∧ w' = w := by
  have := Tryz.strings_IndexByte s (x.toNat : Int) w
  rwa [show ((x.toNat : Int)).toNat.toUInt8 = x from by rw [Int.toNat_natCast]; exact UInt8.ofNat_toNat] at this
theorem ws_ib (x : UInt8) : decide (0 ≤ indexByte [32, 9, 10, 13] x) = isWs x := by
  have := forall_u8 (p := fun x => decide (0 ≤ indexByte [32, 9, 10, 13] x) == isWs x) (by kernel_rfl) x
  exact eq_of_beq this
/-- The octets lie in memory below B. -/
def Oct (B : Nat) (L : List UInt8) (A : Option Addr) (w : World) : Prop := ∀ k x, L[k]? = some x → ∃ g off, A = some ⟨g, off, none⟩ ∧ g < B ∧ w.cell? ⟨g, off + k, none⟩ = some (.int .u8 (x.toNat : Int))
/-- Where white space ends that begins at a place. -/
def wsE (L : List UInt8) (p : Nat) : Nat := p + ((L.drop p).takeWhile isWs).length
theorem wsE_le {L : List UInt8} {p : Nat} (h : p ≤ L.length) : wsE L p ≤ L.length := by
  have := (List.takeWhile_sublist (p := isWs) (l := L.drop p)).length_le
  rw [List.length_drop] at this
  unfold wsE; omega
theorem wsE_stop {L : List UInt8} {p : Nat} {x : UInt8} (hx : L[p]? = some x) (h : isWs x = false) : wsE L p = p := by
  obtain ⟨h1, h2⟩ := List.getElem?_eq_some_iff.1 hx
  unfold wsE
  rw [List.drop_eq_getElem_cons h1, h2, List.takeWhile_cons, h]; rfl
theorem wsE_go {L : List UInt8} {p : Nat} {x : UInt8} (hx : L[p]? = some x) (h : isWs x = true) : wsE L p = wsE L (p + 1) := by
  obtain ⟨h1, h2⟩ := List.getElem?_eq_some_iff.1 hx
  unfold wsE
  rw [List.drop_eq_getElem_cons h1, h2, List.takeWhile_cons, h]
  simp; omega
theorem wsE_end {L : List UInt8} : wsE L L.length = L.length := by unfold wsE; simp

set_option maxRecDepth 100000 in
theorem Space_c {w : World} {p : Nat} (ho : Oct B L A w) (hl : L.length ≤ 65536) (hp : p ≤ L.length) :
    Calls Tryz.prog 14 #[.slice A L.length c, .int .i64 (p : Int)] w fun e w' => e = .returned (.int .i64 (wsE L p : Int)) ∧ w' = w := by
  have hmx : (max (p : Int) 0) = (p : Int) := by omega
  have HO := Lib.hid ho
  clear ho
  go_enter Tryz.func14, Tryz.ntmps14
  go_wp2
  go_loopw [1] (fun i wr => ∃ k : Nat, i = .int .i64 (k : Int) ∧ k ≤ L.length ∧ Hid (wsE L p = wsE L k) ∧ wr = w) (fun i _ => L.length - (RowKit.intOf i).toNat)
  case atStart => exact ⟨p, rfl, hp, rfl, rfl⟩
  case round =>
    obtain ⟨k, rfl, hk, hs, rfl⟩ := hrel
    cases hx : L[k]? with
    | none =>
      have hkl : k = L.length := by have := List.getElem?_eq_none_iff.1 hx; omega
      subst hkl
      have hlt : ¬ ((L.length : Int) < (L.length : Int)) := by omega
      clear hx
      go_wp2
      go_ret
      exact ⟨by rw [hs.out, wsE_end]; rfl, rfl⟩
    | some x =>
      have hkl : k < L.length := (List.getElem?_eq_some_iff.1 hx).1
      have hlt : (k : Int) < (L.length : Int) := by omega
      have hkw : IntKind.i64.wrap ((k : Int) + 1) = (k : Int) + 1 := IntWalk.i64_in _ (by omega)
      obtain ⟨g, off, rfl, -, hc⟩ := HO.out k x hx
      have hix := idx_c ⟨#[32, 9, 10, 13]⟩ x wr
      obtain ⟨Z, hZ⟩ : ∃ Z, indexByte [32, 9, 10, 13] x = Z := ⟨_, rfl⟩
      have hws := ws_ib x
      rw [show ([32, 9, 10, 13] : List UInt8) = (⟨#[32, 9, 10, 13]⟩ : ByteArray).data.toList from rfl] at hZ
      rw [hZ] at hix
      rw [show indexByte [32, 9, 10, 13] x = Z from hZ] at hws
      have HIX := Lib.hid hix
      have HX := Lib.hid hx
      have HW := Lib.hid hws
      clear hix hx hws hZ
      by_cases hz : 0 ≤ Z
      · have hn : Hid (wsE L p = wsE L (k + 1)) := by
          show _ = _
          rw [hs.out]; exact wsE_go HX.out (by rw [← HW.out]; exact decide_eq_true hz)
        clear hs
        go_wp2_with (go_at_call 21; refine HIX.out.mono ?_; rintro e w2 ⟨rfl, rfl⟩)
        go_roundw
        case rel => exact ⟨k + 1, by go_num, by omega, hn, by first | trivial | rfl⟩
        case measure => simp [RowKit.intOf]; omega
      · have hn : wsE L p = k := by rw [hs.out]; exact wsE_stop HX.out (by rw [← HW.out]; exact decide_eq_false hz)
        have HN := Lib.hid hn
        clear hs hn
        go_wp2_with (go_at_call 21; refine HIX.out.mono ?_; rintro e w2 ⟨rfl, rfl⟩)
        go_ret
        exact ⟨by rw [HN.out]; rfl, rfl⟩
end Go.Proofs.YtpjllcengnolkaaGreatDoor

namespace Go.Proofs.YtpjllcengnolkaaGreatDoor
open Go.ChangeShapes Go.WideShapes Go.ChangeAt Go.RowKit

theorem cells8 : Tryz.prog.cellsOf 5 = 1 := by kernel_rfl
theorem bytes8 : Tryz.prog.bytesOf 5 = 1 := by kernel_rfl

theorem tabs_of {W : World} {laid : List (String × DataW Unit)} (hL : laidMetH Tryz.prog laid W) (h0 : (laid.all fun x => x.2.handleName?.isNone) = true) (h1 : ("unicode/utf8.first", Rows.laid_unicode_utf8_first) ∈ laid) (h2 : ("unicode/utf8.acceptRanges", Rows.laid_unicode_utf8_acceptRanges) ∈ laid) : Tabs W := by
  rw [MakeChecks.laidMetH_plain _ _ _ h0] at hL
  have r1 := Lib.laidMet.reads hL h1
  have r2 := Lib.laidMet.reads hL h2
  have e1 : Rows.laid_unicode_utf8_first = Lib.firstData := Pinned.utf8First_eq
  have e2 : Rows.laid_unicode_utf8_acceptRanges = Lib.acceptData := by kernel_rfl
  rw [e1] at r1
  rw [e2] at r2
  exact utf8Tabs_of_reads (ρ := Tryz.lays197_ren) { Tryz.lays197 with } ⟨by kernel_rfl, by kernel_rfl, by kernel_rfl, by kernel_rfl, by kernel_rfl, by kernel_rfl, by kernel_rfl⟩ r1 r2

theorem viewO {H : Type} {enc : TypeId × Value → H} {W : World} {fuel : Nat} {a0 : Option Addr} {len cap : Nat} {d : DataW H} {p : List MemPlace}
    (hf : DataW.trod enc Tryz.prog W 0 (fun _ => true) true fuel 22 (Value.slice a0 len cap).cells.toList = some (d, p)) :
    ∃ l : List UInt8, l.length = len ∧ Oct W.heap.size l a0 W ∧ len ≤ cap ∧ (a0 = none → cap = 0) ∧ (d = .nil ∧ len = 0 ∨ ∃ zs sp, zs.length = len ∧ d = .slice (lits .u8 zs) sp) := by
  rcases open_ints Tryz.underlying22 Tryz.underlying5 cells8 hf with ⟨hcs, hx⟩ | ⟨a, len', cap', zs, hcs, _, hl, hm, hz, hx, hcell, hwz⟩
  · simp [Value.cells] at hcs
    obtain ⟨rfl, rfl, rfl⟩ := hcs
    simp only [Prod.mk.injEq] at hx
    obtain ⟨rfl, rfl⟩ := hx
    exact ⟨[], rfl, fun k x hk => by simp at hk, Nat.le_refl _, fun _ => rfl, .inl ⟨rfl, rfl⟩⟩
  · simp [Value.cells] at hcs
    obtain ⟨rfl, rfl, rfl⟩ := hcs
    simp only [Prod.mk.injEq] at hx
    obtain ⟨rfl, rfl⟩ := hx
    simp only [if_true] at hz
    refine ⟨(zs.take len).map fun z => z.toNat.toUInt8, by rw [List.length_map, List.length_take]; omega, fun j x hk => ?_, hl, fun h => by simp at h, .inr ⟨zs.take len, _, by simp; omega, rfl⟩⟩
    have hj := (List.getElem?_eq_some_iff.1 hk).1
    rw [List.length_map, List.length_take] at hj
    obtain ⟨b, off, sp⟩ := a
    have h1 := hcell 0 (by omega)
    have hsp : sp = none := by simpa [Addr.add] using World.cell?_spot h1
    subst hsp
    refine ⟨b, off, rfl, by simpa [Addr.add] using World.block_lt_of_cell? W _ h1, ?_⟩
    have := hcell j (by omega)
    rw [Addr.add_lit] at this
    have hzj : zs[j]? = some (zs[j]'(by omega)) := List.getElem?_eq_getElem (by omega)
    have hgd : zs.getD j 0 = zs[j]'(by omega) := by rw [List.getD_eq_getElem?_getD, hzj]; rfl
    have hwf := hwz _ (List.getElem_mem (show j < zs.length by omega))
    simp [Lit.wf, IntKind.min, IntKind.max, IntKind.signed, IntKind.bits] at hwf
    rw [List.getElem?_map, List.getElem?_take, if_pos (by omega), hzj] at hk
    injection hk with hk
    rw [this, hgd, ← hk, toU8_toNat (by omega) (by omega)]
    congr 2
    omega
end Go.Proofs.YtpjllcengnolkaaGreatDoor
