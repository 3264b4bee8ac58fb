/-
  Contracts of quot's sure, widen, digits and the questions asked of a cut quotient: exact, odd, toHalf.
  Contracts of quot's digits, and of the questions asked of a cut quotient: exact, odd, toHalf.
  Contracts of quot.divide with each question that it is handed.
  Contract of dec.Settle, in plain words.
-/
import Derived.Test.YtobfeneeehmpcaaGreatDoorYPow
import Derived.Test.YtobfeneeehmpcaaGreatDoorYNparse
import Derived.Test.YtobfeneeehmpcaaGreatDoorYDset
import Derived.Deep.AppendLies
import Derived.Deep.RegionHeld3
import Derived.Test.YtobfeneeehmpcaaGreatDoorYNdiv
import Derived.Test.YtobfeneeehmpcaaGreatDoorYDintc
import Derived.PlainAid
set_option linter.unusedVariables false
set_option linter.unusedSimpArgs false
namespace Go.Proofs.YtobfeneeehmpcaaGreatDoor
open Go.RowKit

/-- A number that may be. -/
structure Fit (xs : List Nat) : Prop where
  can : Can xs
  len : xs.length ≤ 256
theorem Fit.lim {v : Nat} (h : v < bp 256) : Fit (lim v) := ⟨lim_can v, lim_len h⟩
theorem Fit.of_lt {xs : List Nat} (hc : Can xs) (h : val xs < bp 256) : Fit xs := ⟨hc, by
  rcases Nat.lt_or_ge 256 xs.length with h1 | h1
  · have := (long_iff hc).1 h1; omega
  · exact h1⟩
theorem ten_bp {k : Nat} (h : k ≤ 2400) : 10 ^ k < bp 256 := by
  obtain ⟨a, ha⟩ : ∃ a, a = 800 := ⟨_, rfl⟩
  obtain ⟨b, hb⟩ : ∃ b, b = 2400 := ⟨_, rfl⟩
  obtain ⟨c, hc⟩ : ∃ c, c = 256 := ⟨_, rfl⟩
  have h1 : 10 ^ k ≤ 10 ^ b := Nat.pow_le_pow_right (by omega) (by omega)
  have h2 : 10 ^ b = (10 ^ 3) ^ a := by rw [← Nat.pow_mul]; congr 1; omega
  have h3 : (10 ^ 3) ^ a ≤ (2 ^ 10) ^ a := Nat.pow_le_pow_left (by decide) a
  have h4 : (2 ^ 10) ^ a = 2 ^ (10 * a) := (Nat.pow_mul 2 10 a).symm
  have h5 : bp c = 2 ^ (32 * c) := by unfold bp; rw [Nat.pow_mul]
  have h6 : 2 ^ (10 * a) < 2 ^ (32 * c) := Nat.pow_lt_pow_right (by omega) (by omega)
  rw [← hc, h5]
  omega

set_option maxRecDepth 100000 in
theorem sureS_c {A : Option Addr} {n c : Nat} (z : Int) (w : World) : Calls Tryz.prog 130 #[.slice A n c, .int .i64 z] w fun e w' => e = .returned (.slice A n c) ∧ w = w' := by
  go_enter Tryz.func130, Tryz.ntmps130
  go_wp2
  go_ret
  exact ⟨rfl, rfl⟩
/-- The coefficient times ten to the power, as it is if that is below 0. -/
def wd (v : Nat) (p : Int) : Nat := v * 10 ^ p.toNat
set_option maxRecDepth 100000 in
theorem qwiden_c {S : Nat → Prop} {A : Option Addr} {n c : Nat} {xs : List Nat} (p : Int) (w : World) (ha : Rd w S A n xs) (hS : ∀ b, S b → b < w.heap.size) (hx : Fit xs) (hp : -1000000 ≤ p ∧ p ≤ 2400) (hv : wd (val xs) p < bp 256) :
    Calls Tryz.prog 102 #[.slice A n c, .int .i64 p] w fun e w' => ∃ A' n' c' zs, e = .returned (.slice A' n' c') ∧ Res w' w.heap.size A' n' c' zs ∧ Fit zs ∧ val zs = wd (val xs) p ∧ Below w.heap.size w w' := by
  obtain ⟨k, hk⟩ : ∃ k : Nat, (k : Int) = max p 0 := ⟨(max p 0).toNat, by omega⟩
  have hkn : p.toNat = k := by omega
  have hk2 : k ≤ 2400 := by omega
  have hn : n ≤ 256 := by rw [← ha.len]; exact hx.len
  have hPw := fun V => Pow_ok k V hk2
  have HA := Lib.hid ha
  have HS := Lib.hid hS
  have HP := Lib.hid hPw
  have HK := Lib.hid hkn
  obtain ⟨hp1, hp2⟩ := hp
  have HV := Lib.hid hv
  have hmx : max p 0 = (k : Int) := hk.symm
  clear hPw ha hS hkn hv hk
  go_enter Tryz.func102, Tryz.ntmps102
  go_wp2_with fail
  refine (HP.out w).mono ?_
  rintro e w1 ⟨A1, n1, c1, zs, rfl, hr1, hc1, hv1, hb1⟩
  have hf1 : Fit zs := Fit.of_lt hc1 (by rw [hv1]; exact ten_bp hk2)
  have hn1 : n1 ≤ 256 := by rw [← hr1.len]; exact hf1.len
  have hval : val xs * val zs = wd (val xs) p := by rw [hv1]; unfold wd; rw [HK.out]
  have hE := binE_ok hx.can hf1.can hx.len hf1.len (v := val xs * val zs) (by rw [hval]; exact HV.out)
  have hZ := (binE_zero (HA.out.l32) hr1.l32 hE).2.2.2
  have hM := Mul_c (c := c) (d := c1) w1 (HA.out.below hb1 HS.out) hr1.rd (fun b h => by have := HS.out b h; have := hb1.size; omega) (fun b h => h.2) (by omega) (by omega)
  rw [hE, hZ, hval] at hM
  have HM := Lib.hid hM
  have HB1 := Lib.hid hb1
  have hl := Lib.hid (lim_val (wd (val xs) p))
  have hft := Lib.hid (Fit.lim HV.out)
  clear hM hE hZ hval hr1 hc1 hv1 hb1
  go_wp2_with (go_at_call 130; refine (sureS_c _ _).mono ?_; rintro e w' ⟨rfl, rfl⟩)
  refine HM.out.mono ?_
  rintro e w2 ⟨A2, n2, c2, rfl, hr2, hb2⟩
  have HR2 := Lib.hid (hr2.more HB1.out.size)
  have HB2 := Lib.hid (HB1.out.trans (hb2.mono HB1.out.size))
  clear hr2 hb2
  go_wp2_with (go_at_call 130; refine (sureS_c _ _).mono ?_; rintro e w' ⟨rfl, rfl⟩)
  go_ret
  exact ⟨A2, n2, c2, _, rfl, HR2.out, hft.out, hl.out, HB2.out⟩
end Go.Proofs.YtobfeneeehmpcaaGreatDoor

namespace Go.Proofs.YtobfeneeehmpcaaGreatDoor
open Go.RowKit

/-- A cut quotient. -/
abbrev cutV (A1 : Option Addr) (n1 c1 : Nat) (A2 : Option Addr) (n2 c2 : Nat) (A3 : Option Addr) (n3 c3 : Nat) : Value := .agg #[.slice A1 n1 c1, .slice A2 n2 c2, .slice A3 n3 c3]
set_option maxRecDepth 100000 in
theorem exact_c {A1 A2 A3 : Option Addr} {n1 c1 n2 c2 n3 c3 : Nat} (w : World) : Calls Tryz.prog 49 #[cutV A1 n1 c1 A2 n2 c2 A3 n3 c3] w fun e w' => e = .returned (.bool (decide (n2 = 0))) ∧ Below w.heap.size w w' := by
  have m0 := World.alloc_heap_new w (.cells #[.slice A1 n1 c1, .slice A2 n2 c2, .slice A3 n3 c3] 75)
  by_cases h : n2 = 0
  · subst h
    go_enter Tryz.func49, Tryz.ntmps49
    go_wp2
    go_ret
    exact ⟨rfl, (Below.refl _ _).alloc (Nat.le_refl _) _⟩
  · have hn : ((n2 : Int) == 0) = false := by rw [beq_eq_false_iff_ne]; omega
    rw [decide_eq_false h]
    clear h
    go_enter Tryz.func49, Tryz.ntmps49
    go_wp2
    go_ret
    exact ⟨rfl, (Below.refl _ _).alloc (Nat.le_refl _) _⟩
end Go.Proofs.YtobfeneeehmpcaaGreatDoor

namespace Go.Proofs.YtobfeneeehmpcaaGreatDoor
open Go.RowKit

/-- The error of Settle ahead of settling. -/
def seE (xs : List Nat) (exp : Int) : Nat := if chk xs = 0 then (if -4000 ≤ exp ∧ exp ≤ 4000 then 0 else 52) else chk xs

/-- What Settle answers. -/
def sN (neg : Bool) (xs : List Nat) (exp : Int) : Bool := if seE xs exp = 0 then stN neg (val xs) exp else false
def sX (xs : List Nat) (exp : Int) : Int := if seE xs exp = 0 then stX (val xs) exp else 0
def sZ (xs : List Nat) (exp : Int) : List Nat := if seE xs exp = 0 then stZ (val xs) exp else []
def sE (xs : List Nat) (exp : Int) : Nat := if seE xs exp = 0 then stE (val xs) exp else seE xs exp
def SetT (e : Ending) (w' : World) (base : Nat) (neg : Bool) (xs : List Nat) (exp : Int) : Prop := ∃ A n c, e = .returned (.tuple #[dv (sN neg xs exp) A n c (sX xs exp), .int .i64 (sE xs exp : Int)]) ∧ Res w' base A n c (sZ xs exp)
theorem setT_of {e : Ending} {w' : World} {base E : Nat} {neg : Bool} {xs : List Nat} {exp : Int} (hE : seE xs exp = E) (h0 : E ≠ 0 → e = .returned (.tuple #[.agg #[.bool false, .slice none 0 0, .int .i64 0], .int .i64 (E : Int)])) (h1 : E = 0 → ∃ A n c, e = .returned (.tuple #[.agg #[.bool (stN neg (val xs) exp), .slice A n c, .int .i64 (stX (val xs) exp)], .int .i64 (stE (val xs) exp : Int)]) ∧ Res w' base A n c (stZ (val xs) exp)) : SetT e w' base neg xs exp := by
  unfold SetT sN sX sZ sE dv
  by_cases h : E = 0
  · rw [if_pos (hE.trans h), if_pos (hE.trans h), if_pos (hE.trans h), if_pos (hE.trans h)]
    exact h1 h
  · have hn : ¬ seE xs exp = 0 := fun h2 => h (hE.symm.trans h2)
    rw [if_neg hn, if_neg hn, if_neg hn, if_neg hn, hE]
    exact ⟨none, 0, 0, h0 h, Res.nil _ _⟩

set_option maxRecDepth 100000 in
set_option maxHeartbeats 1000000 in
theorem DSettle_v {S : Nat → Prop} {n c : Nat} {A : Option Addr} {xs : List Nat} (neg : Bool) (exp : Int) (w : World) (ha : Rd w S A n xs) (hS : ∀ b, S b → b < w.heap.size) (hn : n ≤ 9223372036854775807) :
    Calls Tryz.prog 41 #[.bool neg, .slice A n c, .int .i64 exp] w fun e w' => SetT e w' w.heap.size neg xs exp ∧ Below w.heap.size w w' := by
  have hb0 : ∀ o, Below w.heap.size w (w.alloc o) := fun o => (Below.refl _ _).alloc (Nat.le_refl _) _
  have hW := hb0 (.cells #[.bool false, .slice none 0 0, .int .i64 0] 24)
  have m0 := World.alloc_heap_new w (.cells #[.bool false, .slice none 0 0, .int .i64 0] 24)
  have hsz : (w.alloc (.cells #[.bool false, .slice none 0 0, .int .i64 0] 24)).heap.size = w.heap.size + 1 := by simp
  have HM0 := Lib.hid m0
  clear m0
  obtain ⟨E, hE⟩ : ∃ E : Nat, Hid (seE xs exp = E) := ⟨_, Lib.hid rfl⟩
  go_enter Tryz.func41, Tryz.ntmps41
  go_wp2_with fail
  have m0 := HM0.out
  clear HM0
  generalize (w.alloc (.cells #[.bool false, .slice none 0 0, .int .i64 0] 24)) = W at m0 hW hsz ⊢
  refine (Print_c (c := c) W (ha.below hW hS) (fun b h => by have := hS b h; omega) hn).mono ?_
  rintro e w1 ⟨s, rfl, hs1, _, hsz1, hb1⟩
  have hw1 := hW.trans (hb1.mono (by omega))
  have m1 := held hb1 (by omega) m0
  have y0 : w1.cell? ⟨w.heap.size, 0, none⟩ = some (.bool false) := cell_of m1 rfl
  have y1 : w1.cell? ⟨w.heap.size, 1, none⟩ = some (.slice none 0 0) := cell_of m1 rfl
  have y2 : w1.cell? ⟨w.heap.size, 2, none⟩ = some (.int .i64 0) := cell_of m1 rfl
  have f0 := frozen_of 0 m1
  have f1 := frozen_of 1 m1
  have f2 := frozen_of 2 m1
  have hs1' := hb1.size
  have hend : Below w.heap.size w (((w1.setCell ⟨w.heap.size, 0, none⟩ (.bool false)).setCell ⟨w.heap.size, 1, none⟩ (.slice none 0 0)).setCell ⟨w.heap.size, 2, none⟩ (.int .i64 0)) :=
    ((hw1.setCell (p := ⟨w.heap.size, 0, none⟩) (Nat.le_refl _) _).setCell (p := ⟨w.heap.size, 1, none⟩) (Nat.le_refl _) _).setCell (p := ⟨w.heap.size, 2, none⟩) (Nat.le_refl _) _
  by_cases h0 : chk xs = 0
  · have hce : (((chk xs : Nat) : Int) != 0) = false := by rw [h0]; rfl
    have HS := Lib.hid (hs1 h0).2
    by_cases hx : -4000 ≤ exp ∧ exp ≤ 4000
    · have hE0 : Hid (E = 0) := by show _ = _; rw [← hE.out]; unfold seE; rw [if_pos h0, if_pos hx]
      obtain ⟨hx1, hx2⟩ := hx
      obtain ⟨d1, d2⟩ := isDec_dig HS.out
      have D2 := Lib.hid d2
      have hS3 := settle_c neg none 0 0 exp s w1 (by omega) d1 (by omega)
      rw [D2.out] at hS3
      unfold rv at hS3
      have HS3 := Lib.hid hS3
      have H0 := Lib.hid h0
      clear hs1 h0 d1 d2 hS3 y0 y1 y2 f0 f1 f2
      go_wp2_with fail
      refine HS3.out.mono ?_
      rintro e w3 ⟨A', n', c', rfl, hr3, hb3⟩
      have m3 := held hb3 (by omega) m1
      have y0 : w3.cell? ⟨w.heap.size, 0, none⟩ = some (.bool false) := cell_of m3 rfl
      have y1 : w3.cell? ⟨w.heap.size, 1, none⟩ = some (.slice none 0 0) := cell_of m3 rfl
      have y2 : w3.cell? ⟨w.heap.size, 2, none⟩ = some (.int .i64 0) := cell_of m3 rfl
      have f0 := frozen_of 0 m3
      have f1 := frozen_of 1 m3
      have f2 := frozen_of 2 m3
      have hw3 := hw1.trans (hb3.mono hw1.size)
      have hlt : w.heap.size < w1.heap.size := by omega
      clear m3 m1 m0
      dsimp only [dv]
      go_wp2
      refine bodyPost_ret (v := .tuple #[.agg #[.bool (stN neg (val xs) exp), .slice A' n' c', .int .i64 (stX (val xs) exp)], .int .i64 (stE (val xs) exp : Int)]) (by simp [results, Tryz.results41, go_sem, y0, y1, y2]) rfl ?_
      refine ⟨setT_of hE.out (fun h => absurd hE0.out h) (fun _ => ⟨A', n', c', rfl, ?_⟩), ?_⟩
      · exact (((hr3.setOther (p := ⟨w.heap.size, 0, none⟩) hlt _).setOther (p := ⟨w.heap.size, 1, none⟩) hlt _).setOther (p := ⟨w.heap.size, 2, none⟩) hlt _).more hw1.size
      · exact ((hw3.setCell (p := ⟨w.heap.size, 0, none⟩) (Nat.le_refl _) _).setCell (p := ⟨w.heap.size, 1, none⟩) (Nat.le_refl _) _).setCell (p := ⟨w.heap.size, 2, none⟩) (Nat.le_refl _) _
    · have hE0 : Hid (E = 52) := by show _ = _; rw [← hE.out]; unfold seE; rw [if_pos h0, if_neg hx]
      have hxx : exp < -4000 ∨ 4000 < exp := by omega
      clear hs1 h0 hx
      rcases hxx with hx | hx
      all_goals
        go_wp2
        refine bodyPost_ret (v := .tuple #[.agg #[.bool false, .slice none 0 0, .int .i64 0], .int .i64 52]) (by simp [results, Tryz.results41, go_sem, y0, y1, y2]) rfl ?_
        refine ⟨setT_of hE.out (fun h => by rw [hE0.out] <;> rfl) (fun h => absurd (hE0.out.symm.trans h) (by decide)), hend⟩
  · have hce : (((chk xs : Nat) : Int) != 0) = true := by rw [bne_iff_ne]; omega
    have hE0 : Hid (E = chk xs) := by show _ = _; rw [← hE.out]; unfold seE; rw [if_neg h0]
    have H0 := Lib.hid h0
    clear hs1 h0
    go_wp2
    refine bodyPost_ret (v := .tuple #[.agg #[.bool false, .slice none 0 0, .int .i64 0], .int .i64 (chk xs : Int)]) (by simp [results, Tryz.results41, go_sem, y0, y1, y2]) rfl ?_
    refine ⟨setT_of hE.out (fun h => by rw [hE0.out] <;> rfl) (fun h => absurd (hE0.out.symm.trans h) H0.out), hend⟩

end Go.Proofs.YtobfeneeehmpcaaGreatDoor
