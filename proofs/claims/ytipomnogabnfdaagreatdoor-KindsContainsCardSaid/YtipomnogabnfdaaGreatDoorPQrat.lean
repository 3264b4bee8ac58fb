/-
  Contract of dec.Settle, in plain words.
  A quotient rounded to the nearest, the place of its first digit, a root's places; digits as texts stand in the order of fractions. Plain lemmas, no Go.
  Contract of quot.ratio: the quotient of two decimals that may be, the second not 0, rounded and settled. Written by gen_ratio.py.
  Contracts of quot.divide with each of the questions that Floor, Ceil and Round hand in, and of quot.whole with each. Written by gen_whole.py.
  Contract of quot.root: the root of a decimal that may be, cut and settled. Written by gen_root.py.
-/
import Derived.Test.YtipomnogabnfdaaGreatDoorPDop
import Derived.PlainAid
import Derived.Test.YtipomnogabnfdaaGreatDoorPQcut
import Derived.Test.YtipomnogabnfdaaGreatDoorPVord
import Derived.Deep.CutRange
import Derived.Laws.Cover1
set_option linter.unusedVariables false
set_option linter.unusedSimpArgs false
namespace Go.Proofs.YtipomnogabnfdaaGreatDoor
open Go.RowKit

/-- The error of Settle ahead of settling. -/
def seE (xs : List Nat) (exp : Int) : Nat := if chk xs = 0 then (if -4000 ≤ exp ∧ exp ≤ 4000 then 0 else 52) else chk xs

/-- What Settle answers. -/
def sN (neg : Bool) (xs : List Nat) (exp : Int) : Bool := if seE xs exp = 0 then stN neg (val xs) exp else false
def sX (xs : List Nat) (exp : Int) : Int := if seE xs exp = 0 then stX (val xs) exp else 0
def sZ (xs : List Nat) (exp : Int) : List Nat := if seE xs exp = 0 then stZ (val xs) exp else []
def sE (xs : List Nat) (exp : Int) : Nat := if seE xs exp = 0 then stE (val xs) exp else seE xs exp
def SetT (e : Ending) (w' : World) (base : Nat) (neg : Bool) (xs : List Nat) (exp : Int) : Prop := ∃ A n c, e = .returned (.tuple #[dv (sN neg xs exp) A n c (sX xs exp), .int .i64 (sE xs exp : Int)]) ∧ Res w' base A n c (sZ xs exp)
theorem setT_of {e : Ending} {w' : World} {base E : Nat} {neg : Bool} {xs : List Nat} {exp : Int} (hE : seE xs exp = E) (h0 : E ≠ 0 → e = .returned (.tuple #[.agg #[.bool false, .slice none 0 0, .int .i64 0], .int .i64 (E : Int)])) (h1 : E = 0 → ∃ A n c, e = .returned (.tuple #[.agg #[.bool (stN neg (val xs) exp), .slice A n c, .int .i64 (stX (val xs) exp)], .int .i64 (stE (val xs) exp : Int)]) ∧ Res w' base A n c (stZ (val xs) exp)) : SetT e w' base neg xs exp := by
  unfold SetT sN sX sZ sE dv
  by_cases h : E = 0
  · rw [if_pos (hE.trans h), if_pos (hE.trans h), if_pos (hE.trans h), if_pos (hE.trans h)]
    exact h1 h
  · have hn : ¬ seE xs exp = 0 := fun h2 => h (hE.symm.trans h2)
    rw [if_neg hn, if_neg hn, if_neg hn, if_neg hn, hE]
    exact ⟨none, 0, 0, h0 h, Res.nil _ _⟩

set_option maxRecDepth 100000 in
set_option maxHeartbeats 1000000 in
theorem DSettle_v {S : Nat → Prop} {n c : Nat} {A : Option Addr} {xs : List Nat} (neg : Bool) (exp : Int) (w : World) (ha : Rd w S A n xs) (hS : ∀ b, S b → b < w.heap.size) (hn : n ≤ 9223372036854775807) :
    Calls Tryz.prog 62 #[.bool neg, .slice A n c, .int .i64 exp] w fun e w' => SetT e w' w.heap.size neg xs exp ∧ Below w.heap.size w w' := by
  have hb0 : ∀ o, Below w.heap.size w (w.alloc o) := fun o => (Below.refl _ _).alloc (Nat.le_refl _) _
  have hW := hb0 (.cells #[.bool false, .slice none 0 0, .int .i64 0] 24)
  have m0 := World.alloc_heap_new w (.cells #[.bool false, .slice none 0 0, .int .i64 0] 24)
  have hsz : (w.alloc (.cells #[.bool false, .slice none 0 0, .int .i64 0] 24)).heap.size = w.heap.size + 1 := by simp
  have HM0 := Lib.hid m0
  clear m0
  obtain ⟨E, hE⟩ : ∃ E : Nat, Hid (seE xs exp = E) := ⟨_, Lib.hid rfl⟩
  go_enter Tryz.func62, Tryz.ntmps62
  go_wp2_with fail
  have m0 := HM0.out
  clear HM0
  generalize (w.alloc (.cells #[.bool false, .slice none 0 0, .int .i64 0] 24)) = W at m0 hW hsz ⊢
  refine (Print_c (c := c) W (ha.below hW hS) (fun b h => by have := hS b h; omega) hn).mono ?_
  rintro e w1 ⟨s, rfl, hs1, _, hsz1, hb1⟩
  have hw1 := hW.trans (hb1.mono (by omega))
  have m1 := held hb1 (by omega) m0
  have y0 : w1.cell? ⟨w.heap.size, 0, none⟩ = some (.bool false) := cell_of m1 rfl
  have y1 : w1.cell? ⟨w.heap.size, 1, none⟩ = some (.slice none 0 0) := cell_of m1 rfl
  have y2 : w1.cell? ⟨w.heap.size, 2, none⟩ = some (.int .i64 0) := cell_of m1 rfl
  have f0 := frozen_of 0 m1
  have f1 := frozen_of 1 m1
  have f2 := frozen_of 2 m1
  have hs1' := hb1.size
  have hend : Below w.heap.size w (((w1.setCell ⟨w.heap.size, 0, none⟩ (.bool false)).setCell ⟨w.heap.size, 1, none⟩ (.slice none 0 0)).setCell ⟨w.heap.size, 2, none⟩ (.int .i64 0)) :=
    ((hw1.setCell (p := ⟨w.heap.size, 0, none⟩) (Nat.le_refl _) _).setCell (p := ⟨w.heap.size, 1, none⟩) (Nat.le_refl _) _).setCell (p := ⟨w.heap.size, 2, none⟩) (Nat.le_refl _) _
  by_cases h0 : chk xs = 0
  · have hce : (((chk xs : Nat) : Int) != 0) = false := by rw [h0]; rfl
    have HS := Lib.hid (hs1 h0).2
    by_cases hx : -4000 ≤ exp ∧ exp ≤ 4000
    · have hE0 : Hid (E = 0) := by show _ = _; rw [← hE.out]; unfold seE; rw [if_pos h0, if_pos hx]
      obtain ⟨hx1, hx2⟩ := hx
      obtain ⟨d1, d2⟩ := isDec_dig HS.out
      have D2 := Lib.hid d2
      have hS3 := settle_c neg none 0 0 exp s w1 (by omega) d1 (by omega)
      rw [D2.out] at hS3
      unfold rv at hS3
      have HS3 := Lib.hid hS3
      have H0 := Lib.hid h0
      clear hs1 h0 d1 d2 hS3 y0 y1 y2 f0 f1 f2
      go_wp2_with fail
      refine HS3.out.mono ?_
      rintro e w3 ⟨A', n', c', rfl, hr3, hb3⟩
      have m3 := held hb3 (by omega) m1
      have y0 : w3.cell? ⟨w.heap.size, 0, none⟩ = some (.bool false) := cell_of m3 rfl
      have y1 : w3.cell? ⟨w.heap.size, 1, none⟩ = some (.slice none 0 0) := cell_of m3 rfl
      have y2 : w3.cell? ⟨w.heap.size, 2, none⟩ = some (.int .i64 0) := cell_of m3 rfl
      have f0 := frozen_of 0 m3
      have f1 := frozen_of 1 m3
      have f2 := frozen_of 2 m3
      have hw3 := hw1.trans (hb3.mono hw1.size)
      have hlt : w.heap.size < w1.heap.size := by omega
      clear m3 m1 m0
      dsimp only [dv]
      go_wp2
      refine bodyPost_ret (v := .tuple #[.agg #[.bool (stN neg (val xs) exp), .slice A' n' c', .int .i64 (stX (val xs) exp)], .int .i64 (stE (val xs) exp : Int)]) (by simp [results, Tryz.results62, go_sem, y0, y1, y2]) rfl ?_
      refine ⟨setT_of hE.out (fun h => absurd hE0.out h) (fun _ => ⟨A', n', c', rfl, ?_⟩), ?_⟩
      · exact (((hr3.setOther (p := ⟨w.heap.size, 0, none⟩) hlt _).setOther (p := ⟨w.heap.size, 1, none⟩) hlt _).setOther (p := ⟨w.heap.size, 2, none⟩) hlt _).more hw1.size
      · exact ((hw3.setCell (p := ⟨w.heap.size, 0, none⟩) (Nat.le_refl _) _).setCell (p := ⟨w.heap.size, 1, none⟩) (Nat.le_refl _) _).setCell (p := ⟨w.heap.size, 2, none⟩) (Nat.le_refl _) _
    · have hE0 : Hid (E = 52) := by show _ = _; rw [← hE.out]; unfold seE; rw [if_pos h0, if_neg hx]
      have hxx : exp < -4000 ∨ 4000 < exp := by omega
      clear hs1 h0 hx
      rcases hxx with hx | hx
      all_goals
        go_wp2
        refine bodyPost_ret (v := .tuple #[.agg #[.bool false, .slice none 0 0, .int .i64 0], .int .i64 52]) (by simp [results, Tryz.results62, go_sem, y0, y1, y2]) rfl ?_
        refine ⟨setT_of hE.out (fun h => by rw [hE0.out] <;> rfl) (fun h => absurd (hE0.out.symm.trans h) (by decide)), hend⟩
  · have hce : (((chk xs : Nat) : Int) != 0) = true := by rw [bne_iff_ne]; omega
    have hE0 : Hid (E = chk xs) := by show _ = _; rw [← hE.out]; unfold seE; rw [if_neg h0]
    have H0 := Lib.hid h0
    clear hs1 h0
    go_wp2
    refine bodyPost_ret (v := .tuple #[.agg #[.bool false, .slice none 0 0, .int .i64 0], .int .i64 (chk xs : Int)]) (by simp [results, Tryz.results62, go_sem, y0, y1, y2]) rfl ?_
    refine ⟨setT_of hE.out (fun h => by rw [hE0.out] <;> rfl) (fun h => absurd (hE0.out.symm.trans h) H0.out), hend⟩

end Go.Proofs.YtipomnogabnfdaaGreatDoor

namespace Go.Proofs.YtipomnogabnfdaaGreatDoor

/-- The number that digits tell, the highest first. -/
def hv : List Nat → Nat
  | [] => 0
  | x :: r => x * 10 ^ r.length + hv r
end Go.Proofs.YtipomnogabnfdaaGreatDoor

namespace Go.Proofs.YtipomnogabnfdaaGreatDoor
open Go.RowKit

theorem seE_fit {xs : List Nat} {exp : Int} (h : Fit xs) (h1 : -4000 ≤ exp) (h2 : exp ≤ 4000) : seE xs exp = 0 := by
  unfold seE
  rw [chk_can h.can h.len, if_pos rfl, if_pos ⟨h1, h2⟩]
/-- What Settle answers of a number that fits. -/
theorem SetT.told {e : Ending} {w' : World} {base : Nat} {neg : Bool} {xs : List Nat} {exp : Int} (h : SetT e w' base neg xs exp) (hf : Fit xs) (h1 : -4000 ≤ exp) (h2 : exp ≤ 4000) : Told e w' base 0 neg (val xs) exp := by
  have h0 := seE_fit hf h1 h2
  unfold SetT sN sX sZ sE at h
  rw [if_pos h0, if_pos h0, if_pos h0, if_pos h0] at h
  unfold Told opN opX opZ opE
  rw [if_pos rfl, if_pos rfl, if_pos rfl, if_pos rfl]
  exact h
end Go.Proofs.YtipomnogabnfdaaGreatDoor

namespace Go.Proofs.YtipomnogabnfdaaGreatDoor
open Go.RowKit

def wr (v : Nat) (e : Int) : Nat := wd v e % wd 1 (-e)

end Go.Proofs.YtipomnogabnfdaaGreatDoor
