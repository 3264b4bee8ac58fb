/-
  Contracts of quot.workOut with each function that is handed in. Written by gen_work.py.
  Contracts of the functions that quot's calls hand to workOut. Written by gen_clos.py.
  Contracts of quot's calls: Div, Mod, Floor, Ceil, Round, Sqrt, Abs. Written by gen_api.py.
  What quot's calls answer, as numbers: an exact quotient comes back, a rounded one is near, a root's square. Plain lemmas.
-/
import Derived.Test.YtbbafggejnjjiaaGreatDoorQrat
set_option linter.unusedVariables false
set_option linter.unusedSimpArgs false
namespace Go.Proofs.YtbbafggejnjjiaaGreatDoor
open Go.RowKit

/-- An answer with what is known of it. -/
def ToldP (P : Nat → Bool → Nat → Int → Prop) (e : Ending) (w' : World) (base : Nat) : Prop := ∃ E0 s Z lo, P E0 s Z lo ∧ Told e w' base E0 s Z lo
/-- The error of the decimals, or what is known. -/
def Chk (E : Nat) (P : Nat → Bool → Nat → Int → Prop) (E0 : Nat) (s : Bool) (Z : Nat) (lo : Int) : Prop := (E ≠ 0 ∧ E0 = E) ∨ (E = 0 ∧ P E0 s Z lo)
theorem told_err {w' : World} {base E : Nat} (h : E ≠ 0) : Told (.returned (.tuple #[dv false none 0 0 0, .int .i64 (E : Int)])) w' base E false 0 0 := told_of (fun _ => rfl) (fun h2 => absurd h2 h)
theorem okE_cases (neg : Bool) (xs : List Nat) (e : Int) : (okE neg xs e = 0 ∧ okB neg xs e = true) ∨ (okE neg xs e = 9 ∧ okB neg xs e = false) := by
  unfold okE
  cases h : okB neg xs e
  · exact .inr ⟨by simp, rfl⟩
  · exact .inl ⟨by simp, rfl⟩

set_option maxRecDepth 100000 in
set_option maxHeartbeats 2000000 in
theorem workS_c {S : Nat → Prop} {n c b : Nat} {A : Option Addr} {xs : List Nat} (na : Bool) (e1 : Int) (cp0 : Value) (P : Nat → Bool → Nat → Int → Prop) (w : World) (hb : w.heap[b]? = some (.cells #[.bool na, .slice A n c, .int .i64 e1] 24))
    (ha1 : Rd w S A n xs) (hS : ∀ b, S b → b < w.heap.size) (hn : n ≤ 9223372036854775807) 
    (hF : ∀ V, Below w.heap.size w V → okB na xs e1 = true → Calls Tryz.prog 79 #[cp0] V fun e w' => ToldP P e w' V.heap.size ∧ Below V.heap.size V w') :
    Calls Tryz.prog 59 #[.func (.func 79) #[] #[cp0], .slice (some ⟨b, 0, none⟩) 1 1] w fun e w' => ToldP (Chk (okE na xs e1) P) e w' w.heap.size ∧ Below w.heap.size w w' := by
  have hbs : b < w.heap.size := (Array.getElem?_eq_some_iff.1 hb).1
  have HB := Lib.hid hb
  have HF := Lib.hid hF
  have mr0 := World.alloc_heap_new w (.cells #[.bool false, .slice none 0 0, .int .i64 0] 24)
  have hw0 : Below w.heap.size w (w.alloc (.cells #[.bool false, .slice none 0 0, .int .i64 0] 24)) := (Below.refl _ _).alloc (Nat.le_refl _) _
  clear hb hF
  go_enter Tryz.func59, Tryz.ntmps59
  go_wp2
  go_loopw [11] (fun iv wr => ∃ (k : Nat), k ≤ 1 ∧ iv = .int .i64 (k : Int) ∧ Hid (1 ≤ k → okB na xs e1 = true) ∧ wr.heap[w.heap.size]? = some (.cells #[.bool false, .slice none 0 0, .int .i64 0] 24) ∧ Below w.heap.size w wr) (fun iv _ => 1 - (intOf iv).toNat)
  case atStart => exact ⟨0, by omega, rfl, (fun h => by omega), mr0, hw0⟩
  case round =>
    obtain ⟨k, hk, rfl, hz3, mr, hbel⟩ := hrel
    clear mr0 hw0
    have hB := held hbel hbs HB.out
    have p0 : wr.cell? ⟨b, 0, none⟩ = some (.bool na) := cell_of hB rfl
    have p1 : wr.cell? ⟨b, 1, none⟩ = some (.slice A n c) := cell_of hB rfl
    have p2 : wr.cell? ⟨b, 2, none⟩ = some (.int .i64 e1) := cell_of hB rfl
    have hba : ∀ o, Below w.heap.size w (wr.alloc o) := fun o => hbel.alloc hbel.size _
    clear hB
    by_cases h1 : k = 0
    · subst h1
      have hP := DCheck_c (c := c) na e1 (wr.alloc (.cells #[.bool na, .slice A n c, .int .i64 e1] 24)) (ha1.below (hba _) hS) (fun b h => by have := hS b h; have := hbel.size; simp; omega) hn
      unfold dv at hP
      rcases okE_cases na xs e1 with ⟨ho, ho2⟩ | ⟨ho, ho2⟩
      · rw [ho] at hP
        have HP := Lib.hid hP
        have HO := Lib.hid ho2
        clear hP ho ho2 hz3
        go_wp2_with fail
        refine HP.out.mono ?_
        rintro e w1 ⟨rfl, hb1⟩
        have mr := heldz hb1 (heldA (.cells #[.bool na, .slice A n c, .int .i64 e1] 24) mr)
        go_wp2
        exact ⟨⟨1, by omega, rfl, (fun _ => HO.out), mr, (hba _).trans (hb1.mono (by simp; have := hbel.size; omega))⟩, by simp [intOf]⟩
      · rw [ho] at hP
        have HP := Lib.hid hP
        clear hP ho2 hz3
        have HE := Lib.hid ho
        go_wp2_with fail
        refine HP.out.mono ?_
        rintro e w1 ⟨rfl, hb1⟩
        have mr := heldz hb1 (heldA (.cells #[.bool na, .slice A n c, .int .i64 e1] 24) mr)
        obtain ⟨g0, g1, g2⟩ := box3_of mr
        have f0 := frozen_of 0 mr
        have f1 := frozen_of 1 mr
        have f2 := frozen_of 2 mr
        have hB := (hbel.alloc hbel.size (.cells #[.bool na, .slice A n c, .int .i64 e1] 24)).trans (hb1.mono (hbel.alloc hbel.size (.cells #[.bool na, .slice A n c, .int .i64 e1] 24)).size)
        go_wp2
        refine bodyPost_ret (v := .tuple #[.agg #[.bool false, .slice none 0 0, .int .i64 0], .int .i64 9]) (by simp [results, Tryz.results59, go_sem, g0, g1, g2]) rfl ?_
        refine ⟨⟨9, false, 0, 0, .inl ⟨by rw [HE.out]; decide, HE.out.symm⟩, told_err (by decide)⟩, ?_⟩
        exact ((hB.setCell (p := ⟨w.heap.size, 0, none⟩) (Nat.le_refl _) _).setCell (p := ⟨w.heap.size, 1, none⟩) (Nat.le_refl _) _).setCell (p := ⟨w.heap.size, 2, none⟩) (Nat.le_refl _) _
    · obtain rfl : k = 1 := by omega
      have hO := hz3.out (by omega)
      have hE : okE na xs e1 = 0 := by unfold okE; rw [if_pos hO]
      have HO := Lib.hid hO
      have HE := Lib.hid hE
      clear hz3 h1 hO hE p0 p1 p2 hba
      go_wp2_with fail
      refine (HF.out wr hbel HO.out).mono ?_
      rintro e w1 ⟨⟨E0, s0, Z0, lo0, hP, A5, n5, c5, rfl, hr⟩, hb0⟩
      have hl5 := (Array.getElem?_eq_some_iff.1 mr).1
      have mr := heldz hb0 mr
      have hBs := hbel.size
      have hB := hbel.trans (hb0.mono hbel.size)
      obtain ⟨g0, g1, g2⟩ := box3_of mr
      have f0 := frozen_of 0 mr
      have f1 := frozen_of 1 mr
      have f2 := frozen_of 2 mr
      dsimp only [dv]
      go_wp2
      refine bodyPost_ret (v := .tuple #[.agg #[.bool (opN E0 s0 Z0 lo0), .slice A5 n5 c5, .int .i64 (opX E0 Z0 lo0)], .int .i64 (opE E0 Z0 lo0 : Int)]) (by simp [results, Tryz.results59, go_sem, g0, g1, g2]) rfl ?_
      refine ⟨⟨E0, s0, Z0, lo0, .inr ⟨HE.out, hP⟩, A5, n5, c5, rfl, ?_⟩, ?_⟩
      · exact (((hr.setOther (by simp; omega) _).setOther (by simp; omega) _).setOther (by simp; omega) _).more (by omega)
      · exact ((hB.setCell (p := ⟨w.heap.size, 0, none⟩) (Nat.le_refl _) _).setCell (p := ⟨w.heap.size, 1, none⟩) (Nat.le_refl _) _).setCell (p := ⟨w.heap.size, 2, none⟩) (Nat.le_refl _) _

set_option maxRecDepth 100000 in
set_option maxHeartbeats 2000000 in
theorem workA_c {S : Nat → Prop} {n c b : Nat} {A : Option Addr} {xs : List Nat} (na : Bool) (e1 : Int) (cp0 : Value) (P : Nat → Bool → Nat → Int → Prop) (w : World) (hb : w.heap[b]? = some (.cells #[.bool na, .slice A n c, .int .i64 e1] 24))
    (ha1 : Rd w S A n xs) (hS : ∀ b, S b → b < w.heap.size) (hn : n ≤ 9223372036854775807) 
    (hF : ∀ V, Below w.heap.size w V → okB na xs e1 = true → Calls Tryz.prog 82 #[cp0] V fun e w' => ToldP P e w' V.heap.size ∧ Below V.heap.size V w') :
    Calls Tryz.prog 59 #[.func (.func 82) #[] #[cp0], .slice (some ⟨b, 0, none⟩) 1 1] w fun e w' => ToldP (Chk (okE na xs e1) P) e w' w.heap.size ∧ Below w.heap.size w w' := by
  have hbs : b < w.heap.size := (Array.getElem?_eq_some_iff.1 hb).1
  have HB := Lib.hid hb
  have HF := Lib.hid hF
  have mr0 := World.alloc_heap_new w (.cells #[.bool false, .slice none 0 0, .int .i64 0] 24)
  have hw0 : Below w.heap.size w (w.alloc (.cells #[.bool false, .slice none 0 0, .int .i64 0] 24)) := (Below.refl _ _).alloc (Nat.le_refl _) _
  clear hb hF
  go_enter Tryz.func59, Tryz.ntmps59
  go_wp2
  go_loopw [11] (fun iv wr => ∃ (k : Nat), k ≤ 1 ∧ iv = .int .i64 (k : Int) ∧ Hid (1 ≤ k → okB na xs e1 = true) ∧ wr.heap[w.heap.size]? = some (.cells #[.bool false, .slice none 0 0, .int .i64 0] 24) ∧ Below w.heap.size w wr) (fun iv _ => 1 - (intOf iv).toNat)
  case atStart => exact ⟨0, by omega, rfl, (fun h => by omega), mr0, hw0⟩
  case round =>
    obtain ⟨k, hk, rfl, hz3, mr, hbel⟩ := hrel
    clear mr0 hw0
    have hB := held hbel hbs HB.out
    have p0 : wr.cell? ⟨b, 0, none⟩ = some (.bool na) := cell_of hB rfl
    have p1 : wr.cell? ⟨b, 1, none⟩ = some (.slice A n c) := cell_of hB rfl
    have p2 : wr.cell? ⟨b, 2, none⟩ = some (.int .i64 e1) := cell_of hB rfl
    have hba : ∀ o, Below w.heap.size w (wr.alloc o) := fun o => hbel.alloc hbel.size _
    clear hB
    by_cases h1 : k = 0
    · subst h1
      have hP := DCheck_c (c := c) na e1 (wr.alloc (.cells #[.bool na, .slice A n c, .int .i64 e1] 24)) (ha1.below (hba _) hS) (fun b h => by have := hS b h; have := hbel.size; simp; omega) hn
      unfold dv at hP
      rcases okE_cases na xs e1 with ⟨ho, ho2⟩ | ⟨ho, ho2⟩
      · rw [ho] at hP
        have HP := Lib.hid hP
        have HO := Lib.hid ho2
        clear hP ho ho2 hz3
        go_wp2_with fail
        refine HP.out.mono ?_
        rintro e w1 ⟨rfl, hb1⟩
        have mr := heldz hb1 (heldA (.cells #[.bool na, .slice A n c, .int .i64 e1] 24) mr)
        go_wp2
        exact ⟨⟨1, by omega, rfl, (fun _ => HO.out), mr, (hba _).trans (hb1.mono (by simp; have := hbel.size; omega))⟩, by simp [intOf]⟩
      · rw [ho] at hP
        have HP := Lib.hid hP
        clear hP ho2 hz3
        have HE := Lib.hid ho
        go_wp2_with fail
        refine HP.out.mono ?_
        rintro e w1 ⟨rfl, hb1⟩
        have mr := heldz hb1 (heldA (.cells #[.bool na, .slice A n c, .int .i64 e1] 24) mr)
        obtain ⟨g0, g1, g2⟩ := box3_of mr
        have f0 := frozen_of 0 mr
        have f1 := frozen_of 1 mr
        have f2 := frozen_of 2 mr
        have hB := (hbel.alloc hbel.size (.cells #[.bool na, .slice A n c, .int .i64 e1] 24)).trans (hb1.mono (hbel.alloc hbel.size (.cells #[.bool na, .slice A n c, .int .i64 e1] 24)).size)
        go_wp2
        refine bodyPost_ret (v := .tuple #[.agg #[.bool false, .slice none 0 0, .int .i64 0], .int .i64 9]) (by simp [results, Tryz.results59, go_sem, g0, g1, g2]) rfl ?_
        refine ⟨⟨9, false, 0, 0, .inl ⟨by rw [HE.out]; decide, HE.out.symm⟩, told_err (by decide)⟩, ?_⟩
        exact ((hB.setCell (p := ⟨w.heap.size, 0, none⟩) (Nat.le_refl _) _).setCell (p := ⟨w.heap.size, 1, none⟩) (Nat.le_refl _) _).setCell (p := ⟨w.heap.size, 2, none⟩) (Nat.le_refl _) _
    · obtain rfl : k = 1 := by omega
      have hO := hz3.out (by omega)
      have hE : okE na xs e1 = 0 := by unfold okE; rw [if_pos hO]
      have HO := Lib.hid hO
      have HE := Lib.hid hE
      clear hz3 h1 hO hE p0 p1 p2 hba
      go_wp2_with fail
      refine (HF.out wr hbel HO.out).mono ?_
      rintro e w1 ⟨⟨E0, s0, Z0, lo0, hP, A5, n5, c5, rfl, hr⟩, hb0⟩
      have hl5 := (Array.getElem?_eq_some_iff.1 mr).1
      have mr := heldz hb0 mr
      have hBs := hbel.size
      have hB := hbel.trans (hb0.mono hbel.size)
      obtain ⟨g0, g1, g2⟩ := box3_of mr
      have f0 := frozen_of 0 mr
      have f1 := frozen_of 1 mr
      have f2 := frozen_of 2 mr
      dsimp only [dv]
      go_wp2
      refine bodyPost_ret (v := .tuple #[.agg #[.bool (opN E0 s0 Z0 lo0), .slice A5 n5 c5, .int .i64 (opX E0 Z0 lo0)], .int .i64 (opE E0 Z0 lo0 : Int)]) (by simp [results, Tryz.results59, go_sem, g0, g1, g2]) rfl ?_
      refine ⟨⟨E0, s0, Z0, lo0, .inr ⟨HE.out, hP⟩, A5, n5, c5, rfl, ?_⟩, ?_⟩
      · exact (((hr.setOther (by simp; omega) _).setOther (by simp; omega) _).setOther (by simp; omega) _).more (by omega)
      · exact ((hB.setCell (p := ⟨w.heap.size, 0, none⟩) (Nat.le_refl _) _).setCell (p := ⟨w.heap.size, 1, none⟩) (Nat.le_refl _) _).setCell (p := ⟨w.heap.size, 2, none⟩) (Nat.le_refl _) _

set_option maxRecDepth 100000 in
set_option maxHeartbeats 2000000 in
theorem workW_c {S : Nat → Prop} {n c b : Nat} {A : Option Addr} {xs : List Nat} (na : Bool) (e1 : Int) (cp0 cp1 : Value) (P : Nat → Bool → Nat → Int → Prop) (w : World) (hb : w.heap[b]? = some (.cells #[.bool na, .slice A n c, .int .i64 e1] 24))
    (ha1 : Rd w S A n xs) (hS : ∀ b, S b → b < w.heap.size) (hn : n ≤ 9223372036854775807) 
    (hF : ∀ V, Below w.heap.size w V → okB na xs e1 = true → Calls Tryz.prog 124 #[cp0, cp1] V fun e w' => ToldP P e w' V.heap.size ∧ Below V.heap.size V w') :
    Calls Tryz.prog 59 #[.func (.func 124) #[] #[cp0, cp1], .slice (some ⟨b, 0, none⟩) 1 1] w fun e w' => ToldP (Chk (okE na xs e1) P) e w' w.heap.size ∧ Below w.heap.size w w' := by
  have hbs : b < w.heap.size := (Array.getElem?_eq_some_iff.1 hb).1
  have HB := Lib.hid hb
  have HF := Lib.hid hF
  have mr0 := World.alloc_heap_new w (.cells #[.bool false, .slice none 0 0, .int .i64 0] 24)
  have hw0 : Below w.heap.size w (w.alloc (.cells #[.bool false, .slice none 0 0, .int .i64 0] 24)) := (Below.refl _ _).alloc (Nat.le_refl _) _
  clear hb hF
  go_enter Tryz.func59, Tryz.ntmps59
  go_wp2
  go_loopw [11] (fun iv wr => ∃ (k : Nat), k ≤ 1 ∧ iv = .int .i64 (k : Int) ∧ Hid (1 ≤ k → okB na xs e1 = true) ∧ wr.heap[w.heap.size]? = some (.cells #[.bool false, .slice none 0 0, .int .i64 0] 24) ∧ Below w.heap.size w wr) (fun iv _ => 1 - (intOf iv).toNat)
  case atStart => exact ⟨0, by omega, rfl, (fun h => by omega), mr0, hw0⟩
  case round =>
    obtain ⟨k, hk, rfl, hz3, mr, hbel⟩ := hrel
    clear mr0 hw0
    have hB := held hbel hbs HB.out
    have p0 : wr.cell? ⟨b, 0, none⟩ = some (.bool na) := cell_of hB rfl
    have p1 : wr.cell? ⟨b, 1, none⟩ = some (.slice A n c) := cell_of hB rfl
    have p2 : wr.cell? ⟨b, 2, none⟩ = some (.int .i64 e1) := cell_of hB rfl
    have hba : ∀ o, Below w.heap.size w (wr.alloc o) := fun o => hbel.alloc hbel.size _
    clear hB
    by_cases h1 : k = 0
    · subst h1
      have hP := DCheck_c (c := c) na e1 (wr.alloc (.cells #[.bool na, .slice A n c, .int .i64 e1] 24)) (ha1.below (hba _) hS) (fun b h => by have := hS b h; have := hbel.size; simp; omega) hn
      unfold dv at hP
      rcases okE_cases na xs e1 with ⟨ho, ho2⟩ | ⟨ho, ho2⟩
      · rw [ho] at hP
        have HP := Lib.hid hP
        have HO := Lib.hid ho2
        clear hP ho ho2 hz3
        go_wp2_with fail
        refine HP.out.mono ?_
        rintro e w1 ⟨rfl, hb1⟩
        have mr := heldz hb1 (heldA (.cells #[.bool na, .slice A n c, .int .i64 e1] 24) mr)
        go_wp2
        exact ⟨⟨1, by omega, rfl, (fun _ => HO.out), mr, (hba _).trans (hb1.mono (by simp; have := hbel.size; omega))⟩, by simp [intOf]⟩
      · rw [ho] at hP
        have HP := Lib.hid hP
        clear hP ho2 hz3
        have HE := Lib.hid ho
        go_wp2_with fail
        refine HP.out.mono ?_
        rintro e w1 ⟨rfl, hb1⟩
        have mr := heldz hb1 (heldA (.cells #[.bool na, .slice A n c, .int .i64 e1] 24) mr)
        obtain ⟨g0, g1, g2⟩ := box3_of mr
        have f0 := frozen_of 0 mr
        have f1 := frozen_of 1 mr
        have f2 := frozen_of 2 mr
        have hB := (hbel.alloc hbel.size (.cells #[.bool na, .slice A n c, .int .i64 e1] 24)).trans (hb1.mono (hbel.alloc hbel.size (.cells #[.bool na, .slice A n c, .int .i64 e1] 24)).size)
        go_wp2
        refine bodyPost_ret (v := .tuple #[.agg #[.bool false, .slice none 0 0, .int .i64 0], .int .i64 9]) (by simp [results, Tryz.results59, go_sem, g0, g1, g2]) rfl ?_
        refine ⟨⟨9, false, 0, 0, .inl ⟨by rw [HE.out]; decide, HE.out.symm⟩, told_err (by decide)⟩, ?_⟩
        exact ((hB.setCell (p := ⟨w.heap.size, 0, none⟩) (Nat.le_refl _) _).setCell (p := ⟨w.heap.size, 1, none⟩) (Nat.le_refl _) _).setCell (p := ⟨w.heap.size, 2, none⟩) (Nat.le_refl _) _
    · obtain rfl : k = 1 := by omega
      have hO := hz3.out (by omega)
      have hE : okE na xs e1 = 0 := by unfold okE; rw [if_pos hO]
      have HO := Lib.hid hO
      have HE := Lib.hid hE
      clear hz3 h1 hO hE p0 p1 p2 hba
      go_wp2_with fail
      refine (HF.out wr hbel HO.out).mono ?_
      rintro e w1 ⟨⟨E0, s0, Z0, lo0, hP, A5, n5, c5, rfl, hr⟩, hb0⟩
      have hl5 := (Array.getElem?_eq_some_iff.1 mr).1
      have mr := heldz hb0 mr
      have hBs := hbel.size
      have hB := hbel.trans (hb0.mono hbel.size)
      obtain ⟨g0, g1, g2⟩ := box3_of mr
      have f0 := frozen_of 0 mr
      have f1 := frozen_of 1 mr
      have f2 := frozen_of 2 mr
      dsimp only [dv]
      go_wp2
      refine bodyPost_ret (v := .tuple #[.agg #[.bool (opN E0 s0 Z0 lo0), .slice A5 n5 c5, .int .i64 (opX E0 Z0 lo0)], .int .i64 (opE E0 Z0 lo0 : Int)]) (by simp [results, Tryz.results59, go_sem, g0, g1, g2]) rfl ?_
      refine ⟨⟨E0, s0, Z0, lo0, .inr ⟨HE.out, hP⟩, A5, n5, c5, rfl, ?_⟩, ?_⟩
      · exact (((hr.setOther (by simp; omega) _).setOther (by simp; omega) _).setOther (by simp; omega) _).more (by omega)
      · exact ((hB.setCell (p := ⟨w.heap.size, 0, none⟩) (Nat.le_refl _) _).setCell (p := ⟨w.heap.size, 1, none⟩) (Nat.le_refl _) _).setCell (p := ⟨w.heap.size, 2, none⟩) (Nat.le_refl _) _

set_option maxRecDepth 100000 in
set_option maxHeartbeats 2000000 in
theorem workD_c {S : Nat → Prop} {n m c d b : Nat} {A B : Option Addr} {xs ys : List Nat} (na nb : Bool) (e1 e2 : Int) (cp0 cp1 : Value) (P : Nat → Bool → Nat → Int → Prop) (w : World) (hb : w.heap[b]? = some (.cells #[.bool na, .slice A n c, .int .i64 e1, .bool nb, .slice B m d, .int .i64 e2] 24))
    (ha1 : Rd w S A n xs) (ha2 : Rd w S B m ys) (hS : ∀ b, S b → b < w.heap.size) (hn : n ≤ 9223372036854775807) (hm : m ≤ 9223372036854775807) 
    (hF : ∀ V, Below w.heap.size w V → okB na xs e1 = true → okB nb ys e2 = true → Calls Tryz.prog 60 #[cp0, cp1] V fun e w' => ToldP P e w' V.heap.size ∧ Below V.heap.size V w') :
    Calls Tryz.prog 59 #[.func (.func 60) #[] #[cp0, cp1], .slice (some ⟨b, 0, none⟩) 2 2] w fun e w' => ToldP (Chk (okE2 na xs e1 nb ys e2) P) e w' w.heap.size ∧ Below w.heap.size w w' := by
  have hbs : b < w.heap.size := (Array.getElem?_eq_some_iff.1 hb).1
  have HB := Lib.hid hb
  have HF := Lib.hid hF
  have mr0 := World.alloc_heap_new w (.cells #[.bool false, .slice none 0 0, .int .i64 0] 24)
  have hw0 : Below w.heap.size w (w.alloc (.cells #[.bool false, .slice none 0 0, .int .i64 0] 24)) := (Below.refl _ _).alloc (Nat.le_refl _) _
  clear hb hF
  go_enter Tryz.func59, Tryz.ntmps59
  go_wp2
  go_loopw [11] (fun iv wr => ∃ (k : Nat), k ≤ 2 ∧ iv = .int .i64 (k : Int) ∧ Hid (1 ≤ k → okB na xs e1 = true) ∧ Hid (k = 2 → okB nb ys e2 = true) ∧ wr.heap[w.heap.size]? = some (.cells #[.bool false, .slice none 0 0, .int .i64 0] 24) ∧ Below w.heap.size w wr) (fun iv _ => 2 - (intOf iv).toNat)
  case atStart => exact ⟨0, by omega, rfl, (fun h => by omega), (fun h => by omega), mr0, hw0⟩
  case round =>
    obtain ⟨k, hk, rfl, hz3, hz4, mr, hbel⟩ := hrel
    clear mr0 hw0
    have hB := held hbel hbs HB.out
    have p0 : wr.cell? ⟨b, 0, none⟩ = some (.bool na) := cell_of hB rfl
    have p1 : wr.cell? ⟨b, 1, none⟩ = some (.slice A n c) := cell_of hB rfl
    have p2 : wr.cell? ⟨b, 2, none⟩ = some (.int .i64 e1) := cell_of hB rfl
    have p3 : wr.cell? ⟨b, 3, none⟩ = some (.bool nb) := cell_of hB rfl
    have p4 : wr.cell? ⟨b, 4, none⟩ = some (.slice B m d) := cell_of hB rfl
    have p5 : wr.cell? ⟨b, 5, none⟩ = some (.int .i64 e2) := cell_of hB rfl
    have hba : ∀ o, Below w.heap.size w (wr.alloc o) := fun o => hbel.alloc hbel.size _
    clear hB
    by_cases h1 : k = 0
    · subst h1
      have hP := DCheck_c (c := c) na e1 (wr.alloc (.cells #[.bool na, .slice A n c, .int .i64 e1] 24)) (ha1.below (hba _) hS) (fun b h => by have := hS b h; have := hbel.size; simp; omega) hn
      unfold dv at hP
      rcases okE_cases na xs e1 with ⟨ho, ho2⟩ | ⟨ho, ho2⟩
      · rw [ho] at hP
        have HP := Lib.hid hP
        have HO := Lib.hid ho2
        clear hP ho ho2 hz3 hz4
        go_wp2_with fail
        refine HP.out.mono ?_
        rintro e w1 ⟨rfl, hb1⟩
        have mr := heldz hb1 (heldA (.cells #[.bool na, .slice A n c, .int .i64 e1] 24) mr)
        go_wp2
        exact ⟨⟨1, by omega, rfl, (fun _ => HO.out), (fun h => by omega), mr, (hba _).trans (hb1.mono (by simp; have := hbel.size; omega))⟩, by simp [intOf]⟩
      · rw [ho] at hP
        have HP := Lib.hid hP
        have hE9 := (show okE2 na xs e1 nb ys e2 = 9 by unfold okE2; rw [ho2]; rfl)
        clear hP hz3 hz4 ho ho2
        have HE := Lib.hid hE9
        go_wp2_with fail
        refine HP.out.mono ?_
        rintro e w1 ⟨rfl, hb1⟩
        have mr := heldz hb1 (heldA (.cells #[.bool na, .slice A n c, .int .i64 e1] 24) mr)
        obtain ⟨g0, g1, g2⟩ := box3_of mr
        have f0 := frozen_of 0 mr
        have f1 := frozen_of 1 mr
        have f2 := frozen_of 2 mr
        have hB := (hbel.alloc hbel.size (.cells #[.bool na, .slice A n c, .int .i64 e1] 24)).trans (hb1.mono (hbel.alloc hbel.size (.cells #[.bool na, .slice A n c, .int .i64 e1] 24)).size)
        go_wp2
        refine bodyPost_ret (v := .tuple #[.agg #[.bool false, .slice none 0 0, .int .i64 0], .int .i64 9]) (by simp [results, Tryz.results59, go_sem, g0, g1, g2]) rfl ?_
        refine ⟨⟨9, false, 0, 0, .inl ⟨by rw [HE.out]; decide, HE.out.symm⟩, told_err (by decide)⟩, ?_⟩
        exact ((hB.setCell (p := ⟨w.heap.size, 0, none⟩) (Nat.le_refl _) _).setCell (p := ⟨w.heap.size, 1, none⟩) (Nat.le_refl _) _).setCell (p := ⟨w.heap.size, 2, none⟩) (Nat.le_refl _) _
    · by_cases h2 : k = 1
      · subst h2
        have H1 := Lib.hid (hz3.out (by omega))
        clear h1
        have hP := DCheck_c (c := d) nb e2 (wr.alloc (.cells #[.bool nb, .slice B m d, .int .i64 e2] 24)) (ha2.below (hba _) hS) (fun b h => by have := hS b h; have := hbel.size; simp; omega) hm
        unfold dv at hP
        rcases okE_cases nb ys e2 with ⟨ho, ho2⟩ | ⟨ho, ho2⟩
        · rw [ho] at hP
          have HP := Lib.hid hP
          have HO := Lib.hid ho2
          clear hP ho ho2 hz3 hz4
          go_wp2_with fail
          refine HP.out.mono ?_
          rintro e w1 ⟨rfl, hb1⟩
          have mr := heldz hb1 (heldA (.cells #[.bool nb, .slice B m d, .int .i64 e2] 24) mr)
          go_wp2
          exact ⟨⟨2, by omega, rfl, (fun _ => H1.out), (fun _ => HO.out), mr, (hba _).trans (hb1.mono (by simp; have := hbel.size; omega))⟩, by simp [intOf]⟩
        · rw [ho] at hP
          have HP := Lib.hid hP
          have hE9 := (show okE2 na xs e1 nb ys e2 = 9 by unfold okE2; rw [if_pos H1.out, ho])
          clear hP hz3 hz4 ho ho2
          have HE := Lib.hid hE9
          go_wp2_with fail
          refine HP.out.mono ?_
          rintro e w1 ⟨rfl, hb1⟩
          have mr := heldz hb1 (heldA (.cells #[.bool nb, .slice B m d, .int .i64 e2] 24) mr)
          obtain ⟨g0, g1, g2⟩ := box3_of mr
          have f0 := frozen_of 0 mr
          have f1 := frozen_of 1 mr
          have f2 := frozen_of 2 mr
          have hB := (hbel.alloc hbel.size (.cells #[.bool nb, .slice B m d, .int .i64 e2] 24)).trans (hb1.mono (hbel.alloc hbel.size (.cells #[.bool nb, .slice B m d, .int .i64 e2] 24)).size)
          go_wp2
          refine bodyPost_ret (v := .tuple #[.agg #[.bool false, .slice none 0 0, .int .i64 0], .int .i64 9]) (by simp [results, Tryz.results59, go_sem, g0, g1, g2]) rfl ?_
          refine ⟨⟨9, false, 0, 0, .inl ⟨by rw [HE.out]; decide, HE.out.symm⟩, told_err (by decide)⟩, ?_⟩
          exact ((hB.setCell (p := ⟨w.heap.size, 0, none⟩) (Nat.le_refl _) _).setCell (p := ⟨w.heap.size, 1, none⟩) (Nat.le_refl _) _).setCell (p := ⟨w.heap.size, 2, none⟩) (Nat.le_refl _) _
      · obtain rfl : k = 2 := by omega
        have HO := Lib.hid (hz3.out (by omega))
        have HO2 := Lib.hid (hz4.out rfl)
        have HE := Lib.hid (show okE2 na xs e1 nb ys e2 = 0 by unfold okE2 okE; rw [if_pos HO.out, if_pos HO2.out])
        clear hz3 hz4 h1 h2 p0 p1 p2 p3 p4 p5 hba
        go_wp2_with fail
        refine (HF.out wr hbel HO.out HO2.out).mono ?_
        rintro e w1 ⟨⟨E0, s0, Z0, lo0, hP, A5, n5, c5, rfl, hr⟩, hb0⟩
        have hl5 := (Array.getElem?_eq_some_iff.1 mr).1
        have mr := heldz hb0 mr
        have hBs := hbel.size
        have hB := hbel.trans (hb0.mono hbel.size)
        obtain ⟨g0, g1, g2⟩ := box3_of mr
        have f0 := frozen_of 0 mr
        have f1 := frozen_of 1 mr
        have f2 := frozen_of 2 mr
        dsimp only [dv]
        go_wp2
        refine bodyPost_ret (v := .tuple #[.agg #[.bool (opN E0 s0 Z0 lo0), .slice A5 n5 c5, .int .i64 (opX E0 Z0 lo0)], .int .i64 (opE E0 Z0 lo0 : Int)]) (by simp [results, Tryz.results59, go_sem, g0, g1, g2]) rfl ?_
        refine ⟨⟨E0, s0, Z0, lo0, .inr ⟨HE.out, hP⟩, A5, n5, c5, rfl, ?_⟩, ?_⟩
        · exact (((hr.setOther (by simp; omega) _).setOther (by simp; omega) _).setOther (by simp; omega) _).more (by omega)
        · exact ((hB.setCell (p := ⟨w.heap.size, 0, none⟩) (Nat.le_refl _) _).setCell (p := ⟨w.heap.size, 1, none⟩) (Nat.le_refl _) _).setCell (p := ⟨w.heap.size, 2, none⟩) (Nat.le_refl _) _

set_option maxRecDepth 100000 in
set_option maxHeartbeats 2000000 in
theorem workM_c {S : Nat → Prop} {n m c d b : Nat} {A B : Option Addr} {xs ys : List Nat} (na nb : Bool) (e1 e2 : Int) (cp0 cp1 : Value) (P : Nat → Bool → Nat → Int → Prop) (w : World) (hb : w.heap[b]? = some (.cells #[.bool na, .slice A n c, .int .i64 e1, .bool nb, .slice B m d, .int .i64 e2] 24))
    (ha1 : Rd w S A n xs) (ha2 : Rd w S B m ys) (hS : ∀ b, S b → b < w.heap.size) (hn : n ≤ 9223372036854775807) (hm : m ≤ 9223372036854775807) 
    (hF : ∀ V, Below w.heap.size w V → okB na xs e1 = true → okB nb ys e2 = true → Calls Tryz.prog 67 #[cp0, cp1] V fun e w' => ToldP P e w' V.heap.size ∧ Below V.heap.size V w') :
    Calls Tryz.prog 59 #[.func (.func 67) #[] #[cp0, cp1], .slice (some ⟨b, 0, none⟩) 2 2] w fun e w' => ToldP (Chk (okE2 na xs e1 nb ys e2) P) e w' w.heap.size ∧ Below w.heap.size w w' := by
  have hbs : b < w.heap.size := (Array.getElem?_eq_some_iff.1 hb).1
  have HB := Lib.hid hb
  have HF := Lib.hid hF
  have mr0 := World.alloc_heap_new w (.cells #[.bool false, .slice none 0 0, .int .i64 0] 24)
  have hw0 : Below w.heap.size w (w.alloc (.cells #[.bool false, .slice none 0 0, .int .i64 0] 24)) := (Below.refl _ _).alloc (Nat.le_refl _) _
  clear hb hF
  go_enter Tryz.func59, Tryz.ntmps59
  go_wp2
  go_loopw [11] (fun iv wr => ∃ (k : Nat), k ≤ 2 ∧ iv = .int .i64 (k : Int) ∧ Hid (1 ≤ k → okB na xs e1 = true) ∧ Hid (k = 2 → okB nb ys e2 = true) ∧ wr.heap[w.heap.size]? = some (.cells #[.bool false, .slice none 0 0, .int .i64 0] 24) ∧ Below w.heap.size w wr) (fun iv _ => 2 - (intOf iv).toNat)
  case atStart => exact ⟨0, by omega, rfl, (fun h => by omega), (fun h => by omega), mr0, hw0⟩
  case round =>
    obtain ⟨k, hk, rfl, hz3, hz4, mr, hbel⟩ := hrel
    clear mr0 hw0
    have hB := held hbel hbs HB.out
    have p0 : wr.cell? ⟨b, 0, none⟩ = some (.bool na) := cell_of hB rfl
    have p1 : wr.cell? ⟨b, 1, none⟩ = some (.slice A n c) := cell_of hB rfl
    have p2 : wr.cell? ⟨b, 2, none⟩ = some (.int .i64 e1) := cell_of hB rfl
    have p3 : wr.cell? ⟨b, 3, none⟩ = some (.bool nb) := cell_of hB rfl
    have p4 : wr.cell? ⟨b, 4, none⟩ = some (.slice B m d) := cell_of hB rfl
    have p5 : wr.cell? ⟨b, 5, none⟩ = some (.int .i64 e2) := cell_of hB rfl
    have hba : ∀ o, Below w.heap.size w (wr.alloc o) := fun o => hbel.alloc hbel.size _
    clear hB
    by_cases h1 : k = 0
    · subst h1
      have hP := DCheck_c (c := c) na e1 (wr.alloc (.cells #[.bool na, .slice A n c, .int .i64 e1] 24)) (ha1.below (hba _) hS) (fun b h => by have := hS b h; have := hbel.size; simp; omega) hn
      unfold dv at hP
      rcases okE_cases na xs e1 with ⟨ho, ho2⟩ | ⟨ho, ho2⟩
      · rw [ho] at hP
        have HP := Lib.hid hP
        have HO := Lib.hid ho2
        clear hP ho ho2 hz3 hz4
        go_wp2_with fail
        refine HP.out.mono ?_
        rintro e w1 ⟨rfl, hb1⟩
        have mr := heldz hb1 (heldA (.cells #[.bool na, .slice A n c, .int .i64 e1] 24) mr)
        go_wp2
        exact ⟨⟨1, by omega, rfl, (fun _ => HO.out), (fun h => by omega), mr, (hba _).trans (hb1.mono (by simp; have := hbel.size; omega))⟩, by simp [intOf]⟩
      · rw [ho] at hP
        have HP := Lib.hid hP
        have hE9 := (show okE2 na xs e1 nb ys e2 = 9 by unfold okE2; rw [ho2]; rfl)
        clear hP hz3 hz4 ho ho2
        have HE := Lib.hid hE9
        go_wp2_with fail
        refine HP.out.mono ?_
        rintro e w1 ⟨rfl, hb1⟩
        have mr := heldz hb1 (heldA (.cells #[.bool na, .slice A n c, .int .i64 e1] 24) mr)
        obtain ⟨g0, g1, g2⟩ := box3_of mr
        have f0 := frozen_of 0 mr
        have f1 := frozen_of 1 mr
        have f2 := frozen_of 2 mr
        have hB := (hbel.alloc hbel.size (.cells #[.bool na, .slice A n c, .int .i64 e1] 24)).trans (hb1.mono (hbel.alloc hbel.size (.cells #[.bool na, .slice A n c, .int .i64 e1] 24)).size)
        go_wp2
        refine bodyPost_ret (v := .tuple #[.agg #[.bool false, .slice none 0 0, .int .i64 0], .int .i64 9]) (by simp [results, Tryz.results59, go_sem, g0, g1, g2]) rfl ?_
        refine ⟨⟨9, false, 0, 0, .inl ⟨by rw [HE.out]; decide, HE.out.symm⟩, told_err (by decide)⟩, ?_⟩
        exact ((hB.setCell (p := ⟨w.heap.size, 0, none⟩) (Nat.le_refl _) _).setCell (p := ⟨w.heap.size, 1, none⟩) (Nat.le_refl _) _).setCell (p := ⟨w.heap.size, 2, none⟩) (Nat.le_refl _) _
    · by_cases h2 : k = 1
      · subst h2
        have H1 := Lib.hid (hz3.out (by omega))
        clear h1
        have hP := DCheck_c (c := d) nb e2 (wr.alloc (.cells #[.bool nb, .slice B m d, .int .i64 e2] 24)) (ha2.below (hba _) hS) (fun b h => by have := hS b h; have := hbel.size; simp; omega) hm
        unfold dv at hP
        rcases okE_cases nb ys e2 with ⟨ho, ho2⟩ | ⟨ho, ho2⟩
        · rw [ho] at hP
          have HP := Lib.hid hP
          have HO := Lib.hid ho2
          clear hP ho ho2 hz3 hz4
          go_wp2_with fail
          refine HP.out.mono ?_
          rintro e w1 ⟨rfl, hb1⟩
          have mr := heldz hb1 (heldA (.cells #[.bool nb, .slice B m d, .int .i64 e2] 24) mr)
          go_wp2
          exact ⟨⟨2, by omega, rfl, (fun _ => H1.out), (fun _ => HO.out), mr, (hba _).trans (hb1.mono (by simp; have := hbel.size; omega))⟩, by simp [intOf]⟩
        · rw [ho] at hP
          have HP := Lib.hid hP
          have hE9 := (show okE2 na xs e1 nb ys e2 = 9 by unfold okE2; rw [if_pos H1.out, ho])
          clear hP hz3 hz4 ho ho2
          have HE := Lib.hid hE9
          go_wp2_with fail
          refine HP.out.mono ?_
          rintro e w1 ⟨rfl, hb1⟩
          have mr := heldz hb1 (heldA (.cells #[.bool nb, .slice B m d, .int .i64 e2] 24) mr)
          obtain ⟨g0, g1, g2⟩ := box3_of mr
          have f0 := frozen_of 0 mr
          have f1 := frozen_of 1 mr
          have f2 := frozen_of 2 mr
          have hB := (hbel.alloc hbel.size (.cells #[.bool nb, .slice B m d, .int .i64 e2] 24)).trans (hb1.mono (hbel.alloc hbel.size (.cells #[.bool nb, .slice B m d, .int .i64 e2] 24)).size)
          go_wp2
          refine bodyPost_ret (v := .tuple #[.agg #[.bool false, .slice none 0 0, .int .i64 0], .int .i64 9]) (by simp [results, Tryz.results59, go_sem, g0, g1, g2]) rfl ?_
          refine ⟨⟨9, false, 0, 0, .inl ⟨by rw [HE.out]; decide, HE.out.symm⟩, told_err (by decide)⟩, ?_⟩
          exact ((hB.setCell (p := ⟨w.heap.size, 0, none⟩) (Nat.le_refl _) _).setCell (p := ⟨w.heap.size, 1, none⟩) (Nat.le_refl _) _).setCell (p := ⟨w.heap.size, 2, none⟩) (Nat.le_refl _) _
      · obtain rfl : k = 2 := by omega
        have HO := Lib.hid (hz3.out (by omega))
        have HO2 := Lib.hid (hz4.out rfl)
        have HE := Lib.hid (show okE2 na xs e1 nb ys e2 = 0 by unfold okE2 okE; rw [if_pos HO.out, if_pos HO2.out])
        clear hz3 hz4 h1 h2 p0 p1 p2 p3 p4 p5 hba
        go_wp2_with fail
        refine (HF.out wr hbel HO.out HO2.out).mono ?_
        rintro e w1 ⟨⟨E0, s0, Z0, lo0, hP, A5, n5, c5, rfl, hr⟩, hb0⟩
        have hl5 := (Array.getElem?_eq_some_iff.1 mr).1
        have mr := heldz hb0 mr
        have hBs := hbel.size
        have hB := hbel.trans (hb0.mono hbel.size)
        obtain ⟨g0, g1, g2⟩ := box3_of mr
        have f0 := frozen_of 0 mr
        have f1 := frozen_of 1 mr
        have f2 := frozen_of 2 mr
        dsimp only [dv]
        go_wp2
        refine bodyPost_ret (v := .tuple #[.agg #[.bool (opN E0 s0 Z0 lo0), .slice A5 n5 c5, .int .i64 (opX E0 Z0 lo0)], .int .i64 (opE E0 Z0 lo0 : Int)]) (by simp [results, Tryz.results59, go_sem, g0, g1, g2]) rfl ?_
        refine ⟨⟨E0, s0, Z0, lo0, .inr ⟨HE.out, hP⟩, A5, n5, c5, rfl, ?_⟩, ?_⟩
        · exact (((hr.setOther (by simp; omega) _).setOther (by simp; omega) _).setOther (by simp; omega) _).more (by omega)
        · exact ((hB.setCell (p := ⟨w.heap.size, 0, none⟩) (Nat.le_refl _) _).setCell (p := ⟨w.heap.size, 1, none⟩) (Nat.le_refl _) _).setCell (p := ⟨w.heap.size, 2, none⟩) (Nat.le_refl _) _

end Go.Proofs.YtbbafggejnjjiaaGreatDoor

namespace Go.Proofs.YtbbafggejnjjiaaGreatDoor
open Go.RowKit

/-- What the calls answer of decimals that may be. -/
def PDiv (na : Bool) (v1 : Nat) (e1 : Int) (nb : Bool) (v2 : Nat) (e2 : Int) (E0 : Nat) (s : Bool) (Z : Nat) (lo : Int) : Prop := (v2 = 0 ∧ E0 = 53) ∨ (v2 ≠ 0 ∧ E0 = 0 ∧ s = (na != nb) ∧ Z = qZ v1 v2 ∧ lo = qX v1 v2 e1 e2)
def PMod (na : Bool) (v1 : Nat) (e1 : Int) (v2 : Nat) (e2 : Int) (E0 : Nat) (s : Bool) (Z : Nat) (lo : Int) : Prop := (wq v2 e2 = 0 ∧ E0 = 53) ∨ (wq v2 e2 ≠ 0 ∧ E0 = 0 ∧ s = na ∧ Z = wq v1 e1 % wq v2 e2 ∧ lo = 0)
def PSqrt (na : Bool) (v : Nat) (e : Int) (E0 : Nat) (s : Bool) (Z : Nat) (lo : Int) : Prop := (na = true ∧ E0 = 4) ∨ (na = false ∧ E0 = 0 ∧ s = false ∧ Z * Z ≤ sqr v (nd v) e ∧ sqr v (nd v) e < (Z + 1) * (Z + 1) ∧ lo = rtX v e)
def PAbs (v : Nat) (e : Int) (E0 : Nat) (s : Bool) (Z : Nat) (lo : Int) : Prop := E0 = 0 ∧ s = false ∧ Z = v ∧ lo = e
def PWhole (na : Bool) (v : Nat) (e : Int) (U : Bool) (E0 : Nat) (s : Bool) (Z : Nat) (lo : Int) : Prop := E0 = 0 ∧ s = na ∧ Z = wq v e + (if U = true then 1 else 0) ∧ lo = 0
theorem told53 {w' : World} {base E : Nat} {s : Bool} {Z : Nat} {lo : Int} (h : E ≠ 0) : Told (.returned (.tuple #[dv false none 0 0 0, .int .i64 (E : Int)])) w' base E s Z lo := told_of (fun _ => rfl) (fun h2 => absurd h2 h)

set_option maxRecDepth 100000 in
set_option maxHeartbeats 2000000 in
theorem div1_c {S : Nat → Prop} {n m c d pa pb : Nat} {A B : Option Addr} {xs ys : List Nat} (na nb : Bool) (e1 e2 : Int) (w : World) (ma : w.heap[pa]? = some (.cells #[.bool na, .slice A n c, .int .i64 e1] 24)) (mb : w.heap[pb]? = some (.cells #[.bool nb, .slice B m d, .int .i64 e2] 24))
    (ha : Rd w S A n xs) (hb : Rd w S B m ys) (hS : ∀ b, S b → b < w.heap.size) (k1 : okB na xs e1 = true) (k2 : okB nb ys e2 = true) :
    Calls Tryz.prog 60 #[.pointer (some ⟨pb, 0, none⟩), .pointer (some ⟨pa, 0, none⟩)] w fun e w' => ToldP (PDiv na (val xs) e1 nb (val ys) e2) e w' w.heap.size ∧ Below w.heap.size w w' := by
  have hm0 : (m = 0 ∧ val ys = 0) ∨ (m ≠ 0 ∧ 0 < val ys) := by
    obtain ⟨b1, _, _, _, _, _⟩ := okB_true hb.l32 k2
    have hl := hb.len
    rcases Nat.eq_zero_or_pos m with h | h
    · left; refine ⟨h, ?_⟩; rw [List.eq_nil_of_length_eq_zero (hl.trans h)]; rfl
    · right; refine ⟨by omega, ?_⟩
      rcases Nat.eq_zero_or_pos (val ys) with h2 | h2
      · rw [b1.val_zero h2] at hl; simp at hl; omega
      · exact h2
  have up : ∀ {V : World}, Below w.heap.size w V → ∀ b, b < w.heap.size → b < V.heap.size := fun h b hb => by have := h.size; omega
  have mr := World.alloc_heap_new w (.cells #[.bool false, .slice none 0 0, .int .i64 0] 24)
  have ma := heldA (.cells #[.bool false, .slice none 0 0, .int .i64 0] 24) ma
  have mb := heldA (.cells #[.bool false, .slice none 0 0, .int .i64 0] 24) mb
  have hB : Below w.heap.size w (w.alloc (.cells #[.bool false, .slice none 0 0, .int .i64 0] 24)) := (Below.refl _ _).alloc (Nat.le_refl _) _
  have HR := Lib.hid (fun V (h1 : Rd V S A n xs) (h2 : Rd V S B m ys) hs hy => ratio_c (c := c) (d := d) na nb e1 e2 V h1 h2 hs k1 k2 hy)
  go_enter Tryz.func60, Tryz.ntmps60
  go_upto_region 1 with fail
  generalize w.alloc (.cells #[.bool false, .slice none 0 0, .int .i64 0] 24) = W at mr ma mb hB ⊢
  obtain ⟨p0, p1, p2⟩ := box3_of ma
  obtain ⟨p3, p4, p5⟩ := box3_of mb
  rcases hm0 with ⟨hm0, hv0⟩ | ⟨hm0, hv0⟩
  · subst hm0
    obtain ⟨g0, g1, g2⟩ := box3_of mr
    have f0 := frozen_of 0 mr
    have f1 := frozen_of 1 mr
    have f2 := frozen_of 2 mr
    go_wp2
    refine bodyPost_ret (v := .tuple #[.agg #[.bool false, .slice none 0 0, .int .i64 0], .int .i64 53]) (by simp [results, Tryz.results60, go_sem, g0, g1, g2]) rfl ?_
    refine ⟨⟨53, false, 0, 0, .inl ⟨hv0, rfl⟩, told53 (by decide)⟩, ?_⟩
    exact ((hB.setCell (p := ⟨w.heap.size, 0, none⟩) (Nat.le_refl _) _).setCell (p := ⟨w.heap.size, 1, none⟩) (Nat.le_refl _) _).setCell (p := ⟨w.heap.size, 2, none⟩) (Nat.le_refl _) _
  · have hmb : ((m : Int) == 0) = false := by rw [beq_eq_false_iff_ne]; omega
    have HV := Lib.hid hv0
    clear hm0 hv0
    unfold dv at HR
    go_wp2_with fail
    refine (HR.out W (ha.below hB hS) (hb.below hB hS) (fun b h => up hB b (hS b h)) HV.out).mono ?_
    rintro e w1 ⟨⟨A5, n5, c5, rfl, hr⟩, hb0⟩
    have hl5 := (Array.getElem?_eq_some_iff.1 mr).1
    have mr := heldz hb0 mr
    have hBs := hB.size
    have hB := hB.trans (hb0.mono hB.size)
    obtain ⟨g0, g1, g2⟩ := box3_of mr
    have f0 := frozen_of 0 mr
    have f1 := frozen_of 1 mr
    have f2 := frozen_of 2 mr
    dsimp only [dv]
    go_wp2
    refine bodyPost_ret (v := .tuple #[.agg #[.bool (opN 0 (na != nb) (qZ (val xs) (val ys)) (qX (val xs) (val ys) e1 e2)), .slice A5 n5 c5, .int .i64 (opX 0 (qZ (val xs) (val ys)) (qX (val xs) (val ys) e1 e2))], .int .i64 (opE 0 (qZ (val xs) (val ys)) (qX (val xs) (val ys) e1 e2) : Int)]) (by simp [results, Tryz.results60, go_sem, g0, g1, g2]) rfl ?_
    refine ⟨⟨0, (na != nb), (qZ (val xs) (val ys)), (qX (val xs) (val ys) e1 e2), .inr ⟨by have := HV.out; omega, rfl, rfl, rfl, rfl⟩, A5, n5, c5, rfl, ?_⟩, ?_⟩
    · exact (((hr.setOther (by simp; omega) _).setOther (by simp; omega) _).setOther (by simp; omega) _).more (by omega)
    · exact ((hB.setCell (p := ⟨w.heap.size, 0, none⟩) (Nat.le_refl _) _).setCell (p := ⟨w.heap.size, 1, none⟩) (Nat.le_refl _) _).setCell (p := ⟨w.heap.size, 2, none⟩) (Nat.le_refl _) _

set_option maxRecDepth 100000 in
set_option maxHeartbeats 2000000 in
theorem sqrt1_c {S : Nat → Prop} {n c pa : Nat} {A : Option Addr} {xs : List Nat} (na : Bool) (e1 : Int) (w : World) (ma : w.heap[pa]? = some (.cells #[.bool na, .slice A n c, .int .i64 e1] 24))
    (ha : Rd w S A n xs) (hS : ∀ b, S b → b < w.heap.size) (k1 : okB na xs e1 = true) :
    Calls Tryz.prog 79 #[.pointer (some ⟨pa, 0, none⟩)] w fun e w' => ToldP (PSqrt na (val xs) e1) e w' w.heap.size ∧ Below w.heap.size w w' := by
  have up : ∀ {V : World}, Below w.heap.size w V → ∀ b, b < w.heap.size → b < V.heap.size := fun h b hb => by have := h.size; omega
  have mr := World.alloc_heap_new w (.cells #[.bool false, .slice none 0 0, .int .i64 0] 24)
  have ma := heldA (.cells #[.bool false, .slice none 0 0, .int .i64 0] 24) ma
  have hB : Below w.heap.size w (w.alloc (.cells #[.bool false, .slice none 0 0, .int .i64 0] 24)) := (Below.refl _ _).alloc (Nat.le_refl _) _
  have HR := Lib.hid (fun V (h1 : Rd V S A n xs) hs => qroot_c (c := c) na e1 V h1 hs k1)
  go_enter Tryz.func79, Tryz.ntmps79
  go_upto_region 1 with fail
  generalize w.alloc (.cells #[.bool false, .slice none 0 0, .int .i64 0] 24) = W at mr ma hB ⊢
  obtain ⟨p0, p1, p2⟩ := box3_of ma
  clear k1
  cases na with
  | true =>
    obtain ⟨g0, g1, g2⟩ := box3_of mr
    have f0 := frozen_of 0 mr
    have f1 := frozen_of 1 mr
    have f2 := frozen_of 2 mr
    go_wp2
    refine bodyPost_ret (v := .tuple #[.agg #[.bool false, .slice none 0 0, .int .i64 0], .int .i64 4]) (by simp [results, Tryz.results79, go_sem, g0, g1, g2]) rfl ?_
    refine ⟨⟨4, false, 0, 0, .inl ⟨rfl, rfl⟩, told53 (by decide)⟩, ?_⟩
    exact ((hB.setCell (p := ⟨w.heap.size, 0, none⟩) (Nat.le_refl _) _).setCell (p := ⟨w.heap.size, 1, none⟩) (Nat.le_refl _) _).setCell (p := ⟨w.heap.size, 2, none⟩) (Nat.le_refl _) _
  | false =>
    unfold dv at HR
    go_wp2_with fail
    refine (HR.out W (ha.below hB hS) (fun b h => up hB b (hS b h))).mono ?_
    rintro e w1 ⟨⟨R, hR1, hR2, A5, n5, c5, rfl, hr⟩, hb0⟩
    have hl5 := (Array.getElem?_eq_some_iff.1 mr).1
    have mr := heldz hb0 mr
    have hBs := hB.size
    have hB := hB.trans (hb0.mono hB.size)
    obtain ⟨g0, g1, g2⟩ := box3_of mr
    have f0 := frozen_of 0 mr
    have f1 := frozen_of 1 mr
    have f2 := frozen_of 2 mr
    dsimp only [dv]
    go_wp2
    refine bodyPost_ret (v := .tuple #[.agg #[.bool (opN 0 false R (rtX (val xs) e1)), .slice A5 n5 c5, .int .i64 (opX 0 R (rtX (val xs) e1))], .int .i64 (opE 0 R (rtX (val xs) e1) : Int)]) (by simp [results, Tryz.results79, go_sem, g0, g1, g2]) rfl ?_
    refine ⟨⟨0, false, R, (rtX (val xs) e1), .inr ⟨rfl, rfl, rfl, hR1, hR2, rfl⟩, A5, n5, c5, rfl, ?_⟩, ?_⟩
    · exact (((hr.setOther (by simp; omega) _).setOther (by simp; omega) _).setOther (by simp; omega) _).more (by omega)
    · exact ((hB.setCell (p := ⟨w.heap.size, 0, none⟩) (Nat.le_refl _) _).setCell (p := ⟨w.heap.size, 1, none⟩) (Nat.le_refl _) _).setCell (p := ⟨w.heap.size, 2, none⟩) (Nat.le_refl _) _

set_option maxRecDepth 100000 in
set_option maxHeartbeats 2000000 in
theorem abs1_c {S : Nat → Prop} {n c pa : Nat} {A : Option Addr} {xs : List Nat} (na : Bool) (e1 : Int) (w : World) (ma : w.heap[pa]? = some (.cells #[.bool na, .slice A n c, .int .i64 e1] 24))
    (ha : Rd w S A n xs) (hS : ∀ b, S b → b < w.heap.size) (k1 : okB na xs e1 = true) :
    Calls Tryz.prog 82 #[.pointer (some ⟨pa, 0, none⟩)] w fun e w' => ToldP (PAbs (val xs) e1) e w' w.heap.size ∧ Below w.heap.size w w' := by
  have up : ∀ {V : World}, Below w.heap.size w V → ∀ b, b < w.heap.size → b < V.heap.size := fun h b hb => by have := h.size; omega
  have mr := World.alloc_heap_new w (.cells #[.bool false, .slice none 0 0, .int .i64 0] 24)
  have ma := heldA (.cells #[.bool false, .slice none 0 0, .int .i64 0] 24) ma
  have hB : Below w.heap.size w (w.alloc (.cells #[.bool false, .slice none 0 0, .int .i64 0] 24)) := (Below.refl _ _).alloc (Nat.le_refl _) _
  obtain ⟨a1, a2, _, a4, _, _⟩ := okB_true ha.l32 k1
  have fx : Fit xs := ⟨a1, a2⟩
  have hn : n ≤ 9223372036854775807 := by rw [← ha.len]; omega
  have HR := Lib.hid (fun V (h1 : Rd V S A n xs) hs => DSettle_v (c := c) false e1 V h1 hs hn)
  go_enter Tryz.func82, Tryz.ntmps82
  go_upto_region 1 with fail
  generalize w.alloc (.cells #[.bool false, .slice none 0 0, .int .i64 0] 24) = W at mr ma hB ⊢
  obtain ⟨p0, p1, p2⟩ := box3_of ma
  clear k1 a1 a2
  go_wp2_with fail
  refine (HR.out W (ha.below hB hS) (fun b h => up hB b (hS b h))).mono ?_
  rintro e w1 ⟨ht, hb0⟩
  have ht := ht.told fx (by omega) (by omega)
  obtain ⟨A5, n5, c5, rfl, hr⟩ := ht
  have hl5 := (Array.getElem?_eq_some_iff.1 mr).1
  have mr := heldz hb0 mr
  have hBs := hB.size
  have hB := hB.trans (hb0.mono hB.size)
  obtain ⟨g0, g1, g2⟩ := box3_of mr
  have f0 := frozen_of 0 mr
  have f1 := frozen_of 1 mr
  have f2 := frozen_of 2 mr
  dsimp only [dv]
  go_wp2
  refine bodyPost_ret (v := .tuple #[.agg #[.bool (opN 0 false (val xs) e1), .slice A5 n5 c5, .int .i64 (opX 0 (val xs) e1)], .int .i64 (opE 0 (val xs) e1 : Int)]) (by simp [results, Tryz.results82, go_sem, g0, g1, g2]) rfl ?_
  refine ⟨⟨0, false, (val xs), e1, ⟨rfl, rfl, rfl, rfl⟩, A5, n5, c5, rfl, ?_⟩, ?_⟩
  · exact (((hr.setOther (by simp; omega) _).setOther (by simp; omega) _).setOther (by simp; omega) _).more (by omega)
  · exact ((hB.setCell (p := ⟨w.heap.size, 0, none⟩) (Nat.le_refl _) _).setCell (p := ⟨w.heap.size, 1, none⟩) (Nat.le_refl _) _).setCell (p := ⟨w.heap.size, 2, none⟩) (Nat.le_refl _) _

set_option maxRecDepth 100000 in
set_option maxHeartbeats 4000000 in
theorem mod1_c {S : Nat → Prop} {n m c d pa pb : Nat} {A B : Option Addr} {xs ys : List Nat} (na nb : Bool) (e1 e2 : Int) (w : World) (ma : w.heap[pa]? = some (.cells #[.bool na, .slice A n c, .int .i64 e1] 24)) (mb : w.heap[pb]? = some (.cells #[.bool nb, .slice B m d, .int .i64 e2] 24))
    (ha : Rd w S A n xs) (hb : Rd w S B m ys) (hS : ∀ b, S b → b < w.heap.size) (k1 : okB na xs e1 = true) (k2 : okB nb ys e2 = true) :
    Calls Tryz.prog 67 #[.pointer (some ⟨pa, 0, none⟩), .pointer (some ⟨pb, 0, none⟩)] w fun e w' => ToldP (PMod na (val xs) e1 (val ys) e2) e w' w.heap.size ∧ Below w.heap.size w w' := by
  have up : ∀ {V : World}, Below w.heap.size w V → ∀ b, b < w.heap.size → b < V.heap.size := fun h b hb => by have := h.size; omega
  have mr := World.alloc_heap_new w (.cells #[.bool false, .slice none 0 0, .int .i64 0] 24)
  have ma := heldA (.cells #[.bool false, .slice none 0 0, .int .i64 0] 24) ma
  have mb := heldA (.cells #[.bool false, .slice none 0 0, .int .i64 0] 24) mb
  have hB : Below w.heap.size w (w.alloc (.cells #[.bool false, .slice none 0 0, .int .i64 0] 24)) := (Below.refl _ _).alloc (Nat.le_refl _) _
  obtain ⟨a1, a2, a3, a4, _, _⟩ := okB_true ha.l32 k1
  obtain ⟨b1, b2, b3, b4, _, _⟩ := okB_true hb.l32 k2
  have fx : Fit xs := ⟨a1, a2⟩
  have fy : Fit ys := ⟨b1, b2⟩
  have hw1 := (ten_bp2 (wd_lt (t := 1000) (p := e1) a3 (by omega)) (by omega)).2.1
  have hw2 := (ten_bp2 (wd_lt (t := 1000) (p := e2) b3 (by omega)) (by omega)).2.1
  have HW1 := Lib.hid (fun V (h1 : Rd V S A n xs) hs => wholeN_c (c := c) na e1 V h1 hs fx ⟨by omega, by omega⟩ hw1)
  have HW2 := Lib.hid (fun V (h1 : Rd V S B m ys) hs => wholeN_c (c := d) nb e2 V h1 hs fy ⟨by omega, by omega⟩ hw2)
  unfold dv at HW1 HW2
  clear hw1 hw2 a1 a2 a3 b1 b2 b3 fx fy k1 k2
  go_enter Tryz.func67, Tryz.ntmps67
  go_upto_region 1 with fail
  generalize w.alloc (.cells #[.bool false, .slice none 0 0, .int .i64 0] 24) = W at mr ma mb hB ⊢
  obtain ⟨p0, p1, p2⟩ := box3_of ma
  obtain ⟨p3, p4, p5⟩ := box3_of mb
  go_wp2_with fail
  refine wp_region_held_drew (S := fun w' => w'.cell? ⟨pa, 0, none⟩ = some (.bool na) ∧ w'.cell? ⟨pa, 1, none⟩ = some (.slice A n c) ∧ w'.cell? ⟨pa, 2, none⟩ = some (.int .i64 e1) ∧ w'.cell? ⟨pb, 0, none⟩ = some (.bool nb) ∧ w'.cell? ⟨pb, 1, none⟩ = some (.slice B m d) ∧ w'.cell? ⟨pb, 2, none⟩ = some (.int .i64 e2)) (by kernel_rfl) ⟨p0, p1, p2, p3, p4, p5⟩ (fun hHeld => ?_)
  (try simp only [List.size_toArray, List.length_cons, List.length_nil, Nat.reduceAdd, Array.replicate_succ, Array.replicate_zero, List.push_toArray, List.append_toArray, List.nil_append, List.cons_append])
  refine wpAnyH_take (i := 0) (oi := ⟨_, _, _, _, _, _⟩) (v := ?_) rfl (by kernel_rfl) (by kernel_rfl) (by kernel_rfl) (fun _ _ _ h => h) (Or.inl ⟨by rfl, ?_⟩) (by assumption) ?_
  rotate_left
  · intro w hSw
    (try dsimp only at hSw)
    go_split_ands
    go_simp
    try with_reducible rfl
  try simp only [Act.put, List.setIfInBounds_toArray, List.set_cons_zero, List.set_cons_succ]
  refine wpAnyH_take (i := 2) (oi := ⟨_, _, _, _, _, _⟩) (v := ?_) rfl (by kernel_rfl) (by kernel_rfl) (by kernel_rfl) (fun _ _ _ h => h) (Or.inl ⟨by rfl, ?_⟩) (by assumption) ?_
  rotate_left
  · intro w hSw
    (try dsimp only at hSw)
    go_split_ands
    go_simp
    try with_reducible rfl
  try simp only [Act.put, List.setIfInBounds_toArray, List.set_cons_zero, List.set_cons_succ]
  have ma : W.drew.heap[pa]? = _ := ma
  have mb : W.drew.heap[pb]? = _ := mb
  have mr : W.drew.heap[w.heap.size]? = _ := mr
  have hB : Below w.heap.size w W.drew := only_drewB hB
  generalize hV0 : W.drew = V0 at *
  clear hV0 p0 p1 p2 p3 p4 p5
  refine wpAnyH_ready (rs := [1]) (by kernel_rfl) (by simp) ?_
  refine (AllReadyH.cons (o := ⟨_, _, _, _, _, _⟩) rfl (fun K hK => ?_) AllReadyH.nil)
  go_simp
  refine (HW1.out V0 (ha.below hB hS) (fun b h => up hB b (hS b h))).mono ?_
  rintro e V1 ⟨A1, n1, c1, z1, rfl, r1, f1, v1, hb0⟩
  have r1 := r1.more (base' := w.heap.size) hB.size
  have ma := heldz hb0 ma
  have mb := heldz hb0 mb
  have mr := heldz hb0 mr
  have hB := hB.trans (hb0.mono hB.size)
  obtain ⟨x0, x1, x2⟩ := box3_of ma
  obtain ⟨x3, x4, x5⟩ := box3_of mb
  (try dsimp only)
  refine hK.out _ _ ⟨x0, x1, x2, x3, x4, x5⟩ (fun hHeld => ?_)
  clear hK K
  try simp only [Act.put, List.setIfInBounds_toArray, List.set_cons_zero, List.set_cons_succ]
  clear hb0 x0 x1 x2 x3 x4 x5
  refine wpAnyH_ready (rs := [3]) (by kernel_rfl) (by simp) ?_
  refine (AllReadyH.cons (o := ⟨_, _, _, _, _, _⟩) rfl (fun K hK => ?_) AllReadyH.nil)
  go_simp
  refine (HW2.out V1 (hb.below hB hS) (fun b h => up hB b (hS b h))).mono ?_
  rintro e V2 ⟨A2, n2, c2, z2, rfl, r2, f2, v2, hb0⟩
  have r2 := r2.more (base' := w.heap.size) hB.size
  have r1 := r1.below hb0 (Nat.le_refl _)
  have ma := heldz hb0 ma
  have mb := heldz hb0 mb
  have mr := heldz hb0 mr
  have hB := hB.trans (hb0.mono hB.size)
  obtain ⟨x0, x1, x2⟩ := box3_of ma
  obtain ⟨x3, x4, x5⟩ := box3_of mb
  (try dsimp only)
  refine hK.out _ _ ⟨x0, x1, x2, x3, x4, x5⟩ (fun hHeld => ?_)
  clear hK K
  try simp only [Act.put, List.setIfInBounds_toArray, List.set_cons_zero, List.set_cons_succ]
  clear hb0 x0 x1 x2 x3 x4 x5
  have v1 : val z1 = wq (val xs) e1 := v1.trans (by simp)
  have v2 : val z2 = wq (val ys) e2 := v2.trans (by simp)
  have hn1 : n1 ≤ 9223372036854775807 := by have := f1.len; have := r1.len; omega
  have hn2 : n2 ≤ 9223372036854775807 := by have := f2.len; have := r2.len; omega
  refine wpAnyH_ready (rs := [4]) (by kernel_rfl) (by simp) ?_
  refine (AllReadyH.cons (o := ⟨_, _, _, _, _, _⟩) rfl (fun K hK => ?_) AllReadyH.nil)
  go_simp
  refine (Div_c (c := c1) (d := c2) V2 r1.rd r2.rd (fun b h => h.2) (fun b h => h.2) hn1 hn2).mono ?_
  rintro e V3 ⟨A3, n3, c3, z3, A4, n4, c4, z4, rfl, r3, r4, _, hok, hb0⟩
  have r4 := r4.more (base' := w.heap.size) hB.size
  have ma := heldz hb0 ma
  have mb := heldz hb0 mb
  have mr := heldz hb0 mr
  have hB := hB.trans (hb0.mono hB.size)
  obtain ⟨x0, x1, x2⟩ := box3_of ma
  obtain ⟨x3, x4, x5⟩ := box3_of mb
  (try dsimp only)
  refine hK.out _ _ ⟨x0, x1, x2, x3, x4, x5⟩ (fun hHeld => ?_)
  clear hK K
  try simp only [Act.put, List.setIfInBounds_toArray, List.set_cons_zero, List.set_cons_succ]
  clear hb0
  refine wpAnyH_take (i := 5) (oi := ⟨_, _, _, _, _, _⟩) (v := ?_) rfl (by kernel_rfl) (by kernel_rfl) (by kernel_rfl) (fun _ _ _ h => h) (Or.inl ⟨by rfl, ?_⟩) (by assumption) ?_
  rotate_left
  · intro w hSw
    (try dsimp only at hSw)
    go_split_ands
    go_simp
    try with_reducible rfl
  try simp only [Act.put, List.setIfInBounds_toArray, List.set_cons_zero, List.set_cons_succ]
  refine wpAnyH_take (i := 6) (oi := ⟨_, _, _, _, _, _⟩) (v := ?_) rfl (by kernel_rfl) (by kernel_rfl) (by kernel_rfl) (fun _ _ _ h => h) (Or.inl ⟨by rfl, ?_⟩) (by assumption) ?_
  rotate_left
  · intro w hSw
    (try dsimp only at hSw)
    go_split_ands
    go_simp
    try with_reducible rfl
  try simp only [Act.put, List.setIfInBounds_toArray, List.set_cons_zero, List.set_cons_succ]
  refine wpAnyH_take (i := 7) (oi := ⟨_, _, _, _, _, _⟩) (v := ?_) rfl (by kernel_rfl) (by kernel_rfl) (by kernel_rfl) (fun _ _ _ h => h) (Or.inl ⟨by rfl, ?_⟩) (by assumption) ?_
  rotate_left
  · intro w hSw
    (try dsimp only at hSw)
    go_split_ands
    go_simp
    try with_reducible rfl
  try simp only [Act.put, List.setIfInBounds_toArray, List.set_cons_zero, List.set_cons_succ]
  refine wpAnyH_take (i := 8) (oi := ⟨_, _, _, _, _, _⟩) (v := ?_) rfl (by kernel_rfl) (by kernel_rfl) (by kernel_rfl) (fun _ _ _ h => h) (Or.inl ⟨by rfl, ?_⟩) (by assumption) ?_
  rotate_left
  · intro w hSw
    (try dsimp only at hSw)
    go_split_ands
    go_simp
    try with_reducible rfl
  try simp only [Act.put, List.setIfInBounds_toArray, List.set_cons_zero, List.set_cons_succ]
  refine wpAnyH_take (i := 9) (oi := ⟨_, _, _, _, _, _⟩) (v := ?_) rfl (by kernel_rfl) (by kernel_rfl) (by kernel_rfl) (fun _ _ _ h => h) (Or.inl ⟨by rfl, ?_⟩) (by assumption) ?_
  rotate_left
  · intro w hSw
    (try dsimp only at hSw)
    go_split_ands
    go_simp
    try with_reducible rfl
  try simp only [Act.put, List.setIfInBounds_toArray, List.set_cons_zero, List.set_cons_succ]
  refine wpAnyH_take (i := 10) (oi := ⟨_, _, _, _, _, _⟩) (v := ?_) rfl (by kernel_rfl) (by kernel_rfl) (by kernel_rfl) (fun _ _ _ h => h) (Or.inl ⟨by rfl, ?_⟩) (by assumption) ?_
  rotate_left
  · intro w hSw
    (try dsimp only at hSw)
    go_split_ands
    go_simp
    try with_reducible rfl
  try simp only [Act.put, List.setIfInBounds_toArray, List.set_cons_zero, List.set_cons_succ]
  refine wpAnyH_take (i := 11) (oi := ⟨_, _, _, _, _, _⟩) (v := ?_) rfl (by kernel_rfl) (by kernel_rfl) (by kernel_rfl) (fun _ _ _ h => h) (Or.inl ⟨by rfl, ?_⟩) (by assumption) ?_
  rotate_left
  · intro w hSw
    (try dsimp only at hSw)
    go_split_ands
    go_simp
    try with_reducible rfl
  try simp only [Act.put, List.setIfInBounds_toArray, List.set_cons_zero, List.set_cons_succ]
  refine wpAnyH_done (by kernel_rfl) ?_ _
  have hck : chk2 z1 z2 = 0 := chk2_ok f1.can f2.can f1.len f2.len
  have hl2 : z2.length = 0 ↔ wq (val ys) e2 = 0 := by
    rw [← v2]
    constructor
    · intro h; rw [List.eq_nil_of_length_eq_zero h]; rfl
    · intro h; rw [f2.can.val_zero h]; rfl
  by_cases hz0 : wq (val ys) e2 = 0
  · have hE : divE z1 z2 = 53 := by unfold divE; rw [if_pos hck, if_pos (hl2.2 hz0)]
    have HZ0 := Lib.hid hz0
    rw [hE]
    clear hok hz0 hl2
    obtain ⟨g0, g1, g2⟩ := box3_of mr
    have f0 := frozen_of 0 mr
    have f1 := frozen_of 1 mr
    have f2 := frozen_of 2 mr
    go_wp2
    refine bodyPost_ret (v := .tuple #[.agg #[.bool false, .slice none 0 0, .int .i64 0], .int .i64 53]) (by simp [results, Tryz.results67, go_sem, g0, g1, g2]) rfl ?_
    refine ⟨⟨53, false, 0, 0, .inl ⟨HZ0.out, rfl⟩, told53 (by decide)⟩, ?_⟩
    exact ((hB.setCell (p := ⟨w.heap.size, 0, none⟩) (Nat.le_refl _) _).setCell (p := ⟨w.heap.size, 1, none⟩) (Nat.le_refl _) _).setCell (p := ⟨w.heap.size, 2, none⟩) (Nat.le_refl _) _
  · have hE : divE z1 z2 = 0 := by unfold divE; rw [if_pos hck, if_neg (fun h => hz0 (hl2.1 h))]
    obtain ⟨g3, g4, hv, hlt⟩ := hok hE
    have HM := Lib.hid (show val z4 = wq (val xs) e1 % wq (val ys) e2 by
      rw [← v1, ← v2]
      have hp : 0 < val z2 := by omega
      have := (Nat.div_mod_unique hp).2 ⟨(show val z4 + val z2 * val z3 = val z1 by rw [hv, Nat.mul_comm]; omega), hlt⟩
      exact this.2.symm)
    have f4 : Fit z4 := Fit.of_lt g4 (Nat.lt_trans hlt (by rcases Nat.lt_or_ge (val z2) (bp 256) with h | h; exact h; exact absurd ((long_iff f2.can).2 h) (by have := f2.len; omega)))
    have HZ0 := Lib.hid hz0
    have hn4 : n4 ≤ 9223372036854775807 := by have := f4.len; have := r4.len; omega
    rw [hE]
    clear hok hz0 hl2 hv hlt
    go_wp2_with fail
    refine (DSettle_v (c := c4) na 0 V3 r4.rd (fun b h => h.2) hn4).mono ?_
    rintro e V4 ⟨ht, hb0⟩
    have ht := ht.told f4 (by omega) (by omega)
    rw [HM.out] at ht
    obtain ⟨A5, n5, c5, rfl, hr⟩ := ht
    have hl5 := (Array.getElem?_eq_some_iff.1 mr).1
    have mr := heldz hb0 mr
    have hBs := hB.size
    have hB := hB.trans (hb0.mono hB.size)
    obtain ⟨g0, g1, g2⟩ := box3_of mr
    have f0 := frozen_of 0 mr
    have f1 := frozen_of 1 mr
    have f2 := frozen_of 2 mr
    dsimp only [dv]
    go_wp2
    refine bodyPost_ret (v := .tuple #[.agg #[.bool (opN 0 na (wq (val xs) e1 % wq (val ys) e2) 0), .slice A5 n5 c5, .int .i64 (opX 0 (wq (val xs) e1 % wq (val ys) e2) 0)], .int .i64 (opE 0 (wq (val xs) e1 % wq (val ys) e2) 0 : Int)]) (by simp [results, Tryz.results67, go_sem, g0, g1, g2]) rfl ?_
    refine ⟨⟨0, na, (wq (val xs) e1 % wq (val ys) e2), 0, .inr ⟨HZ0.out, rfl, rfl, rfl, rfl⟩, A5, n5, c5, rfl, ?_⟩, ?_⟩
    · exact (((hr.setOther (by simp; omega) _).setOther (by simp; omega) _).setOther (by simp; omega) _).more (by omega)
    · exact ((hB.setCell (p := ⟨w.heap.size, 0, none⟩) (Nat.le_refl _) _).setCell (p := ⟨w.heap.size, 1, none⟩) (Nat.le_refl _) _).setCell (p := ⟨w.heap.size, 2, none⟩) (Nat.le_refl _) _

set_option maxRecDepth 100000 in
set_option maxHeartbeats 2000000 in
theorem toWhole1F_c {pz n0 c0 : Nat} {A0 : Option Addr} {nz : Bool} {e0 : Int} {S : Nat → Prop} {n c pa pu : Nat} {A : Option Addr} {xs : List Nat} (na : Bool) (e1 : Int) (w : World) (ma : w.heap[pa]? = some (.cells #[.bool na, .slice A n c, .int .i64 e1] 24)) (mu : w.heap[pu]? = some (.cells #[.func (.func 73) #[] #[.pointer (some ⟨pz, 0, none⟩)]] 77)) (mz : w.heap[pz]? = some (.cells #[.bool nz, .slice A0 n0 c0, .int .i64 e0] 24))
    (ha : Rd w S A n xs) (hS : ∀ b, S b → b < w.heap.size) (k1 : okB na xs e1 = true) :
    Calls Tryz.prog 124 #[.pointer (some ⟨pa, 0, none⟩), .pointer (some ⟨pu, 0, none⟩)] w fun e w' => ToldP (PWhole na (val xs) e1 (nz && !decide (wr (val xs) e1 = 0))) e w' w.heap.size ∧ Below w.heap.size w w' := by
  obtain ⟨QV, hQV⟩ : ∃ q, Hid (q = wq (val xs) e1 + (if (nz && !decide (wr (val xs) e1 = 0)) = true then 1 else 0)) := ⟨_, Lib.hid rfl⟩
  have hpa := (Array.getElem?_eq_some_iff.1 ma).1
  have hpu := (Array.getElem?_eq_some_iff.1 mu).1
  have up : ∀ {V : World}, Below w.heap.size w V → ∀ b, b < w.heap.size → b < V.heap.size := fun h b hb => by have := h.size; omega
  have mr := World.alloc_heap_new w (.cells #[.bool false, .slice none 0 0, .int .i64 0] 24)
  have ma := heldA (.cells #[.bool false, .slice none 0 0, .int .i64 0] 24) ma
  have mu := heldA (.cells #[.bool false, .slice none 0 0, .int .i64 0] 24) mu
  have mz := heldA (.cells #[.bool false, .slice none 0 0, .int .i64 0] 24) mz
  have hB : Below w.heap.size w (w.alloc (.cells #[.bool false, .slice none 0 0, .int .i64 0] 24)) := (Below.refl _ _).alloc (Nat.le_refl _) _
  obtain ⟨a1, a2, a3, a4, _, _⟩ := okB_true ha.l32 k1
  have fx : Fit xs := ⟨a1, a2⟩
  have hw1 := (ten_bp2 (wd_lt (t := 1000) (p := e1) a3 (by omega)) (by omega)).2.1
  have HW := Lib.hid (fun V (hz : V.heap[pz]? = some (.cells #[.bool nz, .slice A0 n0 c0, .int .i64 e0] 24)) (h1 : Rd V S A n xs) hs => wholeF_c (c := c) na e1 V hz h1 hs fx ⟨by omega, by omega⟩ hw1)
  rw [← hQV.out] at HW
  unfold dv at HW
  clear hw1 a1 a2 a3 a4 fx k1
  go_enter Tryz.func124, Tryz.ntmps124
  go_upto_region 1 with fail
  generalize w.alloc (.cells #[.bool false, .slice none 0 0, .int .i64 0] 24) = W at mr ma mu mz hB ⊢
  obtain ⟨p0, p1, p2⟩ := box3_of ma
  have p3 : W.cell? ⟨pu, 0, none⟩ = _ := cell_of mu rfl
  go_wp2_with fail
  refine wp_region_held_drew (S := fun w' => w'.cell? ⟨pa, 0, none⟩ = some (.bool na) ∧ w'.cell? ⟨pa, 1, none⟩ = some (.slice A n c) ∧ w'.cell? ⟨pa, 2, none⟩ = some (.int .i64 e1) ∧ w'.cell? ⟨pu, 0, none⟩ = some (.func (.func 73) #[] #[.pointer (some ⟨pz, 0, none⟩)])) (by kernel_rfl) ⟨p0, p1, p2, p3⟩ (fun hHeld => ?_)
  (try simp only [List.size_toArray, List.length_cons, List.length_nil, Nat.reduceAdd, Array.replicate_succ, Array.replicate_zero, List.push_toArray, List.append_toArray, List.nil_append, List.cons_append])
  refine wpAnyH_take (i := 0) (oi := ⟨_, _, _, _, _, _⟩) (v := ?_) rfl (by kernel_rfl) (by kernel_rfl) (by kernel_rfl) (fun _ _ _ h => h) (Or.inl ⟨by rfl, ?_⟩) (by assumption) ?_
  rotate_left
  · intro w hSw
    (try dsimp only at hSw)
    go_split_ands
    go_simp
    try with_reducible rfl
  try simp only [Act.put, List.setIfInBounds_toArray, List.set_cons_zero, List.set_cons_succ]
  refine wpAnyH_take (i := 1) (oi := ⟨_, _, _, _, _, _⟩) (v := ?_) rfl (by kernel_rfl) (by kernel_rfl) (by kernel_rfl) (fun _ _ _ h => h) (Or.inl ⟨by rfl, ?_⟩) (by assumption) ?_
  rotate_left
  · intro w hSw
    (try dsimp only at hSw)
    go_split_ands
    go_simp
    try with_reducible rfl
  try simp only [Act.put, List.setIfInBounds_toArray, List.set_cons_zero, List.set_cons_succ]
  refine wpAnyH_take (i := 2) (oi := ⟨_, _, _, _, _, _⟩) (v := ?_) rfl (by kernel_rfl) (by kernel_rfl) (by kernel_rfl) (fun _ _ _ h => h) (Or.inl ⟨by rfl, ?_⟩) (by assumption) ?_
  rotate_left
  · intro w hSw
    (try dsimp only at hSw)
    go_split_ands
    go_simp
    try with_reducible rfl
  try simp only [Act.put, List.setIfInBounds_toArray, List.set_cons_zero, List.set_cons_succ]
  refine wpAnyH_take (i := 3) (oi := ⟨_, _, _, _, _, _⟩) (v := ?_) rfl (by kernel_rfl) (by kernel_rfl) (by kernel_rfl) (fun _ _ _ h => h) (Or.inl ⟨by rfl, ?_⟩) (by assumption) ?_
  rotate_left
  · intro w hSw
    (try dsimp only at hSw)
    go_split_ands
    go_simp
    try with_reducible rfl
  try simp only [Act.put, List.setIfInBounds_toArray, List.set_cons_zero, List.set_cons_succ]
  have ma : W.drew.heap[pa]? = _ := ma
  have mu : W.drew.heap[pu]? = _ := mu
  have mr : W.drew.heap[w.heap.size]? = _ := mr
  have mz : W.drew.heap[pz]? = _ := mz
  have hB : Below w.heap.size w W.drew := only_drewB hB
  generalize hV0 : W.drew = V0 at *
  clear hV0 p0 p1 p2 p3
  refine wpAnyH_ready (rs := [4]) (by kernel_rfl) (by simp) ?_
  refine (AllReadyH.cons (o := ⟨_, _, _, _, _, _⟩) rfl (fun K hK => ?_) AllReadyH.nil)
  go_simp
  refine (HW.out V0 mz (ha.below hB hS) (fun b h => up hB b (hS b h))).mono ?_
  rintro e V1 ⟨A1, n1, c1, z1, rfl, r1, f1, v1, hb0⟩
  have hn1 : n1 ≤ 9223372036854775807 := by have := f1.len; have := r1.len; omega
  have r1 := r1.more (base' := w.heap.size) hB.size
  have ma := heldz hb0 ma
  have mu := heldz hb0 mu
  have mr := heldz hb0 mr
  have hB := hB.trans (hb0.mono hB.size)
  obtain ⟨x0, x1, x2⟩ := box3_of ma
  have x3 : V1.cell? ⟨pu, 0, none⟩ = _ := cell_of mu rfl
  (try dsimp only)
  refine hK.out _ _ ⟨x0, x1, x2, x3⟩ (fun hHeld => ?_)
  clear hK K
  try simp only [Act.put, List.setIfInBounds_toArray, List.set_cons_zero, List.set_cons_succ]
  clear hb0 x0 x1 x2 x3
  refine wpAnyH_ready (rs := [5]) (by kernel_rfl) (by simp) ?_
  refine (AllReadyH.cons (o := ⟨_, _, _, _, _, _⟩) rfl (fun K hK => ?_) AllReadyH.nil)
  go_simp
  refine (DSettle_v (c := c1) na 0 V1 r1.rd (fun b h => h.2) hn1).mono ?_
  rintro e V2 ⟨ht, hb0⟩
  have ht := ht.told f1 (by omega) (by omega)
  rw [v1] at ht
  obtain ⟨A5, n5, c5, rfl, hr⟩ := ht
  have hl5 := (Array.getElem?_eq_some_iff.1 mr).1
  have hBs := hB.size
  have ma := heldz hb0 ma
  have mu := heldz hb0 mu
  have mr := heldz hb0 mr
  have hB := hB.trans (hb0.mono hB.size)
  obtain ⟨x0, x1, x2⟩ := box3_of ma
  have x3 : V2.cell? ⟨pu, 0, none⟩ = _ := cell_of mu rfl
  obtain ⟨g0, g1, g2⟩ := box3_of mr
  have f0 := frozen_of 0 mr
  have f1 := frozen_of 1 mr
  have f2 := frozen_of 2 mr
  (try dsimp only)
  refine hK.out _ _ ⟨x0, x1, x2, x3⟩ (fun hHeld => ?_)
  clear hK K
  try simp only [Act.put, List.setIfInBounds_toArray, List.set_cons_zero, List.set_cons_succ]
  refine wpAnyH_take (i := 6) (oi := ⟨_, _, _, _, _, _⟩) (v := ?_) rfl (by kernel_rfl) (by kernel_rfl) (by kernel_rfl) (fun _ _ _ h => h) (Or.inl ⟨by rfl, ?_⟩) (by assumption) ?_
  rotate_left
  · intro w hSw
    (try dsimp only at hSw)
    go_split_ands
    go_simp
    try with_reducible rfl
  try simp only [Act.put, List.setIfInBounds_toArray, List.set_cons_zero, List.set_cons_succ]
  refine wpAnyH_take (i := 7) (oi := ⟨_, _, _, _, _, _⟩) (v := ?_) rfl (by kernel_rfl) (by kernel_rfl) (by kernel_rfl) (fun _ _ _ h => h) (Or.inl ⟨by rfl, ?_⟩) (by assumption) ?_
  rotate_left
  · intro w hSw
    (try dsimp only at hSw)
    go_split_ands
    go_simp
    try with_reducible rfl
  try simp only [Act.put, List.setIfInBounds_toArray, List.set_cons_zero, List.set_cons_succ]
  refine wpAnyH_ready (rs := [8]) (by kernel_rfl) (by simp) ?_
  refine (AllReadyH.cons (o := ⟨_, _, _, _, _, _⟩) rfl (fun K hK => ?_) AllReadyH.nil)
  dsimp only [dv]
  go_simp
  refine hK.out _ _ (by refine ⟨?_, ?_, ?_, ?_⟩ <;> (first | go_keep | (rw [World.cell?_setCell_far _ _ _ _ (by dsimp only; omega), World.cell?_setCell_far _ _ _ _ (by dsimp only; omega), World.cell?_setCell_far _ _ _ _ (by dsimp only; omega)]; assumption))) (fun hHeld => ?_)
  clear hK K
  try simp only [Act.put, List.setIfInBounds_toArray, List.set_cons_zero, List.set_cons_succ]
  refine wpAnyH_take (i := 9) (oi := ⟨_, _, _, _, _, _⟩) (v := ?_) rfl (by kernel_rfl) (by kernel_rfl) (by kernel_rfl) (fun _ _ _ h => h) (Or.inl ⟨by rfl, ?_⟩) (by assumption) ?_
  rotate_left
  · intro w hSw
    (try dsimp only at hSw)
    go_split_ands
    go_simp
    try with_reducible rfl
  try simp only [Act.put, List.setIfInBounds_toArray, List.set_cons_zero, List.set_cons_succ]
  refine wpAnyH_done (by kernel_rfl) ?_ _
  go_wp2
  refine bodyPost_ret (v := .tuple #[.agg #[.bool (opN 0 na QV 0), .slice A5 n5 c5, .int .i64 (opX 0 QV 0)], .int .i64 (opE 0 QV 0 : Int)]) (by simp [results, Tryz.results124, go_sem, g0, g1, g2]) rfl ?_
  refine ⟨⟨0, na, QV, 0, ⟨rfl, rfl, hQV.out, rfl⟩, A5, n5, c5, rfl, ?_⟩, ?_⟩
  · exact (((hr.setOther (by simp; omega) _).setOther (by simp; omega) _).setOther (by simp; omega) _).more (by omega)
  · exact ((hB.setCell (p := ⟨w.heap.size, 0, none⟩) (Nat.le_refl _) _).setCell (p := ⟨w.heap.size, 1, none⟩) (Nat.le_refl _) _).setCell (p := ⟨w.heap.size, 2, none⟩) (Nat.le_refl _) _

set_option maxRecDepth 100000 in
set_option maxHeartbeats 2000000 in
theorem toWhole1C_c {pz n0 c0 : Nat} {A0 : Option Addr} {nz : Bool} {e0 : Int} {S : Nat → Prop} {n c pa pu : Nat} {A : Option Addr} {xs : List Nat} (na : Bool) (e1 : Int) (w : World) (ma : w.heap[pa]? = some (.cells #[.bool na, .slice A n c, .int .i64 e1] 24)) (mu : w.heap[pu]? = some (.cells #[.func (.func 76) #[] #[.pointer (some ⟨pz, 0, none⟩)]] 77)) (mz : w.heap[pz]? = some (.cells #[.bool nz, .slice A0 n0 c0, .int .i64 e0] 24))
    (ha : Rd w S A n xs) (hS : ∀ b, S b → b < w.heap.size) (k1 : okB na xs e1 = true) :
    Calls Tryz.prog 124 #[.pointer (some ⟨pa, 0, none⟩), .pointer (some ⟨pu, 0, none⟩)] w fun e w' => ToldP (PWhole na (val xs) e1 (!nz && !decide (wr (val xs) e1 = 0))) e w' w.heap.size ∧ Below w.heap.size w w' := by
  obtain ⟨QV, hQV⟩ : ∃ q, Hid (q = wq (val xs) e1 + (if (!nz && !decide (wr (val xs) e1 = 0)) = true then 1 else 0)) := ⟨_, Lib.hid rfl⟩
  have hpa := (Array.getElem?_eq_some_iff.1 ma).1
  have hpu := (Array.getElem?_eq_some_iff.1 mu).1
  have up : ∀ {V : World}, Below w.heap.size w V → ∀ b, b < w.heap.size → b < V.heap.size := fun h b hb => by have := h.size; omega
  have mr := World.alloc_heap_new w (.cells #[.bool false, .slice none 0 0, .int .i64 0] 24)
  have ma := heldA (.cells #[.bool false, .slice none 0 0, .int .i64 0] 24) ma
  have mu := heldA (.cells #[.bool false, .slice none 0 0, .int .i64 0] 24) mu
  have mz := heldA (.cells #[.bool false, .slice none 0 0, .int .i64 0] 24) mz
  have hB : Below w.heap.size w (w.alloc (.cells #[.bool false, .slice none 0 0, .int .i64 0] 24)) := (Below.refl _ _).alloc (Nat.le_refl _) _
  obtain ⟨a1, a2, a3, a4, _, _⟩ := okB_true ha.l32 k1
  have fx : Fit xs := ⟨a1, a2⟩
  have hw1 := (ten_bp2 (wd_lt (t := 1000) (p := e1) a3 (by omega)) (by omega)).2.1
  have HW := Lib.hid (fun V (hz : V.heap[pz]? = some (.cells #[.bool nz, .slice A0 n0 c0, .int .i64 e0] 24)) (h1 : Rd V S A n xs) hs => wholeC_c (c := c) na e1 V hz h1 hs fx ⟨by omega, by omega⟩ hw1)
  rw [← hQV.out] at HW
  unfold dv at HW
  clear hw1 a1 a2 a3 a4 fx k1
  go_enter Tryz.func124, Tryz.ntmps124
  go_upto_region 1 with fail
  generalize w.alloc (.cells #[.bool false, .slice none 0 0, .int .i64 0] 24) = W at mr ma mu mz hB ⊢
  obtain ⟨p0, p1, p2⟩ := box3_of ma
  have p3 : W.cell? ⟨pu, 0, none⟩ = _ := cell_of mu rfl
  go_wp2_with fail
  refine wp_region_held_drew (S := fun w' => w'.cell? ⟨pa, 0, none⟩ = some (.bool na) ∧ w'.cell? ⟨pa, 1, none⟩ = some (.slice A n c) ∧ w'.cell? ⟨pa, 2, none⟩ = some (.int .i64 e1) ∧ w'.cell? ⟨pu, 0, none⟩ = some (.func (.func 76) #[] #[.pointer (some ⟨pz, 0, none⟩)])) (by kernel_rfl) ⟨p0, p1, p2, p3⟩ (fun hHeld => ?_)
  (try simp only [List.size_toArray, List.length_cons, List.length_nil, Nat.reduceAdd, Array.replicate_succ, Array.replicate_zero, List.push_toArray, List.append_toArray, List.nil_append, List.cons_append])
  refine wpAnyH_take (i := 0) (oi := ⟨_, _, _, _, _, _⟩) (v := ?_) rfl (by kernel_rfl) (by kernel_rfl) (by kernel_rfl) (fun _ _ _ h => h) (Or.inl ⟨by rfl, ?_⟩) (by assumption) ?_
  rotate_left
  · intro w hSw
    (try dsimp only at hSw)
    go_split_ands
    go_simp
    try with_reducible rfl
  try simp only [Act.put, List.setIfInBounds_toArray, List.set_cons_zero, List.set_cons_succ]
  refine wpAnyH_take (i := 1) (oi := ⟨_, _, _, _, _, _⟩) (v := ?_) rfl (by kernel_rfl) (by kernel_rfl) (by kernel_rfl) (fun _ _ _ h => h) (Or.inl ⟨by rfl, ?_⟩) (by assumption) ?_
  rotate_left
  · intro w hSw
    (try dsimp only at hSw)
    go_split_ands
    go_simp
    try with_reducible rfl
  try simp only [Act.put, List.setIfInBounds_toArray, List.set_cons_zero, List.set_cons_succ]
  refine wpAnyH_take (i := 2) (oi := ⟨_, _, _, _, _, _⟩) (v := ?_) rfl (by kernel_rfl) (by kernel_rfl) (by kernel_rfl) (fun _ _ _ h => h) (Or.inl ⟨by rfl, ?_⟩) (by assumption) ?_
  rotate_left
  · intro w hSw
    (try dsimp only at hSw)
    go_split_ands
    go_simp
    try with_reducible rfl
  try simp only [Act.put, List.setIfInBounds_toArray, List.set_cons_zero, List.set_cons_succ]
  refine wpAnyH_take (i := 3) (oi := ⟨_, _, _, _, _, _⟩) (v := ?_) rfl (by kernel_rfl) (by kernel_rfl) (by kernel_rfl) (fun _ _ _ h => h) (Or.inl ⟨by rfl, ?_⟩) (by assumption) ?_
  rotate_left
  · intro w hSw
    (try dsimp only at hSw)
    go_split_ands
    go_simp
    try with_reducible rfl
  try simp only [Act.put, List.setIfInBounds_toArray, List.set_cons_zero, List.set_cons_succ]
  have ma : W.drew.heap[pa]? = _ := ma
  have mu : W.drew.heap[pu]? = _ := mu
  have mr : W.drew.heap[w.heap.size]? = _ := mr
  have mz : W.drew.heap[pz]? = _ := mz
  have hB : Below w.heap.size w W.drew := only_drewB hB
  generalize hV0 : W.drew = V0 at *
  clear hV0 p0 p1 p2 p3
  refine wpAnyH_ready (rs := [4]) (by kernel_rfl) (by simp) ?_
  refine (AllReadyH.cons (o := ⟨_, _, _, _, _, _⟩) rfl (fun K hK => ?_) AllReadyH.nil)
  go_simp
  refine (HW.out V0 mz (ha.below hB hS) (fun b h => up hB b (hS b h))).mono ?_
  rintro e V1 ⟨A1, n1, c1, z1, rfl, r1, f1, v1, hb0⟩
  have hn1 : n1 ≤ 9223372036854775807 := by have := f1.len; have := r1.len; omega
  have r1 := r1.more (base' := w.heap.size) hB.size
  have ma := heldz hb0 ma
  have mu := heldz hb0 mu
  have mr := heldz hb0 mr
  have hB := hB.trans (hb0.mono hB.size)
  obtain ⟨x0, x1, x2⟩ := box3_of ma
  have x3 : V1.cell? ⟨pu, 0, none⟩ = _ := cell_of mu rfl
  (try dsimp only)
  refine hK.out _ _ ⟨x0, x1, x2, x3⟩ (fun hHeld => ?_)
  clear hK K
  try simp only [Act.put, List.setIfInBounds_toArray, List.set_cons_zero, List.set_cons_succ]
  clear hb0 x0 x1 x2 x3
  refine wpAnyH_ready (rs := [5]) (by kernel_rfl) (by simp) ?_
  refine (AllReadyH.cons (o := ⟨_, _, _, _, _, _⟩) rfl (fun K hK => ?_) AllReadyH.nil)
  go_simp
  refine (DSettle_v (c := c1) na 0 V1 r1.rd (fun b h => h.2) hn1).mono ?_
  rintro e V2 ⟨ht, hb0⟩
  have ht := ht.told f1 (by omega) (by omega)
  rw [v1] at ht
  obtain ⟨A5, n5, c5, rfl, hr⟩ := ht
  have hl5 := (Array.getElem?_eq_some_iff.1 mr).1
  have hBs := hB.size
  have ma := heldz hb0 ma
  have mu := heldz hb0 mu
  have mr := heldz hb0 mr
  have hB := hB.trans (hb0.mono hB.size)
  obtain ⟨x0, x1, x2⟩ := box3_of ma
  have x3 : V2.cell? ⟨pu, 0, none⟩ = _ := cell_of mu rfl
  obtain ⟨g0, g1, g2⟩ := box3_of mr
  have f0 := frozen_of 0 mr
  have f1 := frozen_of 1 mr
  have f2 := frozen_of 2 mr
  (try dsimp only)
  refine hK.out _ _ ⟨x0, x1, x2, x3⟩ (fun hHeld => ?_)
  clear hK K
  try simp only [Act.put, List.setIfInBounds_toArray, List.set_cons_zero, List.set_cons_succ]
  refine wpAnyH_take (i := 6) (oi := ⟨_, _, _, _, _, _⟩) (v := ?_) rfl (by kernel_rfl) (by kernel_rfl) (by kernel_rfl) (fun _ _ _ h => h) (Or.inl ⟨by rfl, ?_⟩) (by assumption) ?_
  rotate_left
  · intro w hSw
    (try dsimp only at hSw)
    go_split_ands
    go_simp
    try with_reducible rfl
  try simp only [Act.put, List.setIfInBounds_toArray, List.set_cons_zero, List.set_cons_succ]
  refine wpAnyH_take (i := 7) (oi := ⟨_, _, _, _, _, _⟩) (v := ?_) rfl (by kernel_rfl) (by kernel_rfl) (by kernel_rfl) (fun _ _ _ h => h) (Or.inl ⟨by rfl, ?_⟩) (by assumption) ?_
  rotate_left
  · intro w hSw
    (try dsimp only at hSw)
    go_split_ands
    go_simp
    try with_reducible rfl
  try simp only [Act.put, List.setIfInBounds_toArray, List.set_cons_zero, List.set_cons_succ]
  refine wpAnyH_ready (rs := [8]) (by kernel_rfl) (by simp) ?_
  refine (AllReadyH.cons (o := ⟨_, _, _, _, _, _⟩) rfl (fun K hK => ?_) AllReadyH.nil)
  dsimp only [dv]
  go_simp
  refine hK.out _ _ (by refine ⟨?_, ?_, ?_, ?_⟩ <;> (first | go_keep | (rw [World.cell?_setCell_far _ _ _ _ (by dsimp only; omega), World.cell?_setCell_far _ _ _ _ (by dsimp only; omega), World.cell?_setCell_far _ _ _ _ (by dsimp only; omega)]; assumption))) (fun hHeld => ?_)
  clear hK K
  try simp only [Act.put, List.setIfInBounds_toArray, List.set_cons_zero, List.set_cons_succ]
  refine wpAnyH_take (i := 9) (oi := ⟨_, _, _, _, _, _⟩) (v := ?_) rfl (by kernel_rfl) (by kernel_rfl) (by kernel_rfl) (fun _ _ _ h => h) (Or.inl ⟨by rfl, ?_⟩) (by assumption) ?_
  rotate_left
  · intro w hSw
    (try dsimp only at hSw)
    go_split_ands
    go_simp
    try with_reducible rfl
  try simp only [Act.put, List.setIfInBounds_toArray, List.set_cons_zero, List.set_cons_succ]
  refine wpAnyH_done (by kernel_rfl) ?_ _
  go_wp2
  refine bodyPost_ret (v := .tuple #[.agg #[.bool (opN 0 na QV 0), .slice A5 n5 c5, .int .i64 (opX 0 QV 0)], .int .i64 (opE 0 QV 0 : Int)]) (by simp [results, Tryz.results124, go_sem, g0, g1, g2]) rfl ?_
  refine ⟨⟨0, na, QV, 0, ⟨rfl, rfl, hQV.out, rfl⟩, A5, n5, c5, rfl, ?_⟩, ?_⟩
  · exact (((hr.setOther (by simp; omega) _).setOther (by simp; omega) _).setOther (by simp; omega) _).more (by omega)
  · exact ((hB.setCell (p := ⟨w.heap.size, 0, none⟩) (Nat.le_refl _) _).setCell (p := ⟨w.heap.size, 1, none⟩) (Nat.le_refl _) _).setCell (p := ⟨w.heap.size, 2, none⟩) (Nat.le_refl _) _

set_option maxRecDepth 100000 in
set_option maxHeartbeats 2000000 in
theorem toWhole1R_c {S : Nat → Prop} {n c pa pu : Nat} {A : Option Addr} {xs : List Nat} (na : Bool) (e1 : Int) (w : World) (ma : w.heap[pa]? = some (.cells #[.bool na, .slice A n c, .int .i64 e1] 24)) (mu : w.heap[pu]? = some (.cells #[.func (.func 77) #[] #[]] 77))
    (ha : Rd w S A n xs) (hS : ∀ b, S b → b < w.heap.size) (k1 : okB na xs e1 = true) :
    Calls Tryz.prog 124 #[.pointer (some ⟨pa, 0, none⟩), .pointer (some ⟨pu, 0, none⟩)] w fun e w' => ToldP (PWhole na (val xs) e1 (decide (0 ≤ half (wr (val xs) e1) (wd 1 (-e1))))) e w' w.heap.size ∧ Below w.heap.size w w' := by
  obtain ⟨QV, hQV⟩ : ∃ q, Hid (q = wq (val xs) e1 + (if (decide (0 ≤ half (wr (val xs) e1) (wd 1 (-e1)))) = true then 1 else 0)) := ⟨_, Lib.hid rfl⟩
  have hpa := (Array.getElem?_eq_some_iff.1 ma).1
  have hpu := (Array.getElem?_eq_some_iff.1 mu).1
  have up : ∀ {V : World}, Below w.heap.size w V → ∀ b, b < w.heap.size → b < V.heap.size := fun h b hb => by have := h.size; omega
  have mr := World.alloc_heap_new w (.cells #[.bool false, .slice none 0 0, .int .i64 0] 24)
  have ma := heldA (.cells #[.bool false, .slice none 0 0, .int .i64 0] 24) ma
  have mu := heldA (.cells #[.bool false, .slice none 0 0, .int .i64 0] 24) mu
  have hB : Below w.heap.size w (w.alloc (.cells #[.bool false, .slice none 0 0, .int .i64 0] 24)) := (Below.refl _ _).alloc (Nat.le_refl _) _
  obtain ⟨a1, a2, a3, a4, _, _⟩ := okB_true ha.l32 k1
  have fx : Fit xs := ⟨a1, a2⟩
  have hw1 := (ten_bp2 (wd_lt (t := 1000) (p := e1) a3 (by omega)) (by omega)).2.1
  have HW := Lib.hid (fun V (h1 : Rd V S A n xs) hs => wholeR_c (c := c) na e1 V h1 hs fx ⟨by omega, by omega⟩ hw1)
  rw [← hQV.out] at HW
  unfold dv at HW
  clear hw1 a1 a2 a3 a4 fx k1
  go_enter Tryz.func124, Tryz.ntmps124
  go_upto_region 1 with fail
  generalize w.alloc (.cells #[.bool false, .slice none 0 0, .int .i64 0] 24) = W at mr ma mu hB ⊢
  obtain ⟨p0, p1, p2⟩ := box3_of ma
  have p3 : W.cell? ⟨pu, 0, none⟩ = _ := cell_of mu rfl
  go_wp2_with fail
  refine wp_region_held_drew (S := fun w' => w'.cell? ⟨pa, 0, none⟩ = some (.bool na) ∧ w'.cell? ⟨pa, 1, none⟩ = some (.slice A n c) ∧ w'.cell? ⟨pa, 2, none⟩ = some (.int .i64 e1) ∧ w'.cell? ⟨pu, 0, none⟩ = some (.func (.func 77) #[] #[])) (by kernel_rfl) ⟨p0, p1, p2, p3⟩ (fun hHeld => ?_)
  (try simp only [List.size_toArray, List.length_cons, List.length_nil, Nat.reduceAdd, Array.replicate_succ, Array.replicate_zero, List.push_toArray, List.append_toArray, List.nil_append, List.cons_append])
  refine wpAnyH_take (i := 0) (oi := ⟨_, _, _, _, _, _⟩) (v := ?_) rfl (by kernel_rfl) (by kernel_rfl) (by kernel_rfl) (fun _ _ _ h => h) (Or.inl ⟨by rfl, ?_⟩) (by assumption) ?_
  rotate_left
  · intro w hSw
    (try dsimp only at hSw)
    go_split_ands
    go_simp
    try with_reducible rfl
  try simp only [Act.put, List.setIfInBounds_toArray, List.set_cons_zero, List.set_cons_succ]
  refine wpAnyH_take (i := 1) (oi := ⟨_, _, _, _, _, _⟩) (v := ?_) rfl (by kernel_rfl) (by kernel_rfl) (by kernel_rfl) (fun _ _ _ h => h) (Or.inl ⟨by rfl, ?_⟩) (by assumption) ?_
  rotate_left
  · intro w hSw
    (try dsimp only at hSw)
    go_split_ands
    go_simp
    try with_reducible rfl
  try simp only [Act.put, List.setIfInBounds_toArray, List.set_cons_zero, List.set_cons_succ]
  refine wpAnyH_take (i := 2) (oi := ⟨_, _, _, _, _, _⟩) (v := ?_) rfl (by kernel_rfl) (by kernel_rfl) (by kernel_rfl) (fun _ _ _ h => h) (Or.inl ⟨by rfl, ?_⟩) (by assumption) ?_
  rotate_left
  · intro w hSw
    (try dsimp only at hSw)
    go_split_ands
    go_simp
    try with_reducible rfl
  try simp only [Act.put, List.setIfInBounds_toArray, List.set_cons_zero, List.set_cons_succ]
  refine wpAnyH_take (i := 3) (oi := ⟨_, _, _, _, _, _⟩) (v := ?_) rfl (by kernel_rfl) (by kernel_rfl) (by kernel_rfl) (fun _ _ _ h => h) (Or.inl ⟨by rfl, ?_⟩) (by assumption) ?_
  rotate_left
  · intro w hSw
    (try dsimp only at hSw)
    go_split_ands
    go_simp
    try with_reducible rfl
  try simp only [Act.put, List.setIfInBounds_toArray, List.set_cons_zero, List.set_cons_succ]
  have ma : W.drew.heap[pa]? = _ := ma
  have mu : W.drew.heap[pu]? = _ := mu
  have mr : W.drew.heap[w.heap.size]? = _ := mr
  have hB : Below w.heap.size w W.drew := only_drewB hB
  generalize hV0 : W.drew = V0 at *
  clear hV0 p0 p1 p2 p3
  refine wpAnyH_ready (rs := [4]) (by kernel_rfl) (by simp) ?_
  refine (AllReadyH.cons (o := ⟨_, _, _, _, _, _⟩) rfl (fun K hK => ?_) AllReadyH.nil)
  go_simp
  refine (HW.out V0 (ha.below hB hS) (fun b h => up hB b (hS b h))).mono ?_
  rintro e V1 ⟨A1, n1, c1, z1, rfl, r1, f1, v1, hb0⟩
  have hn1 : n1 ≤ 9223372036854775807 := by have := f1.len; have := r1.len; omega
  have r1 := r1.more (base' := w.heap.size) hB.size
  have ma := heldz hb0 ma
  have mu := heldz hb0 mu
  have mr := heldz hb0 mr
  have hB := hB.trans (hb0.mono hB.size)
  obtain ⟨x0, x1, x2⟩ := box3_of ma
  have x3 : V1.cell? ⟨pu, 0, none⟩ = _ := cell_of mu rfl
  (try dsimp only)
  refine hK.out _ _ ⟨x0, x1, x2, x3⟩ (fun hHeld => ?_)
  clear hK K
  try simp only [Act.put, List.setIfInBounds_toArray, List.set_cons_zero, List.set_cons_succ]
  clear hb0 x0 x1 x2 x3
  refine wpAnyH_ready (rs := [5]) (by kernel_rfl) (by simp) ?_
  refine (AllReadyH.cons (o := ⟨_, _, _, _, _, _⟩) rfl (fun K hK => ?_) AllReadyH.nil)
  go_simp
  refine (DSettle_v (c := c1) na 0 V1 r1.rd (fun b h => h.2) hn1).mono ?_
  rintro e V2 ⟨ht, hb0⟩
  have ht := ht.told f1 (by omega) (by omega)
  rw [v1] at ht
  obtain ⟨A5, n5, c5, rfl, hr⟩ := ht
  have hl5 := (Array.getElem?_eq_some_iff.1 mr).1
  have hBs := hB.size
  have ma := heldz hb0 ma
  have mu := heldz hb0 mu
  have mr := heldz hb0 mr
  have hB := hB.trans (hb0.mono hB.size)
  obtain ⟨x0, x1, x2⟩ := box3_of ma
  have x3 : V2.cell? ⟨pu, 0, none⟩ = _ := cell_of mu rfl
  obtain ⟨g0, g1, g2⟩ := box3_of mr
  have f0 := frozen_of 0 mr
  have f1 := frozen_of 1 mr
  have f2 := frozen_of 2 mr
  (try dsimp only)
  refine hK.out _ _ ⟨x0, x1, x2, x3⟩ (fun hHeld => ?_)
  clear hK K
  try simp only [Act.put, List.setIfInBounds_toArray, List.set_cons_zero, List.set_cons_succ]
  refine wpAnyH_take (i := 6) (oi := ⟨_, _, _, _, _, _⟩) (v := ?_) rfl (by kernel_rfl) (by kernel_rfl) (by kernel_rfl) (fun _ _ _ h => h) (Or.inl ⟨by rfl, ?_⟩) (by assumption) ?_
  rotate_left
  · intro w hSw
    (try dsimp only at hSw)
    go_split_ands
    go_simp
    try with_reducible rfl
  try simp only [Act.put, List.setIfInBounds_toArray, List.set_cons_zero, List.set_cons_succ]
  refine wpAnyH_take (i := 7) (oi := ⟨_, _, _, _, _, _⟩) (v := ?_) rfl (by kernel_rfl) (by kernel_rfl) (by kernel_rfl) (fun _ _ _ h => h) (Or.inl ⟨by rfl, ?_⟩) (by assumption) ?_
  rotate_left
  · intro w hSw
    (try dsimp only at hSw)
    go_split_ands
    go_simp
    try with_reducible rfl
  try simp only [Act.put, List.setIfInBounds_toArray, List.set_cons_zero, List.set_cons_succ]
  refine wpAnyH_ready (rs := [8]) (by kernel_rfl) (by simp) ?_
  refine (AllReadyH.cons (o := ⟨_, _, _, _, _, _⟩) rfl (fun K hK => ?_) AllReadyH.nil)
  dsimp only [dv]
  go_simp
  refine hK.out _ _ (by refine ⟨?_, ?_, ?_, ?_⟩ <;> (first | go_keep | (rw [World.cell?_setCell_far _ _ _ _ (by dsimp only; omega), World.cell?_setCell_far _ _ _ _ (by dsimp only; omega), World.cell?_setCell_far _ _ _ _ (by dsimp only; omega)]; assumption))) (fun hHeld => ?_)
  clear hK K
  try simp only [Act.put, List.setIfInBounds_toArray, List.set_cons_zero, List.set_cons_succ]
  refine wpAnyH_take (i := 9) (oi := ⟨_, _, _, _, _, _⟩) (v := ?_) rfl (by kernel_rfl) (by kernel_rfl) (by kernel_rfl) (fun _ _ _ h => h) (Or.inl ⟨by rfl, ?_⟩) (by assumption) ?_
  rotate_left
  · intro w hSw
    (try dsimp only at hSw)
    go_split_ands
    go_simp
    try with_reducible rfl
  try simp only [Act.put, List.setIfInBounds_toArray, List.set_cons_zero, List.set_cons_succ]
  refine wpAnyH_done (by kernel_rfl) ?_ _
  go_wp2
  refine bodyPost_ret (v := .tuple #[.agg #[.bool (opN 0 na QV 0), .slice A5 n5 c5, .int .i64 (opX 0 QV 0)], .int .i64 (opE 0 QV 0 : Int)]) (by simp [results, Tryz.results124, go_sem, g0, g1, g2]) rfl ?_
  refine ⟨⟨0, na, QV, 0, ⟨rfl, rfl, hQV.out, rfl⟩, A5, n5, c5, rfl, ?_⟩, ?_⟩
  · exact (((hr.setOther (by simp; omega) _).setOther (by simp; omega) _).setOther (by simp; omega) _).more (by omega)
  · exact ((hB.setCell (p := ⟨w.heap.size, 0, none⟩) (Nat.le_refl _) _).setCell (p := ⟨w.heap.size, 1, none⟩) (Nat.le_refl _) _).setCell (p := ⟨w.heap.size, 2, none⟩) (Nat.le_refl _) _

end Go.Proofs.YtbbafggejnjjiaaGreatDoor

namespace Go.Proofs.YtbbafggejnjjiaaGreatDoor
open Go.RowKit
theorem three_newq (w : World) (o1 o2 o3 : Obj) : (((w.alloc o1).alloc o2).alloc o3).heap[w.heap.size]? = some o1 ∧ (((w.alloc o1).alloc o2).alloc o3).heap[w.heap.size + 1]? = some o2 ∧ (((w.alloc o1).alloc o2).alloc o3).heap[w.heap.size + 1 + 1]? = some o3 := by
  obtain ⟨a1, a2⟩ := two_new w o1 o2
  have h := World.alloc_heap_new ((w.alloc o1).alloc o2) o3
  simp only [World.size_alloc] at h
  exact ⟨(Below.heap_alloc _ _ _ (by simp <;> omega)).trans a1, (Below.heap_alloc _ _ _ (by simp <;> omega)).trans a2, h⟩

set_option maxRecDepth 100000 in
set_option maxHeartbeats 2000000 in
theorem QDiv_c {S : Nat → Prop} {n m c d : Nat} {A B : Option Addr} {xs ys : List Nat} (na nb : Bool) (e1 e2 : Int) (w : World)
    (ha : Rd w S A n xs) (hb : Rd w S B m ys) (hS : ∀ b, S b → b < w.heap.size) (hn : n ≤ 9223372036854775807) (hm : m ≤ 9223372036854775807) :
    Calls Tryz.prog 13 #[dv na A n c e1, dv nb B m d e2] w fun e w' => ToldP (Chk (okE2 na xs e1 nb ys e2) (PDiv na (val xs) e1 nb (val ys) e2)) e w' w.heap.size ∧ Below w.heap.size w w' := by
  have up : ∀ {V : World}, Below w.heap.size w V → ∀ b, b < w.heap.size → b < V.heap.size := fun h b hb => by have := h.size; omega
  have hmf : ∀ (fn : Fn) (first cap : Array Value) (w : World), (Instr.makeFunc fn first cap).run Tryz.prog w = .ok (.func fn first cap) w := fun _ _ _ _ => rfl
  have hW : Below w.heap.size w ((((w.alloc (.cells #[.bool na, .slice A n c, .int .i64 e1] 24)).alloc (.cells #[.bool nb, .slice B m d, .int .i64 e2] 24)).alloc (.cells #[.bool false, .slice none 0 0, .int .i64 0] 24)).alloc (.cells #[.bool na, .slice A n c, .int .i64 e1, .bool nb, .slice B m d, .int .i64 e2] 24)) := (((((Below.refl w.heap.size w).alloc (Nat.le_refl _) (.cells #[.bool na, .slice A n c, .int .i64 e1] 24)).alloc (by simp <;> omega) (.cells #[.bool nb, .slice B m d, .int .i64 e2] 24)).alloc (by simp <;> omega) (.cells #[.bool false, .slice none 0 0, .int .i64 0] 24)).alloc (by simp <;> omega) (.cells #[.bool na, .slice A n c, .int .i64 e1, .bool nb, .slice B m d, .int .i64 e2] 24))
  obtain ⟨ma, mb, mr, ml⟩ := four_new w (.cells #[.bool na, .slice A n c, .int .i64 e1] 24) (.cells #[.bool nb, .slice B m d, .int .i64 e2] 24) (.cells #[.bool false, .slice none 0 0, .int .i64 0] 24) (.cells #[.bool na, .slice A n c, .int .i64 e1, .bool nb, .slice B m d, .int .i64 e2] 24)
  unfold dv
  go_enter Tryz.func13, Tryz.ntmps13
  go_wp2_with fail
  generalize ((((w.alloc (.cells #[.bool na, .slice A n c, .int .i64 e1] 24)).alloc (.cells #[.bool nb, .slice B m d, .int .i64 e2] 24)).alloc (.cells #[.bool false, .slice none 0 0, .int .i64 0] 24)).alloc (.cells #[.bool na, .slice A n c, .int .i64 e1, .bool nb, .slice B m d, .int .i64 e2] 24)) = W at ma mb mr ml hW ⊢
  refine (workD_c (c := c) (d := d) na nb e1 e2 (.pointer (some ⟨w.heap.size + 1, 0, none⟩)) (.pointer (some ⟨w.heap.size, 0, none⟩)) (PDiv na (val xs) e1 nb (val ys) e2) W ml (ha.below hW hS) (hb.below hW hS) (fun b h => up hW b (hS b h)) hn hm (fun V hV k1 k2 => div1_c (c := c) (d := d) na nb e1 e2 V (heldz hV ma) (heldz hV mb) ((ha.below hW hS).below hV (fun b h => up hW b (hS b h))) ((hb.below hW hS).below hV (fun b h => up hW b (hS b h))) (fun b h => up (hW.trans (hV.mono hW.size)) b (hS b h)) k1 k2)).mono ?_
  rintro e w1 ⟨⟨E0, s0, Z0, lo0, hP, A5, n5, c5, rfl, hr⟩, hb0⟩
  have hl5 := (Array.getElem?_eq_some_iff.1 mr).1
  have mr := heldz hb0 mr
  have hBs := hW.size
  have hB := hW.trans (hb0.mono hW.size)
  obtain ⟨g0, g1, g2⟩ := box3_of mr
  have f0 := frozen_of 0 mr
  have f1 := frozen_of 1 mr
  have f2 := frozen_of 2 mr
  dsimp only [dv]
  go_wp2
  refine bodyPost_ret (v := .tuple #[.agg #[.bool (opN E0 s0 Z0 lo0), .slice A5 n5 c5, .int .i64 (opX E0 Z0 lo0)], .int .i64 (opE E0 Z0 lo0 : Int)]) (by simp [results, Tryz.results13, go_sem, g0, g1, g2]) rfl ?_
  refine ⟨⟨E0, s0, Z0, lo0, hP, A5, n5, c5, rfl, ?_⟩, ?_⟩
  · exact (((hr.setOther (by simp; omega) _).setOther (by simp; omega) _).setOther (by simp; omega) _).more (by omega)
  · exact ((hB.setCell (p := ⟨w.heap.size + 1 + 1, 0, none⟩) (by simp <;> omega) _).setCell (p := ⟨w.heap.size + 1 + 1, 1, none⟩) (by simp <;> omega) _).setCell (p := ⟨w.heap.size + 1 + 1, 2, none⟩) (by simp <;> omega) _

set_option maxRecDepth 100000 in
set_option maxHeartbeats 2000000 in
theorem QMod_c {S : Nat → Prop} {n m c d : Nat} {A B : Option Addr} {xs ys : List Nat} (na nb : Bool) (e1 e2 : Int) (w : World)
    (ha : Rd w S A n xs) (hb : Rd w S B m ys) (hS : ∀ b, S b → b < w.heap.size) (hn : n ≤ 9223372036854775807) (hm : m ≤ 9223372036854775807) :
    Calls Tryz.prog 15 #[dv na A n c e1, dv nb B m d e2] w fun e w' => ToldP (Chk (okE2 na xs e1 nb ys e2) (PMod na (val xs) e1 (val ys) e2)) e w' w.heap.size ∧ Below w.heap.size w w' := by
  have up : ∀ {V : World}, Below w.heap.size w V → ∀ b, b < w.heap.size → b < V.heap.size := fun h b hb => by have := h.size; omega
  have hmf : ∀ (fn : Fn) (first cap : Array Value) (w : World), (Instr.makeFunc fn first cap).run Tryz.prog w = .ok (.func fn first cap) w := fun _ _ _ _ => rfl
  have hW : Below w.heap.size w ((((w.alloc (.cells #[.bool na, .slice A n c, .int .i64 e1] 24)).alloc (.cells #[.bool nb, .slice B m d, .int .i64 e2] 24)).alloc (.cells #[.bool false, .slice none 0 0, .int .i64 0] 24)).alloc (.cells #[.bool na, .slice A n c, .int .i64 e1, .bool nb, .slice B m d, .int .i64 e2] 24)) := (((((Below.refl w.heap.size w).alloc (Nat.le_refl _) (.cells #[.bool na, .slice A n c, .int .i64 e1] 24)).alloc (by simp <;> omega) (.cells #[.bool nb, .slice B m d, .int .i64 e2] 24)).alloc (by simp <;> omega) (.cells #[.bool false, .slice none 0 0, .int .i64 0] 24)).alloc (by simp <;> omega) (.cells #[.bool na, .slice A n c, .int .i64 e1, .bool nb, .slice B m d, .int .i64 e2] 24))
  obtain ⟨ma, mb, mr, ml⟩ := four_new w (.cells #[.bool na, .slice A n c, .int .i64 e1] 24) (.cells #[.bool nb, .slice B m d, .int .i64 e2] 24) (.cells #[.bool false, .slice none 0 0, .int .i64 0] 24) (.cells #[.bool na, .slice A n c, .int .i64 e1, .bool nb, .slice B m d, .int .i64 e2] 24)
  unfold dv
  go_enter Tryz.func15, Tryz.ntmps15
  go_wp2_with fail
  generalize ((((w.alloc (.cells #[.bool na, .slice A n c, .int .i64 e1] 24)).alloc (.cells #[.bool nb, .slice B m d, .int .i64 e2] 24)).alloc (.cells #[.bool false, .slice none 0 0, .int .i64 0] 24)).alloc (.cells #[.bool na, .slice A n c, .int .i64 e1, .bool nb, .slice B m d, .int .i64 e2] 24)) = W at ma mb mr ml hW ⊢
  refine (workM_c (c := c) (d := d) na nb e1 e2 (.pointer (some ⟨w.heap.size, 0, none⟩)) (.pointer (some ⟨w.heap.size + 1, 0, none⟩)) (PMod na (val xs) e1 (val ys) e2) W ml (ha.below hW hS) (hb.below hW hS) (fun b h => up hW b (hS b h)) hn hm (fun V hV k1 k2 => mod1_c (c := c) (d := d) na nb e1 e2 V (heldz hV ma) (heldz hV mb) ((ha.below hW hS).below hV (fun b h => up hW b (hS b h))) ((hb.below hW hS).below hV (fun b h => up hW b (hS b h))) (fun b h => up (hW.trans (hV.mono hW.size)) b (hS b h)) k1 k2)).mono ?_
  rintro e w1 ⟨⟨E0, s0, Z0, lo0, hP, A5, n5, c5, rfl, hr⟩, hb0⟩
  have hl5 := (Array.getElem?_eq_some_iff.1 mr).1
  have mr := heldz hb0 mr
  have hBs := hW.size
  have hB := hW.trans (hb0.mono hW.size)
  obtain ⟨g0, g1, g2⟩ := box3_of mr
  have f0 := frozen_of 0 mr
  have f1 := frozen_of 1 mr
  have f2 := frozen_of 2 mr
  dsimp only [dv]
  go_wp2
  refine bodyPost_ret (v := .tuple #[.agg #[.bool (opN E0 s0 Z0 lo0), .slice A5 n5 c5, .int .i64 (opX E0 Z0 lo0)], .int .i64 (opE E0 Z0 lo0 : Int)]) (by simp [results, Tryz.results15, go_sem, g0, g1, g2]) rfl ?_
  refine ⟨⟨E0, s0, Z0, lo0, hP, A5, n5, c5, rfl, ?_⟩, ?_⟩
  · exact (((hr.setOther (by simp; omega) _).setOther (by simp; omega) _).setOther (by simp; omega) _).more (by omega)
  · exact ((hB.setCell (p := ⟨w.heap.size + 1 + 1, 0, none⟩) (by simp <;> omega) _).setCell (p := ⟨w.heap.size + 1 + 1, 1, none⟩) (by simp <;> omega) _).setCell (p := ⟨w.heap.size + 1 + 1, 2, none⟩) (by simp <;> omega) _

set_option maxRecDepth 100000 in
set_option maxHeartbeats 2000000 in
theorem QSqrt_c {S : Nat → Prop} {n c : Nat} {A : Option Addr} {xs : List Nat} (na : Bool) (e1 : Int) (w : World)
    (ha : Rd w S A n xs) (hS : ∀ b, S b → b < w.heap.size) (hn : n ≤ 9223372036854775807) :
    Calls Tryz.prog 25 #[dv na A n c e1] w fun e w' => ToldP (Chk (okE na xs e1) (PSqrt na (val xs) e1)) e w' w.heap.size ∧ Below w.heap.size w w' := by
  have up : ∀ {V : World}, Below w.heap.size w V → ∀ b, b < w.heap.size → b < V.heap.size := fun h b hb => by have := h.size; omega
  have hmf : ∀ (fn : Fn) (first cap : Array Value) (w : World), (Instr.makeFunc fn first cap).run Tryz.prog w = .ok (.func fn first cap) w := fun _ _ _ _ => rfl
  have hW : Below w.heap.size w (((w.alloc (.cells #[.bool na, .slice A n c, .int .i64 e1] 24)).alloc (.cells #[.bool false, .slice none 0 0, .int .i64 0] 24)).alloc (.cells #[.bool na, .slice A n c, .int .i64 e1] 24)) := ((((Below.refl w.heap.size w).alloc (Nat.le_refl _) (.cells #[.bool na, .slice A n c, .int .i64 e1] 24)).alloc (by simp <;> omega) (.cells #[.bool false, .slice none 0 0, .int .i64 0] 24)).alloc (by simp <;> omega) (.cells #[.bool na, .slice A n c, .int .i64 e1] 24))
  obtain ⟨ma, mr, ml⟩ := three_newq w (.cells #[.bool na, .slice A n c, .int .i64 e1] 24) (.cells #[.bool false, .slice none 0 0, .int .i64 0] 24) (.cells #[.bool na, .slice A n c, .int .i64 e1] 24)
  unfold dv
  go_enter Tryz.func25, Tryz.ntmps25
  go_wp2_with fail
  generalize (((w.alloc (.cells #[.bool na, .slice A n c, .int .i64 e1] 24)).alloc (.cells #[.bool false, .slice none 0 0, .int .i64 0] 24)).alloc (.cells #[.bool na, .slice A n c, .int .i64 e1] 24)) = W at ma mr ml hW ⊢
  refine (workS_c (c := c) na e1 (.pointer (some ⟨w.heap.size, 0, none⟩)) (PSqrt na (val xs) e1) W ml (ha.below hW hS) (fun b h => up hW b (hS b h)) hn (fun V hV k1 => sqrt1_c (c := c) na e1 V (heldz hV ma) ((ha.below hW hS).below hV (fun b h => up hW b (hS b h))) (fun b h => up (hW.trans (hV.mono hW.size)) b (hS b h)) k1)).mono ?_
  rintro e w1 ⟨⟨E0, s0, Z0, lo0, hP, A5, n5, c5, rfl, hr⟩, hb0⟩
  have hl5 := (Array.getElem?_eq_some_iff.1 mr).1
  have mr := heldz hb0 mr
  have hBs := hW.size
  have hB := hW.trans (hb0.mono hW.size)
  obtain ⟨g0, g1, g2⟩ := box3_of mr
  have f0 := frozen_of 0 mr
  have f1 := frozen_of 1 mr
  have f2 := frozen_of 2 mr
  dsimp only [dv]
  go_wp2
  refine bodyPost_ret (v := .tuple #[.agg #[.bool (opN E0 s0 Z0 lo0), .slice A5 n5 c5, .int .i64 (opX E0 Z0 lo0)], .int .i64 (opE E0 Z0 lo0 : Int)]) (by simp [results, Tryz.results25, go_sem, g0, g1, g2]) rfl ?_
  refine ⟨⟨E0, s0, Z0, lo0, hP, A5, n5, c5, rfl, ?_⟩, ?_⟩
  · exact (((hr.setOther (by simp; omega) _).setOther (by simp; omega) _).setOther (by simp; omega) _).more (by omega)
  · exact ((hB.setCell (p := ⟨w.heap.size + 1, 0, none⟩) (by simp <;> omega) _).setCell (p := ⟨w.heap.size + 1, 1, none⟩) (by simp <;> omega) _).setCell (p := ⟨w.heap.size + 1, 2, none⟩) (by simp <;> omega) _

set_option maxRecDepth 100000 in
set_option maxHeartbeats 2000000 in
theorem QAbs_c {S : Nat → Prop} {n c : Nat} {A : Option Addr} {xs : List Nat} (na : Bool) (e1 : Int) (w : World)
    (ha : Rd w S A n xs) (hS : ∀ b, S b → b < w.heap.size) (hn : n ≤ 9223372036854775807) :
    Calls Tryz.prog 27 #[dv na A n c e1] w fun e w' => ToldP (Chk (okE na xs e1) (PAbs (val xs) e1)) e w' w.heap.size ∧ Below w.heap.size w w' := by
  have up : ∀ {V : World}, Below w.heap.size w V → ∀ b, b < w.heap.size → b < V.heap.size := fun h b hb => by have := h.size; omega
  have hmf : ∀ (fn : Fn) (first cap : Array Value) (w : World), (Instr.makeFunc fn first cap).run Tryz.prog w = .ok (.func fn first cap) w := fun _ _ _ _ => rfl
  have hW : Below w.heap.size w (((w.alloc (.cells #[.bool na, .slice A n c, .int .i64 e1] 24)).alloc (.cells #[.bool false, .slice none 0 0, .int .i64 0] 24)).alloc (.cells #[.bool na, .slice A n c, .int .i64 e1] 24)) := ((((Below.refl w.heap.size w).alloc (Nat.le_refl _) (.cells #[.bool na, .slice A n c, .int .i64 e1] 24)).alloc (by simp <;> omega) (.cells #[.bool false, .slice none 0 0, .int .i64 0] 24)).alloc (by simp <;> omega) (.cells #[.bool na, .slice A n c, .int .i64 e1] 24))
  obtain ⟨ma, mr, ml⟩ := three_newq w (.cells #[.bool na, .slice A n c, .int .i64 e1] 24) (.cells #[.bool false, .slice none 0 0, .int .i64 0] 24) (.cells #[.bool na, .slice A n c, .int .i64 e1] 24)
  unfold dv
  go_enter Tryz.func27, Tryz.ntmps27
  go_wp2_with fail
  generalize (((w.alloc (.cells #[.bool na, .slice A n c, .int .i64 e1] 24)).alloc (.cells #[.bool false, .slice none 0 0, .int .i64 0] 24)).alloc (.cells #[.bool na, .slice A n c, .int .i64 e1] 24)) = W at ma mr ml hW ⊢
  refine (workA_c (c := c) na e1 (.pointer (some ⟨w.heap.size, 0, none⟩)) (PAbs (val xs) e1) W ml (ha.below hW hS) (fun b h => up hW b (hS b h)) hn (fun V hV k1 => abs1_c (c := c) na e1 V (heldz hV ma) ((ha.below hW hS).below hV (fun b h => up hW b (hS b h))) (fun b h => up (hW.trans (hV.mono hW.size)) b (hS b h)) k1)).mono ?_
  rintro e w1 ⟨⟨E0, s0, Z0, lo0, hP, A5, n5, c5, rfl, hr⟩, hb0⟩
  have hl5 := (Array.getElem?_eq_some_iff.1 mr).1
  have mr := heldz hb0 mr
  have hBs := hW.size
  have hB := hW.trans (hb0.mono hW.size)
  obtain ⟨g0, g1, g2⟩ := box3_of mr
  have f0 := frozen_of 0 mr
  have f1 := frozen_of 1 mr
  have f2 := frozen_of 2 mr
  dsimp only [dv]
  go_wp2
  refine bodyPost_ret (v := .tuple #[.agg #[.bool (opN E0 s0 Z0 lo0), .slice A5 n5 c5, .int .i64 (opX E0 Z0 lo0)], .int .i64 (opE E0 Z0 lo0 : Int)]) (by simp [results, Tryz.results27, go_sem, g0, g1, g2]) rfl ?_
  refine ⟨⟨E0, s0, Z0, lo0, hP, A5, n5, c5, rfl, ?_⟩, ?_⟩
  · exact (((hr.setOther (by simp; omega) _).setOther (by simp; omega) _).setOther (by simp; omega) _).more (by omega)
  · exact ((hB.setCell (p := ⟨w.heap.size + 1, 0, none⟩) (by simp <;> omega) _).setCell (p := ⟨w.heap.size + 1, 1, none⟩) (by simp <;> omega) _).setCell (p := ⟨w.heap.size + 1, 2, none⟩) (by simp <;> omega) _

set_option maxRecDepth 100000 in
set_option maxHeartbeats 2000000 in
theorem toWholeF_c {pz n0 c0 : Nat} {A0 : Option Addr} {nz : Bool} {e0 : Int} {S : Nat → Prop} {n c : Nat} {A : Option Addr} {xs : List Nat} (na : Bool) (e1 : Int) (w : World) (mz : w.heap[pz]? = some (.cells #[.bool nz, .slice A0 n0 c0, .int .i64 e0] 24))
    (ha : Rd w S A n xs) (hS : ∀ b, S b → b < w.heap.size) (hn : n ≤ 9223372036854775807) :
    Calls Tryz.prog 72 #[dv na A n c e1, .func (.func 73) #[] #[.pointer (some ⟨pz, 0, none⟩)]] w fun e w' => ToldP (Chk (okE na xs e1) (PWhole na (val xs) e1 (nz && !decide (wr (val xs) e1 = 0)))) e w' w.heap.size ∧ Below w.heap.size w w' := by
  have up : ∀ {V : World}, Below w.heap.size w V → ∀ b, b < w.heap.size → b < V.heap.size := fun h b hb => by have := h.size; omega
  have hmf : ∀ (fn : Fn) (first cap : Array Value) (w : World), (Instr.makeFunc fn first cap).run Tryz.prog w = .ok (.func fn first cap) w := fun _ _ _ _ => rfl
  have hW : Below w.heap.size w ((((w.alloc (.cells #[.bool na, .slice A n c, .int .i64 e1] 24)).alloc (.cells #[.func (.func 73) #[] #[.pointer (some ⟨pz, 0, none⟩)]] 77)).alloc (.cells #[.bool false, .slice none 0 0, .int .i64 0] 24)).alloc (.cells #[.bool na, .slice A n c, .int .i64 e1] 24)) := (((((Below.refl w.heap.size w).alloc (Nat.le_refl _) (.cells #[.bool na, .slice A n c, .int .i64 e1] 24)).alloc (by simp <;> omega) (.cells #[.func (.func 73) #[] #[.pointer (some ⟨pz, 0, none⟩)]] 77)).alloc (by simp <;> omega) (.cells #[.bool false, .slice none 0 0, .int .i64 0] 24)).alloc (by simp <;> omega) (.cells #[.bool na, .slice A n c, .int .i64 e1] 24))
  obtain ⟨ma, mu, mr, ml⟩ := four_new w (.cells #[.bool na, .slice A n c, .int .i64 e1] 24) (.cells #[.func (.func 73) #[] #[.pointer (some ⟨pz, 0, none⟩)]] 77) (.cells #[.bool false, .slice none 0 0, .int .i64 0] 24) (.cells #[.bool na, .slice A n c, .int .i64 e1] 24)
  have mz := heldA (.cells #[.bool na, .slice A n c, .int .i64 e1] 24) (heldA (.cells #[.bool false, .slice none 0 0, .int .i64 0] 24) (heldA (.cells #[.func (.func 73) #[] #[.pointer (some ⟨pz, 0, none⟩)]] 77) (heldA (.cells #[.bool na, .slice A n c, .int .i64 e1] 24) mz)))
  unfold dv
  go_enter Tryz.func72, Tryz.ntmps72
  go_wp2_with fail
  generalize ((((w.alloc (.cells #[.bool na, .slice A n c, .int .i64 e1] 24)).alloc (.cells #[.func (.func 73) #[] #[.pointer (some ⟨pz, 0, none⟩)]] 77)).alloc (.cells #[.bool false, .slice none 0 0, .int .i64 0] 24)).alloc (.cells #[.bool na, .slice A n c, .int .i64 e1] 24)) = W at ma mu mr ml mz hW ⊢
  refine (workW_c (c := c) na e1 (.pointer (some ⟨w.heap.size, 0, none⟩)) (.pointer (some ⟨w.heap.size + 1, 0, none⟩)) (PWhole na (val xs) e1 (nz && !decide (wr (val xs) e1 = 0))) W ml (ha.below hW hS) (fun b h => up hW b (hS b h)) hn (fun V hV k1 => toWhole1F_c (c := c) na e1 V (heldz hV ma) (heldz hV mu) (heldz hV mz) ((ha.below hW hS).below hV (fun b h => up hW b (hS b h))) (fun b h => up (hW.trans (hV.mono hW.size)) b (hS b h)) k1)).mono ?_
  rintro e w1 ⟨⟨E0, s0, Z0, lo0, hP, A5, n5, c5, rfl, hr⟩, hb0⟩
  have hl5 := (Array.getElem?_eq_some_iff.1 mr).1
  have mr := heldz hb0 mr
  have hBs := hW.size
  have hB := hW.trans (hb0.mono hW.size)
  obtain ⟨g0, g1, g2⟩ := box3_of mr
  have f0 := frozen_of 0 mr
  have f1 := frozen_of 1 mr
  have f2 := frozen_of 2 mr
  dsimp only [dv]
  go_wp2
  refine bodyPost_ret (v := .tuple #[.agg #[.bool (opN E0 s0 Z0 lo0), .slice A5 n5 c5, .int .i64 (opX E0 Z0 lo0)], .int .i64 (opE E0 Z0 lo0 : Int)]) (by simp [results, Tryz.results72, go_sem, g0, g1, g2]) rfl ?_
  refine ⟨⟨E0, s0, Z0, lo0, hP, A5, n5, c5, rfl, ?_⟩, ?_⟩
  · exact (((hr.setOther (by simp; omega) _).setOther (by simp; omega) _).setOther (by simp; omega) _).more (by omega)
  · exact ((hB.setCell (p := ⟨w.heap.size + 1 + 1, 0, none⟩) (by simp <;> omega) _).setCell (p := ⟨w.heap.size + 1 + 1, 1, none⟩) (by simp <;> omega) _).setCell (p := ⟨w.heap.size + 1 + 1, 2, none⟩) (by simp <;> omega) _

set_option maxRecDepth 100000 in
set_option maxHeartbeats 2000000 in
theorem QFloor_c {S : Nat → Prop} {n c : Nat} {A : Option Addr} {xs : List Nat} (na : Bool) (e1 : Int) (w : World)
    (ha : Rd w S A n xs) (hS : ∀ b, S b → b < w.heap.size) (hn : n ≤ 9223372036854775807) :
    Calls Tryz.prog 17 #[dv na A n c e1] w fun e w' => ToldP (Chk (okE na xs e1) (PWhole na (val xs) e1 (na && !decide (wr (val xs) e1 = 0)))) e w' w.heap.size ∧ Below w.heap.size w w' := by
  have up : ∀ {V : World}, Below w.heap.size w V → ∀ b, b < w.heap.size → b < V.heap.size := fun h b hb => by have := h.size; omega
  have hmf : ∀ (fn : Fn) (first cap : Array Value) (w : World), (Instr.makeFunc fn first cap).run Tryz.prog w = .ok (.func fn first cap) w := fun _ _ _ _ => rfl
  have hW : Below w.heap.size w ((w.alloc (.cells #[.bool na, .slice A n c, .int .i64 e1] 24)).alloc (.cells #[.bool false, .slice none 0 0, .int .i64 0] 24)) := (((Below.refl w.heap.size w).alloc (Nat.le_refl _) (.cells #[.bool na, .slice A n c, .int .i64 e1] 24)).alloc (by simp <;> omega) (.cells #[.bool false, .slice none 0 0, .int .i64 0] 24))
  obtain ⟨ma, mr⟩ := two_new w (.cells #[.bool na, .slice A n c, .int .i64 e1] 24) (.cells #[.bool false, .slice none 0 0, .int .i64 0] 24)
  have HT := Lib.hid (fun V (hz : V.heap[w.heap.size]? = some (.cells #[.bool na, .slice A n c, .int .i64 e1] 24)) (h1 : Rd V S A n xs) hs => toWholeF_c (c := c) na e1 V hz h1 hs hn)
  unfold dv at HT
  unfold dv
  go_enter Tryz.func17, Tryz.ntmps17
  go_wp2_with fail
  generalize ((w.alloc (.cells #[.bool na, .slice A n c, .int .i64 e1] 24)).alloc (.cells #[.bool false, .slice none 0 0, .int .i64 0] 24)) = W at ma mr hW ⊢
  refine (HT.out W ma (ha.below hW hS) (fun b h => up hW b (hS b h))).mono ?_
  rintro e w1 ⟨⟨E0, s0, Z0, lo0, hP, A5, n5, c5, rfl, hr⟩, hb0⟩
  have hl5 := (Array.getElem?_eq_some_iff.1 mr).1
  have mr := heldz hb0 mr
  have hBs := hW.size
  have hB := hW.trans (hb0.mono hW.size)
  obtain ⟨g0, g1, g2⟩ := box3_of mr
  have f0 := frozen_of 0 mr
  have f1 := frozen_of 1 mr
  have f2 := frozen_of 2 mr
  dsimp only [dv]
  go_wp2
  refine bodyPost_ret (v := .tuple #[.agg #[.bool (opN E0 s0 Z0 lo0), .slice A5 n5 c5, .int .i64 (opX E0 Z0 lo0)], .int .i64 (opE E0 Z0 lo0 : Int)]) (by simp [results, Tryz.results17, go_sem, g0, g1, g2]) rfl ?_
  refine ⟨⟨E0, s0, Z0, lo0, hP, A5, n5, c5, rfl, ?_⟩, ?_⟩
  · exact (((hr.setOther (by simp; omega) _).setOther (by simp; omega) _).setOther (by simp; omega) _).more (by omega)
  · exact ((hB.setCell (p := ⟨w.heap.size + 1, 0, none⟩) (by simp <;> omega) _).setCell (p := ⟨w.heap.size + 1, 1, none⟩) (by simp <;> omega) _).setCell (p := ⟨w.heap.size + 1, 2, none⟩) (by simp <;> omega) _

set_option maxRecDepth 100000 in
set_option maxHeartbeats 2000000 in
theorem toWholeC_c {pz n0 c0 : Nat} {A0 : Option Addr} {nz : Bool} {e0 : Int} {S : Nat → Prop} {n c : Nat} {A : Option Addr} {xs : List Nat} (na : Bool) (e1 : Int) (w : World) (mz : w.heap[pz]? = some (.cells #[.bool nz, .slice A0 n0 c0, .int .i64 e0] 24))
    (ha : Rd w S A n xs) (hS : ∀ b, S b → b < w.heap.size) (hn : n ≤ 9223372036854775807) :
    Calls Tryz.prog 72 #[dv na A n c e1, .func (.func 76) #[] #[.pointer (some ⟨pz, 0, none⟩)]] w fun e w' => ToldP (Chk (okE na xs e1) (PWhole na (val xs) e1 (!nz && !decide (wr (val xs) e1 = 0)))) e w' w.heap.size ∧ Below w.heap.size w w' := by
  have up : ∀ {V : World}, Below w.heap.size w V → ∀ b, b < w.heap.size → b < V.heap.size := fun h b hb => by have := h.size; omega
  have hmf : ∀ (fn : Fn) (first cap : Array Value) (w : World), (Instr.makeFunc fn first cap).run Tryz.prog w = .ok (.func fn first cap) w := fun _ _ _ _ => rfl
  have hW : Below w.heap.size w ((((w.alloc (.cells #[.bool na, .slice A n c, .int .i64 e1] 24)).alloc (.cells #[.func (.func 76) #[] #[.pointer (some ⟨pz, 0, none⟩)]] 77)).alloc (.cells #[.bool false, .slice none 0 0, .int .i64 0] 24)).alloc (.cells #[.bool na, .slice A n c, .int .i64 e1] 24)) := (((((Below.refl w.heap.size w).alloc (Nat.le_refl _) (.cells #[.bool na, .slice A n c, .int .i64 e1] 24)).alloc (by simp <;> omega) (.cells #[.func (.func 76) #[] #[.pointer (some ⟨pz, 0, none⟩)]] 77)).alloc (by simp <;> omega) (.cells #[.bool false, .slice none 0 0, .int .i64 0] 24)).alloc (by simp <;> omega) (.cells #[.bool na, .slice A n c, .int .i64 e1] 24))
  obtain ⟨ma, mu, mr, ml⟩ := four_new w (.cells #[.bool na, .slice A n c, .int .i64 e1] 24) (.cells #[.func (.func 76) #[] #[.pointer (some ⟨pz, 0, none⟩)]] 77) (.cells #[.bool false, .slice none 0 0, .int .i64 0] 24) (.cells #[.bool na, .slice A n c, .int .i64 e1] 24)
  have mz := heldA (.cells #[.bool na, .slice A n c, .int .i64 e1] 24) (heldA (.cells #[.bool false, .slice none 0 0, .int .i64 0] 24) (heldA (.cells #[.func (.func 76) #[] #[.pointer (some ⟨pz, 0, none⟩)]] 77) (heldA (.cells #[.bool na, .slice A n c, .int .i64 e1] 24) mz)))
  unfold dv
  go_enter Tryz.func72, Tryz.ntmps72
  go_wp2_with fail
  generalize ((((w.alloc (.cells #[.bool na, .slice A n c, .int .i64 e1] 24)).alloc (.cells #[.func (.func 76) #[] #[.pointer (some ⟨pz, 0, none⟩)]] 77)).alloc (.cells #[.bool false, .slice none 0 0, .int .i64 0] 24)).alloc (.cells #[.bool na, .slice A n c, .int .i64 e1] 24)) = W at ma mu mr ml mz hW ⊢
  refine (workW_c (c := c) na e1 (.pointer (some ⟨w.heap.size, 0, none⟩)) (.pointer (some ⟨w.heap.size + 1, 0, none⟩)) (PWhole na (val xs) e1 (!nz && !decide (wr (val xs) e1 = 0))) W ml (ha.below hW hS) (fun b h => up hW b (hS b h)) hn (fun V hV k1 => toWhole1C_c (c := c) na e1 V (heldz hV ma) (heldz hV mu) (heldz hV mz) ((ha.below hW hS).below hV (fun b h => up hW b (hS b h))) (fun b h => up (hW.trans (hV.mono hW.size)) b (hS b h)) k1)).mono ?_
  rintro e w1 ⟨⟨E0, s0, Z0, lo0, hP, A5, n5, c5, rfl, hr⟩, hb0⟩
  have hl5 := (Array.getElem?_eq_some_iff.1 mr).1
  have mr := heldz hb0 mr
  have hBs := hW.size
  have hB := hW.trans (hb0.mono hW.size)
  obtain ⟨g0, g1, g2⟩ := box3_of mr
  have f0 := frozen_of 0 mr
  have f1 := frozen_of 1 mr
  have f2 := frozen_of 2 mr
  dsimp only [dv]
  go_wp2
  refine bodyPost_ret (v := .tuple #[.agg #[.bool (opN E0 s0 Z0 lo0), .slice A5 n5 c5, .int .i64 (opX E0 Z0 lo0)], .int .i64 (opE E0 Z0 lo0 : Int)]) (by simp [results, Tryz.results72, go_sem, g0, g1, g2]) rfl ?_
  refine ⟨⟨E0, s0, Z0, lo0, hP, A5, n5, c5, rfl, ?_⟩, ?_⟩
  · exact (((hr.setOther (by simp; omega) _).setOther (by simp; omega) _).setOther (by simp; omega) _).more (by omega)
  · exact ((hB.setCell (p := ⟨w.heap.size + 1 + 1, 0, none⟩) (by simp <;> omega) _).setCell (p := ⟨w.heap.size + 1 + 1, 1, none⟩) (by simp <;> omega) _).setCell (p := ⟨w.heap.size + 1 + 1, 2, none⟩) (by simp <;> omega) _

set_option maxRecDepth 100000 in
set_option maxHeartbeats 2000000 in
theorem QCeil_c {S : Nat → Prop} {n c : Nat} {A : Option Addr} {xs : List Nat} (na : Bool) (e1 : Int) (w : World)
    (ha : Rd w S A n xs) (hS : ∀ b, S b → b < w.heap.size) (hn : n ≤ 9223372036854775807) :
    Calls Tryz.prog 19 #[dv na A n c e1] w fun e w' => ToldP (Chk (okE na xs e1) (PWhole na (val xs) e1 (!na && !decide (wr (val xs) e1 = 0)))) e w' w.heap.size ∧ Below w.heap.size w w' := by
  have up : ∀ {V : World}, Below w.heap.size w V → ∀ b, b < w.heap.size → b < V.heap.size := fun h b hb => by have := h.size; omega
  have hmf : ∀ (fn : Fn) (first cap : Array Value) (w : World), (Instr.makeFunc fn first cap).run Tryz.prog w = .ok (.func fn first cap) w := fun _ _ _ _ => rfl
  have hW : Below w.heap.size w ((w.alloc (.cells #[.bool na, .slice A n c, .int .i64 e1] 24)).alloc (.cells #[.bool false, .slice none 0 0, .int .i64 0] 24)) := (((Below.refl w.heap.size w).alloc (Nat.le_refl _) (.cells #[.bool na, .slice A n c, .int .i64 e1] 24)).alloc (by simp <;> omega) (.cells #[.bool false, .slice none 0 0, .int .i64 0] 24))
  obtain ⟨ma, mr⟩ := two_new w (.cells #[.bool na, .slice A n c, .int .i64 e1] 24) (.cells #[.bool false, .slice none 0 0, .int .i64 0] 24)
  have HT := Lib.hid (fun V (hz : V.heap[w.heap.size]? = some (.cells #[.bool na, .slice A n c, .int .i64 e1] 24)) (h1 : Rd V S A n xs) hs => toWholeC_c (c := c) na e1 V hz h1 hs hn)
  unfold dv at HT
  unfold dv
  go_enter Tryz.func19, Tryz.ntmps19
  go_wp2_with fail
  generalize ((w.alloc (.cells #[.bool na, .slice A n c, .int .i64 e1] 24)).alloc (.cells #[.bool false, .slice none 0 0, .int .i64 0] 24)) = W at ma mr hW ⊢
  refine (HT.out W ma (ha.below hW hS) (fun b h => up hW b (hS b h))).mono ?_
  rintro e w1 ⟨⟨E0, s0, Z0, lo0, hP, A5, n5, c5, rfl, hr⟩, hb0⟩
  have hl5 := (Array.getElem?_eq_some_iff.1 mr).1
  have mr := heldz hb0 mr
  have hBs := hW.size
  have hB := hW.trans (hb0.mono hW.size)
  obtain ⟨g0, g1, g2⟩ := box3_of mr
  have f0 := frozen_of 0 mr
  have f1 := frozen_of 1 mr
  have f2 := frozen_of 2 mr
  dsimp only [dv]
  go_wp2
  refine bodyPost_ret (v := .tuple #[.agg #[.bool (opN E0 s0 Z0 lo0), .slice A5 n5 c5, .int .i64 (opX E0 Z0 lo0)], .int .i64 (opE E0 Z0 lo0 : Int)]) (by simp [results, Tryz.results19, go_sem, g0, g1, g2]) rfl ?_
  refine ⟨⟨E0, s0, Z0, lo0, hP, A5, n5, c5, rfl, ?_⟩, ?_⟩
  · exact (((hr.setOther (by simp; omega) _).setOther (by simp; omega) _).setOther (by simp; omega) _).more (by omega)
  · exact ((hB.setCell (p := ⟨w.heap.size + 1, 0, none⟩) (by simp <;> omega) _).setCell (p := ⟨w.heap.size + 1, 1, none⟩) (by simp <;> omega) _).setCell (p := ⟨w.heap.size + 1, 2, none⟩) (by simp <;> omega) _

set_option maxRecDepth 100000 in
set_option maxHeartbeats 2000000 in
theorem toWholeR_c {S : Nat → Prop} {n c : Nat} {A : Option Addr} {xs : List Nat} (na : Bool) (e1 : Int) (w : World)
    (ha : Rd w S A n xs) (hS : ∀ b, S b → b < w.heap.size) (hn : n ≤ 9223372036854775807) :
    Calls Tryz.prog 72 #[dv na A n c e1, .func (.func 77) #[] #[]] w fun e w' => ToldP (Chk (okE na xs e1) (PWhole na (val xs) e1 (decide (0 ≤ half (wr (val xs) e1) (wd 1 (-e1)))))) e w' w.heap.size ∧ Below w.heap.size w w' := by
  have up : ∀ {V : World}, Below w.heap.size w V → ∀ b, b < w.heap.size → b < V.heap.size := fun h b hb => by have := h.size; omega
  have hmf : ∀ (fn : Fn) (first cap : Array Value) (w : World), (Instr.makeFunc fn first cap).run Tryz.prog w = .ok (.func fn first cap) w := fun _ _ _ _ => rfl
  have hW : Below w.heap.size w ((((w.alloc (.cells #[.bool na, .slice A n c, .int .i64 e1] 24)).alloc (.cells #[.func (.func 77) #[] #[]] 77)).alloc (.cells #[.bool false, .slice none 0 0, .int .i64 0] 24)).alloc (.cells #[.bool na, .slice A n c, .int .i64 e1] 24)) := (((((Below.refl w.heap.size w).alloc (Nat.le_refl _) (.cells #[.bool na, .slice A n c, .int .i64 e1] 24)).alloc (by simp <;> omega) (.cells #[.func (.func 77) #[] #[]] 77)).alloc (by simp <;> omega) (.cells #[.bool false, .slice none 0 0, .int .i64 0] 24)).alloc (by simp <;> omega) (.cells #[.bool na, .slice A n c, .int .i64 e1] 24))
  obtain ⟨ma, mu, mr, ml⟩ := four_new w (.cells #[.bool na, .slice A n c, .int .i64 e1] 24) (.cells #[.func (.func 77) #[] #[]] 77) (.cells #[.bool false, .slice none 0 0, .int .i64 0] 24) (.cells #[.bool na, .slice A n c, .int .i64 e1] 24)
  unfold dv
  go_enter Tryz.func72, Tryz.ntmps72
  go_wp2_with fail
  generalize ((((w.alloc (.cells #[.bool na, .slice A n c, .int .i64 e1] 24)).alloc (.cells #[.func (.func 77) #[] #[]] 77)).alloc (.cells #[.bool false, .slice none 0 0, .int .i64 0] 24)).alloc (.cells #[.bool na, .slice A n c, .int .i64 e1] 24)) = W at ma mu mr ml hW ⊢
  refine (workW_c (c := c) na e1 (.pointer (some ⟨w.heap.size, 0, none⟩)) (.pointer (some ⟨w.heap.size + 1, 0, none⟩)) (PWhole na (val xs) e1 (decide (0 ≤ half (wr (val xs) e1) (wd 1 (-e1))))) W ml (ha.below hW hS) (fun b h => up hW b (hS b h)) hn (fun V hV k1 => toWhole1R_c (c := c) na e1 V (heldz hV ma) (heldz hV mu) ((ha.below hW hS).below hV (fun b h => up hW b (hS b h))) (fun b h => up (hW.trans (hV.mono hW.size)) b (hS b h)) k1)).mono ?_
  rintro e w1 ⟨⟨E0, s0, Z0, lo0, hP, A5, n5, c5, rfl, hr⟩, hb0⟩
  have hl5 := (Array.getElem?_eq_some_iff.1 mr).1
  have mr := heldz hb0 mr
  have hBs := hW.size
  have hB := hW.trans (hb0.mono hW.size)
  obtain ⟨g0, g1, g2⟩ := box3_of mr
  have f0 := frozen_of 0 mr
  have f1 := frozen_of 1 mr
  have f2 := frozen_of 2 mr
  dsimp only [dv]
  go_wp2
  refine bodyPost_ret (v := .tuple #[.agg #[.bool (opN E0 s0 Z0 lo0), .slice A5 n5 c5, .int .i64 (opX E0 Z0 lo0)], .int .i64 (opE E0 Z0 lo0 : Int)]) (by simp [results, Tryz.results72, go_sem, g0, g1, g2]) rfl ?_
  refine ⟨⟨E0, s0, Z0, lo0, hP, A5, n5, c5, rfl, ?_⟩, ?_⟩
  · exact (((hr.setOther (by simp; omega) _).setOther (by simp; omega) _).setOther (by simp; omega) _).more (by omega)
  · exact ((hB.setCell (p := ⟨w.heap.size + 1 + 1, 0, none⟩) (by simp <;> omega) _).setCell (p := ⟨w.heap.size + 1 + 1, 1, none⟩) (by simp <;> omega) _).setCell (p := ⟨w.heap.size + 1 + 1, 2, none⟩) (by simp <;> omega) _

set_option maxRecDepth 100000 in
set_option maxHeartbeats 2000000 in
theorem QRound_c {S : Nat → Prop} {n c : Nat} {A : Option Addr} {xs : List Nat} (na : Bool) (e1 : Int) (w : World)
    (ha : Rd w S A n xs) (hS : ∀ b, S b → b < w.heap.size) (hn : n ≤ 9223372036854775807) :
    Calls Tryz.prog 23 #[dv na A n c e1] w fun e w' => ToldP (Chk (okE na xs e1) (PWhole na (val xs) e1 (decide (0 ≤ half (wr (val xs) e1) (wd 1 (-e1)))))) e w' w.heap.size ∧ Below w.heap.size w w' := by
  have up : ∀ {V : World}, Below w.heap.size w V → ∀ b, b < w.heap.size → b < V.heap.size := fun h b hb => by have := h.size; omega
  have hmf : ∀ (fn : Fn) (first cap : Array Value) (w : World), (Instr.makeFunc fn first cap).run Tryz.prog w = .ok (.func fn first cap) w := fun _ _ _ _ => rfl
  have hW : Below w.heap.size w ((w.alloc (.cells #[.bool na, .slice A n c, .int .i64 e1] 24)).alloc (.cells #[.bool false, .slice none 0 0, .int .i64 0] 24)) := (((Below.refl w.heap.size w).alloc (Nat.le_refl _) (.cells #[.bool na, .slice A n c, .int .i64 e1] 24)).alloc (by simp <;> omega) (.cells #[.bool false, .slice none 0 0, .int .i64 0] 24))
  obtain ⟨ma, mr⟩ := two_new w (.cells #[.bool na, .slice A n c, .int .i64 e1] 24) (.cells #[.bool false, .slice none 0 0, .int .i64 0] 24)
  have HT := Lib.hid (fun V (h1 : Rd V S A n xs) hs => toWholeR_c (c := c) na e1 V h1 hs hn)
  unfold dv at HT
  unfold dv
  go_enter Tryz.func23, Tryz.ntmps23
  go_wp2_with fail
  generalize ((w.alloc (.cells #[.bool na, .slice A n c, .int .i64 e1] 24)).alloc (.cells #[.bool false, .slice none 0 0, .int .i64 0] 24)) = W at ma mr hW ⊢
  refine (HT.out W (ha.below hW hS) (fun b h => up hW b (hS b h))).mono ?_
  rintro e w1 ⟨⟨E0, s0, Z0, lo0, hP, A5, n5, c5, rfl, hr⟩, hb0⟩
  have hl5 := (Array.getElem?_eq_some_iff.1 mr).1
  have mr := heldz hb0 mr
  have hBs := hW.size
  have hB := hW.trans (hb0.mono hW.size)
  obtain ⟨g0, g1, g2⟩ := box3_of mr
  have f0 := frozen_of 0 mr
  have f1 := frozen_of 1 mr
  have f2 := frozen_of 2 mr
  dsimp only [dv]
  go_wp2
  refine bodyPost_ret (v := .tuple #[.agg #[.bool (opN E0 s0 Z0 lo0), .slice A5 n5 c5, .int .i64 (opX E0 Z0 lo0)], .int .i64 (opE E0 Z0 lo0 : Int)]) (by simp [results, Tryz.results23, go_sem, g0, g1, g2]) rfl ?_
  refine ⟨⟨E0, s0, Z0, lo0, hP, A5, n5, c5, rfl, ?_⟩, ?_⟩
  · exact (((hr.setOther (by simp; omega) _).setOther (by simp; omega) _).setOther (by simp; omega) _).more (by omega)
  · exact ((hB.setCell (p := ⟨w.heap.size + 1, 0, none⟩) (by simp <;> omega) _).setCell (p := ⟨w.heap.size + 1, 1, none⟩) (by simp <;> omega) _).setCell (p := ⟨w.heap.size + 1, 2, none⟩) (by simp <;> omega) _

end Go.Proofs.YtbbafggejnjjiaaGreatDoor

namespace Go.Proofs.YtbbafggejnjjiaaGreatDoor
open Go.RowKit

/-- An answer is a decimal that may be and tells the number, or an error and nothing. -/
theorem told_cases {e : Ending} {w' : World} {base E0 : Nat} {s : Bool} {Z : Nat} {lo : Int} (h : Told e w' base E0 s Z lo) (hlo : -5000 ≤ lo) :
    ∃ A n c N X L E, e = .returned (.tuple #[dv N A n c X, .int .i64 ((E : Nat) : Int)]) ∧ Res w' base A n c L ∧
      ((E0 = 0 ∧ E = 0 ∧ stE Z lo = 0 ∧ N = stN s Z lo ∧ X = stX Z lo ∧ L = stZ Z lo ∧ okB N L X = true ∧ L32 L ∧ sv N (val L) X = sg s Z * (sp lo : Int) ∧ (0 < Z → lo ≤ X)) ∨ (E ≠ 0 ∧ N = false ∧ X = 0 ∧ L = [] ∧ (E0 = 0 → E = stE Z lo) ∧ (E0 ≠ 0 → E = E0))) := by
  obtain ⟨A, n, c, rfl, hr⟩ := h
  by_cases h0 : E0 = 0
  · subst h0
    have hr : Res w' base A n c (stZ Z lo) := hr
    refine ⟨A, n, c, stN s Z lo, stX Z lo, stZ Z lo, stE Z lo, rfl, hr, ?_⟩
    by_cases h1 : stE Z lo = 0
    · obtain ⟨m1, m2, m3, m4⟩ := settle_may (s := s) hlo h1
      exact .inl ⟨rfl, h1, h1, rfl, rfl, rfl, m1, m2, m3, m4⟩
    · obtain ⟨b1, b2, b3⟩ := st_bad (v := Z) (exp := lo) s h1
      exact .inr ⟨h1, b1, b2, b3, fun _ => rfl, fun h => absurd rfl h⟩
  · have hz : opZ E0 Z lo = [] := if_neg h0
    have hn : opN E0 s Z lo = false := if_neg h0
    have hx : opX E0 Z lo = 0 := if_neg h0
    have he : opE E0 Z lo = E0 := if_neg h0
    rw [hz] at hr
    rw [hn, hx, he]
    exact ⟨A, n, c, false, 0, [], E0, rfl, hr, .inr ⟨h0, rfl, rfl, rfl, fun h => absurd h h0, fun _ => rfl⟩⟩

theorem pow_move {a c p q r t : Nat} (h : a * 10 ^ p = c * 10 ^ r) (hpt : p + t = q + r) : a * 10 ^ q = c * 10 ^ t := by
  have h1 : a * 10 ^ q * 10 ^ r = c * 10 ^ t * 10 ^ r := by
    rw [Nat.mul_assoc, ← Nat.pow_add, ← hpt, Nat.pow_add, ← Nat.mul_assoc, h, Nat.mul_assoc, Nat.mul_assoc, Nat.mul_comm (10 ^ r)]
  exact Nat.eq_of_mul_eq_mul_right (Nat.pow_pos (by omega)) h1
theorem sg_pos_ne {s : Bool} {Z : Nat} (h : 0 < Z) : sg s Z ≠ 0 := by unfold sg; split <;> omega
theorem sp_def (e : Int) : sp e = 10 ^ (e + 5000).toNat := rfl
theorem sv_zero_iff {s : Bool} {v : Nat} {e : Int} : sv s v e = 0 ↔ v = 0 := by
  unfold sv
  constructor
  · intro h
    rcases Nat.eq_zero_or_pos v with h0 | h0
    · exact h0
    · exact absurd h (sg_pos_ne (Nat.mul_pos h0 (sp_pos e)))
  · rintro rfl
    rw [Nat.zero_mul, sg_zero]
theorem sg_val {s N : Bool} {Z v : Nat} {lo X : Int} (h : sv N v X = sg s Z * (sp lo : Int)) : v * sp X = Z * sp lo ∧ (0 < Z → N = s) := by
  rw [← sg_mul] at h
  obtain ⟨h1, h2⟩ := sg_inj h
  exact ⟨h1, fun hz => h2 (by rw [h1]; exact Nat.mul_pos hz (sp_pos lo))⟩

/-- An exact quotient. -/
theorem exact_back {na nb N1 : Bool} {v1 v2 P : Nat} {e1 e2 X1 : Int} (h2 : 0 < v2) (hl : v1 < 10 ^ 40) (hP : P < 10 ^ 300) (hv2 : v2 < 10 ^ 300)
    (b1 : -1000 ≤ e1 ∧ e1 ≤ 1000) (b2 : -1000 ≤ e2 ∧ e2 ≤ 1000) (b3 : -1000 ≤ X1 ∧ X1 ≤ 1000)
    (h : sv N1 P X1 = sg (na != nb) (v1 * v2) * (sp (e1 + e2) : Int)) :
    sg (N1 != nb) (qZ P v2) * (sp (qX P v2 X1 e2) : Int) = sv na v1 e1 := by
  obtain ⟨hm, hs⟩ := sg_val h
  rcases Nat.eq_zero_or_pos v1 with h0 | h1
  · subst h0
    have hP0 : P = 0 := by
      rw [Nat.zero_mul, Nat.zero_mul] at hm
      rcases Nat.mul_eq_zero.1 hm with h3 | h3
      · exact h3
      · have := sp_pos X1; omega
    rw [hP0, qZ_zero h2, sg_zero, Int.zero_mul, sv_zero_iff.2 rfl]
  · have hN := hs (Nat.mul_pos h1 h2)
    have hPp : 0 < P := by
      rcases Nat.eq_zero_or_pos P with h3 | h3
      · rw [h3, Nat.zero_mul] at hm
        have := Nat.mul_pos (Nat.mul_pos h1 h2) (sp_pos (e1 + e2))
        omega
      · exact h3
    have hsign : (N1 != nb) = na := by rw [hN]; cases na <;> cases nb <;> rfl
    rw [hsign, ← sg_mul]
    unfold sv
    congr 1
    obtain ⟨p1, p2⟩ := nd_bounds hPp
    obtain ⟨q1, q2⟩ := nd_bounds h2
    obtain ⟨c1, c2⟩ := shf_40 p1 p2 q1 q2
    obtain ⟨d1, d2⟩ := qS_bounds hP hv2
    unfold qZ qX
    rw [show shf P v2 (nd P) (nd v2) = qS P v2 from rfl] at c1 c2
    generalize qS P v2 = s at *
    obtain ⟨i, j, hij⟩ : ∃ i j : Nat, s = (i : Int) - (j : Int) := ⟨s.toNat, (-s).toNat, by omega⟩
    obtain ⟨k, hk, f1, f2⟩ := wd_frac P v2 hij
    have hD : 0 < wd v2 (-s) := wd_pos h2 _
    generalize wd P s = A' at *
    generalize wd v2 (-s) = D at *
    rw [sp_def, sp_def] at hm ⊢
    have g1 : A' * 10 ^ ((X1 + 5000).toNat + j) = (v1 * D) * 10 ^ ((e1 + e2 + 5000).toNat + i) := by
      refine Nat.eq_of_mul_eq_mul_right hk ?_
      have e3 : A' * 10 ^ ((X1 + 5000).toNat + j) * k = (P * 10 ^ (X1 + 5000).toNat) * (10 ^ i * 10 ^ j) := by
        rw [Nat.pow_add, Nat.mul_right_comm, ← f1]; ac_rfl
      have e4 : v1 * D * 10 ^ ((e1 + e2 + 5000).toNat + i) * k = (v1 * v2 * 10 ^ (e1 + e2 + 5000).toNat) * (10 ^ i * 10 ^ j) := by
        rw [Nat.pow_add, show v1 * D * (10 ^ (e1 + e2 + 5000).toNat * 10 ^ i) * k = v1 * (D * k) * (10 ^ (e1 + e2 + 5000).toNat * 10 ^ i) by ac_rfl, ← f2]; ac_rfl
      rw [e3, e4, hm]
    have g2 : A' * 10 ^ (X1 - e2 - s + 5000).toNat = (v1 * D) * 10 ^ (e1 + 5000).toNat := pow_move g1 (by omega)
    rcases Nat.lt_or_ge (e1 + 5000).toNat (X1 - e2 - s + 5000).toNat with h5 | h5
    · exfalso
      obtain ⟨f, hf⟩ : ∃ f, (X1 - e2 - s + 5000).toNat = (e1 + 5000).toNat + (f + 1) := ⟨(X1 - e2 - s + 5000).toNat - (e1 + 5000).toNat - 1, by omega⟩
      rw [hf, Nat.pow_add, Nat.mul_comm (10 ^ (e1 + 5000).toNat), ← Nat.mul_assoc] at g2
      have g3 := Nat.eq_of_mul_eq_mul_right (Nat.pow_pos (by omega)) g2
      have g4 : v1 * D < 10 ^ 40 * D := Nat.mul_lt_mul_of_pos_right hl hD
      have g5 : 10 ^ (f + 1) = 10 ^ f * 10 := Nat.pow_succ ..
      have g6 : 0 < 10 ^ f := Nat.pow_pos (by omega)
      have g7 : A' * 10 ≤ A' * 10 ^ (f + 1) := Nat.mul_le_mul_left _ (by omega)
      generalize 10 ^ (f + 1) = F at *
      omega
    · obtain ⟨f, hf⟩ : ∃ f, (e1 + 5000).toNat = (X1 - e2 - s + 5000).toNat + f := ⟨(e1 + 5000).toNat - (X1 - e2 - s + 5000).toNat, by omega⟩
      rw [hf, Nat.pow_add, Nat.mul_comm (10 ^ (X1 - e2 - s + 5000).toNat), ← Nat.mul_assoc] at g2
      have g3 := Nat.eq_of_mul_eq_mul_right (Nat.pow_pos (by omega)) g2
      rw [rnd_exact hD (q := v1 * 10 ^ f) (by rw [g3]; ac_rfl), hf, Nat.pow_add]
      ac_rfl
theorem sp_le {e f : Int} (h : e ≤ f) : sp e ≤ sp f := Nat.pow_le_pow_right (by omega) (by omega)
theorem sp_ten {e : Int} (h : -5000 < e) : sp e = 10 * sp (e - 1) := by
  rw [sp_def, sp_def, show (e + 5000).toNat = (e - 1 + 5000).toNat + 1 by omega, Nat.pow_succ, Nat.mul_comm]
/-- Digits of what is settled. -/
theorem cf_len {Z v : Nat} {lo X : Int} (h : v * sp X = Z * sp lo) (hlX : lo ≤ X) (hl0 : -5000 ≤ lo) (h1 : 10 ^ 39 ≤ Z) (h2 : Z ≤ 10 ^ 40) (hv : v % 10 ≠ 0) :
    (dOf v).length ≤ 40 ∧ lo ≤ X - (40 - ((dOf v).length : Int)) ∧ (Z < 10 ^ 40 → lo = X - (40 - ((dOf v).length : Int))) := by
  have hvp : 0 < v := by omega
  have hnd : nd v = (dOf v).length := by unfold nd; rw [if_neg (by omega)]
  obtain ⟨n1, n2⟩ := nd_bounds hvp
  have hnp := nd_pos v
  rw [hnd] at n1 n2 hnp
  obtain ⟨f, hf⟩ : ∃ f : Nat, X = lo + (f : Int) := ⟨(X - lo).toNat, by omega⟩
  rw [hf, sp_add hl0, Nat.mul_comm (10 ^ f), ← Nat.mul_assoc, Nat.mul_right_comm] at h
  have hZ : v * 10 ^ f = Z := Nat.eq_of_mul_eq_mul_right (sp_pos lo) h
  generalize (dOf v).length = l at *
  have fp : 0 < 10 ^ f := Nat.pow_pos (by omega)
  have u1 : Z < 10 ^ (l + f) := by rw [← hZ, Nat.pow_add]; exact Nat.mul_lt_mul_of_pos_right n2 fp
  have u2 : 10 ^ (l + f) ≤ 10 * Z := by rw [← hZ, Nat.pow_add, ← Nat.mul_assoc]; exact Nat.mul_le_mul_right _ n1
  have hlf : 40 ≤ l + f := by
    rcases Nat.lt_or_ge (l + f) 40 with h3 | h3
    · exfalso
      have : 10 ^ (l + f) ≤ 10 ^ 39 := Nat.pow_le_pow_right (by omega) (by omega)
      omega
    · exact h3
  have hl40 : l ≤ 40 := by
    rcases Nat.lt_or_ge 40 l with h3 | h3
    · exfalso
      have h4 : 10 ^ 41 ≤ 10 ^ l := Nat.pow_le_pow_right (by omega) (by omega)
      have h5 : v ≤ Z := by rw [← hZ]; exact Nat.le_mul_of_pos_right _ fp
      have h6 : v = 10 ^ 40 := by omega
      rw [h6] at hv
      exact hv (by decide)
    · exact h3
  refine ⟨hl40, by omega, fun h3 => ?_⟩
  have : l + f ≤ 40 := by
    rcases Nat.lt_or_ge 40 (l + f) with h4 | h4
    · exfalso
      have : 10 ^ 41 ≤ 10 ^ (l + f) := Nat.pow_le_pow_right (by omega) (by omega)
      omega
    · exact h4
  omega
/-- A rounded quotient is near. -/
theorem half_near {v1 v2 : Nat} {e1 e2 : Int} (h1 : v1 < 10 ^ 300) (h2 : v2 < 10 ^ 300) (hp : 0 < v2) (b1 : -1000 ≤ e1 ∧ e1 ≤ 1000) (b2 : -1000 ≤ e2 ∧ e2 ≤ 1000) :
    v1 * sp e1 ≤ qZ v1 v2 * v2 * sp (qX v1 v2 e1 e2 + e2) + 5 * v2 * sp (qX v1 v2 e1 e2 + e2 - 1) ∧ qZ v1 v2 * v2 * sp (qX v1 v2 e1 e2 + e2) ≤ v1 * sp e1 + 5 * v2 * sp (qX v1 v2 e1 e2 + e2 - 1) := by
  obtain ⟨d1, d2⟩ := qS_bounds h1 h2
  unfold qZ qX
  generalize qS v1 v2 = s at *
  obtain ⟨i, j, hij⟩ : ∃ i j : Nat, s = (i : Int) - (j : Int) := ⟨s.toNat, (-s).toNat, by omega⟩
  obtain ⟨k, hk, f1, f2⟩ := wd_frac v1 v2 hij
  have hD : 0 < wd v2 (-s) := wd_pos hp _
  obtain ⟨r1, r2⟩ := rnd_near (n := wd v1 s) hD
  generalize rnd (wd v1 s) (wd v2 (-s)) = Z at *
  generalize wd v1 s = A' at *
  generalize wd v2 (-s) = D at *
  have hten := sp_ten (e := e1 - e2 - s + e2) (by omega)
  -- times k: in v1 10^i and v2 10^j
  have s1 : 2 * (v1 * 10 ^ i) ≤ (2 * Z + 1) * (v2 * 10 ^ j) := by
    rw [f1, f2, ← Nat.mul_assoc, ← Nat.mul_assoc]; exact Nat.mul_le_mul_right _ r1
  have s2 : 2 * (Z * (v2 * 10 ^ j)) ≤ 2 * (v1 * 10 ^ i) + v2 * 10 ^ j := by
    rw [f1, f2]
    have := Nat.mul_le_mul_right k r2
    rw [Nat.add_mul] at this
    calc 2 * (Z * (D * k)) = 2 * (Z * D) * k := by ac_rfl
      _ ≤ _ := this
      _ = _ := by ac_rfl
  have hpow : sp (e1 - e2 - s + e2) * 10 ^ i = sp e1 * 10 ^ j := by
    rw [sp_def, sp_def, ← Nat.pow_add, ← Nat.pow_add]; congr 1; omega
  generalize sp (e1 - e2 - s + e2) = T at *
  generalize sp (e1 - e2 - s + e2 - 1) = U at *
  generalize sp e1 = V at *
  have hi : 0 < 10 ^ i := Nat.pow_pos (by omega)
  generalize 10 ^ i = I at *
  generalize 10 ^ j = J at *
  have m1 : 2 * (v1 * V) * I ≤ ((2 * Z + 1) * v2 * T) * I := by
    have := Nat.mul_le_mul_right V s1
    calc 2 * (v1 * V) * I = 2 * (v1 * I) * V := by ac_rfl
      _ ≤ _ := this
      _ = (2 * Z + 1) * v2 * (V * J) := by ac_rfl
      _ = _ := by rw [← hpow]; ac_rfl
  have m2 : 2 * (Z * v2 * T) * I ≤ (2 * (v1 * V) + v2 * T) * I := by
    have := Nat.mul_le_mul_right V s2
    calc 2 * (Z * v2 * T) * I = 2 * (Z * v2) * (T * I) := by ac_rfl
      _ = 2 * (Z * (v2 * J)) * V := by rw [hpow]; ac_rfl
      _ ≤ _ := this
      _ = 2 * (v1 * V) * I + v2 * (V * J) := by rw [Nat.add_mul]; ac_rfl
      _ = _ := by rw [← hpow, Nat.add_mul]; ac_rfl
  have m3 := Nat.le_of_mul_le_mul_right m1 hi
  have m4 := Nat.le_of_mul_le_mul_right m2 hi
  have m5 : (2 * Z + 1) * v2 * T = 2 * (Z * v2 * T) + v2 * T := by rw [Nat.mul_assoc, Nat.add_mul, Nat.one_mul]; ac_rfl
  have m6 : v2 * T = 2 * (5 * v2 * U) := by rw [hten]; ac_rfl
  omega
/-- A root's square, and that of the next one. -/
theorem root_near {v R : Nat} {e : Int} (h1 : R * R ≤ sqr v (nd v) e) (h2 : sqr v (nd v) e < (R + 1) * (R + 1)) (hv : v < 10 ^ 300) (b : -1000 ≤ e ∧ e ≤ 1000) :
    R * R * sp (rtX v e + rtX v e) ≤ v * sp e ∧ v * sp e < (R + 1) * (R + 1) * sp (rtX v e + rtX v e) ∧ (0 < v → 10 ^ 39 ≤ R ∧ R < 10 ^ 40) := by
  have hnd := nd_le (k := 300) (by omega) hv
  have hnp := nd_pos v
  have hev := rsh_even (nd v) e
  have hsb : -300 ≤ rsh (nd v) e ∧ rsh (nd v) e ≤ 80 := by unfold rsh; split <;> omega
  refine ⟨?_, ?_, fun h0 => ?_⟩
  rotate_left 2
  · obtain ⟨a1, a2⟩ := nd_bounds h0
    obtain ⟨c1, c2⟩ := sqr_80 e a1 a2
    constructor
    · rcases Nat.lt_or_ge R (10 ^ 39) with h3 | h3
      · exfalso
        have h4 : (R + 1) * (R + 1) ≤ 10 ^ 39 * 10 ^ 39 := Nat.mul_le_mul h3 h3
        omega
      · exact h3
    · rcases Nat.lt_or_ge R (10 ^ 40) with h3 | h3
      · exact h3
      · exfalso
        have h4 : 10 ^ 40 * 10 ^ 40 ≤ R * R := Nat.mul_le_mul h3 h3
        omega
  all_goals
    unfold sqr at h1 h2
    unfold rtX
    generalize rsh (nd v) e = s at *
    obtain ⟨i, j, hij⟩ : ∃ i j : Nat, s = (i : Int) - (j : Int) := ⟨s.toNat, (-s).toNat, by omega⟩
    obtain ⟨k, hk, f1, f2⟩ := wd_frac v 1 hij
    have hD : 0 < wd 1 (-s) := wd_pos (by omega) _
    generalize wd v s = A' at *
    generalize wd 1 (-s) = D at *
    rw [Nat.one_mul] at f2
    have hpow : sp ((e - s) / 2 + (e - s) / 2) * 10 ^ i = sp e * 10 ^ j := by
      rw [sp_def, sp_def, ← Nat.pow_add, ← Nat.pow_add]; congr 1; omega
    generalize sp ((e - s) / 2 + (e - s) / 2) = T at *
    have hVp := sp_pos e
    generalize sp e = V at *
    have hi : 0 < 10 ^ i := Nat.pow_pos (by omega)
    generalize 10 ^ i = I at *
    generalize 10 ^ j = J at *
  · have g1 : R * R * D ≤ A' := by
      have := (Nat.le_div_iff_mul_le hD).1 h1
      exact this
    refine Nat.le_of_mul_le_mul_right (c := I) ?_ hi
    have g2 := Nat.mul_le_mul_right V (Nat.mul_le_mul_right k g1)
    calc R * R * T * I = R * R * (T * I) := by ac_rfl
      _ = R * R * D * k * V := by rw [hpow, f2]; ac_rfl
      _ ≤ _ := g2
      _ = _ := by rw [← f1]; ac_rfl
  · have g1 : A' < (R + 1) * (R + 1) * D := (Nat.div_lt_iff_lt_mul hD).1 h2
    refine Nat.lt_of_mul_lt_mul_right (a := I) ?_
    have g2 := Nat.mul_lt_mul_of_pos_right (Nat.mul_lt_mul_of_pos_right g1 hk) hVp
    calc v * V * I = A' * k * V := by rw [← f1]; ac_rfl
      _ < _ := g2
      _ = (R + 1) * (R + 1) * (V * J) := by rw [f2]; ac_rfl
      _ = _ := by rw [← hpow]; ac_rfl
end Go.Proofs.YtbbafggejnjjiaaGreatDoor
