/-
  Contracts of quot.workOut with each function that is handed in. Written by gen_work.py.
  Contracts of the functions that quot's calls hand to workOut. Written by gen_clos.py.
  Contracts of quot's calls: Div, Mod, Floor, Ceil, Round, Sqrt, Abs. Written by gen_api.py.
  What quot's calls answer, as numbers: an exact quotient comes back, a rounded one is near, a root's square. Plain lemmas.
-/
import Derived.Test.YtobfeneeehmpcaaGreatDoorYQrat
set_option linter.unusedVariables false
set_option linter.unusedSimpArgs false
namespace Go.Proofs.YtobfeneeehmpcaaGreatDoor
open Go.RowKit

/-- An answer with what is known of it. -/
def ToldP (P : Nat → Bool → Nat → Int → Prop) (e : Ending) (w' : World) (base : Nat) : Prop := ∃ E0 s Z lo, P E0 s Z lo ∧ Told e w' base E0 s Z lo
/-- The error of the decimals, or what is known. -/
def Chk (E : Nat) (P : Nat → Bool → Nat → Int → Prop) (E0 : Nat) (s : Bool) (Z : Nat) (lo : Int) : Prop := (E ≠ 0 ∧ E0 = E) ∨ (E = 0 ∧ P E0 s Z lo)
theorem told_err {w' : World} {base E : Nat} (h : E ≠ 0) : Told (.returned (.tuple #[dv false none 0 0 0, .int .i64 (E : Int)])) w' base E false 0 0 := told_of (fun _ => rfl) (fun h2 => absurd h2 h)
theorem okE_cases (neg : Bool) (xs : List Nat) (e : Int) : (okE neg xs e = 0 ∧ okB neg xs e = true) ∨ (okE neg xs e = 9 ∧ okB neg xs e = false) := by
  unfold okE
  cases h : okB neg xs e
  · exact .inr ⟨by simp, rfl⟩
  · exact .inl ⟨by simp, rfl⟩

set_option maxRecDepth 100000 in
set_option maxHeartbeats 2000000 in
theorem workA_c {S : Nat → Prop} {n c b : Nat} {A : Option Addr} {xs : List Nat} (na : Bool) (e1 : Int) (cp0 : Value) (P : Nat → Bool → Nat → Int → Prop) (w : World) (hb : w.heap[b]? = some (.cells #[.bool na, .slice A n c, .int .i64 e1] 24))
    (ha1 : Rd w S A n xs) (hS : ∀ b, S b → b < w.heap.size) (hn : n ≤ 9223372036854775807) 
    (hF : ∀ V, Below w.heap.size w V → okB na xs e1 = true → Calls Tryz.prog 40 #[cp0] V fun e w' => ToldP P e w' V.heap.size ∧ Below V.heap.size V w') :
    Calls Tryz.prog 39 #[.func (.func 40) #[] #[cp0], .slice (some ⟨b, 0, none⟩) 1 1] w fun e w' => ToldP (Chk (okE na xs e1) P) e w' w.heap.size ∧ Below w.heap.size w w' := by
  have hbs : b < w.heap.size := (Array.getElem?_eq_some_iff.1 hb).1
  have HB := Lib.hid hb
  have HF := Lib.hid hF
  have mr0 := World.alloc_heap_new w (.cells #[.bool false, .slice none 0 0, .int .i64 0] 24)
  have hw0 : Below w.heap.size w (w.alloc (.cells #[.bool false, .slice none 0 0, .int .i64 0] 24)) := (Below.refl _ _).alloc (Nat.le_refl _) _
  clear hb hF
  go_enter Tryz.func39, Tryz.ntmps39
  go_wp2
  go_loopw [11] (fun iv wr => ∃ (k : Nat), k ≤ 1 ∧ iv = .int .i64 (k : Int) ∧ Hid (1 ≤ k → okB na xs e1 = true) ∧ wr.heap[w.heap.size]? = some (.cells #[.bool false, .slice none 0 0, .int .i64 0] 24) ∧ Below w.heap.size w wr) (fun iv _ => 1 - (RowKit.intOf iv).toNat)
  case atStart => exact ⟨0, by omega, rfl, (fun h => by omega), mr0, hw0⟩
  case round =>
    obtain ⟨k, hk, rfl, hz3, mr, hbel⟩ := hrel
    clear mr0 hw0
    have hB := held hbel hbs HB.out
    have p0 : wr.cell? ⟨b, 0, none⟩ = some (.bool na) := cell_of hB rfl
    have p1 : wr.cell? ⟨b, 1, none⟩ = some (.slice A n c) := cell_of hB rfl
    have p2 : wr.cell? ⟨b, 2, none⟩ = some (.int .i64 e1) := cell_of hB rfl
    have hba : ∀ o, Below w.heap.size w (wr.alloc o) := fun o => hbel.alloc hbel.size _
    clear hB
    by_cases h1 : k = 0
    · subst h1
      have hP := DCheck_c (c := c) na e1 (wr.alloc (.cells #[.bool na, .slice A n c, .int .i64 e1] 24)) (ha1.below (hba _) hS) (fun b h => by have := hS b h; have := hbel.size; simp; omega) hn
      unfold dv at hP
      rcases okE_cases na xs e1 with ⟨ho, ho2⟩ | ⟨ho, ho2⟩
      · rw [ho] at hP
        have HP := Lib.hid hP
        have HO := Lib.hid ho2
        clear hP ho ho2 hz3
        go_wp2_with fail
        refine HP.out.mono ?_
        rintro e w1 ⟨rfl, hb1⟩
        have mr := heldz hb1 (heldA (.cells #[.bool na, .slice A n c, .int .i64 e1] 24) mr)
        go_wp2
        exact ⟨⟨1, by omega, rfl, (fun _ => HO.out), mr, (hba _).trans (hb1.mono (by simp; have := hbel.size; omega))⟩, by simp [RowKit.intOf]⟩
      · rw [ho] at hP
        have HP := Lib.hid hP
        clear hP ho2 hz3
        have HE := Lib.hid ho
        go_wp2_with fail
        refine HP.out.mono ?_
        rintro e w1 ⟨rfl, hb1⟩
        have mr := heldz hb1 (heldA (.cells #[.bool na, .slice A n c, .int .i64 e1] 24) mr)
        obtain ⟨g0, g1, g2⟩ := box3_of mr
        have f0 := frozen_of 0 mr
        have f1 := frozen_of 1 mr
        have f2 := frozen_of 2 mr
        have hB := (hbel.alloc hbel.size (.cells #[.bool na, .slice A n c, .int .i64 e1] 24)).trans (hb1.mono (hbel.alloc hbel.size (.cells #[.bool na, .slice A n c, .int .i64 e1] 24)).size)
        go_wp2
        refine bodyPost_ret (v := .tuple #[.agg #[.bool false, .slice none 0 0, .int .i64 0], .int .i64 9]) (by simp [results, Tryz.results39, go_sem, g0, g1, g2]) rfl ?_
        refine ⟨⟨9, false, 0, 0, .inl ⟨by rw [HE.out]; decide, HE.out.symm⟩, told_err (by decide)⟩, ?_⟩
        exact ((hB.setCell (p := ⟨w.heap.size, 0, none⟩) (Nat.le_refl _) _).setCell (p := ⟨w.heap.size, 1, none⟩) (Nat.le_refl _) _).setCell (p := ⟨w.heap.size, 2, none⟩) (Nat.le_refl _) _
    · obtain rfl : k = 1 := by omega
      have hO := hz3.out (by omega)
      have hE : okE na xs e1 = 0 := by unfold okE; rw [if_pos hO]
      have HO := Lib.hid hO
      have HE := Lib.hid hE
      clear hz3 h1 hO hE p0 p1 p2 hba
      go_wp2_with fail
      refine (HF.out wr hbel HO.out).mono ?_
      rintro e w1 ⟨⟨E0, s0, Z0, lo0, hP, A5, n5, c5, rfl, hr⟩, hb0⟩
      have hl5 := (Array.getElem?_eq_some_iff.1 mr).1
      have mr := heldz hb0 mr
      have hBs := hbel.size
      have hB := hbel.trans (hb0.mono hbel.size)
      obtain ⟨g0, g1, g2⟩ := box3_of mr
      have f0 := frozen_of 0 mr
      have f1 := frozen_of 1 mr
      have f2 := frozen_of 2 mr
      dsimp only [dv]
      go_wp2
      refine bodyPost_ret (v := .tuple #[.agg #[.bool (opN E0 s0 Z0 lo0), .slice A5 n5 c5, .int .i64 (opX E0 Z0 lo0)], .int .i64 (opE E0 Z0 lo0 : Int)]) (by simp [results, Tryz.results39, go_sem, g0, g1, g2]) rfl ?_
      refine ⟨⟨E0, s0, Z0, lo0, .inr ⟨HE.out, hP⟩, A5, n5, c5, rfl, ?_⟩, ?_⟩
      · exact (((hr.setOther (by simp; omega) _).setOther (by simp; omega) _).setOther (by simp; omega) _).more (by omega)
      · exact ((hB.setCell (p := ⟨w.heap.size, 0, none⟩) (Nat.le_refl _) _).setCell (p := ⟨w.heap.size, 1, none⟩) (Nat.le_refl _) _).setCell (p := ⟨w.heap.size, 2, none⟩) (Nat.le_refl _) _

set_option maxRecDepth 100000 in
set_option maxHeartbeats 2000000 in
theorem workW_c {S : Nat → Prop} {n c b : Nat} {A : Option Addr} {xs : List Nat} (na : Bool) (e1 : Int) (cp0 cp1 : Value) (P : Nat → Bool → Nat → Int → Prop) (w : World) (hb : w.heap[b]? = some (.cells #[.bool na, .slice A n c, .int .i64 e1] 24))
    (ha1 : Rd w S A n xs) (hS : ∀ b, S b → b < w.heap.size) (hn : n ≤ 9223372036854775807) 
    (hF : ∀ V, Below w.heap.size w V → okB na xs e1 = true → Calls Tryz.prog 69 #[cp0, cp1] V fun e w' => ToldP P e w' V.heap.size ∧ Below V.heap.size V w') :
    Calls Tryz.prog 39 #[.func (.func 69) #[] #[cp0, cp1], .slice (some ⟨b, 0, none⟩) 1 1] w fun e w' => ToldP (Chk (okE na xs e1) P) e w' w.heap.size ∧ Below w.heap.size w w' := by
  have hbs : b < w.heap.size := (Array.getElem?_eq_some_iff.1 hb).1
  have HB := Lib.hid hb
  have HF := Lib.hid hF
  have mr0 := World.alloc_heap_new w (.cells #[.bool false, .slice none 0 0, .int .i64 0] 24)
  have hw0 : Below w.heap.size w (w.alloc (.cells #[.bool false, .slice none 0 0, .int .i64 0] 24)) := (Below.refl _ _).alloc (Nat.le_refl _) _
  clear hb hF
  go_enter Tryz.func39, Tryz.ntmps39
  go_wp2
  go_loopw [11] (fun iv wr => ∃ (k : Nat), k ≤ 1 ∧ iv = .int .i64 (k : Int) ∧ Hid (1 ≤ k → okB na xs e1 = true) ∧ wr.heap[w.heap.size]? = some (.cells #[.bool false, .slice none 0 0, .int .i64 0] 24) ∧ Below w.heap.size w wr) (fun iv _ => 1 - (RowKit.intOf iv).toNat)
  case atStart => exact ⟨0, by omega, rfl, (fun h => by omega), mr0, hw0⟩
  case round =>
    obtain ⟨k, hk, rfl, hz3, mr, hbel⟩ := hrel
    clear mr0 hw0
    have hB := held hbel hbs HB.out
    have p0 : wr.cell? ⟨b, 0, none⟩ = some (.bool na) := cell_of hB rfl
    have p1 : wr.cell? ⟨b, 1, none⟩ = some (.slice A n c) := cell_of hB rfl
    have p2 : wr.cell? ⟨b, 2, none⟩ = some (.int .i64 e1) := cell_of hB rfl
    have hba : ∀ o, Below w.heap.size w (wr.alloc o) := fun o => hbel.alloc hbel.size _
    clear hB
    by_cases h1 : k = 0
    · subst h1
      have hP := DCheck_c (c := c) na e1 (wr.alloc (.cells #[.bool na, .slice A n c, .int .i64 e1] 24)) (ha1.below (hba _) hS) (fun b h => by have := hS b h; have := hbel.size; simp; omega) hn
      unfold dv at hP
      rcases okE_cases na xs e1 with ⟨ho, ho2⟩ | ⟨ho, ho2⟩
      · rw [ho] at hP
        have HP := Lib.hid hP
        have HO := Lib.hid ho2
        clear hP ho ho2 hz3
        go_wp2_with fail
        refine HP.out.mono ?_
        rintro e w1 ⟨rfl, hb1⟩
        have mr := heldz hb1 (heldA (.cells #[.bool na, .slice A n c, .int .i64 e1] 24) mr)
        go_wp2
        exact ⟨⟨1, by omega, rfl, (fun _ => HO.out), mr, (hba _).trans (hb1.mono (by simp; have := hbel.size; omega))⟩, by simp [RowKit.intOf]⟩
      · rw [ho] at hP
        have HP := Lib.hid hP
        clear hP ho2 hz3
        have HE := Lib.hid ho
        go_wp2_with fail
        refine HP.out.mono ?_
        rintro e w1 ⟨rfl, hb1⟩
        have mr := heldz hb1 (heldA (.cells #[.bool na, .slice A n c, .int .i64 e1] 24) mr)
        obtain ⟨g0, g1, g2⟩ := box3_of mr
        have f0 := frozen_of 0 mr
        have f1 := frozen_of 1 mr
        have f2 := frozen_of 2 mr
        have hB := (hbel.alloc hbel.size (.cells #[.bool na, .slice A n c, .int .i64 e1] 24)).trans (hb1.mono (hbel.alloc hbel.size (.cells #[.bool na, .slice A n c, .int .i64 e1] 24)).size)
        go_wp2
        refine bodyPost_ret (v := .tuple #[.agg #[.bool false, .slice none 0 0, .int .i64 0], .int .i64 9]) (by simp [results, Tryz.results39, go_sem, g0, g1, g2]) rfl ?_
        refine ⟨⟨9, false, 0, 0, .inl ⟨by rw [HE.out]; decide, HE.out.symm⟩, told_err (by decide)⟩, ?_⟩
        exact ((hB.setCell (p := ⟨w.heap.size, 0, none⟩) (Nat.le_refl _) _).setCell (p := ⟨w.heap.size, 1, none⟩) (Nat.le_refl _) _).setCell (p := ⟨w.heap.size, 2, none⟩) (Nat.le_refl _) _
    · obtain rfl : k = 1 := by omega
      have hO := hz3.out (by omega)
      have hE : okE na xs e1 = 0 := by unfold okE; rw [if_pos hO]
      have HO := Lib.hid hO
      have HE := Lib.hid hE
      clear hz3 h1 hO hE p0 p1 p2 hba
      go_wp2_with fail
      refine (HF.out wr hbel HO.out).mono ?_
      rintro e w1 ⟨⟨E0, s0, Z0, lo0, hP, A5, n5, c5, rfl, hr⟩, hb0⟩
      have hl5 := (Array.getElem?_eq_some_iff.1 mr).1
      have mr := heldz hb0 mr
      have hBs := hbel.size
      have hB := hbel.trans (hb0.mono hbel.size)
      obtain ⟨g0, g1, g2⟩ := box3_of mr
      have f0 := frozen_of 0 mr
      have f1 := frozen_of 1 mr
      have f2 := frozen_of 2 mr
      dsimp only [dv]
      go_wp2
      refine bodyPost_ret (v := .tuple #[.agg #[.bool (opN E0 s0 Z0 lo0), .slice A5 n5 c5, .int .i64 (opX E0 Z0 lo0)], .int .i64 (opE E0 Z0 lo0 : Int)]) (by simp [results, Tryz.results39, go_sem, g0, g1, g2]) rfl ?_
      refine ⟨⟨E0, s0, Z0, lo0, .inr ⟨HE.out, hP⟩, A5, n5, c5, rfl, ?_⟩, ?_⟩
      · exact (((hr.setOther (by simp; omega) _).setOther (by simp; omega) _).setOther (by simp; omega) _).more (by omega)
      · exact ((hB.setCell (p := ⟨w.heap.size, 0, none⟩) (Nat.le_refl _) _).setCell (p := ⟨w.heap.size, 1, none⟩) (Nat.le_refl _) _).setCell (p := ⟨w.heap.size, 2, none⟩) (Nat.le_refl _) _

end Go.Proofs.YtobfeneeehmpcaaGreatDoor

namespace Go.Proofs.YtobfeneeehmpcaaGreatDoor
open Go.RowKit

def PAbs (v : Nat) (e : Int) (E0 : Nat) (s : Bool) (Z : Nat) (lo : Int) : Prop := E0 = 0 ∧ s = false ∧ Z = v ∧ lo = e
def PWhole (na : Bool) (v : Nat) (e : Int) (U : Bool) (E0 : Nat) (s : Bool) (Z : Nat) (lo : Int) : Prop := E0 = 0 ∧ s = na ∧ Z = wq v e + (if U = true then 1 else 0) ∧ lo = 0
set_option maxRecDepth 100000 in
set_option maxHeartbeats 2000000 in
theorem abs1_c {S : Nat → Prop} {n c pa : Nat} {A : Option Addr} {xs : List Nat} (na : Bool) (e1 : Int) (w : World) (ma : w.heap[pa]? = some (.cells #[.bool na, .slice A n c, .int .i64 e1] 24))
    (ha : Rd w S A n xs) (hS : ∀ b, S b → b < w.heap.size) (k1 : okB na xs e1 = true) :
    Calls Tryz.prog 40 #[.pointer (some ⟨pa, 0, none⟩)] w fun e w' => ToldP (PAbs (val xs) e1) e w' w.heap.size ∧ Below w.heap.size w w' := by
  have up : ∀ {V : World}, Below w.heap.size w V → ∀ b, b < w.heap.size → b < V.heap.size := fun h b hb => by have := h.size; omega
  have mr := World.alloc_heap_new w (.cells #[.bool false, .slice none 0 0, .int .i64 0] 24)
  have ma := heldA (.cells #[.bool false, .slice none 0 0, .int .i64 0] 24) ma
  have hB : Below w.heap.size w (w.alloc (.cells #[.bool false, .slice none 0 0, .int .i64 0] 24)) := (Below.refl _ _).alloc (Nat.le_refl _) _
  obtain ⟨a1, a2, _, a4, _, _⟩ := okB_true ha.l32 k1
  have fx : Fit xs := ⟨a1, a2⟩
  have hn : n ≤ 9223372036854775807 := by rw [← ha.len]; omega
  have HR := Lib.hid (fun V (h1 : Rd V S A n xs) hs => DSettle_v (c := c) false e1 V h1 hs hn)
  go_enter Tryz.func40, Tryz.ntmps40
  go_upto_region 1 with fail
  generalize w.alloc (.cells #[.bool false, .slice none 0 0, .int .i64 0] 24) = W at mr ma hB ⊢
  obtain ⟨p0, p1, p2⟩ := box3_of ma
  clear k1 a1 a2
  go_wp2_with fail
  refine (HR.out W (ha.below hB hS) (fun b h => up hB b (hS b h))).mono ?_
  rintro e w1 ⟨ht, hb0⟩
  have ht := ht.told fx (by omega) (by omega)
  obtain ⟨A5, n5, c5, rfl, hr⟩ := ht
  have hl5 := (Array.getElem?_eq_some_iff.1 mr).1
  have mr := heldz hb0 mr
  have hBs := hB.size
  have hB := hB.trans (hb0.mono hB.size)
  obtain ⟨g0, g1, g2⟩ := box3_of mr
  have f0 := frozen_of 0 mr
  have f1 := frozen_of 1 mr
  have f2 := frozen_of 2 mr
  dsimp only [dv]
  go_wp2
  refine bodyPost_ret (v := .tuple #[.agg #[.bool (opN 0 false (val xs) e1), .slice A5 n5 c5, .int .i64 (opX 0 (val xs) e1)], .int .i64 (opE 0 (val xs) e1 : Int)]) (by simp [results, Tryz.results40, go_sem, g0, g1, g2]) rfl ?_
  refine ⟨⟨0, false, (val xs), e1, ⟨rfl, rfl, rfl, rfl⟩, A5, n5, c5, rfl, ?_⟩, ?_⟩
  · exact (((hr.setOther (by simp; omega) _).setOther (by simp; omega) _).setOther (by simp; omega) _).more (by omega)
  · exact ((hB.setCell (p := ⟨w.heap.size, 0, none⟩) (Nat.le_refl _) _).setCell (p := ⟨w.heap.size, 1, none⟩) (Nat.le_refl _) _).setCell (p := ⟨w.heap.size, 2, none⟩) (Nat.le_refl _) _

set_option maxRecDepth 100000 in
set_option maxHeartbeats 2000000 in
theorem toWhole1F_c {pz n0 c0 : Nat} {A0 : Option Addr} {nz : Bool} {e0 : Int} {S : Nat → Prop} {n c pa pu : Nat} {A : Option Addr} {xs : List Nat} (na : Bool) (e1 : Int) (w : World) (ma : w.heap[pa]? = some (.cells #[.bool na, .slice A n c, .int .i64 e1] 24)) (mu : w.heap[pu]? = some (.cells #[.func (.func 48) #[] #[.pointer (some ⟨pz, 0, none⟩)]] 76)) (mz : w.heap[pz]? = some (.cells #[.bool nz, .slice A0 n0 c0, .int .i64 e0] 24))
    (ha : Rd w S A n xs) (hS : ∀ b, S b → b < w.heap.size) (k1 : okB na xs e1 = true) :
    Calls Tryz.prog 69 #[.pointer (some ⟨pa, 0, none⟩), .pointer (some ⟨pu, 0, none⟩)] w fun e w' => ToldP (PWhole na (val xs) e1 (nz && !decide (wr (val xs) e1 = 0))) e w' w.heap.size ∧ Below w.heap.size w w' := by
  obtain ⟨QV, hQV⟩ : ∃ q, Hid (q = wq (val xs) e1 + (if (nz && !decide (wr (val xs) e1 = 0)) = true then 1 else 0)) := ⟨_, Lib.hid rfl⟩
  have hpa := (Array.getElem?_eq_some_iff.1 ma).1
  have hpu := (Array.getElem?_eq_some_iff.1 mu).1
  have up : ∀ {V : World}, Below w.heap.size w V → ∀ b, b < w.heap.size → b < V.heap.size := fun h b hb => by have := h.size; omega
  have mr := World.alloc_heap_new w (.cells #[.bool false, .slice none 0 0, .int .i64 0] 24)
  have ma := heldA (.cells #[.bool false, .slice none 0 0, .int .i64 0] 24) ma
  have mu := heldA (.cells #[.bool false, .slice none 0 0, .int .i64 0] 24) mu
  have mz := heldA (.cells #[.bool false, .slice none 0 0, .int .i64 0] 24) mz
  have hB : Below w.heap.size w (w.alloc (.cells #[.bool false, .slice none 0 0, .int .i64 0] 24)) := (Below.refl _ _).alloc (Nat.le_refl _) _
  obtain ⟨a1, a2, a3, a4, _, _⟩ := okB_true ha.l32 k1
  have fx : Fit xs := ⟨a1, a2⟩
  have hw1 := (ten_bp2 (wd_lt (t := 1000) (p := e1) a3 (by omega)) (by omega)).2.1
  have HW := Lib.hid (fun V (hz : V.heap[pz]? = some (.cells #[.bool nz, .slice A0 n0 c0, .int .i64 e0] 24)) (h1 : Rd V S A n xs) hs => wholeF_c (c := c) na e1 V hz h1 hs fx ⟨by omega, by omega⟩ hw1)
  rw [← hQV.out] at HW
  unfold dv at HW
  clear hw1 a1 a2 a3 a4 fx k1
  go_enter Tryz.func69, Tryz.ntmps69
  go_upto_region 1 with fail
  generalize w.alloc (.cells #[.bool false, .slice none 0 0, .int .i64 0] 24) = W at mr ma mu mz hB ⊢
  obtain ⟨p0, p1, p2⟩ := box3_of ma
  have p3 : W.cell? ⟨pu, 0, none⟩ = _ := cell_of mu rfl
  go_wp2_with fail
  refine wp_region_held_drew (S := fun w' => w'.cell? ⟨pa, 0, none⟩ = some (.bool na) ∧ w'.cell? ⟨pa, 1, none⟩ = some (.slice A n c) ∧ w'.cell? ⟨pa, 2, none⟩ = some (.int .i64 e1) ∧ w'.cell? ⟨pu, 0, none⟩ = some (.func (.func 48) #[] #[.pointer (some ⟨pz, 0, none⟩)])) (by kernel_rfl) ⟨p0, p1, p2, p3⟩ (fun hHeld => ?_)
  (try simp only [List.size_toArray, List.length_cons, List.length_nil, Nat.reduceAdd, Array.replicate_succ, Array.replicate_zero, List.push_toArray, List.append_toArray, List.nil_append, List.cons_append])
  refine wpAnyH_take (i := 0) (oi := ⟨_, _, _, _, _, _⟩) (v := ?_) rfl (by kernel_rfl) (by kernel_rfl) (by kernel_rfl) (fun _ _ _ h => h) (Or.inl ⟨by rfl, ?_⟩) (by assumption) ?_
  rotate_left
  · intro w hSw
    (try dsimp only at hSw)
    go_split_ands
    go_simp
    try with_reducible rfl
  try simp only [Act.put, List.setIfInBounds_toArray, List.set_cons_zero, List.set_cons_succ]
  refine wpAnyH_take (i := 1) (oi := ⟨_, _, _, _, _, _⟩) (v := ?_) rfl (by kernel_rfl) (by kernel_rfl) (by kernel_rfl) (fun _ _ _ h => h) (Or.inl ⟨by rfl, ?_⟩) (by assumption) ?_
  rotate_left
  · intro w hSw
    (try dsimp only at hSw)
    go_split_ands
    go_simp
    try with_reducible rfl
  try simp only [Act.put, List.setIfInBounds_toArray, List.set_cons_zero, List.set_cons_succ]
  refine wpAnyH_take (i := 2) (oi := ⟨_, _, _, _, _, _⟩) (v := ?_) rfl (by kernel_rfl) (by kernel_rfl) (by kernel_rfl) (fun _ _ _ h => h) (Or.inl ⟨by rfl, ?_⟩) (by assumption) ?_
  rotate_left
  · intro w hSw
    (try dsimp only at hSw)
    go_split_ands
    go_simp
    try with_reducible rfl
  try simp only [Act.put, List.setIfInBounds_toArray, List.set_cons_zero, List.set_cons_succ]
  refine wpAnyH_take (i := 3) (oi := ⟨_, _, _, _, _, _⟩) (v := ?_) rfl (by kernel_rfl) (by kernel_rfl) (by kernel_rfl) (fun _ _ _ h => h) (Or.inl ⟨by rfl, ?_⟩) (by assumption) ?_
  rotate_left
  · intro w hSw
    (try dsimp only at hSw)
    go_split_ands
    go_simp
    try with_reducible rfl
  try simp only [Act.put, List.setIfInBounds_toArray, List.set_cons_zero, List.set_cons_succ]
  have ma : W.drew.heap[pa]? = _ := ma
  have mu : W.drew.heap[pu]? = _ := mu
  have mr : W.drew.heap[w.heap.size]? = _ := mr
  have mz : W.drew.heap[pz]? = _ := mz
  have hB : Below w.heap.size w W.drew := only_drewB hB
  generalize hV0 : W.drew = V0 at *
  clear hV0 p0 p1 p2 p3
  refine wpAnyH_ready (rs := [4]) (by kernel_rfl) (by simp) ?_
  refine (AllReadyH.cons (o := ⟨_, _, _, _, _, _⟩) rfl (fun K hK => ?_) AllReadyH.nil)
  go_simp
  refine (HW.out V0 mz (ha.below hB hS) (fun b h => up hB b (hS b h))).mono ?_
  rintro e V1 ⟨A1, n1, c1, z1, rfl, r1, f1, v1, hb0⟩
  have hn1 : n1 ≤ 9223372036854775807 := by have := f1.len; have := r1.len; omega
  have r1 := r1.more (base' := w.heap.size) hB.size
  have ma := heldz hb0 ma
  have mu := heldz hb0 mu
  have mr := heldz hb0 mr
  have hB := hB.trans (hb0.mono hB.size)
  obtain ⟨x0, x1, x2⟩ := box3_of ma
  have x3 : V1.cell? ⟨pu, 0, none⟩ = _ := cell_of mu rfl
  (try dsimp only)
  refine hK.out _ _ ⟨x0, x1, x2, x3⟩ (fun hHeld => ?_)
  clear hK K
  try simp only [Act.put, List.setIfInBounds_toArray, List.set_cons_zero, List.set_cons_succ]
  clear hb0 x0 x1 x2 x3
  refine wpAnyH_ready (rs := [5]) (by kernel_rfl) (by simp) ?_
  refine (AllReadyH.cons (o := ⟨_, _, _, _, _, _⟩) rfl (fun K hK => ?_) AllReadyH.nil)
  go_simp
  refine (DSettle_v (c := c1) na 0 V1 r1.rd (fun b h => h.2) hn1).mono ?_
  rintro e V2 ⟨ht, hb0⟩
  have ht := ht.told f1 (by omega) (by omega)
  rw [v1] at ht
  obtain ⟨A5, n5, c5, rfl, hr⟩ := ht
  have hl5 := (Array.getElem?_eq_some_iff.1 mr).1
  have hBs := hB.size
  have ma := heldz hb0 ma
  have mu := heldz hb0 mu
  have mr := heldz hb0 mr
  have hB := hB.trans (hb0.mono hB.size)
  obtain ⟨x0, x1, x2⟩ := box3_of ma
  have x3 : V2.cell? ⟨pu, 0, none⟩ = _ := cell_of mu rfl
  obtain ⟨g0, g1, g2⟩ := box3_of mr
  have f0 := frozen_of 0 mr
  have f1 := frozen_of 1 mr
  have f2 := frozen_of 2 mr
  (try dsimp only)
  refine hK.out _ _ ⟨x0, x1, x2, x3⟩ (fun hHeld => ?_)
  clear hK K
  try simp only [Act.put, List.setIfInBounds_toArray, List.set_cons_zero, List.set_cons_succ]
  refine wpAnyH_take (i := 6) (oi := ⟨_, _, _, _, _, _⟩) (v := ?_) rfl (by kernel_rfl) (by kernel_rfl) (by kernel_rfl) (fun _ _ _ h => h) (Or.inl ⟨by rfl, ?_⟩) (by assumption) ?_
  rotate_left
  · intro w hSw
    (try dsimp only at hSw)
    go_split_ands
    go_simp
    try with_reducible rfl
  try simp only [Act.put, List.setIfInBounds_toArray, List.set_cons_zero, List.set_cons_succ]
  refine wpAnyH_take (i := 7) (oi := ⟨_, _, _, _, _, _⟩) (v := ?_) rfl (by kernel_rfl) (by kernel_rfl) (by kernel_rfl) (fun _ _ _ h => h) (Or.inl ⟨by rfl, ?_⟩) (by assumption) ?_
  rotate_left
  · intro w hSw
    (try dsimp only at hSw)
    go_split_ands
    go_simp
    try with_reducible rfl
  try simp only [Act.put, List.setIfInBounds_toArray, List.set_cons_zero, List.set_cons_succ]
  refine wpAnyH_ready (rs := [8]) (by kernel_rfl) (by simp) ?_
  refine (AllReadyH.cons (o := ⟨_, _, _, _, _, _⟩) rfl (fun K hK => ?_) AllReadyH.nil)
  dsimp only [dv]
  go_simp
  refine hK.out _ _ (by refine ⟨?_, ?_, ?_, ?_⟩ <;> (first | go_keep | (rw [World.cell?_setCell_far _ _ _ _ (by dsimp only; omega), World.cell?_setCell_far _ _ _ _ (by dsimp only; omega), World.cell?_setCell_far _ _ _ _ (by dsimp only; omega)]; assumption))) (fun hHeld => ?_)
  clear hK K
  try simp only [Act.put, List.setIfInBounds_toArray, List.set_cons_zero, List.set_cons_succ]
  refine wpAnyH_take (i := 9) (oi := ⟨_, _, _, _, _, _⟩) (v := ?_) rfl (by kernel_rfl) (by kernel_rfl) (by kernel_rfl) (fun _ _ _ h => h) (Or.inl ⟨by rfl, ?_⟩) (by assumption) ?_
  rotate_left
  · intro w hSw
    (try dsimp only at hSw)
    go_split_ands
    go_simp
    try with_reducible rfl
  try simp only [Act.put, List.setIfInBounds_toArray, List.set_cons_zero, List.set_cons_succ]
  refine wpAnyH_done (by kernel_rfl) ?_ _
  go_wp2
  refine bodyPost_ret (v := .tuple #[.agg #[.bool (opN 0 na QV 0), .slice A5 n5 c5, .int .i64 (opX 0 QV 0)], .int .i64 (opE 0 QV 0 : Int)]) (by simp [results, Tryz.results69, go_sem, g0, g1, g2]) rfl ?_
  refine ⟨⟨0, na, QV, 0, ⟨rfl, rfl, hQV.out, rfl⟩, A5, n5, c5, rfl, ?_⟩, ?_⟩
  · exact (((hr.setOther (by simp; omega) _).setOther (by simp; omega) _).setOther (by simp; omega) _).more (by omega)
  · exact ((hB.setCell (p := ⟨w.heap.size, 0, none⟩) (Nat.le_refl _) _).setCell (p := ⟨w.heap.size, 1, none⟩) (Nat.le_refl _) _).setCell (p := ⟨w.heap.size, 2, none⟩) (Nat.le_refl _) _

end Go.Proofs.YtobfeneeehmpcaaGreatDoor

namespace Go.Proofs.YtobfeneeehmpcaaGreatDoor
open Go.RowKit
theorem three_newq (w : World) (o1 o2 o3 : Obj) : (((w.alloc o1).alloc o2).alloc o3).heap[w.heap.size]? = some o1 ∧ (((w.alloc o1).alloc o2).alloc o3).heap[w.heap.size + 1]? = some o2 ∧ (((w.alloc o1).alloc o2).alloc o3).heap[w.heap.size + 1 + 1]? = some o3 := by
  obtain ⟨a1, a2⟩ := two_new w o1 o2
  have h := World.alloc_heap_new ((w.alloc o1).alloc o2) o3
  simp only [World.size_alloc] at h
  exact ⟨(Below.heap_alloc _ _ _ (by simp <;> omega)).trans a1, (Below.heap_alloc _ _ _ (by simp <;> omega)).trans a2, h⟩

set_option maxRecDepth 100000 in
set_option maxHeartbeats 2000000 in
theorem QAbs_c {S : Nat → Prop} {n c : Nat} {A : Option Addr} {xs : List Nat} (na : Bool) (e1 : Int) (w : World)
    (ha : Rd w S A n xs) (hS : ∀ b, S b → b < w.heap.size) (hn : n ≤ 9223372036854775807) :
    Calls Tryz.prog 26 #[dv na A n c e1] w fun e w' => ToldP (Chk (okE na xs e1) (PAbs (val xs) e1)) e w' w.heap.size ∧ Below w.heap.size w w' := by
  have up : ∀ {V : World}, Below w.heap.size w V → ∀ b, b < w.heap.size → b < V.heap.size := fun h b hb => by have := h.size; omega
  have hmf : ∀ (fn : Fn) (first cap : Array Value) (w : World), (Instr.makeFunc fn first cap).run Tryz.prog w = .ok (.func fn first cap) w := fun _ _ _ _ => rfl
  have hW : Below w.heap.size w (((w.alloc (.cells #[.bool na, .slice A n c, .int .i64 e1] 24)).alloc (.cells #[.bool false, .slice none 0 0, .int .i64 0] 24)).alloc (.cells #[.bool na, .slice A n c, .int .i64 e1] 24)) := ((((Below.refl w.heap.size w).alloc (Nat.le_refl _) (.cells #[.bool na, .slice A n c, .int .i64 e1] 24)).alloc (by simp <;> omega) (.cells #[.bool false, .slice none 0 0, .int .i64 0] 24)).alloc (by simp <;> omega) (.cells #[.bool na, .slice A n c, .int .i64 e1] 24))
  obtain ⟨ma, mr, ml⟩ := three_newq w (.cells #[.bool na, .slice A n c, .int .i64 e1] 24) (.cells #[.bool false, .slice none 0 0, .int .i64 0] 24) (.cells #[.bool na, .slice A n c, .int .i64 e1] 24)
  unfold dv
  go_enter Tryz.func26, Tryz.ntmps26
  go_wp2_with fail
  generalize (((w.alloc (.cells #[.bool na, .slice A n c, .int .i64 e1] 24)).alloc (.cells #[.bool false, .slice none 0 0, .int .i64 0] 24)).alloc (.cells #[.bool na, .slice A n c, .int .i64 e1] 24)) = W at ma mr ml hW ⊢
  refine (workA_c (c := c) na e1 (.pointer (some ⟨w.heap.size, 0, none⟩)) (PAbs (val xs) e1) W ml (ha.below hW hS) (fun b h => up hW b (hS b h)) hn (fun V hV k1 => abs1_c (c := c) na e1 V (heldz hV ma) ((ha.below hW hS).below hV (fun b h => up hW b (hS b h))) (fun b h => up (hW.trans (hV.mono hW.size)) b (hS b h)) k1)).mono ?_
  rintro e w1 ⟨⟨E0, s0, Z0, lo0, hP, A5, n5, c5, rfl, hr⟩, hb0⟩
  have hl5 := (Array.getElem?_eq_some_iff.1 mr).1
  have mr := heldz hb0 mr
  have hBs := hW.size
  have hB := hW.trans (hb0.mono hW.size)
  obtain ⟨g0, g1, g2⟩ := box3_of mr
  have f0 := frozen_of 0 mr
  have f1 := frozen_of 1 mr
  have f2 := frozen_of 2 mr
  dsimp only [dv]
  go_wp2
  refine bodyPost_ret (v := .tuple #[.agg #[.bool (opN E0 s0 Z0 lo0), .slice A5 n5 c5, .int .i64 (opX E0 Z0 lo0)], .int .i64 (opE E0 Z0 lo0 : Int)]) (by simp [results, Tryz.results26, go_sem, g0, g1, g2]) rfl ?_
  refine ⟨⟨E0, s0, Z0, lo0, hP, A5, n5, c5, rfl, ?_⟩, ?_⟩
  · exact (((hr.setOther (by simp; omega) _).setOther (by simp; omega) _).setOther (by simp; omega) _).more (by omega)
  · exact ((hB.setCell (p := ⟨w.heap.size + 1, 0, none⟩) (by simp <;> omega) _).setCell (p := ⟨w.heap.size + 1, 1, none⟩) (by simp <;> omega) _).setCell (p := ⟨w.heap.size + 1, 2, none⟩) (by simp <;> omega) _

set_option maxRecDepth 100000 in
set_option maxHeartbeats 2000000 in
theorem toWholeF_c {pz n0 c0 : Nat} {A0 : Option Addr} {nz : Bool} {e0 : Int} {S : Nat → Prop} {n c : Nat} {A : Option Addr} {xs : List Nat} (na : Bool) (e1 : Int) (w : World) (mz : w.heap[pz]? = some (.cells #[.bool nz, .slice A0 n0 c0, .int .i64 e0] 24))
    (ha : Rd w S A n xs) (hS : ∀ b, S b → b < w.heap.size) (hn : n ≤ 9223372036854775807) :
    Calls Tryz.prog 47 #[dv na A n c e1, .func (.func 48) #[] #[.pointer (some ⟨pz, 0, none⟩)]] w fun e w' => ToldP (Chk (okE na xs e1) (PWhole na (val xs) e1 (nz && !decide (wr (val xs) e1 = 0)))) e w' w.heap.size ∧ Below w.heap.size w w' := by
  have up : ∀ {V : World}, Below w.heap.size w V → ∀ b, b < w.heap.size → b < V.heap.size := fun h b hb => by have := h.size; omega
  have hmf : ∀ (fn : Fn) (first cap : Array Value) (w : World), (Instr.makeFunc fn first cap).run Tryz.prog w = .ok (.func fn first cap) w := fun _ _ _ _ => rfl
  have hW : Below w.heap.size w ((((w.alloc (.cells #[.bool na, .slice A n c, .int .i64 e1] 24)).alloc (.cells #[.func (.func 48) #[] #[.pointer (some ⟨pz, 0, none⟩)]] 76)).alloc (.cells #[.bool false, .slice none 0 0, .int .i64 0] 24)).alloc (.cells #[.bool na, .slice A n c, .int .i64 e1] 24)) := (((((Below.refl w.heap.size w).alloc (Nat.le_refl _) (.cells #[.bool na, .slice A n c, .int .i64 e1] 24)).alloc (by simp <;> omega) (.cells #[.func (.func 48) #[] #[.pointer (some ⟨pz, 0, none⟩)]] 76)).alloc (by simp <;> omega) (.cells #[.bool false, .slice none 0 0, .int .i64 0] 24)).alloc (by simp <;> omega) (.cells #[.bool na, .slice A n c, .int .i64 e1] 24))
  obtain ⟨ma, mu, mr, ml⟩ := four_new w (.cells #[.bool na, .slice A n c, .int .i64 e1] 24) (.cells #[.func (.func 48) #[] #[.pointer (some ⟨pz, 0, none⟩)]] 76) (.cells #[.bool false, .slice none 0 0, .int .i64 0] 24) (.cells #[.bool na, .slice A n c, .int .i64 e1] 24)
  have mz := heldA (.cells #[.bool na, .slice A n c, .int .i64 e1] 24) (heldA (.cells #[.bool false, .slice none 0 0, .int .i64 0] 24) (heldA (.cells #[.func (.func 48) #[] #[.pointer (some ⟨pz, 0, none⟩)]] 76) (heldA (.cells #[.bool na, .slice A n c, .int .i64 e1] 24) mz)))
  unfold dv
  go_enter Tryz.func47, Tryz.ntmps47
  go_wp2_with fail
  generalize ((((w.alloc (.cells #[.bool na, .slice A n c, .int .i64 e1] 24)).alloc (.cells #[.func (.func 48) #[] #[.pointer (some ⟨pz, 0, none⟩)]] 76)).alloc (.cells #[.bool false, .slice none 0 0, .int .i64 0] 24)).alloc (.cells #[.bool na, .slice A n c, .int .i64 e1] 24)) = W at ma mu mr ml mz hW ⊢
  refine (workW_c (c := c) na e1 (.pointer (some ⟨w.heap.size, 0, none⟩)) (.pointer (some ⟨w.heap.size + 1, 0, none⟩)) (PWhole na (val xs) e1 (nz && !decide (wr (val xs) e1 = 0))) W ml (ha.below hW hS) (fun b h => up hW b (hS b h)) hn (fun V hV k1 => toWhole1F_c (c := c) na e1 V (heldz hV ma) (heldz hV mu) (heldz hV mz) ((ha.below hW hS).below hV (fun b h => up hW b (hS b h))) (fun b h => up (hW.trans (hV.mono hW.size)) b (hS b h)) k1)).mono ?_
  rintro e w1 ⟨⟨E0, s0, Z0, lo0, hP, A5, n5, c5, rfl, hr⟩, hb0⟩
  have hl5 := (Array.getElem?_eq_some_iff.1 mr).1
  have mr := heldz hb0 mr
  have hBs := hW.size
  have hB := hW.trans (hb0.mono hW.size)
  obtain ⟨g0, g1, g2⟩ := box3_of mr
  have f0 := frozen_of 0 mr
  have f1 := frozen_of 1 mr
  have f2 := frozen_of 2 mr
  dsimp only [dv]
  go_wp2
  refine bodyPost_ret (v := .tuple #[.agg #[.bool (opN E0 s0 Z0 lo0), .slice A5 n5 c5, .int .i64 (opX E0 Z0 lo0)], .int .i64 (opE E0 Z0 lo0 : Int)]) (by simp [results, Tryz.results47, go_sem, g0, g1, g2]) rfl ?_
  refine ⟨⟨E0, s0, Z0, lo0, hP, A5, n5, c5, rfl, ?_⟩, ?_⟩
  · exact (((hr.setOther (by simp; omega) _).setOther (by simp; omega) _).setOther (by simp; omega) _).more (by omega)
  · exact ((hB.setCell (p := ⟨w.heap.size + 1 + 1, 0, none⟩) (by simp <;> omega) _).setCell (p := ⟨w.heap.size + 1 + 1, 1, none⟩) (by simp <;> omega) _).setCell (p := ⟨w.heap.size + 1 + 1, 2, none⟩) (by simp <;> omega) _

set_option maxRecDepth 100000 in
set_option maxHeartbeats 2000000 in
theorem QFloor_c {S : Nat → Prop} {n c : Nat} {A : Option Addr} {xs : List Nat} (na : Bool) (e1 : Int) (w : World)
    (ha : Rd w S A n xs) (hS : ∀ b, S b → b < w.heap.size) (hn : n ≤ 9223372036854775807) :
    Calls Tryz.prog 30 #[dv na A n c e1] w fun e w' => ToldP (Chk (okE na xs e1) (PWhole na (val xs) e1 (na && !decide (wr (val xs) e1 = 0)))) e w' w.heap.size ∧ Below w.heap.size w w' := by
  have up : ∀ {V : World}, Below w.heap.size w V → ∀ b, b < w.heap.size → b < V.heap.size := fun h b hb => by have := h.size; omega
  have hmf : ∀ (fn : Fn) (first cap : Array Value) (w : World), (Instr.makeFunc fn first cap).run Tryz.prog w = .ok (.func fn first cap) w := fun _ _ _ _ => rfl
  have hW : Below w.heap.size w ((w.alloc (.cells #[.bool na, .slice A n c, .int .i64 e1] 24)).alloc (.cells #[.bool false, .slice none 0 0, .int .i64 0] 24)) := (((Below.refl w.heap.size w).alloc (Nat.le_refl _) (.cells #[.bool na, .slice A n c, .int .i64 e1] 24)).alloc (by simp <;> omega) (.cells #[.bool false, .slice none 0 0, .int .i64 0] 24))
  obtain ⟨ma, mr⟩ := two_new w (.cells #[.bool na, .slice A n c, .int .i64 e1] 24) (.cells #[.bool false, .slice none 0 0, .int .i64 0] 24)
  have HT := Lib.hid (fun V (hz : V.heap[w.heap.size]? = some (.cells #[.bool na, .slice A n c, .int .i64 e1] 24)) (h1 : Rd V S A n xs) hs => toWholeF_c (c := c) na e1 V hz h1 hs hn)
  unfold dv at HT
  unfold dv
  go_enter Tryz.func30, Tryz.ntmps30
  go_wp2_with fail
  generalize ((w.alloc (.cells #[.bool na, .slice A n c, .int .i64 e1] 24)).alloc (.cells #[.bool false, .slice none 0 0, .int .i64 0] 24)) = W at ma mr hW ⊢
  refine (HT.out W ma (ha.below hW hS) (fun b h => up hW b (hS b h))).mono ?_
  rintro e w1 ⟨⟨E0, s0, Z0, lo0, hP, A5, n5, c5, rfl, hr⟩, hb0⟩
  have hl5 := (Array.getElem?_eq_some_iff.1 mr).1
  have mr := heldz hb0 mr
  have hBs := hW.size
  have hB := hW.trans (hb0.mono hW.size)
  obtain ⟨g0, g1, g2⟩ := box3_of mr
  have f0 := frozen_of 0 mr
  have f1 := frozen_of 1 mr
  have f2 := frozen_of 2 mr
  dsimp only [dv]
  go_wp2
  refine bodyPost_ret (v := .tuple #[.agg #[.bool (opN E0 s0 Z0 lo0), .slice A5 n5 c5, .int .i64 (opX E0 Z0 lo0)], .int .i64 (opE E0 Z0 lo0 : Int)]) (by simp [results, Tryz.results30, go_sem, g0, g1, g2]) rfl ?_
  refine ⟨⟨E0, s0, Z0, lo0, hP, A5, n5, c5, rfl, ?_⟩, ?_⟩
  · exact (((hr.setOther (by simp; omega) _).setOther (by simp; omega) _).setOther (by simp; omega) _).more (by omega)
  · exact ((hB.setCell (p := ⟨w.heap.size + 1, 0, none⟩) (by simp <;> omega) _).setCell (p := ⟨w.heap.size + 1, 1, none⟩) (by simp <;> omega) _).setCell (p := ⟨w.heap.size + 1, 2, none⟩) (by simp <;> omega) _

end Go.Proofs.YtobfeneeehmpcaaGreatDoor
