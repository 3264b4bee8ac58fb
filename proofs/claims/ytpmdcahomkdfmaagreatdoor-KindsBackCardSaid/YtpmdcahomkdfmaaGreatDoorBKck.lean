/-
  A quotient rounded to the nearest, the place of its first digit, a root's places; digits as texts stand in the order of fractions. Plain lemmas, no Go.
  Contract of quot.ratio: the quotient of two decimals that may be, the second not 0, rounded and settled. Written by gen_ratio.py.
  Contracts of quot.divide with each of the questions that Floor, Ceil and Round hand in, and of quot.whole with each. Written by gen_whole.py.
  Contract of quot.root: the root of a decimal that may be, cut and settled. Written by gen_root.py.
  Contracts of quot.workOut with each function that is handed in. Written by gen_work.py.
  Contracts of the functions that quot's calls hand to workOut. Written by gen_clos.py.
  Contracts of quot's calls: Div, Mod, Floor, Ceil, Round, Sqrt, Abs. Written by gen_api.py.
  What quot's calls answer, as numbers: an exact quotient comes back, a rounded one is near, a root's square. Plain lemmas.
  Contract of the reference's Mul of decimals.
  Contract of kinds.check: the first value's error that has one.
-/
import Derived.Test.YtpmdcahomkdfmaaGreatDoorBDsett
import Derived.Test.YtpmdcahomkdfmaaGreatDoorBVord
import Derived.Deep.CutRange
import Derived.Laws.Cover1
import Derived.Test.YtpmdcahomkdfmaaGreatDoorBDintc
import Derived.Test.YtpmdcahomkdfmaaGreatDoorBVcm
import Derived.Test.YtpmdcahomkdfmaaGreatDoorBVcpy
import Derived.Test.YtpmdcahomkdfmaaGreatDoorBRfull
import Derived.Test.YtpmdcahomkdfmaaGreatDoorBVchk
import Derived.Test.YtpmdcahomkdfmaaGreatDoorBVsame
import Derived.Test.YtpmdcahomkdfmaaGreatDoorBLli
import Derived.Laws.EntriesVeiled
import Derived.Test.YtpmdcahomkdfmaaGreatDoorBUbounds
import Derived.Test.YtpmdcahomkdfmaaGreatDoorBArgs
import Derived.PlainAid
set_option linter.unusedVariables false
set_option linter.unusedSimpArgs false
namespace Go.Proofs.YtpmdcahomkdfmaaGreatDoor

/-- The number that digits tell, the highest first. -/
def hv : List Nat → Nat
  | [] => 0
  | x :: r => x * 10 ^ r.length + hv r
end Go.Proofs.YtpmdcahomkdfmaaGreatDoor

namespace Go.Proofs.YtpmdcahomkdfmaaGreatDoor
open Go.RowKit

theorem seE_fit {xs : List Nat} {exp : Int} (h : Fit xs) (h1 : -4000 ≤ exp) (h2 : exp ≤ 4000) : seE xs exp = 0 := by
  unfold seE
  rw [chk_can h.can h.len, if_pos rfl, if_pos ⟨h1, h2⟩]
/-- What Settle answers of a number that fits. -/
theorem SetT.told {e : Ending} {w' : World} {base : Nat} {neg : Bool} {xs : List Nat} {exp : Int} (h : SetT e w' base neg xs exp) (hf : Fit xs) (h1 : -4000 ≤ exp) (h2 : exp ≤ 4000) : Told e w' base 0 neg (val xs) exp := by
  have h0 := seE_fit hf h1 h2
  unfold SetT sN sX sZ sE at h
  rw [if_pos h0, if_pos h0, if_pos h0, if_pos h0] at h
  unfold Told opN opX opZ opE
  rw [if_pos rfl, if_pos rfl, if_pos rfl, if_pos rfl]
  exact h
end Go.Proofs.YtpmdcahomkdfmaaGreatDoor

namespace Go.Proofs.YtpmdcahomkdfmaaGreatDoor
open Go.RowKit

def wr (v : Nat) (e : Int) : Nat := wd v e % wd 1 (-e)

end Go.Proofs.YtpmdcahomkdfmaaGreatDoor

namespace Go.Proofs.YtpmdcahomkdfmaaGreatDoor
open Go.RowKit

/-- An answer with what is known of it. -/
def ToldP (P : Nat → Bool → Nat → Int → Prop) (e : Ending) (w' : World) (base : Nat) : Prop := ∃ E0 s Z lo, P E0 s Z lo ∧ Told e w' base E0 s Z lo
/-- The error of the decimals, or what is known. -/
def Chk (E : Nat) (P : Nat → Bool → Nat → Int → Prop) (E0 : Nat) (s : Bool) (Z : Nat) (lo : Int) : Prop := (E ≠ 0 ∧ E0 = E) ∨ (E = 0 ∧ P E0 s Z lo)
theorem told_err {w' : World} {base E : Nat} (h : E ≠ 0) : Told (.returned (.tuple #[dv false none 0 0 0, .int .i64 (E : Int)])) w' base E false 0 0 := told_of (fun _ => rfl) (fun h2 => absurd h2 h)
theorem okE_cases (neg : Bool) (xs : List Nat) (e : Int) : (okE neg xs e = 0 ∧ okB neg xs e = true) ∨ (okE neg xs e = 9 ∧ okB neg xs e = false) := by
  unfold okE
  cases h : okB neg xs e
  · exact .inr ⟨by simp, rfl⟩
  · exact .inl ⟨by simp, rfl⟩

set_option maxRecDepth 100000 in
set_option maxHeartbeats 2000000 in
theorem workA_c {S : Nat → Prop} {n c b : Nat} {A : Option Addr} {xs : List Nat} (na : Bool) (e1 : Int) (cp0 : Value) (P : Nat → Bool → Nat → Int → Prop) (w : World) (hb : w.heap[b]? = some (.cells #[.bool na, .slice A n c, .int .i64 e1] 24))
    (ha1 : Rd w S A n xs) (hS : ∀ b, S b → b < w.heap.size) (hn : n ≤ 9223372036854775807) 
    (hF : ∀ V, Below w.heap.size w V → okB na xs e1 = true → Calls Tryz.prog 51 #[cp0] V fun e w' => ToldP P e w' V.heap.size ∧ Below V.heap.size V w') :
    Calls Tryz.prog 50 #[.func (.func 51) #[] #[cp0], .slice (some ⟨b, 0, none⟩) 1 1] w fun e w' => ToldP (Chk (okE na xs e1) P) e w' w.heap.size ∧ Below w.heap.size w w' := by
  have hbs : b < w.heap.size := (Array.getElem?_eq_some_iff.1 hb).1
  have HB := Lib.hid hb
  have HF := Lib.hid hF
  have mr0 := World.alloc_heap_new w (.cells #[.bool false, .slice none 0 0, .int .i64 0] 24)
  have hw0 : Below w.heap.size w (w.alloc (.cells #[.bool false, .slice none 0 0, .int .i64 0] 24)) := (Below.refl _ _).alloc (Nat.le_refl _) _
  clear hb hF
  go_enter Tryz.func50, Tryz.ntmps50
  go_wp2
  go_loopw [11] (fun iv wr => ∃ (k : Nat), k ≤ 1 ∧ iv = .int .i64 (k : Int) ∧ Hid (1 ≤ k → okB na xs e1 = true) ∧ wr.heap[w.heap.size]? = some (.cells #[.bool false, .slice none 0 0, .int .i64 0] 24) ∧ Below w.heap.size w wr) (fun iv _ => 1 - (RowKit.intOf iv).toNat)
  case atStart => exact ⟨0, by omega, rfl, (fun h => by omega), mr0, hw0⟩
  case round =>
    obtain ⟨k, hk, rfl, hz3, mr, hbel⟩ := hrel
    clear mr0 hw0
    have hB := held hbel hbs HB.out
    have p0 : wr.cell? ⟨b, 0, none⟩ = some (.bool na) := cell_of hB rfl
    have p1 : wr.cell? ⟨b, 1, none⟩ = some (.slice A n c) := cell_of hB rfl
    have p2 : wr.cell? ⟨b, 2, none⟩ = some (.int .i64 e1) := cell_of hB rfl
    have hba : ∀ o, Below w.heap.size w (wr.alloc o) := fun o => hbel.alloc hbel.size _
    clear hB
    by_cases h1 : k = 0
    · subst h1
      have hP := DCheck_c (c := c) na e1 (wr.alloc (.cells #[.bool na, .slice A n c, .int .i64 e1] 24)) (ha1.below (hba _) hS) (fun b h => by have := hS b h; have := hbel.size; simp; omega) hn
      unfold dv at hP
      rcases okE_cases na xs e1 with ⟨ho, ho2⟩ | ⟨ho, ho2⟩
      · rw [ho] at hP
        have HP := Lib.hid hP
        have HO := Lib.hid ho2
        clear hP ho ho2 hz3
        go_wp2_with fail
        refine HP.out.mono ?_
        rintro e w1 ⟨rfl, hb1⟩
        have mr := heldz hb1 (heldA (.cells #[.bool na, .slice A n c, .int .i64 e1] 24) mr)
        go_wp2
        exact ⟨⟨1, by omega, rfl, (fun _ => HO.out), mr, (hba _).trans (hb1.mono (by simp; have := hbel.size; omega))⟩, by simp [RowKit.intOf]⟩
      · rw [ho] at hP
        have HP := Lib.hid hP
        clear hP ho2 hz3
        have HE := Lib.hid ho
        go_wp2_with fail
        refine HP.out.mono ?_
        rintro e w1 ⟨rfl, hb1⟩
        have mr := heldz hb1 (heldA (.cells #[.bool na, .slice A n c, .int .i64 e1] 24) mr)
        obtain ⟨g0, g1, g2⟩ := box3_of mr
        have f0 := frozen_of 0 mr
        have f1 := frozen_of 1 mr
        have f2 := frozen_of 2 mr
        have hB := (hbel.alloc hbel.size (.cells #[.bool na, .slice A n c, .int .i64 e1] 24)).trans (hb1.mono (hbel.alloc hbel.size (.cells #[.bool na, .slice A n c, .int .i64 e1] 24)).size)
        go_wp2
        refine bodyPost_ret (v := .tuple #[.agg #[.bool false, .slice none 0 0, .int .i64 0], .int .i64 9]) (by simp [results, Tryz.results50, go_sem, g0, g1, g2]) rfl ?_
        refine ⟨⟨9, false, 0, 0, .inl ⟨by rw [HE.out]; decide, HE.out.symm⟩, told_err (by decide)⟩, ?_⟩
        exact ((hB.setCell (p := ⟨w.heap.size, 0, none⟩) (Nat.le_refl _) _).setCell (p := ⟨w.heap.size, 1, none⟩) (Nat.le_refl _) _).setCell (p := ⟨w.heap.size, 2, none⟩) (Nat.le_refl _) _
    · obtain rfl : k = 1 := by omega
      have hO := hz3.out (by omega)
      have hE : okE na xs e1 = 0 := by unfold okE; rw [if_pos hO]
      have HO := Lib.hid hO
      have HE := Lib.hid hE
      clear hz3 h1 hO hE p0 p1 p2 hba
      go_wp2_with fail
      refine (HF.out wr hbel HO.out).mono ?_
      rintro e w1 ⟨⟨E0, s0, Z0, lo0, hP, A5, n5, c5, rfl, hr⟩, hb0⟩
      have hl5 := (Array.getElem?_eq_some_iff.1 mr).1
      have mr := heldz hb0 mr
      have hBs := hbel.size
      have hB := hbel.trans (hb0.mono hbel.size)
      obtain ⟨g0, g1, g2⟩ := box3_of mr
      have f0 := frozen_of 0 mr
      have f1 := frozen_of 1 mr
      have f2 := frozen_of 2 mr
      dsimp only [dv]
      go_wp2
      refine bodyPost_ret (v := .tuple #[.agg #[.bool (opN E0 s0 Z0 lo0), .slice A5 n5 c5, .int .i64 (opX E0 Z0 lo0)], .int .i64 (opE E0 Z0 lo0 : Int)]) (by simp [results, Tryz.results50, go_sem, g0, g1, g2]) rfl ?_
      refine ⟨⟨E0, s0, Z0, lo0, .inr ⟨HE.out, hP⟩, A5, n5, c5, rfl, ?_⟩, ?_⟩
      · exact (((hr.setOther (by simp; omega) _).setOther (by simp; omega) _).setOther (by simp; omega) _).more (by omega)
      · exact ((hB.setCell (p := ⟨w.heap.size, 0, none⟩) (Nat.le_refl _) _).setCell (p := ⟨w.heap.size, 1, none⟩) (Nat.le_refl _) _).setCell (p := ⟨w.heap.size, 2, none⟩) (Nat.le_refl _) _

end Go.Proofs.YtpmdcahomkdfmaaGreatDoor

namespace Go.Proofs.YtpmdcahomkdfmaaGreatDoor
open Go.RowKit

def PAbs (v : Nat) (e : Int) (E0 : Nat) (s : Bool) (Z : Nat) (lo : Int) : Prop := E0 = 0 ∧ s = false ∧ Z = v ∧ lo = e
set_option maxRecDepth 100000 in
set_option maxHeartbeats 2000000 in
theorem abs1_c {S : Nat → Prop} {n c pa : Nat} {A : Option Addr} {xs : List Nat} (na : Bool) (e1 : Int) (w : World) (ma : w.heap[pa]? = some (.cells #[.bool na, .slice A n c, .int .i64 e1] 24))
    (ha : Rd w S A n xs) (hS : ∀ b, S b → b < w.heap.size) (k1 : okB na xs e1 = true) :
    Calls Tryz.prog 51 #[.pointer (some ⟨pa, 0, none⟩)] w fun e w' => ToldP (PAbs (val xs) e1) e w' w.heap.size ∧ Below w.heap.size w w' := by
  have up : ∀ {V : World}, Below w.heap.size w V → ∀ b, b < w.heap.size → b < V.heap.size := fun h b hb => by have := h.size; omega
  have mr := World.alloc_heap_new w (.cells #[.bool false, .slice none 0 0, .int .i64 0] 24)
  have ma := heldA (.cells #[.bool false, .slice none 0 0, .int .i64 0] 24) ma
  have hB : Below w.heap.size w (w.alloc (.cells #[.bool false, .slice none 0 0, .int .i64 0] 24)) := (Below.refl _ _).alloc (Nat.le_refl _) _
  obtain ⟨a1, a2, _, a4, _, _⟩ := okB_true ha.l32 k1
  have fx : Fit xs := ⟨a1, a2⟩
  have hn : n ≤ 9223372036854775807 := by rw [← ha.len]; omega
  have HR := Lib.hid (fun V (h1 : Rd V S A n xs) hs => DSettle_v (c := c) false e1 V h1 hs hn)
  go_enter Tryz.func51, Tryz.ntmps51
  go_upto_region 1 with fail
  generalize w.alloc (.cells #[.bool false, .slice none 0 0, .int .i64 0] 24) = W at mr ma hB ⊢
  obtain ⟨p0, p1, p2⟩ := box3_of ma
  clear k1 a1 a2
  go_wp2_with fail
  refine (HR.out W (ha.below hB hS) (fun b h => up hB b (hS b h))).mono ?_
  rintro e w1 ⟨ht, hb0⟩
  have ht := ht.told fx (by omega) (by omega)
  obtain ⟨A5, n5, c5, rfl, hr⟩ := ht
  have hl5 := (Array.getElem?_eq_some_iff.1 mr).1
  have mr := heldz hb0 mr
  have hBs := hB.size
  have hB := hB.trans (hb0.mono hB.size)
  obtain ⟨g0, g1, g2⟩ := box3_of mr
  have f0 := frozen_of 0 mr
  have f1 := frozen_of 1 mr
  have f2 := frozen_of 2 mr
  dsimp only [dv]
  go_wp2
  refine bodyPost_ret (v := .tuple #[.agg #[.bool (opN 0 false (val xs) e1), .slice A5 n5 c5, .int .i64 (opX 0 (val xs) e1)], .int .i64 (opE 0 (val xs) e1 : Int)]) (by simp [results, Tryz.results51, go_sem, g0, g1, g2]) rfl ?_
  refine ⟨⟨0, false, (val xs), e1, ⟨rfl, rfl, rfl, rfl⟩, A5, n5, c5, rfl, ?_⟩, ?_⟩
  · exact (((hr.setOther (by simp; omega) _).setOther (by simp; omega) _).setOther (by simp; omega) _).more (by omega)
  · exact ((hB.setCell (p := ⟨w.heap.size, 0, none⟩) (Nat.le_refl _) _).setCell (p := ⟨w.heap.size, 1, none⟩) (Nat.le_refl _) _).setCell (p := ⟨w.heap.size, 2, none⟩) (Nat.le_refl _) _

end Go.Proofs.YtpmdcahomkdfmaaGreatDoor

namespace Go.Proofs.YtpmdcahomkdfmaaGreatDoor
open Go.RowKit
theorem three_newq (w : World) (o1 o2 o3 : Obj) : (((w.alloc o1).alloc o2).alloc o3).heap[w.heap.size]? = some o1 ∧ (((w.alloc o1).alloc o2).alloc o3).heap[w.heap.size + 1]? = some o2 ∧ (((w.alloc o1).alloc o2).alloc o3).heap[w.heap.size + 1 + 1]? = some o3 := by
  obtain ⟨a1, a2⟩ := two_new w o1 o2
  have h := World.alloc_heap_new ((w.alloc o1).alloc o2) o3
  simp only [World.size_alloc] at h
  exact ⟨(Below.heap_alloc _ _ _ (by simp <;> omega)).trans a1, (Below.heap_alloc _ _ _ (by simp <;> omega)).trans a2, h⟩

set_option maxRecDepth 100000 in
set_option maxHeartbeats 2000000 in
theorem QAbs_c {S : Nat → Prop} {n c : Nat} {A : Option Addr} {xs : List Nat} (na : Bool) (e1 : Int) (w : World)
    (ha : Rd w S A n xs) (hS : ∀ b, S b → b < w.heap.size) (hn : n ≤ 9223372036854775807) :
    Calls Tryz.prog 31 #[dv na A n c e1] w fun e w' => ToldP (Chk (okE na xs e1) (PAbs (val xs) e1)) e w' w.heap.size ∧ Below w.heap.size w w' := by
  have up : ∀ {V : World}, Below w.heap.size w V → ∀ b, b < w.heap.size → b < V.heap.size := fun h b hb => by have := h.size; omega
  have hmf : ∀ (fn : Fn) (first cap : Array Value) (w : World), (Instr.makeFunc fn first cap).run Tryz.prog w = .ok (.func fn first cap) w := fun _ _ _ _ => rfl
  have hW : Below w.heap.size w (((w.alloc (.cells #[.bool na, .slice A n c, .int .i64 e1] 24)).alloc (.cells #[.bool false, .slice none 0 0, .int .i64 0] 24)).alloc (.cells #[.bool na, .slice A n c, .int .i64 e1] 24)) := ((((Below.refl w.heap.size w).alloc (Nat.le_refl _) (.cells #[.bool na, .slice A n c, .int .i64 e1] 24)).alloc (by simp <;> omega) (.cells #[.bool false, .slice none 0 0, .int .i64 0] 24)).alloc (by simp <;> omega) (.cells #[.bool na, .slice A n c, .int .i64 e1] 24))
  obtain ⟨ma, mr, ml⟩ := three_newq w (.cells #[.bool na, .slice A n c, .int .i64 e1] 24) (.cells #[.bool false, .slice none 0 0, .int .i64 0] 24) (.cells #[.bool na, .slice A n c, .int .i64 e1] 24)
  unfold dv
  go_enter Tryz.func31, Tryz.ntmps31
  go_wp2_with fail
  generalize (((w.alloc (.cells #[.bool na, .slice A n c, .int .i64 e1] 24)).alloc (.cells #[.bool false, .slice none 0 0, .int .i64 0] 24)).alloc (.cells #[.bool na, .slice A n c, .int .i64 e1] 24)) = W at ma mr ml hW ⊢
  refine (workA_c (c := c) na e1 (.pointer (some ⟨w.heap.size, 0, none⟩)) (PAbs (val xs) e1) W ml (ha.below hW hS) (fun b h => up hW b (hS b h)) hn (fun V hV k1 => abs1_c (c := c) na e1 V (heldz hV ma) ((ha.below hW hS).below hV (fun b h => up hW b (hS b h))) (fun b h => up (hW.trans (hV.mono hW.size)) b (hS b h)) k1)).mono ?_
  rintro e w1 ⟨⟨E0, s0, Z0, lo0, hP, A5, n5, c5, rfl, hr⟩, hb0⟩
  have hl5 := (Array.getElem?_eq_some_iff.1 mr).1
  have mr := heldz hb0 mr
  have hBs := hW.size
  have hB := hW.trans (hb0.mono hW.size)
  obtain ⟨g0, g1, g2⟩ := box3_of mr
  have f0 := frozen_of 0 mr
  have f1 := frozen_of 1 mr
  have f2 := frozen_of 2 mr
  dsimp only [dv]
  go_wp2
  refine bodyPost_ret (v := .tuple #[.agg #[.bool (opN E0 s0 Z0 lo0), .slice A5 n5 c5, .int .i64 (opX E0 Z0 lo0)], .int .i64 (opE E0 Z0 lo0 : Int)]) (by simp [results, Tryz.results31, go_sem, g0, g1, g2]) rfl ?_
  refine ⟨⟨E0, s0, Z0, lo0, hP, A5, n5, c5, rfl, ?_⟩, ?_⟩
  · exact (((hr.setOther (by simp; omega) _).setOther (by simp; omega) _).setOther (by simp; omega) _).more (by omega)
  · exact ((hB.setCell (p := ⟨w.heap.size + 1, 0, none⟩) (by simp <;> omega) _).setCell (p := ⟨w.heap.size + 1, 1, none⟩) (by simp <;> omega) _).setCell (p := ⟨w.heap.size + 1, 2, none⟩) (by simp <;> omega) _

end Go.Proofs.YtpmdcahomkdfmaaGreatDoor

namespace Go.Proofs.YtpmdcahomkdfmaaGreatDoor
open Go.RowKit

theorem ResI.ne_box {w : World} {base n c b : Nat} {A : Option Addr} {zs : List Nat} {vs : Array Value} {t : TypeId} (h : ResI w base A n c zs) (hb : w.heap[b]? = some (.cells vs t)) (ht : t ≠ 3) : ∀ g, A = some ⟨g, 0, none⟩ → g ≠ b := by
  intro g e hgb
  rcases h.own.2 with ⟨h1, _⟩ | ⟨g2, cap, cur, h1, h2, hh, _⟩
  · injection h1 with h1; rw [h1] at e; cases e
  · injection h1 with h1
    rw [h1] at e
    injection e with e
    injection e with e
    rw [e, hgb, hb] at hh
    injection hh with hh
    injection hh with _ hh
    exact ht hh
theorem ResI.setNe {w : World} {base n c : Nat} {A : Option Addr} {zs : List Nat} (h : ResI w base A n c zs) {p : Addr} (hne : ∀ g, A = some ⟨g, 0, none⟩ → g ≠ p.block) (u : Value) : ResI (w.setCell p u) base A n c zs :=
  h.keep fun g e => Below.heap_setCell _ _ _ _ (hne g e)

end Go.Proofs.YtpmdcahomkdfmaaGreatDoor

namespace Go.Proofs.YtpmdcahomkdfmaaGreatDoor
open Go.RowKit Go.Lib

/-- The error of the first value that has one. -/
def errK : List VT → Nat
  | [] => 0
  | x :: r => if errV x = 0 then errK r else errV x
theorem errK_one (x : VT) : errK [x] = errV x := by
  unfold errK errK
  split
  · rename_i h; exact h.symm
  · rfl
set_option maxRecDepth 100000 in
set_option maxHeartbeats 2000000 in
theorem kcheck_c {S : Nat → Prop} {A : Option Addr} {n c : Nat} {l : List VT} (w : World) (hT : Tabs w) (hl : RdL w S A n l) (hS : ∀ b, S b → b < w.heap.size) :
    Calls Tryz.prog 34 #[.slice A n c] w fun e w' => e = .returned (.int .i64 ((errK l : Nat) : Int)) ∧ Below w.heap.size w w' := by
  obtain ⟨R, hR⟩ : ∃ R, errK l = R := ⟨_, rfl⟩
  rw [hR]
  have hd0 : errK (l.drop 0) = R := hR
  have HR := Lib.hid hd0
  have HS := Lib.hid hS
  have HT := Lib.hid hT
  have HRL := Lib.hid hl
  have HNL := Lib.hid hl.1
  have hnb := hl.2.1
  clear hR hl hS hT hd0
  go_enter Tryz.func34, Tryz.ntmps34
  go_upto_region 2 with fail
  go_loopw [8] (fun i wr => ∃ (j : Nat), j ≤ n ∧ i = .int .i64 (j : Int) ∧ Hid (errK (l.drop j) = R) ∧ Below w.heap.size w wr) (fun i _ => n - (RowKit.intOf i).toNat)
  case atStart => exact ⟨0, Nat.zero_le _, rfl, HR, Below.refl _ _⟩
  case round =>
    obtain ⟨j, hjn, rfl, hdj, hbel⟩ := hrel
    by_cases hj : j < n
    · have hjlt : (j : Int) < (n : Int) := by omega
      have hj0 : (0 : Int) ≤ (j : Int) := by omega
      have hjt : ((j : Int)).toNat = j := by omega
      have hjw : IntKind.i64.wrap ((j : Int) + 1) = (j : Int) + 1 := IntWalk.i64_in _ (by omega)
      obtain ⟨b, off, x, cs, rfl, hSb, hx, h7, hcells, hvx⟩ := HRL.out.at_ hj
      obtain ⟨k2, neg2, xs2, e2, t2, li2, ks2, hx2⟩ : ∃ k2 neg2 xs2 e2 t2 li2 ks2, x = VT.mk k2 neg2 xs2 e2 t2 li2 ks2 := by cases x; exact ⟨_, _, _, _, _, _, _, rfl⟩
      have hvx2 := hvx
      rw [hx2] at hvx2
      obtain ⟨A2, n2, c2, LA2, ln2, lc2, KA2, kn2, kc2, rfl, -⟩ := hvx2.parts
      have hcw : ∀ a, a < 7 → wr.cell? ⟨b, off + (j * 7 + a), none⟩ = _ := fun a ha => (hbel.cell (p := ⟨b, off + (j * 7 + a), none⟩) (HS.out _ hSb)).trans (hcells a ha)
      have d0 : wr.cell? ⟨b, off + j * 7, none⟩ = some (.int .i64 k2) := hcw 0 (by omega)
      have d1 : wr.cell? ⟨b, off + j * 7 + 1, none⟩ = some (.bool neg2) := hcw 1 (by omega)
      have d2 : wr.cell? ⟨b, off + j * 7 + 2, none⟩ = some (.slice A2 n2 c2) := hcw 2 (by omega)
      have d3 : wr.cell? ⟨b, off + j * 7 + 3, none⟩ = some (.int .i64 e2) := hcw 3 (by omega)
      have d4 : wr.cell? ⟨b, off + j * 7 + 4, none⟩ = some (.string t2) := hcw 4 (by omega)
      have d5 : wr.cell? ⟨b, off + j * 7 + 5, none⟩ = some (.slice LA2 ln2 lc2) := hcw 5 (by omega)
      have d6 : wr.cell? ⟨b, off + j * 7 + 6, none⟩ = some (.slice KA2 kn2 kc2) := hcw 6 (by omega)
      have hdrj : l.drop j = x :: l.drop (j + 1) := by
        obtain ⟨hjl, e⟩ := List.getElem?_eq_some_iff.1 hx
        rw [← e]
        exact List.drop_eq_getElem_cons hjl
      have hdj2 := hdj.out
      rw [hdrj] at hdj2
      have hdj3 : (if errV x = 0 then errK (l.drop (j + 1)) else errV x) = R := hdj2
      have HDJ := Lib.hid hdj3
      have HX := Lib.hid hx2
      have HVX := Lib.hid hvx
      clear hcw hcells hvx2 hdj2 hdj3 hdrj hdj hx hx2 h7 hvx
      go_upto_region 4 with fail
      have hm1 := World.alloc_heap_new wr (.cells #[.int .i64 k2, .bool neg2, .slice A2 n2 c2, .int .i64 e2, .string t2, .slice LA2 ln2 lc2, .slice KA2 kn2 kc2] 28)
      have hb1 : Below w.heap.size w (wr.alloc (.cells #[.int .i64 k2, .bool neg2, .slice A2 n2 c2, .int .i64 e2, .string t2, .slice LA2 ln2 lc2, .slice KA2 kn2 kc2] 28)) := hbel.alloc hbel.size _
      generalize (wr.alloc (.cells #[.int .i64 k2, .bool neg2, .slice A2 n2 c2, .int .i64 e2, .string t2, .slice LA2 ln2 lc2, .slice KA2 kn2 kc2] 28)) = W1 at *
      obtain ⟨x0, x1, x2, x3, x4, x5, x6⟩ := box7_of hm1
      have HC := VCheck_c W1 (HT.out.below hb1) (HVX.out.keep fun p hp => hb1.cell (HS.out _ hp)) (fun b hb => Nat.lt_of_lt_of_le (HS.out b hb) hb1.size)
      obtain ⟨E, hE⟩ : ∃ E, errV x = E := ⟨_, rfl⟩
      rw [hE] at HC
      have HE := Lib.hid hE
      have HB1 := Lib.hid hb1
      clear hE d0 d1 d2 d3 d4 d5 d6 hm1 hb1 hbel
      by_cases hE0 : E = 0
      · subst hE0
        have HN : Hid (errK (l.drop (j + 1)) = R) := Lib.hid (by have := HDJ.out; rwa [if_pos HE.out] at this)
        go_wp2_with fail
        refine HC.mono ?_
        rintro e' W2 ⟨rfl, hb2⟩
        have hb3 := HB1.out.trans (hb2.mono HB1.out.size)
        clear HC hb2 x0 x1 x2 x3 x4 x5 x6
        go_wp2_with fail
        go_roundw
        case rel => exact ⟨j + 1, by omega, by go_num, HN, hb3⟩
        case measure => simp [RowKit.intOf]; omega
      · have HN : Hid (E = R) := Lib.hid (by have := HDJ.out; rw [HE.out, if_neg hE0] at this; exact this)
        have hE1 : ((E : Int) == 0) = false := by rw [beq_eq_false_iff_ne]; omega
        go_wp2_with fail
        refine HC.mono ?_
        rintro e' W2 ⟨rfl, hb2⟩
        have hb3 := HB1.out.trans (hb2.mono HB1.out.size)
        clear HC hb2 x0 x1 x2 x3 x4 x5 x6
        go_wp2_with fail
        go_ret
        refine ⟨?_, hb3⟩
        rw [← HN.out]; rfl
    · have hnj : ¬ (j : Int) < (n : Int) := by omega
      have HN : Hid (0 = R) := Lib.hid (by
        have := hdj.out
        rw [List.drop_eq_nil_of_le (by rw [HNL.out]; omega)] at this
        exact this)
      clear hdj
      go_wp2_with fail
      go_ret
      refine ⟨?_, hbel⟩
      rw [← HN.out]; rfl
end Go.Proofs.YtpmdcahomkdfmaaGreatDoor
