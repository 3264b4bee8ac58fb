/-
  Contracts of dec's checkAll (of two decimals), of the function that Add hands on, of workOut with it, and of Add.
  Contracts of the function that dec.Add hands on, of workOut with it, and of Add: the sum of two decimals that may be, or the error.
  Contract of dec.Add: the sum of two decimals, settled, or the error.
-/
import Derived.Test.YtjjpagdnjafgaaaGreatDoorGDwide
set_option linter.unusedVariables false
set_option linter.unusedSimpArgs false
namespace Go.Proofs.YtjjpagdnjafgaaaGreatDoor
open Go.RowKit

set_option maxRecDepth 100000 in
set_option maxHeartbeats 1000000 in
theorem checkAll_c {S : Nat → Prop} {n m c d b : Nat} {A B : Option Addr} {xs ys : List Nat} (na nb : Bool) (e1 e2 : Int) (w : World) (hb : w.heap[b]? = some (.cells #[.bool na, .slice A n c, .int .i64 e1, .bool nb, .slice B m d, .int .i64 e2] 24))
    (ha1 : Rd w S A n xs) (ha2 : Rd w S B m ys) (hS : ∀ b, S b → b < w.heap.size) (hn : n ≤ 9223372036854775807) (hm : m ≤ 9223372036854775807) :
    Calls Tryz.prog 53 #[.slice (some ⟨b, 0, none⟩) 2 2] w fun e w' => e = .returned (.int .i64 (okE2 na xs e1 nb ys e2 : Int)) ∧ Below w.heap.size w w' := by
  have hbs : b < w.heap.size := (Array.getElem?_eq_some_iff.1 hb).1
  have HB := Lib.hid hb
  clear hb
  go_enter Tryz.func53, Tryz.ntmps53
  go_wp2
  go_loopw [8] (fun iv wr => ∃ (k : Nat), k ≤ 2 ∧ iv = .int .i64 (k : Int) ∧ Hid (1 ≤ k → okB na xs e1 = true) ∧ Hid (k = 2 → okB nb ys e2 = true) ∧ Below w.heap.size w wr) (fun iv _ => 2 - (intOf iv).toNat)
  case atStart => exact ⟨0, by omega, rfl, (fun h => by omega), (fun h => by omega), Below.refl _ _⟩
  case round =>
    obtain ⟨k, hk, rfl, hz3, hz4, hbel⟩ := hrel
    have hB := held hbel hbs HB.out
    have p0 : wr.cell? ⟨b, 0, none⟩ = some (.bool na) := cell_of hB rfl
    have p1 : wr.cell? ⟨b, 1, none⟩ = some (.slice A n c) := cell_of hB rfl
    have p2 : wr.cell? ⟨b, 2, none⟩ = some (.int .i64 e1) := cell_of hB rfl
    have p3 : wr.cell? ⟨b, 3, none⟩ = some (.bool nb) := cell_of hB rfl
    have p4 : wr.cell? ⟨b, 4, none⟩ = some (.slice B m d) := cell_of hB rfl
    have p5 : wr.cell? ⟨b, 5, none⟩ = some (.int .i64 e2) := cell_of hB rfl
    have hba : ∀ o, Below w.heap.size w (wr.alloc o) := fun o => hbel.alloc hbel.size _
    clear hB
    by_cases h2 : k = 2
    · subst h2
      have HE : Hid (okE2 na xs e1 nb ys e2 = 0) := by show _ = _; unfold okE2 okE; rw [if_pos (hz3.out (by omega)), if_pos (hz4.out rfl)]
      clear hz3 hz4 p0 p1 p2 p3 p4 p5
      go_wp2
      go_ret
      rw [HE.out]
      exact ⟨rfl, hbel⟩
    · by_cases h1 : k = 0
      · subst h1
        have hP := DCheck_c (c := c) na e1 (wr.alloc (.cells #[.bool na, .slice A n c, .int .i64 e1] 24)) (ha1.below (hba _) hS) (fun b h => by have := hS b h; have := hbel.size; simp; omega) hn
        unfold dv okE at hP
        by_cases ho : okB na xs e1 = true
        · rw [if_pos ho] at hP
          have HP := Lib.hid hP
          have HO := Lib.hid ho
          clear hP ho hz3 hz4 h2
          go_wp2_with fail
          refine HP.out.mono ?_
          rintro e w1 ⟨rfl, hb1⟩
          go_wp2
          exact ⟨⟨1, by omega, rfl, (fun _ => HO.out), (fun h => by omega), (hba _).trans (hb1.mono (by simp; have := hbel.size; omega))⟩, by simp [intOf]⟩
        · rw [if_neg ho] at hP
          have HP := Lib.hid hP
          have HE : Hid (okE2 na xs e1 nb ys e2 = 9) := by show _ = _; unfold okE2; rw [if_neg ho]
          clear hP ho hz3 hz4 h2
          go_wp2_with fail
          refine HP.out.mono ?_
          rintro e w1 ⟨rfl, hb1⟩
          go_wp2
          go_ret
          rw [HE.out]
          exact ⟨rfl, (hba _).trans (hb1.mono (by simp; have := hbel.size; omega))⟩
      · obtain rfl : k = 1 := by omega
        have h1ok := hz3.out (by omega)
        have hP := DCheck_c (c := d) nb e2 (wr.alloc (.cells #[.bool nb, .slice B m d, .int .i64 e2] 24)) (ha2.below (hba _) hS) (fun b h => by have := hS b h; have := hbel.size; simp; omega) hm
        unfold dv okE at hP
        by_cases ho : okB nb ys e2 = true
        · rw [if_pos ho] at hP
          have HP := Lib.hid hP
          have HO := Lib.hid ho
          have H1 := Lib.hid h1ok
          clear hP ho hz3 hz4 h2 h1 h1ok
          go_wp2_with fail
          refine HP.out.mono ?_
          rintro e w1 ⟨rfl, hb1⟩
          go_wp2
          exact ⟨⟨2, by omega, rfl, (fun _ => H1.out), (fun _ => HO.out), (hba _).trans (hb1.mono (by simp; have := hbel.size; omega))⟩, by simp [intOf]⟩
        · rw [if_neg ho] at hP
          have HP := Lib.hid hP
          have HE : Hid (okE2 na xs e1 nb ys e2 = 9) := by show _ = _; unfold okE2 okE; rw [if_pos h1ok, if_neg ho]
          clear hP ho hz3 hz4 h2 h1 h1ok
          go_wp2_with fail
          refine HP.out.mono ?_
          rintro e w1 ⟨rfl, hb1⟩
          go_wp2
          go_ret
          rw [HE.out]
          exact ⟨rfl, (hba _).trans (hb1.mono (by simp; have := hbel.size; omega))⟩
end Go.Proofs.YtjjpagdnjafgaaaGreatDoor
