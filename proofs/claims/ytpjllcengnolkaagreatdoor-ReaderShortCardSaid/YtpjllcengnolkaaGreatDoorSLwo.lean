/-
  The reader reads as the page has it: the contracts of value, Next and Read without a hypothesis.
  The law's example of the reader. Over what Word tells of 2.5 (Word25: from RWord_c of dec's Drword).
  The walk of bolterlaw07.ReaderShort.
  What the reference's Word tells of 2.5.
-/
import Derived.Test.YtpjllcengnolkaaGreatDoorSLobj
import Derived.Test.YtpjllcengnolkaaGreatDoorSLcu
import Derived.Test.YtpjllcengnolkaaGreatDoorSLrd
import Derived.Lib.SlBytesConst
import Derived.Test.YtpjllcengnolkaaGreatDoorSDrword
set_option linter.unusedVariables false
set_option linter.unusedSimpArgs false
namespace Go.Proofs.YtpjllcengnolkaaGreatDoor
open Go.RowKit Go.Lib
theorem objC_of {k : Nat} (ih : ValC k) : ObjC k := fun E hko hcap hpl => robject_c ih E hko hcap hpl
theorem valC (k : Nat) : ValC k := val_all (fun _ ih => objC_of ih) k
end Go.Proofs.YtpjllcengnolkaaGreatDoor

namespace Go.Proofs.YtpjllcengnolkaaGreatDoor
open Go.RowKit Go.Lib
/-- What the reference's Word tells of 2.5. -/
def Word25 : Prop := ∀ (S : Nat → Prop) (c : Nat) (A : Option Addr) (w : World), Rd w S A 1 [25] → (∀ b, S b → b < w.heap.size) →
  Calls Tryz.prog 16 #[.agg #[.bool false, .slice A 1 c, .int .i64 (-1)]] w fun e w' => e = .returned (.string ⟨#[50, 46, 53]⟩) ∧ Below w.heap.size w w'
theorem lnum7_c (z : Int) (w : World) : Calls Tryz.prog 10 #[.int .i64 z] w fun e w' => e = .returned (.int .i64 z) ∧ w = w' := by
  go_enter Tryz.func10, Tryz.ntmps10
  go_wp2_with fail
  go_ret
  exact ⟨rfl, rfl⟩
set_option maxRecDepth 100000 in
set_option maxHeartbeats 4000000 in
theorem alive7_c (hW : Word25) (w : World) (hT : Tabs w) : Calls Tryz.prog 7 #[] w fun e w' => e = .returned (.bool true) ∧ Below w.heap.size w w' := by
  have HW := Lib.hid hW
  have kc := Lib.run_convert_bytes_const (P := Tryz.prog) w 22 5 #[.int .u8 91, .int .u8 49, .int .u8 44, .int .u8 32, .int .u8 50, .int .u8 46, .int .u8 53, .int .u8 48, .int .u8 93] 9 9 Tryz.underlying22 Tryz.underlying5
  have hb0 : Below w.heap.size w (w.alloc (.cells #[.int .u8 91, .int .u8 49, .int .u8 44, .int .u8 32, .int .u8 50, .int .u8 46, .int .u8 53, .int .u8 48, .int .u8 93] 5 (9, 10))) := (Below.refl _ _).alloc (Nat.le_refl _) _
  have hs0 : (w.alloc (.cells #[.int .u8 91, .int .u8 49, .int .u8 44, .int .u8 32, .int .u8 50, .int .u8 46, .int .u8 53, .int .u8 48, .int .u8 93] 5 (9, 10))).heap.size = w.heap.size + 1 := by simp
  have hoct : Oct (w.alloc (.cells #[.int .u8 91, .int .u8 49, .int .u8 44, .int .u8 32, .int .u8 50, .int .u8 46, .int .u8 53, .int .u8 48, .int .u8 93] 5 (9, 10))).heap.size exB (some ⟨w.heap.size, 0, none⟩) (w.alloc (.cells #[.int .u8 91, .int .u8 49, .int .u8 44, .int .u8 32, .int .u8 50, .int .u8 46, .int .u8 53, .int .u8 48, .int .u8 93] 5 (9, 10))) := fun k x hx => by
    refine ⟨w.heap.size, 0, rfl, by rw [hs0]; omega, ?_⟩
    rw [World.cell?_alloc_mark]
    unfold exB at hx
    match k, hx with
    | 0, hx => injection hx with hx; subst hx; rfl
    | 1, hx => injection hx with hx; subst hx; rfl
    | 2, hx => injection hx with hx; subst hx; rfl
    | 3, hx => injection hx with hx; subst hx; rfl
    | 4, hx => injection hx with hx; subst hx; rfl
    | 5, hx => injection hx with hx; subst hx; rfl
    | 6, hx => injection hx with hx; subst hx; rfl
    | 7, hx => injection hx with hx; subst hx; rfl
    | 8, hx => injection hx with hx; subst hx; rfl
    | k + 9, hx => simp at hx
  have HR := Lib.hid (Read_c (c := 9) (valC 64) hoct (hT.below hb0) (by decide) (by decide))
  have HB0 := Lib.hid hb0
  have HS0 := Lib.hid hs0
  clear hW hT hb0 hs0 hoct
  go_enter Tryz.func7, Tryz.ntmps7
  go_wp2_with fail
  refine HR.out.mono ?_
  rintro e w1 ⟨⟨cs, rfl, hv⟩, hb1⟩
  rw [alive_read] at hv
  have hr2 : ((rRead mkObj exB).2.1 : Int) = 9 := by rw [alive_read]; rfl
  have hr3 : ((rRead mkObj exB).2.2 : Int) = 0 := by rw [alive_read]; rfl
  rw [hr2, hr3]
  clear hr2 hr3 HR kc
  have hv : VIn w1 _ (.mk 5 false [] 0 ⟨#[]⟩ [numV [49], numV [50, 46, 53, 48]] []) cs := hv
  obtain ⟨A1, n1, c1, LA1, ln1, lc1, KA1, kn1, kc1, rfl, _, _, _, hl1, _⟩ := hv.parts
  obtain rfl : 2 = ln1 := hl1.1
  obtain ⟨_, _, csl, hrow, hall⟩ := hl1
  obtain ⟨b, off, rfl, hbS, hc⟩ := hrow (by omega)
  have hv2 := hall 1 _ rfl
  rw [alive_num] at hv2
  obtain ⟨hc7, hcc⟩ := hc 1 (by omega)
  obtain ⟨A2, n2, c2, LA2, ln2, lc2, KA2, kn2, kc2, he2, hrd2, _, _, _, _⟩ := hv2.parts
  obtain rfl : 1 = n2 := hrd2.len
  rw [he2] at hcc
  have hbw := hbS.2
  have x0 : w1.cell? ⟨b, off + 7, none⟩ = some (.int .i64 3) := hcc 0 (by omega)
  have x1 : w1.cell? ⟨b, off + 7 + 1, none⟩ = some (.bool false) := hcc 1 (by omega)
  have x2 : w1.cell? ⟨b, off + 7 + 2, none⟩ = some (.slice A2 1 c2) := hcc 2 (by omega)
  have x3 : w1.cell? ⟨b, off + 7 + 3, none⟩ = some (.int .i64 (-1)) := hcc 3 (by omega)
  have HV2 := Lib.hid hrd2
  have HB1 := Lib.hid hb1
  clear hv hv2 hrow hall hc hcc hc7 he2 hrd2 hb1
  go_wp2_with fail
  have f0 : ∀ j, (w1.alloc (.cells #[.int .i64 5, .bool false, .slice A1 n1 c1, .int .i64 0, .string ⟨#[]⟩, .slice (some ⟨b, off, none⟩) 2 lc1, .slice KA1 kn1 kc1] 34)).frozen? ⟨w1.heap.size, j, none⟩ = false := fun j => frozen_of_row _ _ j _ _ (World.alloc_heap_new w1 _)
  have hbx := World.alloc_heap_new w1 (.cells #[.int .i64 5, .bool false, .slice A1 n1 c1, .int .i64 0, .string ⟨#[]⟩, .slice (some ⟨b, off, none⟩) 2 lc1, .slice KA1 kn1 kc1] 34)
  have hb2 : Below w1.heap.size w1 (w1.alloc (.cells #[.int .i64 5, .bool false, .slice A1 n1 c1, .int .i64 0, .string ⟨#[]⟩, .slice (some ⟨b, off, none⟩) 2 lc1, .slice KA1 kn1 kc1] 34)) := (Below.refl _ _).alloc (Nat.le_refl _) _
  have HV3 := Lib.hid (HV2.out.keep (w' := (w1.alloc (.cells #[.int .i64 5, .bool false, .slice A1 n1 c1, .int .i64 0, .string ⟨#[]⟩, .slice (some ⟨b, off, none⟩) 2 lc1, .slice KA1 kn1 kc1] 34))) fun p hp => hb2.cell hp.2)
  have hs2 : (w1.alloc (.cells #[.int .i64 5, .bool false, .slice A1 n1 c1, .int .i64 0, .string ⟨#[]⟩, .slice (some ⟨b, off, none⟩) 2 lc1, .slice KA1 kn1 kc1] 34)).heap.size = w1.heap.size + 1 := by simp
  have y0 := (hb2.cell (p := ⟨b, off + 7, none⟩) hbw).trans x0
  have y1 := (hb2.cell (p := ⟨b, off + 7 + 1, none⟩) hbw).trans x1
  have y2 := (hb2.cell (p := ⟨b, off + 7 + 2, none⟩) hbw).trans x2
  have y3 := (hb2.cell (p := ⟨b, off + 7 + 3, none⟩) hbw).trans x3
  generalize (w1.alloc (.cells #[.int .i64 5, .bool false, .slice A1 n1 c1, .int .i64 0, .string ⟨#[]⟩, .slice (some ⟨b, off, none⟩) 2 lc1, .slice KA1 kn1 kc1] 34)) = w2 at *
  obtain ⟨t0, t1, t2, t3, t4, t5, t6⟩ := box7_of hbx
  have HC := HW.out _ c2 A2 w2 HV3.out (fun b hb => by have := hb.2; have := hb2.size; omega)
  refine (lnum7_c 0 w2).mono ?_
  rintro e w3 ⟨rfl, rfl⟩
  go_wp2_with fail
  refine HC.mono ?_
  rintro e w4 ⟨rfl, hb4⟩
  go_wp2_with fail
  go_ret
  exact ⟨rfl, (HB0.out.trans (HB1.out.mono (by have := HS0.out; omega))).trans ((hb2.mono (by have := HS0.out; have := HB1.out.size; omega)).trans (hb4.mono (by have := HS0.out; have := HB1.out.size; have := hb2.size; omega)))⟩
end Go.Proofs.YtpjllcengnolkaaGreatDoor

namespace Go.Proofs.YtpjllcengnolkaaGreatDoor
open Go.RowKit Go.Lib
variable {L : List UInt8} {A : Option Addr} {c : Nat}

/-- What Read comes to, its value spelt out. -/
theorem PoR.seven {N : Nat} {e : Ending} {w' : World} (h : PoR L N e w') : ∃ k neg A1 n1 c1 ex t LA ln lc KA kn kc,
    e = .returned (.tuple #[.agg #[.int .i64 k, .bool neg, .slice A1 n1 c1, .int .i64 ex, .string t, .slice LA ln lc, .slice KA kn kc], .int .i64 ((rRead mkObj L).2.1 : Int), .int .i64 ((rRead mkObj L).2.2 : Int)]) ∧ (rRead mkObj L).1.kind = k ∧
    VIn w' (fun b => N ≤ b ∧ b < w'.heap.size) (rRead mkObj L).1 [.int .i64 k, .bool neg, .slice A1 n1 c1, .int .i64 ex, .string t, .slice LA ln lc, .slice KA kn kc] := by
  obtain ⟨cs, rfl, hv⟩ := h
  obtain ⟨X, hX⟩ : ∃ X, (rRead mkObj L).1 = X := ⟨_, rfl⟩
  rw [hX] at hv ⊢
  cases X with
  | mk k neg xs ex t l ks =>
    obtain ⟨A1, n1, c1, LA1, ln1, lc1, KA1, kn1, kc1, rfl, -⟩ := hv.parts
    exact ⟨k, neg, A1, n1, c1, ex, t, LA1, ln1, lc1, KA1, kn1, kc1, rfl, rfl, hv⟩
theorem Oct.stay {B B' : Nat} {w w' : World} (h : Oct B L A w) (hb : Below B w w') (hB : B ≤ B') : Oct B' L A w' := fun k x hk => by
  obtain ⟨g, off, e1, e2, e3⟩ := h k x hk
  exact ⟨g, off, e1, by omega, (hb.cell (p := ⟨g, off + k, none⟩) e2).trans e3⟩
theorem Oct.take {B : Nat} {w : World} (h : Oct B L A w) (n : Nat) : Oct B (L.take n) A w := fun k x hk => by
  rw [List.getElem?_take] at hk
  by_cases h1 : k < n
  · rw [if_pos h1] at hk; exact h k x hk
  · rw [if_neg h1] at hk; exact absurd hk (by simp)
theorem wsE_zero : wsE L 0 = (L.takeWhile isWs).length := by unfold wsE; simp
theorem ws_val (x : UInt8) : isWs x = (decide ((x.toNat : Int) = 32) || decide ((x.toNat : Int) = 9) || decide ((x.toNat : Int) = 10) || decide ((x.toNat : Int) = 13)) := by
  have := forall_u8 (p := fun x => isWs x == (decide ((x.toNat : Int) = 32) || decide ((x.toNat : Int) = 9) || decide ((x.toNat : Int) = 10) || decide ((x.toNat : Int) = 13))) (by kernel_rfl) x
  exact eq_of_beq this
/-- A place behind one place and ahead of another. -/
theorem place_in (z : Int) (n : Nat) (hn : 0 < n) : ∃ m : Nat, m < n ∧ (z.tmod (n : Int) + (n : Int)).tmod (n : Int) = (m : Int) ∧ -(n : Int) < z.tmod (n : Int) ∧ z.tmod (n : Int) < (n : Int) := by
  have h1 := Int.tmod_lt_of_pos z (show (0 : Int) < (n : Int) by omega)
  have h2 := Int.lt_tmod_of_pos z (show (0 : Int) < (n : Int) by omega)
  have h3 := Int.tmod_nonneg (n : Int) (show (0 : Int) ≤ z.tmod (n : Int) + (n : Int) by omega)
  have h4 := Int.tmod_lt_of_pos (z.tmod (n : Int) + (n : Int)) (show (0 : Int) < (n : Int) by omega)
  exact ⟨((z.tmod (n : Int) + (n : Int)).tmod (n : Int)).toNat, by omega, by omega, by omega, h1⟩

set_option maxRecDepth 100000 in
set_option maxHeartbeats 4000000 in
theorem readerShort_c (hW25 : Word25) {w : World} (z : Int) (hz : -9223372036854775808 ≤ z ∧ z ≤ 9223372036854775807) (ho : Oct w.heap.size L A w) (hT : Tabs w) (hcap : L.length ≤ c) (hlen : L.length ≤ 140737488355328) :
    Calls Tryz.prog 5 #[.slice A L.length c, .int .i64 z] w fun e w' => e = .returned (.bool true) ∧ Below w.heap.size w w' := by
  have HA := alive7_c hW25 w hT
  have HO := Lib.hid ho
  have HT := Lib.hid hT
  clear ho hT
  go_enter Tryz.func5, Tryz.ntmps5
  go_wp2_with fail
  refine HA.mono ?_
  rintro e w1 ⟨rfl, hb1⟩
  clear HA
  have HR := Read_c (valC 64) (HO.out.stay hb1 hb1.size) (HT.out.below hb1) hcap hlen
  go_wp2_with fail
  refine HR.mono ?_
  rintro e w2 ⟨hpo, hb2⟩
  clear HR
  obtain ⟨k, neg, A1, n1, c1, ex, t, LA, ln, lc, KA, kn, kc, rfl, hk, -⟩ := hpo.seven
  obtain ⟨V, P, X, hRR⟩ : ∃ V P X, rRead mkObj L = (V, P, X) := ⟨_, _, _, rfl⟩
  rw [hRR] at hk ⊢
  dsimp only at hk ⊢
  have hb3 : Below w.heap.size w (w2.alloc (.cells #[.int .i64 k, .bool neg, .slice A1 n1 c1, .int .i64 ex, .string t, .slice LA ln lc, .slice KA kn kc] 34)) := (hb1.trans (hb2.mono hb1.size)).alloc (by have := hb1.size; have := hb2.size; omega) _
  have hbx := World.alloc_heap_new w2 (.cells #[.int .i64 k, .bool neg, .slice A1 n1 c1, .int .i64 ex, .string t, .slice LA ln lc, .slice KA kn kc] 34)
  obtain ⟨t0, t1, t2, t3, t4, t5, t6⟩ := box7_of hbx
  have HB3 := Lib.hid hb3
  have HRR := Lib.hid hRR
  have HK := Lib.hid hk
  clear hb1 hb2 hb3 hbx hRR hk t1 t2 t3 t4 t5 t6 hpo
  go_wp2_with fail
  refine (lnum7_c _ _).mono ?_
  rintro e w3 ⟨rfl, rfl⟩
  obtain ⟨XI, hXI⟩ : ∃ XI : Int, (X : Int) = XI := ⟨_, rfl⟩
  rw [hXI]
  generalize (w2.alloc (.cells #[.int .i64 k, .bool neg, .slice A1 n1 c1, .int .i64 ex, .string t, .slice LA ln lc, .slice KA kn kc] 34)) = w3 at *
  by_cases hX0 : XI = 0
  · have hX1 : X = 0 := by omega
    subst hX0
    subst hX1
    by_cases hk4 : k < 4
    · clear hXI
      go_wp2
      go_ret
      exact ⟨rfl, HB3.out⟩
    · have hl6 : L.length ≤ 65536 := by
        have h1 := HRR.out
        rw [rRead_nx] at h1
        by_cases h2 : 65536 < L.length
        · rw [if_pos h2] at h1
          simp only [Prod.mk.injEq] at h1
          omega
        · omega
      obtain ⟨to_, g1, g2, ⟨c0, hc0, hc1⟩, hall, hcut⟩ := rRead_short mkObj HRR.out (by rw [HK.out]; omega)
      rw [← wsE_zero] at g1 hcut
      have hsp := Space_c (c := c) (w := w3) (B := w.heap.size) (p := 0) (HO.out.stay HB3.out (Nat.le_refl _)) hl6 (Nat.zero_le _)
      obtain ⟨F, hF⟩ : ∃ F, wsE L 0 = F := ⟨_, rfl⟩
      rw [hF] at g1 hcut hsp
      have HOW := Lib.hid (HO.out.stay HB3.out (Nat.le_refl _))
      have HC0 := Lib.hid hc0
      have HC1 := Lib.hid hc1
      have HALL := Lib.hid hall
      have HCUT := Lib.hid hcut
      have HSP := Lib.hid hsp
      clear hXI hc0 hc1 hall hcut hsp hF
      go_wp2_with fail
      refine HSP.out.mono ?_
      rintro e w4 ⟨rfl, rfl⟩
      clear t0
      go_wp2_with fail
      go_loopw [9] (fun tv wr => ∃ q : Nat, tv = .int .i64 (q : Int) ∧ to_ ≤ q ∧ q ≤ L.length ∧ wr = w4) (fun tv _ => (RowKit.intOf tv).toNat)
      case atStart => exact ⟨L.length, rfl, g2, Nat.le_refl _, rfl⟩
      case round =>
        obtain ⟨q, rfl, hq1, hq2, rfl⟩ := hrel
        obtain ⟨j, hj⟩ : ∃ j, q = j + 1 := ⟨q - 1, by omega⟩
        have hq0 : (0 : Int) < (q : Int) := by omega
        have hqj : (q : Int) - 1 = (j : Int) := by omega
        have hjw : IntKind.i64.wrap (j : Int) = (j : Int) := IntWalk.i64_in _ (by omega)
        have hj0 : (0 : Int) ≤ (j : Int) := by omega
        have hjl : (j : Int) < (L.length : Int) := by omega
        have hjt : ((j : Int)).toNat = j := by omega
        obtain ⟨y, hy⟩ : ∃ y, L[j]? = some y := ⟨_, List.getElem?_eq_getElem (by omega)⟩
        obtain ⟨g, off, rfl, -, hc⟩ := HOW.out j y hy
        by_cases hend : to_ = q
        · subst hend
          have hyc : y = c0 := by
            have h1 := HC0.out
            rw [show to_ - 1 = j by omega, hy] at h1
            injection h1
          subst hyc
          have hws := HC1.out
          rw [ws_val] at hws
          simp only [Bool.or_eq_false_iff, decide_eq_false_iff_not] at hws
          obtain ⟨⟨⟨n1, n2⟩, n3⟩, n4⟩ := hws
          have m1 : ((y.toNat : Int) == 32) = false := by simpa using n1
          have m2 : ((y.toNat : Int) == 9) = false := by simpa using n2
          have m3 : ((y.toNat : Int) == 10) = false := by simpa using n3
          have m4 : ((y.toNat : Int) == 13) = false := by simpa using n4
          clear n1 n2 n3 n4
          obtain ⟨S, hS⟩ : ∃ S, to_ - F - 1 = S := ⟨_, rfl⟩
          have hS1 : 0 < S := by omega
          obtain ⟨m, hm1, hm2, hm3, hm4⟩ := place_in z S hS1
          obtain ⟨n, hn⟩ : ∃ n, F + 1 + m = n := ⟨_, rfl⟩
          obtain ⟨r1, hr1⟩ : ∃ r1, z.tmod (S : Int) = r1 := ⟨_, rfl⟩
          rw [hr1] at hm2 hm3 hm4
          obtain ⟨D, hD⟩ : ∃ D, to_ - F = D := ⟨_, rfl⟩
          have hDi : (to_ : Int) - (F : Int) = (D : Int) := by omega
          have hDw : IntKind.i64.wrap (D : Int) = (D : Int) := IntWalk.i64_in _ (by omega)
          have hSi : (D : Int) - 1 = (S : Int) := by omega
          have hSw : IntKind.i64.wrap (S : Int) = (S : Int) := IntWalk.i64_in _ (by omega)
          have hS2 : ¬ (S : Int) < 1 := by omega
          have hS3 : ¬ (S : Int) = 0 := by omega
          have hFw : IntKind.i64.wrap ((F : Int) + 1) = (F : Int) + 1 := IntWalk.i64_in _ (by omega)
          have hrw : IntKind.i64.wrap (r1 + (S : Int)) = r1 + (S : Int) := IntWalk.i64_in _ (by omega)
          have hni : (F : Int) + 1 + (m : Int) = (n : Int) := by omega
          have hnw : IntKind.i64.wrap (n : Int) = (n : Int) := IntWalk.i64_in _ (by omega)
          have hn0 : (0 : Int) ≤ (n : Int) := by omega
          have hnc : (n : Int) ≤ (c : Int) := by omega
          have hnt : ((n : Int)).toNat = n := by omega
          have hlt : (L.take n).length = n := by rw [List.length_take]; omega
          have hr2 := Read_c (L := L.take n) (c := c) (w := wr) (A := some ⟨g, off, none⟩) (valC 64) ((HO.out.take n).stay HB3.out HB3.out.size) (HT.out.below HB3.out) (by omega) (by omega)
          rw [hlt] at hr2
          have hct := HCUT.out n (by omega) (by omega)
          have HR2 := Lib.hid hr2
          have HCT := Lib.hid hct
          clear hr2 hct hj hy hq1 hq2 hlt hS hD hS1 hm1 hn
          go_wp2_with fail
          refine HR2.out.mono ?_
          rintro e w5 ⟨hpo2, hb5⟩
          obtain ⟨k', neg', A2, n2, c2, ex', t', LA', ln', lc', KA', kn', kc', rfl, -, -⟩ := hpo2.seven
          have HB5 := Lib.hid ((HB3.out.trans (hb5.mono HB3.out.size)).alloc (by have := hb5.size; have := HB3.out.size; omega) (.cells #[.int .i64 k', .bool neg', .slice A2 n2 c2, .int .i64 ex', .string t', .slice LA' ln' lc', .slice KA' kn' kc'] 34))
          clear hb5 hpo2 HR2
          rcases HCT.out with h | ⟨Q, E, h, hE⟩
          · rw [h]
            dsimp only
            go_wp2_with (go_at_call 10; refine (lnum7_c _ _).mono ?_; rintro e w' ⟨rfl, rfl⟩)
            go_ret
            exact ⟨by first | rfl | simp, HB5.out⟩
          · rw [h]
            dsimp only
            rcases hE with rfl | rfl | rfl
            all_goals (
              go_wp2_with (go_at_call 10; refine (lnum7_c _ _).mono ?_; rintro e w' ⟨rfl, rfl⟩)
              go_ret
              exact ⟨by first | rfl | simp, HB5.out⟩)
        · have hyw : isWs y = true := by
            refine HALL.out y ?_
            rw [List.mem_iff_getElem?]
            exact ⟨j - to_, by rw [List.getElem?_drop, show to_ + (j - to_) = j by omega]; exact hy⟩
          rw [ws_val] at hyw
          simp only [Bool.or_eq_true, decide_eq_true_eq] at hyw
          have hm : to_ ≤ j := by omega
          clear hy
          rcases hyw with ((hyw | hyw) | hyw) | hyw
          all_goals (
            rw [hyw] at hc
            clear hyw
            go_wp2_with fail
            go_roundw
            case rel => exact ⟨j, rfl, hm, by omega, by first | rfl | trivial⟩
            case measure => simp [RowKit.intOf]; omega)
  · have hX1 : (XI == 0) = false := by simpa using hX0
    clear hXI
    go_wp2
    go_ret
    exact ⟨rfl, HB3.out⟩
end Go.Proofs.YtpjllcengnolkaaGreatDoor

namespace Go.Proofs.YtpjllcengnolkaaGreatDoor
open Go.RowKit Go.Lib

theorem word25 : Word25 := fun S c A w hrd hS => by
  refine (RWord_c (c := c) false (-1) w hrd hS (by omega) (by kernel_rfl)).mono ?_
  rintro e w' ⟨t, rfl, ht, hb⟩
  have h1 : t = ⟨#[50, 46, 53]⟩ := octs_inj (ht.trans (by kernel_rfl))
  rw [h1]
  exact ⟨rfl, hb⟩
end Go.Proofs.YtpjllcengnolkaaGreatDoor
