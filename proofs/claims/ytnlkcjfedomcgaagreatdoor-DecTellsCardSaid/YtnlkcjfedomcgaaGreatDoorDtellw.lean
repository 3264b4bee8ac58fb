/-
  The walk of the law DecTells: it returns true, whatever the two decimals read as and the number is.
-/
import Derived.Test.YtnlkcjfedomcgaaGreatDoorDneg
import Derived.Test.YtnlkcjfedomcgaaGreatDoorDr
import Derived.Test.YtnlkcjfedomcgaaGreatDoorDrmul
import Derived.Test.YtnlkcjfedomcgaaGreatDoorDrcmp
import Derived.Test.YtnlkcjfedomcgaaGreatDoorDrwh
import Derived.Test.YtnlkcjfedomcgaaGreatDoorDrint
import Derived.Test.YtnlkcjfedomcgaaGreatDoorDrsub
set_option linter.unusedVariables false
set_option linter.unusedSimpArgs false
namespace Go.Proofs.YtnlkcjfedomcgaaGreatDoor
open Go.RowKit

theorem DWhole_v {S : Nat → Prop} {c n : Nat} {A : Option Addr} {xs : List Nat} (neg : Bool) (exp : Int) (w : World) (ha : Rd w S A n xs) (hS : ∀ b, S b → b < w.heap.size) (hn : n ≤ 9223372036854775807) :
    Calls Tryz.prog 25 #[dv neg A n c exp] w fun e w' => e = .returned (.tuple #[.int .i64 (whN neg xs exp), .bool (whT neg xs exp), .int .i64 (okE neg xs exp : Int)]) ∧ Below w.heap.size w w' := by
  by_cases hT : whT neg xs exp = true
  · have hT2 := hT
    unfold whT at hT2
    rw [Bool.and_eq_true] at hT2
    obtain ⟨hok, hwb⟩ := hT2
    unfold whB at hwb
    rw [Bool.and_eq_true, decide_eq_true_eq, decide_eq_true_eq] at hwb
    obtain ⟨h0, hv⟩ := hwb
    obtain ⟨p, rfl⟩ : ∃ p : Nat, exp = (p : Int) := ⟨exp.toNat, by omega⟩
    have h1 : okE neg xs (p : Int) = 0 := by unfold okE; rw [if_pos hok]
    have h2 : whN neg xs (p : Int) = sg neg (val xs * 10 ^ p) := by unfold whN; rw [if_pos hT]; rfl
    rw [hT, h1, h2]
    exact DWhole_ok (c := c) neg w ha hS hn hok hv
  · have hT2 : whT neg xs exp = false := by simpa using hT
    have h2 : whN neg xs exp = 0 := by unfold whN; rw [if_neg hT]
    rw [hT2, h2]
    exact DWhole_no (c := c) neg exp w ha hS hn hT2

theorem Res.ne_box {w : World} {base n c b : Nat} {A : Option Addr} {zs : List Nat} {vs : Array Value} {t : TypeId} (h : Res w base A n c zs) (hb : w.heap[b]? = some (.cells vs t)) (ht : t ≠ 76) : ∀ g, A = some ⟨g, 0, none⟩ → g ≠ b := by
  intro g e hgb
  rcases h.own.2 with ⟨h1, _⟩ | ⟨g2, cap, cur, h1, h2, hh, _⟩
  · injection h1 with h1; rw [h1] at e; cases e
  · injection h1 with h1
    rw [h1] at e
    injection e with e
    injection e with e
    rw [e, hgb, hb] at hh
    injection hh with hh
    injection hh with _ hh
    exact ht hh
theorem Res.setNe {w : World} {base n c : Nat} {A : Option Addr} {zs : List Nat} (h : Res w base A n c zs) {p : Addr} (hne : ∀ g, A = some ⟨g, 0, none⟩ → g ≠ p.block) (u : Value) : Res (w.setCell p u) base A n c zs :=
  h.keep fun g e => Below.heap_setCell _ _ _ _ (hne g e)
theorem ty_ne : (24 : Nat) ≠ 76 := by decide

set_option maxRecDepth 100000 in
set_option maxHeartbeats 8000000 in
theorem DecTells_c {S : Nat → Prop} {n m c d : Nat} {A B : Option Addr} {xs ys : List Nat} (na nb : Bool) (e1 e2 : Int) (z : Int) (w : World) (ha : Rd w S A n xs) (hb : Rd w S B m ys)
    (hS : ∀ b, S b → b < w.heap.size) (hn : n ≤ 35184372088832) (hm : m ≤ 35184372088832) (hz1 : -9223372036854775808 ≤ z) (hz2 : z ≤ 9223372036854775807) :
    Calls Tryz.prog 3 #[dv na A n c e1, dv nb B m d e2, .int .i64 z] w fun e w' => e = .returned (.bool true) ∧ Below w.heap.size w w' := by
  obtain ⟨N1, hN1⟩ : ∃ N, opN (okE2 na xs e1 nb ys e2) (addS na (val xs) e1 nb (val ys) e2) (addZ na (val xs) e1 nb (val ys) e2) (lo2 e1 e2) = N := ⟨_, rfl⟩
  obtain ⟨X1, hX1⟩ : ∃ N, opX (okE2 na xs e1 nb ys e2) (addZ na (val xs) e1 nb (val ys) e2) (lo2 e1 e2) = N := ⟨_, rfl⟩
  obtain ⟨Z1, hZ1⟩ : ∃ N, opZ (okE2 na xs e1 nb ys e2) (addZ na (val xs) e1 nb (val ys) e2) (lo2 e1 e2) = N := ⟨_, rfl⟩
  obtain ⟨E1, hE1⟩ : ∃ N, opE (okE2 na xs e1 nb ys e2) (addZ na (val xs) e1 nb (val ys) e2) (lo2 e1 e2) = N := ⟨_, rfl⟩
  obtain ⟨N2, hN2⟩ : ∃ N, opN (okE2 na xs e1 nb ys e2) (addS na (val xs) e1 (ops nb ys) (val ys) e2) (addZ na (val xs) e1 (ops nb ys) (val ys) e2) (lo2 e1 e2) = N := ⟨_, rfl⟩
  obtain ⟨X2, hX2⟩ : ∃ N, opX (okE2 na xs e1 nb ys e2) (addZ na (val xs) e1 (ops nb ys) (val ys) e2) (lo2 e1 e2) = N := ⟨_, rfl⟩
  obtain ⟨Z2, hZ2⟩ : ∃ N, opZ (okE2 na xs e1 nb ys e2) (addZ na (val xs) e1 (ops nb ys) (val ys) e2) (lo2 e1 e2) = N := ⟨_, rfl⟩
  obtain ⟨E2, hE2⟩ : ∃ N, opE (okE2 na xs e1 nb ys e2) (addZ na (val xs) e1 (ops nb ys) (val ys) e2) (lo2 e1 e2) = N := ⟨_, rfl⟩
  obtain ⟨N3, hN3⟩ : ∃ N, opN (okE2 na xs e1 nb ys e2) (na != nb) (val xs * val ys) (e1 + e2) = N := ⟨_, rfl⟩
  obtain ⟨X3, hX3⟩ : ∃ N, opX (okE2 na xs e1 nb ys e2) (val xs * val ys) (e1 + e2) = N := ⟨_, rfl⟩
  obtain ⟨Z3, hZ3⟩ : ∃ N, opZ (okE2 na xs e1 nb ys e2) (val xs * val ys) (e1 + e2) = N := ⟨_, rfl⟩
  obtain ⟨E3, hE3⟩ : ∃ N, opE (okE2 na xs e1 nb ys e2) (val xs * val ys) (e1 + e2) = N := ⟨_, rfl⟩
  obtain ⟨N4, hN4⟩ : ∃ N, ngN na xs e1 = N := ⟨_, rfl⟩
  obtain ⟨X4, hX4⟩ : ∃ N, ngX na xs e1 = N := ⟨_, rfl⟩
  obtain ⟨Z4, hZ4⟩ : ∃ N, ngZ na xs e1 = N := ⟨_, rfl⟩
  obtain ⟨E4, hE4⟩ : ∃ N, okE na xs e1 = N := ⟨_, rfl⟩
  obtain ⟨N5, hN5⟩ : ∃ N, stN (decide (z < 0)) z.natAbs 0 = N := ⟨_, rfl⟩
  obtain ⟨X5, hX5⟩ : ∃ N, stX z.natAbs 0 = N := ⟨_, rfl⟩
  obtain ⟨Z5, hZ5⟩ : ∃ N, stZ z.natAbs 0 = N := ⟨_, rfl⟩
  obtain ⟨CV, hCV⟩ : ∃ N, cmpV na xs e1 nb ys e2 = N := ⟨_, rfl⟩
  obtain ⟨E0, hE0⟩ : ∃ N, okE2 na xs e1 nb ys e2 = N := ⟨_, rfl⟩
  obtain ⟨WN, hWN⟩ : ∃ N, whN na xs e1 = N := ⟨_, rfl⟩
  obtain ⟨WT, hWT⟩ : ∃ N, whT na xs e1 = N := ⟨_, rfl⟩
  have hadd := fun V (S' : Nat → Prop) A' c' B' d' (h1 : Rd V S' A' n xs) (h2 : Rd V S' B' m ys) hs => (DAdd_v (c := c') (d := d') na nb e1 e2 V h1 h2 hs (by omega) (by omega)).mono fun e w' ⟨h, hb⟩ => (⟨h.answ hN1 hX1 hZ1 hE1, hb⟩ : Answ e w' V.heap.size N1 X1 Z1 E1 ∧ Below V.heap.size V w')
  have hradd := fun V (h1 : Rd V S A n xs) (h2 : Rd V S B m ys) hs => (RAdd_v (c := c) (d := d) na nb e1 e2 V h1 h2 hs (by omega) (by omega)).mono fun e w' ⟨h, hb⟩ => (⟨h.answ hN1 hX1 hZ1 hE1, hb⟩ : Answ e w' V.heap.size N1 X1 Z1 E1 ∧ Below V.heap.size V w')
  have hsub := fun V (S' : Nat → Prop) A' c' B' d' (h1 : Rd V S' A' n xs) (h2 : Rd V S' B' m ys) hs => (DSub_v (c := c') (d := d') na nb e1 e2 V h1 h2 hs (by omega) (by omega)).mono fun e w' ⟨h, hb⟩ => (⟨h.answ hN2 hX2 hZ2 hE2, hb⟩ : Answ e w' V.heap.size N2 X2 Z2 E2 ∧ Below V.heap.size V w')
  have hrsub := fun V (h1 : Rd V S A n xs) (h2 : Rd V S B m ys) hs => (RSub_v (c := c) (d := d) na nb e1 e2 V h1 h2 hs (by omega) (by omega)).mono fun e w' ⟨h, hb⟩ => (⟨h.answ hN2 hX2 hZ2 hE2, hb⟩ : Answ e w' V.heap.size N2 X2 Z2 E2 ∧ Below V.heap.size V w')
  have hmul := fun V (S' : Nat → Prop) A' c' B' d' (h1 : Rd V S' A' n xs) (h2 : Rd V S' B' m ys) hs => (DMul_v (c := c') (d := d') na nb e1 e2 V h1 h2 hs (by omega) (by omega)).mono fun e w' ⟨h, hb⟩ => (⟨h.answ hN3 hX3 hZ3 hE3, hb⟩ : Answ e w' V.heap.size N3 X3 Z3 E3 ∧ Below V.heap.size V w')
  have hrmul := fun V (h1 : Rd V S A n xs) (h2 : Rd V S B m ys) hs => (RMul_v (c := c) (d := d) na nb e1 e2 V h1 h2 hs (by omega) (by omega)).mono fun e w' ⟨h, hb⟩ => (⟨h.answ hN3 hX3 hZ3 hE3, hb⟩ : Answ e w' V.heap.size N3 X3 Z3 E3 ∧ Below V.heap.size V w')
  have hneg := fun V (S' : Nat → Prop) A' c' (h1 : Rd V S' A' n xs) hs => DNeg_v (c := c') na e1 V h1 hs (by omega)
  have hrneg := fun V (h1 : Rd V S A n xs) hs => RNeg_v (c := c) na e1 V h1 hs (by omega)
  have hcmp := fun V (S' : Nat → Prop) A' c' B' d' (h1 : Rd V S' A' n xs) (h2 : Rd V S' B' m ys) hs => DCompare_v (c := c') (d := d') na nb e1 e2 V h1 h2 hs (by omega) (by omega)
  have hrcmp := fun V (h1 : Rd V S A n xs) (h2 : Rd V S B m ys) hs => RCompare_v (c := c) (d := d) na nb e1 e2 V h1 h2 hs (by omega) (by omega)
  have hwh := fun V (S' : Nat → Prop) A' c' (h1 : Rd V S' A' n xs) hs => DWhole_v (c := c') na e1 V h1 hs (by omega)
  have hrwh := fun V (h1 : Rd V S A n xs) hs => RWhole_v (c := c) na e1 V h1 hs (by omega)
  have hck := fun V (S' : Nat → Prop) A' c' (h1 : Rd V S' A' n xs) hs => DCheck_c (c := c') na e1 V h1 hs (by omega)
  have hrck := fun V (h1 : Rd V S A n xs) hs => RCheck_c (c := c) na e1 V h1 hs (by omega)
  have hint := fun V => DInt_c z V hz1 hz2
  have hrint := fun V => RInt_c z V hz1 hz2
  rw [hN4, hX4, hZ4, hE4] at hneg hrneg
  rw [hN5, hX5, hZ5] at hint hrint
  rw [hCV, hE0] at hcmp hrcmp
  rw [hWN, hWT, hE4] at hwh hrwh
  rw [hE4] at hck hrck
  have hs1 := fun V (S1 S2 : Nat → Prop) A1 n1 c1 A2 n2 c2 (h1 : Rd V S1 A1 n1 Z1) (h2 : Rd V S2 A2 n2 Z1) hS1 hS2 hn1 hn2 => DSame_eq (c := c1) (d := c2) N1 X1 V h1 h2 hS1 hS2 hn1 hn2
  have hs2 := fun V (S1 S2 : Nat → Prop) A1 n1 c1 A2 n2 c2 (h1 : Rd V S1 A1 n1 Z2) (h2 : Rd V S2 A2 n2 Z2) hS1 hS2 hn1 hn2 => DSame_eq (c := c1) (d := c2) N2 X2 V h1 h2 hS1 hS2 hn1 hn2
  have hs3 := fun V (S1 S2 : Nat → Prop) A1 n1 c1 A2 n2 c2 (h1 : Rd V S1 A1 n1 Z3) (h2 : Rd V S2 A2 n2 Z3) hS1 hS2 hn1 hn2 => DSame_eq (c := c1) (d := c2) N3 X3 V h1 h2 hS1 hS2 hn1 hn2
  have hs4 := fun V (S1 S2 : Nat → Prop) A1 n1 c1 A2 n2 c2 (h1 : Rd V S1 A1 n1 Z4) (h2 : Rd V S2 A2 n2 Z4) hS1 hS2 hn1 hn2 => DSame_eq (c := c1) (d := c2) N4 X4 V h1 h2 hS1 hS2 hn1 hn2
  have hs5 := fun V (S1 S2 : Nat → Prop) A1 n1 c1 A2 n2 c2 (h1 : Rd V S1 A1 n1 Z5) (h2 : Rd V S2 A2 n2 Z5) hS1 hS2 hn1 hn2 => DSame_eq (c := c1) (d := c2) N5 X5 V h1 h2 hS1 hS2 hn1 hn2
  have hs6 := fun V (S1 S2 : Nat → Prop) A1 c1 A2 c2 (h1 : Rd V S1 A1 n xs) (h2 : Rd V S2 A2 n xs) hS1 hS2 => DSame_eq (c := c1) (d := c2) na e1 V h1 h2 hS1 hS2 (by omega) (by omega)
  have hs7 := fun V (S1 S2 : Nat → Prop) A1 c1 A2 c2 (h1 : Rd V S1 A1 m ys) (h2 : Rd V S2 A2 m ys) hS1 hS2 => DSame_eq (c := c1) (d := c2) nb e2 V h1 h2 hS1 hS2 (by omega) (by omega)
  have hoa := fun V (h1 : Rd V S A n xs) hs => own2_c (c := c) na e1 V h1 hs hn
  have hob := fun V (h1 : Rd V S B m ys) hs => own2_c (c := d) nb e2 V h1 hs hm
  unfold Answ at hadd hradd hsub hrsub hmul hrmul hneg hrneg
  unfold dv at hadd hradd hsub hrsub hmul hrmul hneg hrneg hcmp hrcmp hwh hrwh hck hrck hint hrint hs1 hs2 hs3 hs4 hs5 hs6 hs7 hoa hob ⊢
  have ADD := Lib.hid hadd
  have RADD := Lib.hid hradd
  have SUB := Lib.hid hsub
  have RSUB := Lib.hid hrsub
  have MUL := Lib.hid hmul
  have RMUL := Lib.hid hrmul
  have NEG := Lib.hid hneg
  have RNEG := Lib.hid hrneg
  have CMP := Lib.hid hcmp
  have RCMP := Lib.hid hrcmp
  have WH := Lib.hid hwh
  have RWH := Lib.hid hrwh
  have CK := Lib.hid hck
  have RCK := Lib.hid hrck
  have INT := Lib.hid hint
  have RINT := Lib.hid hrint
  have S1 := Lib.hid hs1
  have S2 := Lib.hid hs2
  have S3 := Lib.hid hs3
  have S4 := Lib.hid hs4
  have S5 := Lib.hid hs5
  have S6 := Lib.hid hs6
  have S7 := Lib.hid hs7
  have OA := Lib.hid hoa
  have OB := Lib.hid hob
  clear hadd hradd hsub hrsub hmul hrmul hneg hrneg hcmp hrcmp hwh hrwh hck hrck hint hrint hs1 hs2 hs3 hs4 hs5 hs6 hs7 hoa hob hN1 hX1 hZ1 hE1 hN2 hX2 hZ2 hE2 hN3 hX3 hZ3 hE3 hN4 hX4 hZ4 hE4 hN5 hX5 hZ5 hCV hE0 hWN hWT
  obtain ⟨ma, mb⟩ := two_new w (.cells #[.bool na, .slice A n c, .int .i64 e1] 24) (.cells #[.bool nb, .slice B m d, .int .i64 e2] 24)
  have hw : Below w.heap.size w ((w.alloc (.cells #[.bool na, .slice A n c, .int .i64 e1] 24)).alloc (.cells #[.bool nb, .slice B m d, .int .i64 e2] 24)) := ((Below.refl _ w).alloc (Nat.le_refl _) _).alloc (by simp) _
  have HMA := Lib.hid ma
  have HMB := Lib.hid mb
  clear ma mb
  go_enter Tryz.func3, Tryz.ntmps3
  go_wp2_with fail
  have ma := HMA.out
  have mb := HMB.out
  clear HMA HMB
  generalize ((w.alloc (.cells #[.bool na, .slice A n c, .int .i64 e1] 24)).alloc (.cells #[.bool nb, .slice B m d, .int .i64 e2] 24)) = w1 at ma mb hw ⊢
  have up : ∀ {W' : World}, Below w.heap.size w W' → ∀ b, S b → b < W'.heap.size := fun hW b h => by have := hS b h; have := hW.size; omega
  obtain ⟨p0, p1, p2⟩ := box3_of ma
  obtain ⟨p3, p4, p5⟩ := box3_of mb
  go_wp2_with fail
  go_cut [7, 8] from 35 to 38 (fun s5 s6 wc => ∃ gx gy A1 c1 A2 c2, s5 = .pointer (some ⟨gx, 0, none⟩) ∧ s6 = .pointer (some ⟨gy, 0, none⟩) ∧ gx ≠ gy ∧ wc.heap[gx]? = some (.cells #[.bool na, .slice A1 n c1, .int .i64 e1] 24) ∧ wc.heap[gy]? = some (.cells #[.bool nb, .slice A2 m c2, .int .i64 e2] 24) ∧ w1.heap.size ≤ gx ∧ w1.heap.size ≤ gy ∧ Res wc w1.heap.size A1 n c1 xs ∧ Res wc w1.heap.size A2 m c2 ys ∧ (∀ g, A1 = some ⟨g, 0, none⟩ → A2 = some ⟨g, 0, none⟩ → False) ∧ Below w1.heap.size w1 wc)
  case first =>
    go_wp2_with fail
    refine wp_region_held_drew (S := fun w' => w'.cell? ⟨w.heap.size, 0, none⟩ = some (.bool na) ∧ w'.cell? ⟨w.heap.size, 1, none⟩ = some (.slice A n c) ∧ w'.cell? ⟨w.heap.size, 2, none⟩ = some (.int .i64 e1) ∧ w'.cell? ⟨w.heap.size + 1, 0, none⟩ = some (.bool nb) ∧ w'.cell? ⟨w.heap.size + 1, 1, none⟩ = some (.slice B m d) ∧ w'.cell? ⟨w.heap.size + 1, 2, none⟩ = some (.int .i64 e2)) (by kernel_rfl) ⟨p0, p1, p2, p3, p4, p5⟩ (fun hHeld => ?_)
    (try simp only [List.size_toArray, List.length_cons, List.length_nil, Nat.reduceAdd, Array.replicate_succ, Array.replicate_zero, List.push_toArray, List.append_toArray, List.nil_append, List.cons_append])
    refine wpAnyH_take (i := 0) (oi := ⟨_, _, _, _, _, _⟩) (v := ?_) rfl (by kernel_rfl) (by kernel_rfl) (by kernel_rfl) (fun _ _ _ h => h) (Or.inl ⟨by rfl, ?_⟩) (by assumption) ?_
    rotate_left
    · intro w hSw
      (try dsimp only at hSw)
      go_split_ands
      go_simp
      try with_reducible rfl
    try simp only [Act.put, List.setIfInBounds_toArray, List.set_cons_zero, List.set_cons_succ]
    refine wpAnyH_take (i := 2) (oi := ⟨_, _, _, _, _, _⟩) (v := ?_) rfl (by kernel_rfl) (by kernel_rfl) (by kernel_rfl) (fun _ _ _ h => h) (Or.inl ⟨by rfl, ?_⟩) (by assumption) ?_
    rotate_left
    · intro w hSw
      (try dsimp only at hSw)
      go_split_ands
      go_simp
      try with_reducible rfl
    try simp only [Act.put, List.setIfInBounds_toArray, List.set_cons_zero, List.set_cons_succ]
    clear p0 p1 p2 p3 p4 p5
    have mb1 := mb
    have ma : w1.drew.heap[w.heap.size]? = _ := ma
    have mb : w1.drew.heap[w.heap.size + 1]? = _ := mb
    have hB : Below w1.heap.size w1 w1.drew := only_drewB (Below.refl _ _)
    have hW : Below w.heap.size w w1.drew := only_drewB hw
    have hBs0 : w1.heap.size ≤ w1.drew.heap.size := Nat.le_refl _
    have HMB1 := Lib.hid mb1
    clear mb1
    generalize hV0 : w1.drew = V0 at *
    have mb1 := HMB1.out
    clear hV0 hHeld
    refine wpAnyH_ready (rs := [1, 4, 5]) (by kernel_rfl) (by simp) ?_
    refine (AllReadyH.cons (o := ⟨_, _, _, _, _, _⟩) rfl (fun K hK => ?_) (AllReadyH.cons (o := ⟨_, _, _, _, _, _⟩) rfl (fun K hK => ?_) (AllReadyH.cons (o := ⟨_, _, _, _, _, _⟩) rfl (fun K hK => ?_) AllReadyH.nil)))
    · go_simp
      refine (OA.out V0 (ha.below hW hS) (fun b h => up hW b h)).mono ?_
      rintro e V1 ⟨A1, c1, rfl, rx, hb0⟩
      have ma := heldz hb0 ma
      have mb := heldz hb0 mb
      have hB := hB.trans (hb0.mono hB.size)
      have hW := hW.trans (hb0.mono hW.size)
      have hlx : ∀ g, A1 = some ⟨g, 0, none⟩ → g < V1.heap.size := by
        intro g q1
        rcases rx.form with ⟨z, _⟩ | ⟨g3, z, _, z3⟩
        · rw [z] at q1; cases q1
        · rw [z] at q1; injection q1 with q1; injection q1 with q1; omega
      have rx := rx.more (base' := w1.heap.size) hBs0
      (try dsimp only)
      obtain ⟨x0, x1, x2⟩ := box3_of ma
      obtain ⟨x3, x4, x5⟩ := box3_of mb
      refine hK.out _ _ ⟨x0, x1, x2, x3, x4, x5⟩ (fun _ => ?_)
      clear hK K x0 x1 x2 x3 x4 x5
      try simp only [Act.put, List.setIfInBounds_toArray, List.set_cons_zero, List.set_cons_succ]
      have hBs0 : w1.heap.size ≤ V1.heap.size := hB.size
      refine wpAnyH_ready (rs := [3, 4, 5]) (by kernel_rfl) (by simp) ?_
      refine (AllReadyH.cons (o := ⟨_, _, _, _, _, _⟩) rfl (fun K hK => ?_) (AllReadyH.cons (o := ⟨_, _, _, _, _, _⟩) rfl (fun K hK => ?_) (AllReadyH.cons (o := ⟨_, _, _, _, _, _⟩) rfl (fun K hK => ?_) AllReadyH.nil)))
      · go_simp
        refine (OB.out V1 (hb.below hW hS) (fun b h => up hW b h)).mono ?_
        rintro e V2 ⟨A2, c2, rfl, ry, hb0⟩
        have ma := heldz hb0 ma
        have mb := heldz hb0 mb
        have rx := rx.below hb0 (Nat.le_refl _)
        have hdis : ∀ g, A1 = some ⟨g, 0, none⟩ → A2 = some ⟨g, 0, none⟩ → False := by
          intro g q1 q2
          subst q1 q2
          rcases ry.form with ⟨z, _⟩ | ⟨g3, z, z2, _⟩
          · cases z
          · injection z with z; injection z with z
            have := hlx g rfl; omega
        have hB := hB.trans (hb0.mono hB.size)
        have hW := hW.trans (hb0.mono hW.size)
        have ry := ry.more (base' := w1.heap.size) hBs0
        have hlx : ∀ g, A1 = some ⟨g, 0, none⟩ → g < V2.heap.size := fun g q => Nat.lt_of_lt_of_le (hlx g q) hb0.size
        (try dsimp only)
        obtain ⟨x0, x1, x2⟩ := box3_of ma
        obtain ⟨x3, x4, x5⟩ := box3_of mb
        refine hK.out _ _ ⟨x0, x1, x2, x3, x4, x5⟩ (fun _ => ?_)
        clear hK K x0 x1 x2 x3 x4 x5
        try simp only [Act.put, List.setIfInBounds_toArray, List.set_cons_zero, List.set_cons_succ]
        have hBs0 : w1.heap.size ≤ V2.heap.size := hB.size
        refine wpAnyH_ready (rs := [4, 5]) (by kernel_rfl) (by simp) ?_
        refine (AllReadyH.cons (o := ⟨_, _, _, _, _, _⟩) rfl (fun K hK => ?_) (AllReadyH.cons (o := ⟨_, _, _, _, _, _⟩) rfl (fun K hK => ?_) AllReadyH.nil))
        · go_simp
          obtain ⟨gx, hg⟩ : ∃ g, g = V2.heap.size := ⟨_, rfl⟩
          have ma := heldA (.cells #[.bool false, .slice none 0 0, .int .i64 0] 24) ma
          have mb := heldA (.cells #[.bool false, .slice none 0 0, .int .i64 0] 24) mb
          have mx := World.alloc_heap_new V2 (.cells #[.bool false, .slice none 0 0, .int .i64 0] 24)
          rw [← hg] at mx
          have rx := rx.below ((Below.refl V2.heap.size V2).alloc (Nat.le_refl _) (.cells #[.bool false, .slice none 0 0, .int .i64 0] 24)) (Nat.le_refl _)
          have ry := ry.below ((Below.refl V2.heap.size V2).alloc (Nat.le_refl _) (.cells #[.bool false, .slice none 0 0, .int .i64 0] 24)) (Nat.le_refl _)
          have hsz : (V2.alloc (.cells #[.bool false, .slice none 0 0, .int .i64 0] 24)).heap.size = V2.heap.size + 1 := by simp
          have hlx : ∀ g, A1 = some ⟨g, 0, none⟩ → g < (V2.alloc (.cells #[.bool false, .slice none 0 0, .int .i64 0] 24)).heap.size := fun g q => by have := hlx g q; omega
          have hkgx : w1.heap.size ≤ gx := by have := hB.size; omega
          have hB := hB.alloc hB.size (.cells #[.bool false, .slice none 0 0, .int .i64 0] 24)
          have hW := hW.alloc hW.size (.cells #[.bool false, .slice none 0 0, .int .i64 0] 24)
          obtain ⟨x0, x1, x2⟩ := box3_of ma
          obtain ⟨x3, x4, x5⟩ := box3_of mb
          refine hK.out _ _ ⟨x0, x1, x2, x3, x4, x5⟩ (fun _ => ?_)
          clear hK K x0 x1 x2 x3 x4 x5
          try simp only [Act.put, List.setIfInBounds_toArray, List.set_cons_zero, List.set_cons_succ]
          try rw [← hg]
          generalize hU : V2.alloc (.cells #[.bool false, .slice none 0 0, .int .i64 0] 24) = V3 at *
          clear hU
          have hlgx : gx < V3.heap.size := by omega
          clear hg hsz
          have hBs0 : w1.heap.size ≤ V3.heap.size := hB.size
          refine wpAnyH_ready (rs := [5]) (by kernel_rfl) (by simp) ?_
          refine (AllReadyH.cons (o := ⟨_, _, _, _, _, _⟩) rfl (fun K hK => ?_) AllReadyH.nil)
          · go_simp
            obtain ⟨gy, hg⟩ : ∃ g, g = V3.heap.size := ⟨_, rfl⟩
            have ma := heldA (.cells #[.bool false, .slice none 0 0, .int .i64 0] 24) ma
            have mb := heldA (.cells #[.bool false, .slice none 0 0, .int .i64 0] 24) mb
            have mx := heldA (.cells #[.bool false, .slice none 0 0, .int .i64 0] 24) mx
            have my := World.alloc_heap_new V3 (.cells #[.bool false, .slice none 0 0, .int .i64 0] 24)
            rw [← hg] at my
            have rx := rx.below ((Below.refl V3.heap.size V3).alloc (Nat.le_refl _) (.cells #[.bool false, .slice none 0 0, .int .i64 0] 24)) (Nat.le_refl _)
            have ry := ry.below ((Below.refl V3.heap.size V3).alloc (Nat.le_refl _) (.cells #[.bool false, .slice none 0 0, .int .i64 0] 24)) (Nat.le_refl _)
            have hsz : (V3.alloc (.cells #[.bool false, .slice none 0 0, .int .i64 0] 24)).heap.size = V3.heap.size + 1 := by simp
            have hlx : ∀ g, A1 = some ⟨g, 0, none⟩ → g < (V3.alloc (.cells #[.bool false, .slice none 0 0, .int .i64 0] 24)).heap.size := fun g q => by have := hlx g q; omega
            have hkgy : w1.heap.size ≤ gy := by have := hB.size; omega
            have hB := hB.alloc hB.size (.cells #[.bool false, .slice none 0 0, .int .i64 0] 24)
            have hW := hW.alloc hW.size (.cells #[.bool false, .slice none 0 0, .int .i64 0] 24)
            obtain ⟨x0, x1, x2⟩ := box3_of ma
            obtain ⟨x3, x4, x5⟩ := box3_of mb
            refine hK.out _ _ ⟨x0, x1, x2, x3, x4, x5⟩ (fun _ => ?_)
            clear hK K x0 x1 x2 x3 x4 x5
            try simp only [Act.put, List.setIfInBounds_toArray, List.set_cons_zero, List.set_cons_succ]
            try rw [← hg]
            generalize hU : V3.alloc (.cells #[.bool false, .slice none 0 0, .int .i64 0] 24) = V4 at *
            clear hU
            have hlgy : gy < V4.heap.size := by omega
            have hne : gx ≠ gy := by omega
            have hlgx : gx < V4.heap.size := by omega
            clear hg hsz
            have hBs0 : w1.heap.size ≤ V4.heap.size := hB.size
            have hnxx := rx.ne_box mx ty_ne
            have hnxy := rx.ne_box my ty_ne
            have hnyx := ry.ne_box mx ty_ne
            have hnyy := ry.ne_box my ty_ne
            have hsw1 : w.heap.size + 1 < w1.heap.size := (Array.getElem?_eq_some_iff.1 mb1).1
            refine wpAnyH_ready (rs := [6]) (by kernel_rfl) (by simp) (AllReadyH.cons (o := ⟨_, _, _, _, _, _⟩) rfl (fun K hK => ?_) AllReadyH.nil)
            obtain ⟨t0, t1, t2⟩ := box3_of mx
            have f0 := frozen_of 0 mx
            have f1 := frozen_of 1 mx
            have f2 := frozen_of 2 mx
            go_simp
            clear t0 t1 t2 f0 f1 f2
            have mx := set_blk (v := .bool na) (i := 0) mx rfl
            have ma := set_other (i := 0) ma (show w.heap.size ≠ gx by omega) (.bool na)
            have mb := set_other (i := 0) mb (show w.heap.size + 1 ≠ gx by omega) (.bool na)
            have my := set_other (i := 0) my (show gy ≠ gx by omega) (.bool na)
            have rx := rx.setNe (p := ⟨gx, 0, none⟩) hnxx (.bool na)
            have ry := ry.setNe (p := ⟨gx, 0, none⟩) hnyx (.bool na)
            have hB := hB.setCell (p := ⟨gx, 0, none⟩) hkgx (.bool na)
            have mx := set_blk (v := .slice A1 n c1) (i := 1) mx rfl
            have ma := set_other (i := 1) ma (show w.heap.size ≠ gx by omega) (.slice A1 n c1)
            have mb := set_other (i := 1) mb (show w.heap.size + 1 ≠ gx by omega) (.slice A1 n c1)
            have my := set_other (i := 1) my (show gy ≠ gx by omega) (.slice A1 n c1)
            have rx := rx.setNe (p := ⟨gx, 1, none⟩) hnxx (.slice A1 n c1)
            have ry := ry.setNe (p := ⟨gx, 1, none⟩) hnyx (.slice A1 n c1)
            have hB := hB.setCell (p := ⟨gx, 1, none⟩) hkgx (.slice A1 n c1)
            have mx := set_blk (v := .int .i64 e1) (i := 2) mx rfl
            have ma := set_other (i := 2) ma (show w.heap.size ≠ gx by omega) (.int .i64 e1)
            have mb := set_other (i := 2) mb (show w.heap.size + 1 ≠ gx by omega) (.int .i64 e1)
            have my := set_other (i := 2) my (show gy ≠ gx by omega) (.int .i64 e1)
            have rx := rx.setNe (p := ⟨gx, 2, none⟩) hnxx (.int .i64 e1)
            have ry := ry.setNe (p := ⟨gx, 2, none⟩) hnyx (.int .i64 e1)
            have hB := hB.setCell (p := ⟨gx, 2, none⟩) hkgx (.int .i64 e1)
            obtain ⟨x0, x1, x2⟩ := box3_of ma
            obtain ⟨x3, x4, x5⟩ := box3_of mb
            refine hK.out _ _ ⟨x0, x1, x2, x3, x4, x5⟩ (fun _ => ?_)
            clear hK K x0 x1 x2 x3 x4 x5
            try simp only [Act.put, List.setIfInBounds_toArray, List.set_cons_zero, List.set_cons_succ]
            refine wpAnyH_ready (rs := [7]) (by kernel_rfl) (by simp) (AllReadyH.cons (o := ⟨_, _, _, _, _, _⟩) rfl (fun K hK => ?_) AllReadyH.nil)
            obtain ⟨t0, t1, t2⟩ := box3_of my
            have f0 := frozen_of 0 my
            have f1 := frozen_of 1 my
            have f2 := frozen_of 2 my
            go_simp
            clear t0 t1 t2 f0 f1 f2
            have my := set_blk (v := .bool nb) (i := 0) my rfl
            have ma := set_other (i := 0) ma (show w.heap.size ≠ gy by omega) (.bool nb)
            have mb := set_other (i := 0) mb (show w.heap.size + 1 ≠ gy by omega) (.bool nb)
            have mx := set_other (i := 0) mx (show gx ≠ gy by omega) (.bool nb)
            have rx := rx.setNe (p := ⟨gy, 0, none⟩) hnxy (.bool nb)
            have ry := ry.setNe (p := ⟨gy, 0, none⟩) hnyy (.bool nb)
            have hB := hB.setCell (p := ⟨gy, 0, none⟩) hkgy (.bool nb)
            have my := set_blk (v := .slice A2 m c2) (i := 1) my rfl
            have ma := set_other (i := 1) ma (show w.heap.size ≠ gy by omega) (.slice A2 m c2)
            have mb := set_other (i := 1) mb (show w.heap.size + 1 ≠ gy by omega) (.slice A2 m c2)
            have mx := set_other (i := 1) mx (show gx ≠ gy by omega) (.slice A2 m c2)
            have rx := rx.setNe (p := ⟨gy, 1, none⟩) hnxy (.slice A2 m c2)
            have ry := ry.setNe (p := ⟨gy, 1, none⟩) hnyy (.slice A2 m c2)
            have hB := hB.setCell (p := ⟨gy, 1, none⟩) hkgy (.slice A2 m c2)
            have my := set_blk (v := .int .i64 e2) (i := 2) my rfl
            have ma := set_other (i := 2) ma (show w.heap.size ≠ gy by omega) (.int .i64 e2)
            have mb := set_other (i := 2) mb (show w.heap.size + 1 ≠ gy by omega) (.int .i64 e2)
            have mx := set_other (i := 2) mx (show gx ≠ gy by omega) (.int .i64 e2)
            have rx := rx.setNe (p := ⟨gy, 2, none⟩) hnxy (.int .i64 e2)
            have ry := ry.setNe (p := ⟨gy, 2, none⟩) hnyy (.int .i64 e2)
            have hB := hB.setCell (p := ⟨gy, 2, none⟩) hkgy (.int .i64 e2)
            obtain ⟨x0, x1, x2⟩ := box3_of ma
            obtain ⟨x3, x4, x5⟩ := box3_of mb
            refine hK.out _ _ ⟨x0, x1, x2, x3, x4, x5⟩ (fun _ => ?_)
            clear hK K x0 x1 x2 x3 x4 x5
            try simp only [Act.put, List.setIfInBounds_toArray, List.set_cons_zero, List.set_cons_succ]
            refine wpAnyH_done (by kernel_rfl) ?_ _
            go_wp2
            go_meet
            exact ⟨gx, gy, A1, c1, A2, c2, rfl, rfl, hne, mx, my, hkgx, hkgy, rx, ry, hdis, hB⟩
        · go_simp
          obtain ⟨gy, hg⟩ : ∃ g, g = V2.heap.size := ⟨_, rfl⟩
          have ma := heldA (.cells #[.bool false, .slice none 0 0, .int .i64 0] 24) ma
          have mb := heldA (.cells #[.bool false, .slice none 0 0, .int .i64 0] 24) mb
          have my := World.alloc_heap_new V2 (.cells #[.bool false, .slice none 0 0, .int .i64 0] 24)
          rw [← hg] at my
          have rx := rx.below ((Below.refl V2.heap.size V2).alloc (Nat.le_refl _) (.cells #[.bool false, .slice none 0 0, .int .i64 0] 24)) (Nat.le_refl _)
          have ry := ry.below ((Below.refl V2.heap.size V2).alloc (Nat.le_refl _) (.cells #[.bool false, .slice none 0 0, .int .i64 0] 24)) (Nat.le_refl _)
          have hsz : (V2.alloc (.cells #[.bool false, .slice none 0 0, .int .i64 0] 24)).heap.size = V2.heap.size + 1 := by simp
          have hlx : ∀ g, A1 = some ⟨g, 0, none⟩ → g < (V2.alloc (.cells #[.bool false, .slice none 0 0, .int .i64 0] 24)).heap.size := fun g q => by have := hlx g q; omega
          have hkgy : w1.heap.size ≤ gy := by have := hB.size; omega
          have hB := hB.alloc hB.size (.cells #[.bool false, .slice none 0 0, .int .i64 0] 24)
          have hW := hW.alloc hW.size (.cells #[.bool false, .slice none 0 0, .int .i64 0] 24)
          obtain ⟨x0, x1, x2⟩ := box3_of ma
          obtain ⟨x3, x4, x5⟩ := box3_of mb
          refine hK.out _ _ ⟨x0, x1, x2, x3, x4, x5⟩ (fun _ => ?_)
          clear hK K x0 x1 x2 x3 x4 x5
          try simp only [Act.put, List.setIfInBounds_toArray, List.set_cons_zero, List.set_cons_succ]
          try rw [← hg]
          generalize hU : V2.alloc (.cells #[.bool false, .slice none 0 0, .int .i64 0] 24) = V5 at *
          clear hU
          have hlgy : gy < V5.heap.size := by omega
          clear hg hsz
          have hBs0 : w1.heap.size ≤ V5.heap.size := hB.size
          refine wpAnyH_ready (rs := [4]) (by kernel_rfl) (by simp) ?_
          refine (AllReadyH.cons (o := ⟨_, _, _, _, _, _⟩) rfl (fun K hK => ?_) AllReadyH.nil)
          · go_simp
            obtain ⟨gx, hg⟩ : ∃ g, g = V5.heap.size := ⟨_, rfl⟩
            have ma := heldA (.cells #[.bool false, .slice none 0 0, .int .i64 0] 24) ma
            have mb := heldA (.cells #[.bool false, .slice none 0 0, .int .i64 0] 24) mb
            have my := heldA (.cells #[.bool false, .slice none 0 0, .int .i64 0] 24) my
            have mx := World.alloc_heap_new V5 (.cells #[.bool false, .slice none 0 0, .int .i64 0] 24)
            rw [← hg] at mx
            have rx := rx.below ((Below.refl V5.heap.size V5).alloc (Nat.le_refl _) (.cells #[.bool false, .slice none 0 0, .int .i64 0] 24)) (Nat.le_refl _)
            have ry := ry.below ((Below.refl V5.heap.size V5).alloc (Nat.le_refl _) (.cells #[.bool false, .slice none 0 0, .int .i64 0] 24)) (Nat.le_refl _)
            have hsz : (V5.alloc (.cells #[.bool false, .slice none 0 0, .int .i64 0] 24)).heap.size = V5.heap.size + 1 := by simp
            have hlx : ∀ g, A1 = some ⟨g, 0, none⟩ → g < (V5.alloc (.cells #[.bool false, .slice none 0 0, .int .i64 0] 24)).heap.size := fun g q => by have := hlx g q; omega
            have hkgx : w1.heap.size ≤ gx := by have := hB.size; omega
            have hB := hB.alloc hB.size (.cells #[.bool false, .slice none 0 0, .int .i64 0] 24)
            have hW := hW.alloc hW.size (.cells #[.bool false, .slice none 0 0, .int .i64 0] 24)
            obtain ⟨x0, x1, x2⟩ := box3_of ma
            obtain ⟨x3, x4, x5⟩ := box3_of mb
            refine hK.out _ _ ⟨x0, x1, x2, x3, x4, x5⟩ (fun _ => ?_)
            clear hK K x0 x1 x2 x3 x4 x5
            try simp only [Act.put, List.setIfInBounds_toArray, List.set_cons_zero, List.set_cons_succ]
            try rw [← hg]
            generalize hU : V5.alloc (.cells #[.bool false, .slice none 0 0, .int .i64 0] 24) = V6 at *
            clear hU
            have hlgx : gx < V6.heap.size := by omega
            have hne : gx ≠ gy := by omega
            have hlgy : gy < V6.heap.size := by omega
            clear hg hsz
            have hBs0 : w1.heap.size ≤ V6.heap.size := hB.size
            have hnxx := rx.ne_box mx ty_ne
            have hnxy := rx.ne_box my ty_ne
            have hnyx := ry.ne_box mx ty_ne
            have hnyy := ry.ne_box my ty_ne
            have hsw1 : w.heap.size + 1 < w1.heap.size := (Array.getElem?_eq_some_iff.1 mb1).1
            refine wpAnyH_ready (rs := [6]) (by kernel_rfl) (by simp) (AllReadyH.cons (o := ⟨_, _, _, _, _, _⟩) rfl (fun K hK => ?_) AllReadyH.nil)
            obtain ⟨t0, t1, t2⟩ := box3_of mx
            have f0 := frozen_of 0 mx
            have f1 := frozen_of 1 mx
            have f2 := frozen_of 2 mx
            go_simp
            clear t0 t1 t2 f0 f1 f2
            have mx := set_blk (v := .bool na) (i := 0) mx rfl
            have ma := set_other (i := 0) ma (show w.heap.size ≠ gx by omega) (.bool na)
            have mb := set_other (i := 0) mb (show w.heap.size + 1 ≠ gx by omega) (.bool na)
            have my := set_other (i := 0) my (show gy ≠ gx by omega) (.bool na)
            have rx := rx.setNe (p := ⟨gx, 0, none⟩) hnxx (.bool na)
            have ry := ry.setNe (p := ⟨gx, 0, none⟩) hnyx (.bool na)
            have hB := hB.setCell (p := ⟨gx, 0, none⟩) hkgx (.bool na)
            have mx := set_blk (v := .slice A1 n c1) (i := 1) mx rfl
            have ma := set_other (i := 1) ma (show w.heap.size ≠ gx by omega) (.slice A1 n c1)
            have mb := set_other (i := 1) mb (show w.heap.size + 1 ≠ gx by omega) (.slice A1 n c1)
            have my := set_other (i := 1) my (show gy ≠ gx by omega) (.slice A1 n c1)
            have rx := rx.setNe (p := ⟨gx, 1, none⟩) hnxx (.slice A1 n c1)
            have ry := ry.setNe (p := ⟨gx, 1, none⟩) hnyx (.slice A1 n c1)
            have hB := hB.setCell (p := ⟨gx, 1, none⟩) hkgx (.slice A1 n c1)
            have mx := set_blk (v := .int .i64 e1) (i := 2) mx rfl
            have ma := set_other (i := 2) ma (show w.heap.size ≠ gx by omega) (.int .i64 e1)
            have mb := set_other (i := 2) mb (show w.heap.size + 1 ≠ gx by omega) (.int .i64 e1)
            have my := set_other (i := 2) my (show gy ≠ gx by omega) (.int .i64 e1)
            have rx := rx.setNe (p := ⟨gx, 2, none⟩) hnxx (.int .i64 e1)
            have ry := ry.setNe (p := ⟨gx, 2, none⟩) hnyx (.int .i64 e1)
            have hB := hB.setCell (p := ⟨gx, 2, none⟩) hkgx (.int .i64 e1)
            obtain ⟨x0, x1, x2⟩ := box3_of ma
            obtain ⟨x3, x4, x5⟩ := box3_of mb
            refine hK.out _ _ ⟨x0, x1, x2, x3, x4, x5⟩ (fun _ => ?_)
            clear hK K x0 x1 x2 x3 x4 x5
            try simp only [Act.put, List.setIfInBounds_toArray, List.set_cons_zero, List.set_cons_succ]
            refine wpAnyH_ready (rs := [7]) (by kernel_rfl) (by simp) (AllReadyH.cons (o := ⟨_, _, _, _, _, _⟩) rfl (fun K hK => ?_) AllReadyH.nil)
            obtain ⟨t0, t1, t2⟩ := box3_of my
            have f0 := frozen_of 0 my
            have f1 := frozen_of 1 my
            have f2 := frozen_of 2 my
            go_simp
            clear t0 t1 t2 f0 f1 f2
            have my := set_blk (v := .bool nb) (i := 0) my rfl
            have ma := set_other (i := 0) ma (show w.heap.size ≠ gy by omega) (.bool nb)
            have mb := set_other (i := 0) mb (show w.heap.size + 1 ≠ gy by omega) (.bool nb)
            have mx := set_other (i := 0) mx (show gx ≠ gy by omega) (.bool nb)
            have rx := rx.setNe (p := ⟨gy, 0, none⟩) hnxy (.bool nb)
            have ry := ry.setNe (p := ⟨gy, 0, none⟩) hnyy (.bool nb)
            have hB := hB.setCell (p := ⟨gy, 0, none⟩) hkgy (.bool nb)
            have my := set_blk (v := .slice A2 m c2) (i := 1) my rfl
            have ma := set_other (i := 1) ma (show w.heap.size ≠ gy by omega) (.slice A2 m c2)
            have mb := set_other (i := 1) mb (show w.heap.size + 1 ≠ gy by omega) (.slice A2 m c2)
            have mx := set_other (i := 1) mx (show gx ≠ gy by omega) (.slice A2 m c2)
            have rx := rx.setNe (p := ⟨gy, 1, none⟩) hnxy (.slice A2 m c2)
            have ry := ry.setNe (p := ⟨gy, 1, none⟩) hnyy (.slice A2 m c2)
            have hB := hB.setCell (p := ⟨gy, 1, none⟩) hkgy (.slice A2 m c2)
            have my := set_blk (v := .int .i64 e2) (i := 2) my rfl
            have ma := set_other (i := 2) ma (show w.heap.size ≠ gy by omega) (.int .i64 e2)
            have mb := set_other (i := 2) mb (show w.heap.size + 1 ≠ gy by omega) (.int .i64 e2)
            have mx := set_other (i := 2) mx (show gx ≠ gy by omega) (.int .i64 e2)
            have rx := rx.setNe (p := ⟨gy, 2, none⟩) hnxy (.int .i64 e2)
            have ry := ry.setNe (p := ⟨gy, 2, none⟩) hnyy (.int .i64 e2)
            have hB := hB.setCell (p := ⟨gy, 2, none⟩) hkgy (.int .i64 e2)
            obtain ⟨x0, x1, x2⟩ := box3_of ma
            obtain ⟨x3, x4, x5⟩ := box3_of mb
            refine hK.out _ _ ⟨x0, x1, x2, x3, x4, x5⟩ (fun _ => ?_)
            clear hK K x0 x1 x2 x3 x4 x5
            try simp only [Act.put, List.setIfInBounds_toArray, List.set_cons_zero, List.set_cons_succ]
            refine wpAnyH_done (by kernel_rfl) ?_ _
            go_wp2
            go_meet
            exact ⟨gx, gy, A1, c1, A2, c2, rfl, rfl, hne, mx, my, hkgx, hkgy, rx, ry, hdis, hB⟩
      · go_simp
        obtain ⟨gx, hg⟩ : ∃ g, g = V1.heap.size := ⟨_, rfl⟩
        have ma := heldA (.cells #[.bool false, .slice none 0 0, .int .i64 0] 24) ma
        have mb := heldA (.cells #[.bool false, .slice none 0 0, .int .i64 0] 24) mb
        have mx := World.alloc_heap_new V1 (.cells #[.bool false, .slice none 0 0, .int .i64 0] 24)
        rw [← hg] at mx
        have rx := rx.below ((Below.refl V1.heap.size V1).alloc (Nat.le_refl _) (.cells #[.bool false, .slice none 0 0, .int .i64 0] 24)) (Nat.le_refl _)
        have hsz : (V1.alloc (.cells #[.bool false, .slice none 0 0, .int .i64 0] 24)).heap.size = V1.heap.size + 1 := by simp
        have hlx : ∀ g, A1 = some ⟨g, 0, none⟩ → g < (V1.alloc (.cells #[.bool false, .slice none 0 0, .int .i64 0] 24)).heap.size := fun g q => by have := hlx g q; omega
        have hkgx : w1.heap.size ≤ gx := by have := hB.size; omega
        have hB := hB.alloc hB.size (.cells #[.bool false, .slice none 0 0, .int .i64 0] 24)
        have hW := hW.alloc hW.size (.cells #[.bool false, .slice none 0 0, .int .i64 0] 24)
        obtain ⟨x0, x1, x2⟩ := box3_of ma
        obtain ⟨x3, x4, x5⟩ := box3_of mb
        refine hK.out _ _ ⟨x0, x1, x2, x3, x4, x5⟩ (fun _ => ?_)
        clear hK K x0 x1 x2 x3 x4 x5
        try simp only [Act.put, List.setIfInBounds_toArray, List.set_cons_zero, List.set_cons_succ]
        try rw [← hg]
        generalize hU : V1.alloc (.cells #[.bool false, .slice none 0 0, .int .i64 0] 24) = V7 at *
        clear hU
        have hlgx : gx < V7.heap.size := by omega
        clear hg hsz
        have hBs0 : w1.heap.size ≤ V7.heap.size := hB.size
        refine wpAnyH_ready (rs := [3, 5]) (by kernel_rfl) (by simp) ?_
        refine (AllReadyH.cons (o := ⟨_, _, _, _, _, _⟩) rfl (fun K hK => ?_) (AllReadyH.cons (o := ⟨_, _, _, _, _, _⟩) rfl (fun K hK => ?_) AllReadyH.nil))
        · go_simp
          refine (OB.out V7 (hb.below hW hS) (fun b h => up hW b h)).mono ?_
          rintro e V8 ⟨A2, c2, rfl, ry, hb0⟩
          have ma := heldz hb0 ma
          have mb := heldz hb0 mb
          have mx := heldz hb0 mx
          have rx := rx.below hb0 (Nat.le_refl _)
          have hdis : ∀ g, A1 = some ⟨g, 0, none⟩ → A2 = some ⟨g, 0, none⟩ → False := by
            intro g q1 q2
            subst q1 q2
            rcases ry.form with ⟨z, _⟩ | ⟨g3, z, z2, _⟩
            · cases z
            · injection z with z; injection z with z
              have := hlx g rfl; omega
          have hB := hB.trans (hb0.mono hB.size)
          have hW := hW.trans (hb0.mono hW.size)
          have ry := ry.more (base' := w1.heap.size) hBs0
          have hlx : ∀ g, A1 = some ⟨g, 0, none⟩ → g < V8.heap.size := fun g q => Nat.lt_of_lt_of_le (hlx g q) hb0.size
          (try dsimp only)
          obtain ⟨x0, x1, x2⟩ := box3_of ma
          obtain ⟨x3, x4, x5⟩ := box3_of mb
          refine hK.out _ _ ⟨x0, x1, x2, x3, x4, x5⟩ (fun _ => ?_)
          clear hK K x0 x1 x2 x3 x4 x5
          try simp only [Act.put, List.setIfInBounds_toArray, List.set_cons_zero, List.set_cons_succ]
          have hlgx : gx < V8.heap.size := Nat.lt_of_lt_of_le hlgx hb0.size
          have hBs0 : w1.heap.size ≤ V8.heap.size := hB.size
          refine wpAnyH_ready (rs := [5]) (by kernel_rfl) (by simp) ?_
          refine (AllReadyH.cons (o := ⟨_, _, _, _, _, _⟩) rfl (fun K hK => ?_) AllReadyH.nil)
          · go_simp
            obtain ⟨gy, hg⟩ : ∃ g, g = V8.heap.size := ⟨_, rfl⟩
            have ma := heldA (.cells #[.bool false, .slice none 0 0, .int .i64 0] 24) ma
            have mb := heldA (.cells #[.bool false, .slice none 0 0, .int .i64 0] 24) mb
            have mx := heldA (.cells #[.bool false, .slice none 0 0, .int .i64 0] 24) mx
            have my := World.alloc_heap_new V8 (.cells #[.bool false, .slice none 0 0, .int .i64 0] 24)
            rw [← hg] at my
            have rx := rx.below ((Below.refl V8.heap.size V8).alloc (Nat.le_refl _) (.cells #[.bool false, .slice none 0 0, .int .i64 0] 24)) (Nat.le_refl _)
            have ry := ry.below ((Below.refl V8.heap.size V8).alloc (Nat.le_refl _) (.cells #[.bool false, .slice none 0 0, .int .i64 0] 24)) (Nat.le_refl _)
            have hsz : (V8.alloc (.cells #[.bool false, .slice none 0 0, .int .i64 0] 24)).heap.size = V8.heap.size + 1 := by simp
            have hlx : ∀ g, A1 = some ⟨g, 0, none⟩ → g < (V8.alloc (.cells #[.bool false, .slice none 0 0, .int .i64 0] 24)).heap.size := fun g q => by have := hlx g q; omega
            have hkgy : w1.heap.size ≤ gy := by have := hB.size; omega
            have hB := hB.alloc hB.size (.cells #[.bool false, .slice none 0 0, .int .i64 0] 24)
            have hW := hW.alloc hW.size (.cells #[.bool false, .slice none 0 0, .int .i64 0] 24)
            obtain ⟨x0, x1, x2⟩ := box3_of ma
            obtain ⟨x3, x4, x5⟩ := box3_of mb
            refine hK.out _ _ ⟨x0, x1, x2, x3, x4, x5⟩ (fun _ => ?_)
            clear hK K x0 x1 x2 x3 x4 x5
            try simp only [Act.put, List.setIfInBounds_toArray, List.set_cons_zero, List.set_cons_succ]
            try rw [← hg]
            generalize hU : V8.alloc (.cells #[.bool false, .slice none 0 0, .int .i64 0] 24) = V9 at *
            clear hU
            have hlgy : gy < V9.heap.size := by omega
            have hne : gx ≠ gy := by omega
            have hlgx : gx < V9.heap.size := by omega
            clear hg hsz
            have hBs0 : w1.heap.size ≤ V9.heap.size := hB.size
            have hnxx := rx.ne_box mx ty_ne
            have hnxy := rx.ne_box my ty_ne
            have hnyx := ry.ne_box mx ty_ne
            have hnyy := ry.ne_box my ty_ne
            have hsw1 : w.heap.size + 1 < w1.heap.size := (Array.getElem?_eq_some_iff.1 mb1).1
            refine wpAnyH_ready (rs := [6]) (by kernel_rfl) (by simp) (AllReadyH.cons (o := ⟨_, _, _, _, _, _⟩) rfl (fun K hK => ?_) AllReadyH.nil)
            obtain ⟨t0, t1, t2⟩ := box3_of mx
            have f0 := frozen_of 0 mx
            have f1 := frozen_of 1 mx
            have f2 := frozen_of 2 mx
            go_simp
            clear t0 t1 t2 f0 f1 f2
            have mx := set_blk (v := .bool na) (i := 0) mx rfl
            have ma := set_other (i := 0) ma (show w.heap.size ≠ gx by omega) (.bool na)
            have mb := set_other (i := 0) mb (show w.heap.size + 1 ≠ gx by omega) (.bool na)
            have my := set_other (i := 0) my (show gy ≠ gx by omega) (.bool na)
            have rx := rx.setNe (p := ⟨gx, 0, none⟩) hnxx (.bool na)
            have ry := ry.setNe (p := ⟨gx, 0, none⟩) hnyx (.bool na)
            have hB := hB.setCell (p := ⟨gx, 0, none⟩) hkgx (.bool na)
            have mx := set_blk (v := .slice A1 n c1) (i := 1) mx rfl
            have ma := set_other (i := 1) ma (show w.heap.size ≠ gx by omega) (.slice A1 n c1)
            have mb := set_other (i := 1) mb (show w.heap.size + 1 ≠ gx by omega) (.slice A1 n c1)
            have my := set_other (i := 1) my (show gy ≠ gx by omega) (.slice A1 n c1)
            have rx := rx.setNe (p := ⟨gx, 1, none⟩) hnxx (.slice A1 n c1)
            have ry := ry.setNe (p := ⟨gx, 1, none⟩) hnyx (.slice A1 n c1)
            have hB := hB.setCell (p := ⟨gx, 1, none⟩) hkgx (.slice A1 n c1)
            have mx := set_blk (v := .int .i64 e1) (i := 2) mx rfl
            have ma := set_other (i := 2) ma (show w.heap.size ≠ gx by omega) (.int .i64 e1)
            have mb := set_other (i := 2) mb (show w.heap.size + 1 ≠ gx by omega) (.int .i64 e1)
            have my := set_other (i := 2) my (show gy ≠ gx by omega) (.int .i64 e1)
            have rx := rx.setNe (p := ⟨gx, 2, none⟩) hnxx (.int .i64 e1)
            have ry := ry.setNe (p := ⟨gx, 2, none⟩) hnyx (.int .i64 e1)
            have hB := hB.setCell (p := ⟨gx, 2, none⟩) hkgx (.int .i64 e1)
            obtain ⟨x0, x1, x2⟩ := box3_of ma
            obtain ⟨x3, x4, x5⟩ := box3_of mb
            refine hK.out _ _ ⟨x0, x1, x2, x3, x4, x5⟩ (fun _ => ?_)
            clear hK K x0 x1 x2 x3 x4 x5
            try simp only [Act.put, List.setIfInBounds_toArray, List.set_cons_zero, List.set_cons_succ]
            refine wpAnyH_ready (rs := [7]) (by kernel_rfl) (by simp) (AllReadyH.cons (o := ⟨_, _, _, _, _, _⟩) rfl (fun K hK => ?_) AllReadyH.nil)
            obtain ⟨t0, t1, t2⟩ := box3_of my
            have f0 := frozen_of 0 my
            have f1 := frozen_of 1 my
            have f2 := frozen_of 2 my
            go_simp
            clear t0 t1 t2 f0 f1 f2
            have my := set_blk (v := .bool nb) (i := 0) my rfl
            have ma := set_other (i := 0) ma (show w.heap.size ≠ gy by omega) (.bool nb)
            have mb := set_other (i := 0) mb (show w.heap.size + 1 ≠ gy by omega) (.bool nb)
            have mx := set_other (i := 0) mx (show gx ≠ gy by omega) (.bool nb)
            have rx := rx.setNe (p := ⟨gy, 0, none⟩) hnxy (.bool nb)
            have ry := ry.setNe (p := ⟨gy, 0, none⟩) hnyy (.bool nb)
            have hB := hB.setCell (p := ⟨gy, 0, none⟩) hkgy (.bool nb)
            have my := set_blk (v := .slice A2 m c2) (i := 1) my rfl
            have ma := set_other (i := 1) ma (show w.heap.size ≠ gy by omega) (.slice A2 m c2)
            have mb := set_other (i := 1) mb (show w.heap.size + 1 ≠ gy by omega) (.slice A2 m c2)
            have mx := set_other (i := 1) mx (show gx ≠ gy by omega) (.slice A2 m c2)
            have rx := rx.setNe (p := ⟨gy, 1, none⟩) hnxy (.slice A2 m c2)
            have ry := ry.setNe (p := ⟨gy, 1, none⟩) hnyy (.slice A2 m c2)
            have hB := hB.setCell (p := ⟨gy, 1, none⟩) hkgy (.slice A2 m c2)
            have my := set_blk (v := .int .i64 e2) (i := 2) my rfl
            have ma := set_other (i := 2) ma (show w.heap.size ≠ gy by omega) (.int .i64 e2)
            have mb := set_other (i := 2) mb (show w.heap.size + 1 ≠ gy by omega) (.int .i64 e2)
            have mx := set_other (i := 2) mx (show gx ≠ gy by omega) (.int .i64 e2)
            have rx := rx.setNe (p := ⟨gy, 2, none⟩) hnxy (.int .i64 e2)
            have ry := ry.setNe (p := ⟨gy, 2, none⟩) hnyy (.int .i64 e2)
            have hB := hB.setCell (p := ⟨gy, 2, none⟩) hkgy (.int .i64 e2)
            obtain ⟨x0, x1, x2⟩ := box3_of ma
            obtain ⟨x3, x4, x5⟩ := box3_of mb
            refine hK.out _ _ ⟨x0, x1, x2, x3, x4, x5⟩ (fun _ => ?_)
            clear hK K x0 x1 x2 x3 x4 x5
            try simp only [Act.put, List.setIfInBounds_toArray, List.set_cons_zero, List.set_cons_succ]
            refine wpAnyH_done (by kernel_rfl) ?_ _
            go_wp2
            go_meet
            exact ⟨gx, gy, A1, c1, A2, c2, rfl, rfl, hne, mx, my, hkgx, hkgy, rx, ry, hdis, hB⟩
        · go_simp
          obtain ⟨gy, hg⟩ : ∃ g, g = V7.heap.size := ⟨_, rfl⟩
          have ma := heldA (.cells #[.bool false, .slice none 0 0, .int .i64 0] 24) ma
          have mb := heldA (.cells #[.bool false, .slice none 0 0, .int .i64 0] 24) mb
          have mx := heldA (.cells #[.bool false, .slice none 0 0, .int .i64 0] 24) mx
          have my := World.alloc_heap_new V7 (.cells #[.bool false, .slice none 0 0, .int .i64 0] 24)
          rw [← hg] at my
          have rx := rx.below ((Below.refl V7.heap.size V7).alloc (Nat.le_refl _) (.cells #[.bool false, .slice none 0 0, .int .i64 0] 24)) (Nat.le_refl _)
          have hsz : (V7.alloc (.cells #[.bool false, .slice none 0 0, .int .i64 0] 24)).heap.size = V7.heap.size + 1 := by simp
          have hlx : ∀ g, A1 = some ⟨g, 0, none⟩ → g < (V7.alloc (.cells #[.bool false, .slice none 0 0, .int .i64 0] 24)).heap.size := fun g q => by have := hlx g q; omega
          have hkgy : w1.heap.size ≤ gy := by have := hB.size; omega
          have hB := hB.alloc hB.size (.cells #[.bool false, .slice none 0 0, .int .i64 0] 24)
          have hW := hW.alloc hW.size (.cells #[.bool false, .slice none 0 0, .int .i64 0] 24)
          obtain ⟨x0, x1, x2⟩ := box3_of ma
          obtain ⟨x3, x4, x5⟩ := box3_of mb
          refine hK.out _ _ ⟨x0, x1, x2, x3, x4, x5⟩ (fun _ => ?_)
          clear hK K x0 x1 x2 x3 x4 x5
          try simp only [Act.put, List.setIfInBounds_toArray, List.set_cons_zero, List.set_cons_succ]
          try rw [← hg]
          generalize hU : V7.alloc (.cells #[.bool false, .slice none 0 0, .int .i64 0] 24) = V10 at *
          clear hU
          have hlgy : gy < V10.heap.size := by omega
          have hne : gx ≠ gy := by omega
          have hlgx : gx < V10.heap.size := by omega
          clear hg hsz
          have hBs0 : w1.heap.size ≤ V10.heap.size := hB.size
          refine wpAnyH_ready (rs := [3]) (by kernel_rfl) (by simp) ?_
          refine (AllReadyH.cons (o := ⟨_, _, _, _, _, _⟩) rfl (fun K hK => ?_) AllReadyH.nil)
          · go_simp
            refine (OB.out V10 (hb.below hW hS) (fun b h => up hW b h)).mono ?_
            rintro e V11 ⟨A2, c2, rfl, ry, hb0⟩
            have ma := heldz hb0 ma
            have mb := heldz hb0 mb
            have mx := heldz hb0 mx
            have my := heldz hb0 my
            have rx := rx.below hb0 (Nat.le_refl _)
            have hdis : ∀ g, A1 = some ⟨g, 0, none⟩ → A2 = some ⟨g, 0, none⟩ → False := by
              intro g q1 q2
              subst q1 q2
              rcases ry.form with ⟨z, _⟩ | ⟨g3, z, z2, _⟩
              · cases z
              · injection z with z; injection z with z
                have := hlx g rfl; omega
            have hB := hB.trans (hb0.mono hB.size)
            have hW := hW.trans (hb0.mono hW.size)
            have ry := ry.more (base' := w1.heap.size) hBs0
            have hlx : ∀ g, A1 = some ⟨g, 0, none⟩ → g < V11.heap.size := fun g q => Nat.lt_of_lt_of_le (hlx g q) hb0.size
            (try dsimp only)
            obtain ⟨x0, x1, x2⟩ := box3_of ma
            obtain ⟨x3, x4, x5⟩ := box3_of mb
            refine hK.out _ _ ⟨x0, x1, x2, x3, x4, x5⟩ (fun _ => ?_)
            clear hK K x0 x1 x2 x3 x4 x5
            try simp only [Act.put, List.setIfInBounds_toArray, List.set_cons_zero, List.set_cons_succ]
            have hlgx : gx < V11.heap.size := Nat.lt_of_lt_of_le hlgx hb0.size
            have hlgy : gy < V11.heap.size := Nat.lt_of_lt_of_le hlgy hb0.size
            have hBs0 : w1.heap.size ≤ V11.heap.size := hB.size
            have hnxx := rx.ne_box mx ty_ne
            have hnxy := rx.ne_box my ty_ne
            have hnyx := ry.ne_box mx ty_ne
            have hnyy := ry.ne_box my ty_ne
            have hsw1 : w.heap.size + 1 < w1.heap.size := (Array.getElem?_eq_some_iff.1 mb1).1
            refine wpAnyH_ready (rs := [6]) (by kernel_rfl) (by simp) (AllReadyH.cons (o := ⟨_, _, _, _, _, _⟩) rfl (fun K hK => ?_) AllReadyH.nil)
            obtain ⟨t0, t1, t2⟩ := box3_of mx
            have f0 := frozen_of 0 mx
            have f1 := frozen_of 1 mx
            have f2 := frozen_of 2 mx
            go_simp
            clear t0 t1 t2 f0 f1 f2
            have mx := set_blk (v := .bool na) (i := 0) mx rfl
            have ma := set_other (i := 0) ma (show w.heap.size ≠ gx by omega) (.bool na)
            have mb := set_other (i := 0) mb (show w.heap.size + 1 ≠ gx by omega) (.bool na)
            have my := set_other (i := 0) my (show gy ≠ gx by omega) (.bool na)
            have rx := rx.setNe (p := ⟨gx, 0, none⟩) hnxx (.bool na)
            have ry := ry.setNe (p := ⟨gx, 0, none⟩) hnyx (.bool na)
            have hB := hB.setCell (p := ⟨gx, 0, none⟩) hkgx (.bool na)
            have mx := set_blk (v := .slice A1 n c1) (i := 1) mx rfl
            have ma := set_other (i := 1) ma (show w.heap.size ≠ gx by omega) (.slice A1 n c1)
            have mb := set_other (i := 1) mb (show w.heap.size + 1 ≠ gx by omega) (.slice A1 n c1)
            have my := set_other (i := 1) my (show gy ≠ gx by omega) (.slice A1 n c1)
            have rx := rx.setNe (p := ⟨gx, 1, none⟩) hnxx (.slice A1 n c1)
            have ry := ry.setNe (p := ⟨gx, 1, none⟩) hnyx (.slice A1 n c1)
            have hB := hB.setCell (p := ⟨gx, 1, none⟩) hkgx (.slice A1 n c1)
            have mx := set_blk (v := .int .i64 e1) (i := 2) mx rfl
            have ma := set_other (i := 2) ma (show w.heap.size ≠ gx by omega) (.int .i64 e1)
            have mb := set_other (i := 2) mb (show w.heap.size + 1 ≠ gx by omega) (.int .i64 e1)
            have my := set_other (i := 2) my (show gy ≠ gx by omega) (.int .i64 e1)
            have rx := rx.setNe (p := ⟨gx, 2, none⟩) hnxx (.int .i64 e1)
            have ry := ry.setNe (p := ⟨gx, 2, none⟩) hnyx (.int .i64 e1)
            have hB := hB.setCell (p := ⟨gx, 2, none⟩) hkgx (.int .i64 e1)
            obtain ⟨x0, x1, x2⟩ := box3_of ma
            obtain ⟨x3, x4, x5⟩ := box3_of mb
            refine hK.out _ _ ⟨x0, x1, x2, x3, x4, x5⟩ (fun _ => ?_)
            clear hK K x0 x1 x2 x3 x4 x5
            try simp only [Act.put, List.setIfInBounds_toArray, List.set_cons_zero, List.set_cons_succ]
            refine wpAnyH_ready (rs := [7]) (by kernel_rfl) (by simp) (AllReadyH.cons (o := ⟨_, _, _, _, _, _⟩) rfl (fun K hK => ?_) AllReadyH.nil)
            obtain ⟨t0, t1, t2⟩ := box3_of my
            have f0 := frozen_of 0 my
            have f1 := frozen_of 1 my
            have f2 := frozen_of 2 my
            go_simp
            clear t0 t1 t2 f0 f1 f2
            have my := set_blk (v := .bool nb) (i := 0) my rfl
            have ma := set_other (i := 0) ma (show w.heap.size ≠ gy by omega) (.bool nb)
            have mb := set_other (i := 0) mb (show w.heap.size + 1 ≠ gy by omega) (.bool nb)
            have mx := set_other (i := 0) mx (show gx ≠ gy by omega) (.bool nb)
            have rx := rx.setNe (p := ⟨gy, 0, none⟩) hnxy (.bool nb)
            have ry := ry.setNe (p := ⟨gy, 0, none⟩) hnyy (.bool nb)
            have hB := hB.setCell (p := ⟨gy, 0, none⟩) hkgy (.bool nb)
            have my := set_blk (v := .slice A2 m c2) (i := 1) my rfl
            have ma := set_other (i := 1) ma (show w.heap.size ≠ gy by omega) (.slice A2 m c2)
            have mb := set_other (i := 1) mb (show w.heap.size + 1 ≠ gy by omega) (.slice A2 m c2)
            have mx := set_other (i := 1) mx (show gx ≠ gy by omega) (.slice A2 m c2)
            have rx := rx.setNe (p := ⟨gy, 1, none⟩) hnxy (.slice A2 m c2)
            have ry := ry.setNe (p := ⟨gy, 1, none⟩) hnyy (.slice A2 m c2)
            have hB := hB.setCell (p := ⟨gy, 1, none⟩) hkgy (.slice A2 m c2)
            have my := set_blk (v := .int .i64 e2) (i := 2) my rfl
            have ma := set_other (i := 2) ma (show w.heap.size ≠ gy by omega) (.int .i64 e2)
            have mb := set_other (i := 2) mb (show w.heap.size + 1 ≠ gy by omega) (.int .i64 e2)
            have mx := set_other (i := 2) mx (show gx ≠ gy by omega) (.int .i64 e2)
            have rx := rx.setNe (p := ⟨gy, 2, none⟩) hnxy (.int .i64 e2)
            have ry := ry.setNe (p := ⟨gy, 2, none⟩) hnyy (.int .i64 e2)
            have hB := hB.setCell (p := ⟨gy, 2, none⟩) hkgy (.int .i64 e2)
            obtain ⟨x0, x1, x2⟩ := box3_of ma
            obtain ⟨x3, x4, x5⟩ := box3_of mb
            refine hK.out _ _ ⟨x0, x1, x2, x3, x4, x5⟩ (fun _ => ?_)
            clear hK K x0 x1 x2 x3 x4 x5
            try simp only [Act.put, List.setIfInBounds_toArray, List.set_cons_zero, List.set_cons_succ]
            refine wpAnyH_done (by kernel_rfl) ?_ _
            go_wp2
            go_meet
            exact ⟨gx, gy, A1, c1, A2, c2, rfl, rfl, hne, mx, my, hkgx, hkgy, rx, ry, hdis, hB⟩
      · go_simp
        obtain ⟨gy, hg⟩ : ∃ g, g = V1.heap.size := ⟨_, rfl⟩
        have ma := heldA (.cells #[.bool false, .slice none 0 0, .int .i64 0] 24) ma
        have mb := heldA (.cells #[.bool false, .slice none 0 0, .int .i64 0] 24) mb
        have my := World.alloc_heap_new V1 (.cells #[.bool false, .slice none 0 0, .int .i64 0] 24)
        rw [← hg] at my
        have rx := rx.below ((Below.refl V1.heap.size V1).alloc (Nat.le_refl _) (.cells #[.bool false, .slice none 0 0, .int .i64 0] 24)) (Nat.le_refl _)
        have hsz : (V1.alloc (.cells #[.bool false, .slice none 0 0, .int .i64 0] 24)).heap.size = V1.heap.size + 1 := by simp
        have hlx : ∀ g, A1 = some ⟨g, 0, none⟩ → g < (V1.alloc (.cells #[.bool false, .slice none 0 0, .int .i64 0] 24)).heap.size := fun g q => by have := hlx g q; omega
        have hkgy : w1.heap.size ≤ gy := by have := hB.size; omega
        have hB := hB.alloc hB.size (.cells #[.bool false, .slice none 0 0, .int .i64 0] 24)
        have hW := hW.alloc hW.size (.cells #[.bool false, .slice none 0 0, .int .i64 0] 24)
        obtain ⟨x0, x1, x2⟩ := box3_of ma
        obtain ⟨x3, x4, x5⟩ := box3_of mb
        refine hK.out _ _ ⟨x0, x1, x2, x3, x4, x5⟩ (fun _ => ?_)
        clear hK K x0 x1 x2 x3 x4 x5
        try simp only [Act.put, List.setIfInBounds_toArray, List.set_cons_zero, List.set_cons_succ]
        try rw [← hg]
        generalize hU : V1.alloc (.cells #[.bool false, .slice none 0 0, .int .i64 0] 24) = V12 at *
        clear hU
        have hlgy : gy < V12.heap.size := by omega
        clear hg hsz
        have hBs0 : w1.heap.size ≤ V12.heap.size := hB.size
        refine wpAnyH_ready (rs := [3, 4]) (by kernel_rfl) (by simp) ?_
        refine (AllReadyH.cons (o := ⟨_, _, _, _, _, _⟩) rfl (fun K hK => ?_) (AllReadyH.cons (o := ⟨_, _, _, _, _, _⟩) rfl (fun K hK => ?_) AllReadyH.nil))
        · go_simp
          refine (OB.out V12 (hb.below hW hS) (fun b h => up hW b h)).mono ?_
          rintro e V13 ⟨A2, c2, rfl, ry, hb0⟩
          have ma := heldz hb0 ma
          have mb := heldz hb0 mb
          have my := heldz hb0 my
          have rx := rx.below hb0 (Nat.le_refl _)
          have hdis : ∀ g, A1 = some ⟨g, 0, none⟩ → A2 = some ⟨g, 0, none⟩ → False := by
            intro g q1 q2
            subst q1 q2
            rcases ry.form with ⟨z, _⟩ | ⟨g3, z, z2, _⟩
            · cases z
            · injection z with z; injection z with z
              have := hlx g rfl; omega
          have hB := hB.trans (hb0.mono hB.size)
          have hW := hW.trans (hb0.mono hW.size)
          have ry := ry.more (base' := w1.heap.size) hBs0
          have hlx : ∀ g, A1 = some ⟨g, 0, none⟩ → g < V13.heap.size := fun g q => Nat.lt_of_lt_of_le (hlx g q) hb0.size
          (try dsimp only)
          obtain ⟨x0, x1, x2⟩ := box3_of ma
          obtain ⟨x3, x4, x5⟩ := box3_of mb
          refine hK.out _ _ ⟨x0, x1, x2, x3, x4, x5⟩ (fun _ => ?_)
          clear hK K x0 x1 x2 x3 x4 x5
          try simp only [Act.put, List.setIfInBounds_toArray, List.set_cons_zero, List.set_cons_succ]
          have hlgy : gy < V13.heap.size := Nat.lt_of_lt_of_le hlgy hb0.size
          have hBs0 : w1.heap.size ≤ V13.heap.size := hB.size
          refine wpAnyH_ready (rs := [4]) (by kernel_rfl) (by simp) ?_
          refine (AllReadyH.cons (o := ⟨_, _, _, _, _, _⟩) rfl (fun K hK => ?_) AllReadyH.nil)
          · go_simp
            obtain ⟨gx, hg⟩ : ∃ g, g = V13.heap.size := ⟨_, rfl⟩
            have ma := heldA (.cells #[.bool false, .slice none 0 0, .int .i64 0] 24) ma
            have mb := heldA (.cells #[.bool false, .slice none 0 0, .int .i64 0] 24) mb
            have my := heldA (.cells #[.bool false, .slice none 0 0, .int .i64 0] 24) my
            have mx := World.alloc_heap_new V13 (.cells #[.bool false, .slice none 0 0, .int .i64 0] 24)
            rw [← hg] at mx
            have rx := rx.below ((Below.refl V13.heap.size V13).alloc (Nat.le_refl _) (.cells #[.bool false, .slice none 0 0, .int .i64 0] 24)) (Nat.le_refl _)
            have ry := ry.below ((Below.refl V13.heap.size V13).alloc (Nat.le_refl _) (.cells #[.bool false, .slice none 0 0, .int .i64 0] 24)) (Nat.le_refl _)
            have hsz : (V13.alloc (.cells #[.bool false, .slice none 0 0, .int .i64 0] 24)).heap.size = V13.heap.size + 1 := by simp
            have hlx : ∀ g, A1 = some ⟨g, 0, none⟩ → g < (V13.alloc (.cells #[.bool false, .slice none 0 0, .int .i64 0] 24)).heap.size := fun g q => by have := hlx g q; omega
            have hkgx : w1.heap.size ≤ gx := by have := hB.size; omega
            have hB := hB.alloc hB.size (.cells #[.bool false, .slice none 0 0, .int .i64 0] 24)
            have hW := hW.alloc hW.size (.cells #[.bool false, .slice none 0 0, .int .i64 0] 24)
            obtain ⟨x0, x1, x2⟩ := box3_of ma
            obtain ⟨x3, x4, x5⟩ := box3_of mb
            refine hK.out _ _ ⟨x0, x1, x2, x3, x4, x5⟩ (fun _ => ?_)
            clear hK K x0 x1 x2 x3 x4 x5
            try simp only [Act.put, List.setIfInBounds_toArray, List.set_cons_zero, List.set_cons_succ]
            try rw [← hg]
            generalize hU : V13.alloc (.cells #[.bool false, .slice none 0 0, .int .i64 0] 24) = V14 at *
            clear hU
            have hlgx : gx < V14.heap.size := by omega
            have hne : gx ≠ gy := by omega
            have hlgy : gy < V14.heap.size := by omega
            clear hg hsz
            have hBs0 : w1.heap.size ≤ V14.heap.size := hB.size
            have hnxx := rx.ne_box mx ty_ne
            have hnxy := rx.ne_box my ty_ne
            have hnyx := ry.ne_box mx ty_ne
            have hnyy := ry.ne_box my ty_ne
            have hsw1 : w.heap.size + 1 < w1.heap.size := (Array.getElem?_eq_some_iff.1 mb1).1
            refine wpAnyH_ready (rs := [6]) (by kernel_rfl) (by simp) (AllReadyH.cons (o := ⟨_, _, _, _, _, _⟩) rfl (fun K hK => ?_) AllReadyH.nil)
            obtain ⟨t0, t1, t2⟩ := box3_of mx
            have f0 := frozen_of 0 mx
            have f1 := frozen_of 1 mx
            have f2 := frozen_of 2 mx
            go_simp
            clear t0 t1 t2 f0 f1 f2
            have mx := set_blk (v := .bool na) (i := 0) mx rfl
            have ma := set_other (i := 0) ma (show w.heap.size ≠ gx by omega) (.bool na)
            have mb := set_other (i := 0) mb (show w.heap.size + 1 ≠ gx by omega) (.bool na)
            have my := set_other (i := 0) my (show gy ≠ gx by omega) (.bool na)
            have rx := rx.setNe (p := ⟨gx, 0, none⟩) hnxx (.bool na)
            have ry := ry.setNe (p := ⟨gx, 0, none⟩) hnyx (.bool na)
            have hB := hB.setCell (p := ⟨gx, 0, none⟩) hkgx (.bool na)
            have mx := set_blk (v := .slice A1 n c1) (i := 1) mx rfl
            have ma := set_other (i := 1) ma (show w.heap.size ≠ gx by omega) (.slice A1 n c1)
            have mb := set_other (i := 1) mb (show w.heap.size + 1 ≠ gx by omega) (.slice A1 n c1)
            have my := set_other (i := 1) my (show gy ≠ gx by omega) (.slice A1 n c1)
            have rx := rx.setNe (p := ⟨gx, 1, none⟩) hnxx (.slice A1 n c1)
            have ry := ry.setNe (p := ⟨gx, 1, none⟩) hnyx (.slice A1 n c1)
            have hB := hB.setCell (p := ⟨gx, 1, none⟩) hkgx (.slice A1 n c1)
            have mx := set_blk (v := .int .i64 e1) (i := 2) mx rfl
            have ma := set_other (i := 2) ma (show w.heap.size ≠ gx by omega) (.int .i64 e1)
            have mb := set_other (i := 2) mb (show w.heap.size + 1 ≠ gx by omega) (.int .i64 e1)
            have my := set_other (i := 2) my (show gy ≠ gx by omega) (.int .i64 e1)
            have rx := rx.setNe (p := ⟨gx, 2, none⟩) hnxx (.int .i64 e1)
            have ry := ry.setNe (p := ⟨gx, 2, none⟩) hnyx (.int .i64 e1)
            have hB := hB.setCell (p := ⟨gx, 2, none⟩) hkgx (.int .i64 e1)
            obtain ⟨x0, x1, x2⟩ := box3_of ma
            obtain ⟨x3, x4, x5⟩ := box3_of mb
            refine hK.out _ _ ⟨x0, x1, x2, x3, x4, x5⟩ (fun _ => ?_)
            clear hK K x0 x1 x2 x3 x4 x5
            try simp only [Act.put, List.setIfInBounds_toArray, List.set_cons_zero, List.set_cons_succ]
            refine wpAnyH_ready (rs := [7]) (by kernel_rfl) (by simp) (AllReadyH.cons (o := ⟨_, _, _, _, _, _⟩) rfl (fun K hK => ?_) AllReadyH.nil)
            obtain ⟨t0, t1, t2⟩ := box3_of my
            have f0 := frozen_of 0 my
            have f1 := frozen_of 1 my
            have f2 := frozen_of 2 my
            go_simp
            clear t0 t1 t2 f0 f1 f2
            have my := set_blk (v := .bool nb) (i := 0) my rfl
            have ma := set_other (i := 0) ma (show w.heap.size ≠ gy by omega) (.bool nb)
            have mb := set_other (i := 0) mb (show w.heap.size + 1 ≠ gy by omega) (.bool nb)
            have mx := set_other (i := 0) mx (show gx ≠ gy by omega) (.bool nb)
            have rx := rx.setNe (p := ⟨gy, 0, none⟩) hnxy (.bool nb)
            have ry := ry.setNe (p := ⟨gy, 0, none⟩) hnyy (.bool nb)
            have hB := hB.setCell (p := ⟨gy, 0, none⟩) hkgy (.bool nb)
            have my := set_blk (v := .slice A2 m c2) (i := 1) my rfl
            have ma := set_other (i := 1) ma (show w.heap.size ≠ gy by omega) (.slice A2 m c2)
            have mb := set_other (i := 1) mb (show w.heap.size + 1 ≠ gy by omega) (.slice A2 m c2)
            have mx := set_other (i := 1) mx (show gx ≠ gy by omega) (.slice A2 m c2)
            have rx := rx.setNe (p := ⟨gy, 1, none⟩) hnxy (.slice A2 m c2)
            have ry := ry.setNe (p := ⟨gy, 1, none⟩) hnyy (.slice A2 m c2)
            have hB := hB.setCell (p := ⟨gy, 1, none⟩) hkgy (.slice A2 m c2)
            have my := set_blk (v := .int .i64 e2) (i := 2) my rfl
            have ma := set_other (i := 2) ma (show w.heap.size ≠ gy by omega) (.int .i64 e2)
            have mb := set_other (i := 2) mb (show w.heap.size + 1 ≠ gy by omega) (.int .i64 e2)
            have mx := set_other (i := 2) mx (show gx ≠ gy by omega) (.int .i64 e2)
            have rx := rx.setNe (p := ⟨gy, 2, none⟩) hnxy (.int .i64 e2)
            have ry := ry.setNe (p := ⟨gy, 2, none⟩) hnyy (.int .i64 e2)
            have hB := hB.setCell (p := ⟨gy, 2, none⟩) hkgy (.int .i64 e2)
            obtain ⟨x0, x1, x2⟩ := box3_of ma
            obtain ⟨x3, x4, x5⟩ := box3_of mb
            refine hK.out _ _ ⟨x0, x1, x2, x3, x4, x5⟩ (fun _ => ?_)
            clear hK K x0 x1 x2 x3 x4 x5
            try simp only [Act.put, List.setIfInBounds_toArray, List.set_cons_zero, List.set_cons_succ]
            refine wpAnyH_done (by kernel_rfl) ?_ _
            go_wp2
            go_meet
            exact ⟨gx, gy, A1, c1, A2, c2, rfl, rfl, hne, mx, my, hkgx, hkgy, rx, ry, hdis, hB⟩
        · go_simp
          obtain ⟨gx, hg⟩ : ∃ g, g = V12.heap.size := ⟨_, rfl⟩
          have ma := heldA (.cells #[.bool false, .slice none 0 0, .int .i64 0] 24) ma
          have mb := heldA (.cells #[.bool false, .slice none 0 0, .int .i64 0] 24) mb
          have my := heldA (.cells #[.bool false, .slice none 0 0, .int .i64 0] 24) my
          have mx := World.alloc_heap_new V12 (.cells #[.bool false, .slice none 0 0, .int .i64 0] 24)
          rw [← hg] at mx
          have rx := rx.below ((Below.refl V12.heap.size V12).alloc (Nat.le_refl _) (.cells #[.bool false, .slice none 0 0, .int .i64 0] 24)) (Nat.le_refl _)
          have hsz : (V12.alloc (.cells #[.bool false, .slice none 0 0, .int .i64 0] 24)).heap.size = V12.heap.size + 1 := by simp
          have hlx : ∀ g, A1 = some ⟨g, 0, none⟩ → g < (V12.alloc (.cells #[.bool false, .slice none 0 0, .int .i64 0] 24)).heap.size := fun g q => by have := hlx g q; omega
          have hkgx : w1.heap.size ≤ gx := by have := hB.size; omega
          have hB := hB.alloc hB.size (.cells #[.bool false, .slice none 0 0, .int .i64 0] 24)
          have hW := hW.alloc hW.size (.cells #[.bool false, .slice none 0 0, .int .i64 0] 24)
          obtain ⟨x0, x1, x2⟩ := box3_of ma
          obtain ⟨x3, x4, x5⟩ := box3_of mb
          refine hK.out _ _ ⟨x0, x1, x2, x3, x4, x5⟩ (fun _ => ?_)
          clear hK K x0 x1 x2 x3 x4 x5
          try simp only [Act.put, List.setIfInBounds_toArray, List.set_cons_zero, List.set_cons_succ]
          try rw [← hg]
          generalize hU : V12.alloc (.cells #[.bool false, .slice none 0 0, .int .i64 0] 24) = V15 at *
          clear hU
          have hlgx : gx < V15.heap.size := by omega
          have hne : gx ≠ gy := by omega
          have hlgy : gy < V15.heap.size := by omega
          clear hg hsz
          have hBs0 : w1.heap.size ≤ V15.heap.size := hB.size
          refine wpAnyH_ready (rs := [3]) (by kernel_rfl) (by simp) ?_
          refine (AllReadyH.cons (o := ⟨_, _, _, _, _, _⟩) rfl (fun K hK => ?_) AllReadyH.nil)
          · go_simp
            refine (OB.out V15 (hb.below hW hS) (fun b h => up hW b h)).mono ?_
            rintro e V16 ⟨A2, c2, rfl, ry, hb0⟩
            have ma := heldz hb0 ma
            have mb := heldz hb0 mb
            have mx := heldz hb0 mx
            have my := heldz hb0 my
            have rx := rx.below hb0 (Nat.le_refl _)
            have hdis : ∀ g, A1 = some ⟨g, 0, none⟩ → A2 = some ⟨g, 0, none⟩ → False := by
              intro g q1 q2
              subst q1 q2
              rcases ry.form with ⟨z, _⟩ | ⟨g3, z, z2, _⟩
              · cases z
              · injection z with z; injection z with z
                have := hlx g rfl; omega
            have hB := hB.trans (hb0.mono hB.size)
            have hW := hW.trans (hb0.mono hW.size)
            have ry := ry.more (base' := w1.heap.size) hBs0
            have hlx : ∀ g, A1 = some ⟨g, 0, none⟩ → g < V16.heap.size := fun g q => Nat.lt_of_lt_of_le (hlx g q) hb0.size
            (try dsimp only)
            obtain ⟨x0, x1, x2⟩ := box3_of ma
            obtain ⟨x3, x4, x5⟩ := box3_of mb
            refine hK.out _ _ ⟨x0, x1, x2, x3, x4, x5⟩ (fun _ => ?_)
            clear hK K x0 x1 x2 x3 x4 x5
            try simp only [Act.put, List.setIfInBounds_toArray, List.set_cons_zero, List.set_cons_succ]
            have hlgx : gx < V16.heap.size := Nat.lt_of_lt_of_le hlgx hb0.size
            have hlgy : gy < V16.heap.size := Nat.lt_of_lt_of_le hlgy hb0.size
            have hBs0 : w1.heap.size ≤ V16.heap.size := hB.size
            have hnxx := rx.ne_box mx ty_ne
            have hnxy := rx.ne_box my ty_ne
            have hnyx := ry.ne_box mx ty_ne
            have hnyy := ry.ne_box my ty_ne
            have hsw1 : w.heap.size + 1 < w1.heap.size := (Array.getElem?_eq_some_iff.1 mb1).1
            refine wpAnyH_ready (rs := [6]) (by kernel_rfl) (by simp) (AllReadyH.cons (o := ⟨_, _, _, _, _, _⟩) rfl (fun K hK => ?_) AllReadyH.nil)
            obtain ⟨t0, t1, t2⟩ := box3_of mx
            have f0 := frozen_of 0 mx
            have f1 := frozen_of 1 mx
            have f2 := frozen_of 2 mx
            go_simp
            clear t0 t1 t2 f0 f1 f2
            have mx := set_blk (v := .bool na) (i := 0) mx rfl
            have ma := set_other (i := 0) ma (show w.heap.size ≠ gx by omega) (.bool na)
            have mb := set_other (i := 0) mb (show w.heap.size + 1 ≠ gx by omega) (.bool na)
            have my := set_other (i := 0) my (show gy ≠ gx by omega) (.bool na)
            have rx := rx.setNe (p := ⟨gx, 0, none⟩) hnxx (.bool na)
            have ry := ry.setNe (p := ⟨gx, 0, none⟩) hnyx (.bool na)
            have hB := hB.setCell (p := ⟨gx, 0, none⟩) hkgx (.bool na)
            have mx := set_blk (v := .slice A1 n c1) (i := 1) mx rfl
            have ma := set_other (i := 1) ma (show w.heap.size ≠ gx by omega) (.slice A1 n c1)
            have mb := set_other (i := 1) mb (show w.heap.size + 1 ≠ gx by omega) (.slice A1 n c1)
            have my := set_other (i := 1) my (show gy ≠ gx by omega) (.slice A1 n c1)
            have rx := rx.setNe (p := ⟨gx, 1, none⟩) hnxx (.slice A1 n c1)
            have ry := ry.setNe (p := ⟨gx, 1, none⟩) hnyx (.slice A1 n c1)
            have hB := hB.setCell (p := ⟨gx, 1, none⟩) hkgx (.slice A1 n c1)
            have mx := set_blk (v := .int .i64 e1) (i := 2) mx rfl
            have ma := set_other (i := 2) ma (show w.heap.size ≠ gx by omega) (.int .i64 e1)
            have mb := set_other (i := 2) mb (show w.heap.size + 1 ≠ gx by omega) (.int .i64 e1)
            have my := set_other (i := 2) my (show gy ≠ gx by omega) (.int .i64 e1)
            have rx := rx.setNe (p := ⟨gx, 2, none⟩) hnxx (.int .i64 e1)
            have ry := ry.setNe (p := ⟨gx, 2, none⟩) hnyx (.int .i64 e1)
            have hB := hB.setCell (p := ⟨gx, 2, none⟩) hkgx (.int .i64 e1)
            obtain ⟨x0, x1, x2⟩ := box3_of ma
            obtain ⟨x3, x4, x5⟩ := box3_of mb
            refine hK.out _ _ ⟨x0, x1, x2, x3, x4, x5⟩ (fun _ => ?_)
            clear hK K x0 x1 x2 x3 x4 x5
            try simp only [Act.put, List.setIfInBounds_toArray, List.set_cons_zero, List.set_cons_succ]
            refine wpAnyH_ready (rs := [7]) (by kernel_rfl) (by simp) (AllReadyH.cons (o := ⟨_, _, _, _, _, _⟩) rfl (fun K hK => ?_) AllReadyH.nil)
            obtain ⟨t0, t1, t2⟩ := box3_of my
            have f0 := frozen_of 0 my
            have f1 := frozen_of 1 my
            have f2 := frozen_of 2 my
            go_simp
            clear t0 t1 t2 f0 f1 f2
            have my := set_blk (v := .bool nb) (i := 0) my rfl
            have ma := set_other (i := 0) ma (show w.heap.size ≠ gy by omega) (.bool nb)
            have mb := set_other (i := 0) mb (show w.heap.size + 1 ≠ gy by omega) (.bool nb)
            have mx := set_other (i := 0) mx (show gx ≠ gy by omega) (.bool nb)
            have rx := rx.setNe (p := ⟨gy, 0, none⟩) hnxy (.bool nb)
            have ry := ry.setNe (p := ⟨gy, 0, none⟩) hnyy (.bool nb)
            have hB := hB.setCell (p := ⟨gy, 0, none⟩) hkgy (.bool nb)
            have my := set_blk (v := .slice A2 m c2) (i := 1) my rfl
            have ma := set_other (i := 1) ma (show w.heap.size ≠ gy by omega) (.slice A2 m c2)
            have mb := set_other (i := 1) mb (show w.heap.size + 1 ≠ gy by omega) (.slice A2 m c2)
            have mx := set_other (i := 1) mx (show gx ≠ gy by omega) (.slice A2 m c2)
            have rx := rx.setNe (p := ⟨gy, 1, none⟩) hnxy (.slice A2 m c2)
            have ry := ry.setNe (p := ⟨gy, 1, none⟩) hnyy (.slice A2 m c2)
            have hB := hB.setCell (p := ⟨gy, 1, none⟩) hkgy (.slice A2 m c2)
            have my := set_blk (v := .int .i64 e2) (i := 2) my rfl
            have ma := set_other (i := 2) ma (show w.heap.size ≠ gy by omega) (.int .i64 e2)
            have mb := set_other (i := 2) mb (show w.heap.size + 1 ≠ gy by omega) (.int .i64 e2)
            have mx := set_other (i := 2) mx (show gx ≠ gy by omega) (.int .i64 e2)
            have rx := rx.setNe (p := ⟨gy, 2, none⟩) hnxy (.int .i64 e2)
            have ry := ry.setNe (p := ⟨gy, 2, none⟩) hnyy (.int .i64 e2)
            have hB := hB.setCell (p := ⟨gy, 2, none⟩) hkgy (.int .i64 e2)
            obtain ⟨x0, x1, x2⟩ := box3_of ma
            obtain ⟨x3, x4, x5⟩ := box3_of mb
            refine hK.out _ _ ⟨x0, x1, x2, x3, x4, x5⟩ (fun _ => ?_)
            clear hK K x0 x1 x2 x3 x4 x5
            try simp only [Act.put, List.setIfInBounds_toArray, List.set_cons_zero, List.set_cons_succ]
            refine wpAnyH_done (by kernel_rfl) ?_ _
            go_wp2
            go_meet
            exact ⟨gx, gy, A1, c1, A2, c2, rfl, rfl, hne, mx, my, hkgx, hkgy, rx, ry, hdis, hB⟩
    · go_simp
      obtain ⟨gx, hg⟩ : ∃ g, g = V0.heap.size := ⟨_, rfl⟩
      have ma := heldA (.cells #[.bool false, .slice none 0 0, .int .i64 0] 24) ma
      have mb := heldA (.cells #[.bool false, .slice none 0 0, .int .i64 0] 24) mb
      have mx := World.alloc_heap_new V0 (.cells #[.bool false, .slice none 0 0, .int .i64 0] 24)
      rw [← hg] at mx
      have hsz : (V0.alloc (.cells #[.bool false, .slice none 0 0, .int .i64 0] 24)).heap.size = V0.heap.size + 1 := by simp
      have hkgx : w1.heap.size ≤ gx := by have := hB.size; omega
      have hB := hB.alloc hB.size (.cells #[.bool false, .slice none 0 0, .int .i64 0] 24)
      have hW := hW.alloc hW.size (.cells #[.bool false, .slice none 0 0, .int .i64 0] 24)
      obtain ⟨x0, x1, x2⟩ := box3_of ma
      obtain ⟨x3, x4, x5⟩ := box3_of mb
      refine hK.out _ _ ⟨x0, x1, x2, x3, x4, x5⟩ (fun _ => ?_)
      clear hK K x0 x1 x2 x3 x4 x5
      try simp only [Act.put, List.setIfInBounds_toArray, List.set_cons_zero, List.set_cons_succ]
      try rw [← hg]
      generalize hU : V0.alloc (.cells #[.bool false, .slice none 0 0, .int .i64 0] 24) = V17 at *
      clear hU
      have hlgx : gx < V17.heap.size := by omega
      clear hg hsz
      have hBs0 : w1.heap.size ≤ V17.heap.size := hB.size
      refine wpAnyH_ready (rs := [1, 5]) (by kernel_rfl) (by simp) ?_
      refine (AllReadyH.cons (o := ⟨_, _, _, _, _, _⟩) rfl (fun K hK => ?_) (AllReadyH.cons (o := ⟨_, _, _, _, _, _⟩) rfl (fun K hK => ?_) AllReadyH.nil))
      · go_simp
        refine (OA.out V17 (ha.below hW hS) (fun b h => up hW b h)).mono ?_
        rintro e V18 ⟨A1, c1, rfl, rx, hb0⟩
        have ma := heldz hb0 ma
        have mb := heldz hb0 mb
        have mx := heldz hb0 mx
        have hB := hB.trans (hb0.mono hB.size)
        have hW := hW.trans (hb0.mono hW.size)
        have hlx : ∀ g, A1 = some ⟨g, 0, none⟩ → g < V18.heap.size := by
          intro g q1
          rcases rx.form with ⟨z, _⟩ | ⟨g3, z, _, z3⟩
          · rw [z] at q1; cases q1
          · rw [z] at q1; injection q1 with q1; injection q1 with q1; omega
        have rx := rx.more (base' := w1.heap.size) hBs0
        (try dsimp only)
        obtain ⟨x0, x1, x2⟩ := box3_of ma
        obtain ⟨x3, x4, x5⟩ := box3_of mb
        refine hK.out _ _ ⟨x0, x1, x2, x3, x4, x5⟩ (fun _ => ?_)
        clear hK K x0 x1 x2 x3 x4 x5
        try simp only [Act.put, List.setIfInBounds_toArray, List.set_cons_zero, List.set_cons_succ]
        have hlgx : gx < V18.heap.size := Nat.lt_of_lt_of_le hlgx hb0.size
        have hBs0 : w1.heap.size ≤ V18.heap.size := hB.size
        refine wpAnyH_ready (rs := [3, 5]) (by kernel_rfl) (by simp) ?_
        refine (AllReadyH.cons (o := ⟨_, _, _, _, _, _⟩) rfl (fun K hK => ?_) (AllReadyH.cons (o := ⟨_, _, _, _, _, _⟩) rfl (fun K hK => ?_) AllReadyH.nil))
        · go_simp
          refine (OB.out V18 (hb.below hW hS) (fun b h => up hW b h)).mono ?_
          rintro e V19 ⟨A2, c2, rfl, ry, hb0⟩
          have ma := heldz hb0 ma
          have mb := heldz hb0 mb
          have mx := heldz hb0 mx
          have rx := rx.below hb0 (Nat.le_refl _)
          have hdis : ∀ g, A1 = some ⟨g, 0, none⟩ → A2 = some ⟨g, 0, none⟩ → False := by
            intro g q1 q2
            subst q1 q2
            rcases ry.form with ⟨z, _⟩ | ⟨g3, z, z2, _⟩
            · cases z
            · injection z with z; injection z with z
              have := hlx g rfl; omega
          have hB := hB.trans (hb0.mono hB.size)
          have hW := hW.trans (hb0.mono hW.size)
          have ry := ry.more (base' := w1.heap.size) hBs0
          have hlx : ∀ g, A1 = some ⟨g, 0, none⟩ → g < V19.heap.size := fun g q => Nat.lt_of_lt_of_le (hlx g q) hb0.size
          (try dsimp only)
          obtain ⟨x0, x1, x2⟩ := box3_of ma
          obtain ⟨x3, x4, x5⟩ := box3_of mb
          refine hK.out _ _ ⟨x0, x1, x2, x3, x4, x5⟩ (fun _ => ?_)
          clear hK K x0 x1 x2 x3 x4 x5
          try simp only [Act.put, List.setIfInBounds_toArray, List.set_cons_zero, List.set_cons_succ]
          have hlgx : gx < V19.heap.size := Nat.lt_of_lt_of_le hlgx hb0.size
          have hBs0 : w1.heap.size ≤ V19.heap.size := hB.size
          refine wpAnyH_ready (rs := [5]) (by kernel_rfl) (by simp) ?_
          refine (AllReadyH.cons (o := ⟨_, _, _, _, _, _⟩) rfl (fun K hK => ?_) AllReadyH.nil)
          · go_simp
            obtain ⟨gy, hg⟩ : ∃ g, g = V19.heap.size := ⟨_, rfl⟩
            have ma := heldA (.cells #[.bool false, .slice none 0 0, .int .i64 0] 24) ma
            have mb := heldA (.cells #[.bool false, .slice none 0 0, .int .i64 0] 24) mb
            have mx := heldA (.cells #[.bool false, .slice none 0 0, .int .i64 0] 24) mx
            have my := World.alloc_heap_new V19 (.cells #[.bool false, .slice none 0 0, .int .i64 0] 24)
            rw [← hg] at my
            have rx := rx.below ((Below.refl V19.heap.size V19).alloc (Nat.le_refl _) (.cells #[.bool false, .slice none 0 0, .int .i64 0] 24)) (Nat.le_refl _)
            have ry := ry.below ((Below.refl V19.heap.size V19).alloc (Nat.le_refl _) (.cells #[.bool false, .slice none 0 0, .int .i64 0] 24)) (Nat.le_refl _)
            have hsz : (V19.alloc (.cells #[.bool false, .slice none 0 0, .int .i64 0] 24)).heap.size = V19.heap.size + 1 := by simp
            have hlx : ∀ g, A1 = some ⟨g, 0, none⟩ → g < (V19.alloc (.cells #[.bool false, .slice none 0 0, .int .i64 0] 24)).heap.size := fun g q => by have := hlx g q; omega
            have hkgy : w1.heap.size ≤ gy := by have := hB.size; omega
            have hB := hB.alloc hB.size (.cells #[.bool false, .slice none 0 0, .int .i64 0] 24)
            have hW := hW.alloc hW.size (.cells #[.bool false, .slice none 0 0, .int .i64 0] 24)
            obtain ⟨x0, x1, x2⟩ := box3_of ma
            obtain ⟨x3, x4, x5⟩ := box3_of mb
            refine hK.out _ _ ⟨x0, x1, x2, x3, x4, x5⟩ (fun _ => ?_)
            clear hK K x0 x1 x2 x3 x4 x5
            try simp only [Act.put, List.setIfInBounds_toArray, List.set_cons_zero, List.set_cons_succ]
            try rw [← hg]
            generalize hU : V19.alloc (.cells #[.bool false, .slice none 0 0, .int .i64 0] 24) = V20 at *
            clear hU
            have hlgy : gy < V20.heap.size := by omega
            have hne : gx ≠ gy := by omega
            have hlgx : gx < V20.heap.size := by omega
            clear hg hsz
            have hBs0 : w1.heap.size ≤ V20.heap.size := hB.size
            have hnxx := rx.ne_box mx ty_ne
            have hnxy := rx.ne_box my ty_ne
            have hnyx := ry.ne_box mx ty_ne
            have hnyy := ry.ne_box my ty_ne
            have hsw1 : w.heap.size + 1 < w1.heap.size := (Array.getElem?_eq_some_iff.1 mb1).1
            refine wpAnyH_ready (rs := [6]) (by kernel_rfl) (by simp) (AllReadyH.cons (o := ⟨_, _, _, _, _, _⟩) rfl (fun K hK => ?_) AllReadyH.nil)
            obtain ⟨t0, t1, t2⟩ := box3_of mx
            have f0 := frozen_of 0 mx
            have f1 := frozen_of 1 mx
            have f2 := frozen_of 2 mx
            go_simp
            clear t0 t1 t2 f0 f1 f2
            have mx := set_blk (v := .bool na) (i := 0) mx rfl
            have ma := set_other (i := 0) ma (show w.heap.size ≠ gx by omega) (.bool na)
            have mb := set_other (i := 0) mb (show w.heap.size + 1 ≠ gx by omega) (.bool na)
            have my := set_other (i := 0) my (show gy ≠ gx by omega) (.bool na)
            have rx := rx.setNe (p := ⟨gx, 0, none⟩) hnxx (.bool na)
            have ry := ry.setNe (p := ⟨gx, 0, none⟩) hnyx (.bool na)
            have hB := hB.setCell (p := ⟨gx, 0, none⟩) hkgx (.bool na)
            have mx := set_blk (v := .slice A1 n c1) (i := 1) mx rfl
            have ma := set_other (i := 1) ma (show w.heap.size ≠ gx by omega) (.slice A1 n c1)
            have mb := set_other (i := 1) mb (show w.heap.size + 1 ≠ gx by omega) (.slice A1 n c1)
            have my := set_other (i := 1) my (show gy ≠ gx by omega) (.slice A1 n c1)
            have rx := rx.setNe (p := ⟨gx, 1, none⟩) hnxx (.slice A1 n c1)
            have ry := ry.setNe (p := ⟨gx, 1, none⟩) hnyx (.slice A1 n c1)
            have hB := hB.setCell (p := ⟨gx, 1, none⟩) hkgx (.slice A1 n c1)
            have mx := set_blk (v := .int .i64 e1) (i := 2) mx rfl
            have ma := set_other (i := 2) ma (show w.heap.size ≠ gx by omega) (.int .i64 e1)
            have mb := set_other (i := 2) mb (show w.heap.size + 1 ≠ gx by omega) (.int .i64 e1)
            have my := set_other (i := 2) my (show gy ≠ gx by omega) (.int .i64 e1)
            have rx := rx.setNe (p := ⟨gx, 2, none⟩) hnxx (.int .i64 e1)
            have ry := ry.setNe (p := ⟨gx, 2, none⟩) hnyx (.int .i64 e1)
            have hB := hB.setCell (p := ⟨gx, 2, none⟩) hkgx (.int .i64 e1)
            obtain ⟨x0, x1, x2⟩ := box3_of ma
            obtain ⟨x3, x4, x5⟩ := box3_of mb
            refine hK.out _ _ ⟨x0, x1, x2, x3, x4, x5⟩ (fun _ => ?_)
            clear hK K x0 x1 x2 x3 x4 x5
            try simp only [Act.put, List.setIfInBounds_toArray, List.set_cons_zero, List.set_cons_succ]
            refine wpAnyH_ready (rs := [7]) (by kernel_rfl) (by simp) (AllReadyH.cons (o := ⟨_, _, _, _, _, _⟩) rfl (fun K hK => ?_) AllReadyH.nil)
            obtain ⟨t0, t1, t2⟩ := box3_of my
            have f0 := frozen_of 0 my
            have f1 := frozen_of 1 my
            have f2 := frozen_of 2 my
            go_simp
            clear t0 t1 t2 f0 f1 f2
            have my := set_blk (v := .bool nb) (i := 0) my rfl
            have ma := set_other (i := 0) ma (show w.heap.size ≠ gy by omega) (.bool nb)
            have mb := set_other (i := 0) mb (show w.heap.size + 1 ≠ gy by omega) (.bool nb)
            have mx := set_other (i := 0) mx (show gx ≠ gy by omega) (.bool nb)
            have rx := rx.setNe (p := ⟨gy, 0, none⟩) hnxy (.bool nb)
            have ry := ry.setNe (p := ⟨gy, 0, none⟩) hnyy (.bool nb)
            have hB := hB.setCell (p := ⟨gy, 0, none⟩) hkgy (.bool nb)
            have my := set_blk (v := .slice A2 m c2) (i := 1) my rfl
            have ma := set_other (i := 1) ma (show w.heap.size ≠ gy by omega) (.slice A2 m c2)
            have mb := set_other (i := 1) mb (show w.heap.size + 1 ≠ gy by omega) (.slice A2 m c2)
            have mx := set_other (i := 1) mx (show gx ≠ gy by omega) (.slice A2 m c2)
            have rx := rx.setNe (p := ⟨gy, 1, none⟩) hnxy (.slice A2 m c2)
            have ry := ry.setNe (p := ⟨gy, 1, none⟩) hnyy (.slice A2 m c2)
            have hB := hB.setCell (p := ⟨gy, 1, none⟩) hkgy (.slice A2 m c2)
            have my := set_blk (v := .int .i64 e2) (i := 2) my rfl
            have ma := set_other (i := 2) ma (show w.heap.size ≠ gy by omega) (.int .i64 e2)
            have mb := set_other (i := 2) mb (show w.heap.size + 1 ≠ gy by omega) (.int .i64 e2)
            have mx := set_other (i := 2) mx (show gx ≠ gy by omega) (.int .i64 e2)
            have rx := rx.setNe (p := ⟨gy, 2, none⟩) hnxy (.int .i64 e2)
            have ry := ry.setNe (p := ⟨gy, 2, none⟩) hnyy (.int .i64 e2)
            have hB := hB.setCell (p := ⟨gy, 2, none⟩) hkgy (.int .i64 e2)
            obtain ⟨x0, x1, x2⟩ := box3_of ma
            obtain ⟨x3, x4, x5⟩ := box3_of mb
            refine hK.out _ _ ⟨x0, x1, x2, x3, x4, x5⟩ (fun _ => ?_)
            clear hK K x0 x1 x2 x3 x4 x5
            try simp only [Act.put, List.setIfInBounds_toArray, List.set_cons_zero, List.set_cons_succ]
            refine wpAnyH_done (by kernel_rfl) ?_ _
            go_wp2
            go_meet
            exact ⟨gx, gy, A1, c1, A2, c2, rfl, rfl, hne, mx, my, hkgx, hkgy, rx, ry, hdis, hB⟩
        · go_simp
          obtain ⟨gy, hg⟩ : ∃ g, g = V18.heap.size := ⟨_, rfl⟩
          have ma := heldA (.cells #[.bool false, .slice none 0 0, .int .i64 0] 24) ma
          have mb := heldA (.cells #[.bool false, .slice none 0 0, .int .i64 0] 24) mb
          have mx := heldA (.cells #[.bool false, .slice none 0 0, .int .i64 0] 24) mx
          have my := World.alloc_heap_new V18 (.cells #[.bool false, .slice none 0 0, .int .i64 0] 24)
          rw [← hg] at my
          have rx := rx.below ((Below.refl V18.heap.size V18).alloc (Nat.le_refl _) (.cells #[.bool false, .slice none 0 0, .int .i64 0] 24)) (Nat.le_refl _)
          have hsz : (V18.alloc (.cells #[.bool false, .slice none 0 0, .int .i64 0] 24)).heap.size = V18.heap.size + 1 := by simp
          have hlx : ∀ g, A1 = some ⟨g, 0, none⟩ → g < (V18.alloc (.cells #[.bool false, .slice none 0 0, .int .i64 0] 24)).heap.size := fun g q => by have := hlx g q; omega
          have hkgy : w1.heap.size ≤ gy := by have := hB.size; omega
          have hB := hB.alloc hB.size (.cells #[.bool false, .slice none 0 0, .int .i64 0] 24)
          have hW := hW.alloc hW.size (.cells #[.bool false, .slice none 0 0, .int .i64 0] 24)
          obtain ⟨x0, x1, x2⟩ := box3_of ma
          obtain ⟨x3, x4, x5⟩ := box3_of mb
          refine hK.out _ _ ⟨x0, x1, x2, x3, x4, x5⟩ (fun _ => ?_)
          clear hK K x0 x1 x2 x3 x4 x5
          try simp only [Act.put, List.setIfInBounds_toArray, List.set_cons_zero, List.set_cons_succ]
          try rw [← hg]
          generalize hU : V18.alloc (.cells #[.bool false, .slice none 0 0, .int .i64 0] 24) = V21 at *
          clear hU
          have hlgy : gy < V21.heap.size := by omega
          have hne : gx ≠ gy := by omega
          have hlgx : gx < V21.heap.size := by omega
          clear hg hsz
          have hBs0 : w1.heap.size ≤ V21.heap.size := hB.size
          refine wpAnyH_ready (rs := [3]) (by kernel_rfl) (by simp) ?_
          refine (AllReadyH.cons (o := ⟨_, _, _, _, _, _⟩) rfl (fun K hK => ?_) AllReadyH.nil)
          · go_simp
            refine (OB.out V21 (hb.below hW hS) (fun b h => up hW b h)).mono ?_
            rintro e V22 ⟨A2, c2, rfl, ry, hb0⟩
            have ma := heldz hb0 ma
            have mb := heldz hb0 mb
            have mx := heldz hb0 mx
            have my := heldz hb0 my
            have rx := rx.below hb0 (Nat.le_refl _)
            have hdis : ∀ g, A1 = some ⟨g, 0, none⟩ → A2 = some ⟨g, 0, none⟩ → False := by
              intro g q1 q2
              subst q1 q2
              rcases ry.form with ⟨z, _⟩ | ⟨g3, z, z2, _⟩
              · cases z
              · injection z with z; injection z with z
                have := hlx g rfl; omega
            have hB := hB.trans (hb0.mono hB.size)
            have hW := hW.trans (hb0.mono hW.size)
            have ry := ry.more (base' := w1.heap.size) hBs0
            have hlx : ∀ g, A1 = some ⟨g, 0, none⟩ → g < V22.heap.size := fun g q => Nat.lt_of_lt_of_le (hlx g q) hb0.size
            (try dsimp only)
            obtain ⟨x0, x1, x2⟩ := box3_of ma
            obtain ⟨x3, x4, x5⟩ := box3_of mb
            refine hK.out _ _ ⟨x0, x1, x2, x3, x4, x5⟩ (fun _ => ?_)
            clear hK K x0 x1 x2 x3 x4 x5
            try simp only [Act.put, List.setIfInBounds_toArray, List.set_cons_zero, List.set_cons_succ]
            have hlgx : gx < V22.heap.size := Nat.lt_of_lt_of_le hlgx hb0.size
            have hlgy : gy < V22.heap.size := Nat.lt_of_lt_of_le hlgy hb0.size
            have hBs0 : w1.heap.size ≤ V22.heap.size := hB.size
            have hnxx := rx.ne_box mx ty_ne
            have hnxy := rx.ne_box my ty_ne
            have hnyx := ry.ne_box mx ty_ne
            have hnyy := ry.ne_box my ty_ne
            have hsw1 : w.heap.size + 1 < w1.heap.size := (Array.getElem?_eq_some_iff.1 mb1).1
            refine wpAnyH_ready (rs := [6]) (by kernel_rfl) (by simp) (AllReadyH.cons (o := ⟨_, _, _, _, _, _⟩) rfl (fun K hK => ?_) AllReadyH.nil)
            obtain ⟨t0, t1, t2⟩ := box3_of mx
            have f0 := frozen_of 0 mx
            have f1 := frozen_of 1 mx
            have f2 := frozen_of 2 mx
            go_simp
            clear t0 t1 t2 f0 f1 f2
            have mx := set_blk (v := .bool na) (i := 0) mx rfl
            have ma := set_other (i := 0) ma (show w.heap.size ≠ gx by omega) (.bool na)
            have mb := set_other (i := 0) mb (show w.heap.size + 1 ≠ gx by omega) (.bool na)
            have my := set_other (i := 0) my (show gy ≠ gx by omega) (.bool na)
            have rx := rx.setNe (p := ⟨gx, 0, none⟩) hnxx (.bool na)
            have ry := ry.setNe (p := ⟨gx, 0, none⟩) hnyx (.bool na)
            have hB := hB.setCell (p := ⟨gx, 0, none⟩) hkgx (.bool na)
            have mx := set_blk (v := .slice A1 n c1) (i := 1) mx rfl
            have ma := set_other (i := 1) ma (show w.heap.size ≠ gx by omega) (.slice A1 n c1)
            have mb := set_other (i := 1) mb (show w.heap.size + 1 ≠ gx by omega) (.slice A1 n c1)
            have my := set_other (i := 1) my (show gy ≠ gx by omega) (.slice A1 n c1)
            have rx := rx.setNe (p := ⟨gx, 1, none⟩) hnxx (.slice A1 n c1)
            have ry := ry.setNe (p := ⟨gx, 1, none⟩) hnyx (.slice A1 n c1)
            have hB := hB.setCell (p := ⟨gx, 1, none⟩) hkgx (.slice A1 n c1)
            have mx := set_blk (v := .int .i64 e1) (i := 2) mx rfl
            have ma := set_other (i := 2) ma (show w.heap.size ≠ gx by omega) (.int .i64 e1)
            have mb := set_other (i := 2) mb (show w.heap.size + 1 ≠ gx by omega) (.int .i64 e1)
            have my := set_other (i := 2) my (show gy ≠ gx by omega) (.int .i64 e1)
            have rx := rx.setNe (p := ⟨gx, 2, none⟩) hnxx (.int .i64 e1)
            have ry := ry.setNe (p := ⟨gx, 2, none⟩) hnyx (.int .i64 e1)
            have hB := hB.setCell (p := ⟨gx, 2, none⟩) hkgx (.int .i64 e1)
            obtain ⟨x0, x1, x2⟩ := box3_of ma
            obtain ⟨x3, x4, x5⟩ := box3_of mb
            refine hK.out _ _ ⟨x0, x1, x2, x3, x4, x5⟩ (fun _ => ?_)
            clear hK K x0 x1 x2 x3 x4 x5
            try simp only [Act.put, List.setIfInBounds_toArray, List.set_cons_zero, List.set_cons_succ]
            refine wpAnyH_ready (rs := [7]) (by kernel_rfl) (by simp) (AllReadyH.cons (o := ⟨_, _, _, _, _, _⟩) rfl (fun K hK => ?_) AllReadyH.nil)
            obtain ⟨t0, t1, t2⟩ := box3_of my
            have f0 := frozen_of 0 my
            have f1 := frozen_of 1 my
            have f2 := frozen_of 2 my
            go_simp
            clear t0 t1 t2 f0 f1 f2
            have my := set_blk (v := .bool nb) (i := 0) my rfl
            have ma := set_other (i := 0) ma (show w.heap.size ≠ gy by omega) (.bool nb)
            have mb := set_other (i := 0) mb (show w.heap.size + 1 ≠ gy by omega) (.bool nb)
            have mx := set_other (i := 0) mx (show gx ≠ gy by omega) (.bool nb)
            have rx := rx.setNe (p := ⟨gy, 0, none⟩) hnxy (.bool nb)
            have ry := ry.setNe (p := ⟨gy, 0, none⟩) hnyy (.bool nb)
            have hB := hB.setCell (p := ⟨gy, 0, none⟩) hkgy (.bool nb)
            have my := set_blk (v := .slice A2 m c2) (i := 1) my rfl
            have ma := set_other (i := 1) ma (show w.heap.size ≠ gy by omega) (.slice A2 m c2)
            have mb := set_other (i := 1) mb (show w.heap.size + 1 ≠ gy by omega) (.slice A2 m c2)
            have mx := set_other (i := 1) mx (show gx ≠ gy by omega) (.slice A2 m c2)
            have rx := rx.setNe (p := ⟨gy, 1, none⟩) hnxy (.slice A2 m c2)
            have ry := ry.setNe (p := ⟨gy, 1, none⟩) hnyy (.slice A2 m c2)
            have hB := hB.setCell (p := ⟨gy, 1, none⟩) hkgy (.slice A2 m c2)
            have my := set_blk (v := .int .i64 e2) (i := 2) my rfl
            have ma := set_other (i := 2) ma (show w.heap.size ≠ gy by omega) (.int .i64 e2)
            have mb := set_other (i := 2) mb (show w.heap.size + 1 ≠ gy by omega) (.int .i64 e2)
            have mx := set_other (i := 2) mx (show gx ≠ gy by omega) (.int .i64 e2)
            have rx := rx.setNe (p := ⟨gy, 2, none⟩) hnxy (.int .i64 e2)
            have ry := ry.setNe (p := ⟨gy, 2, none⟩) hnyy (.int .i64 e2)
            have hB := hB.setCell (p := ⟨gy, 2, none⟩) hkgy (.int .i64 e2)
            obtain ⟨x0, x1, x2⟩ := box3_of ma
            obtain ⟨x3, x4, x5⟩ := box3_of mb
            refine hK.out _ _ ⟨x0, x1, x2, x3, x4, x5⟩ (fun _ => ?_)
            clear hK K x0 x1 x2 x3 x4 x5
            try simp only [Act.put, List.setIfInBounds_toArray, List.set_cons_zero, List.set_cons_succ]
            refine wpAnyH_done (by kernel_rfl) ?_ _
            go_wp2
            go_meet
            exact ⟨gx, gy, A1, c1, A2, c2, rfl, rfl, hne, mx, my, hkgx, hkgy, rx, ry, hdis, hB⟩
      · go_simp
        obtain ⟨gy, hg⟩ : ∃ g, g = V17.heap.size := ⟨_, rfl⟩
        have ma := heldA (.cells #[.bool false, .slice none 0 0, .int .i64 0] 24) ma
        have mb := heldA (.cells #[.bool false, .slice none 0 0, .int .i64 0] 24) mb
        have mx := heldA (.cells #[.bool false, .slice none 0 0, .int .i64 0] 24) mx
        have my := World.alloc_heap_new V17 (.cells #[.bool false, .slice none 0 0, .int .i64 0] 24)
        rw [← hg] at my
        have hsz : (V17.alloc (.cells #[.bool false, .slice none 0 0, .int .i64 0] 24)).heap.size = V17.heap.size + 1 := by simp
        have hkgy : w1.heap.size ≤ gy := by have := hB.size; omega
        have hB := hB.alloc hB.size (.cells #[.bool false, .slice none 0 0, .int .i64 0] 24)
        have hW := hW.alloc hW.size (.cells #[.bool false, .slice none 0 0, .int .i64 0] 24)
        obtain ⟨x0, x1, x2⟩ := box3_of ma
        obtain ⟨x3, x4, x5⟩ := box3_of mb
        refine hK.out _ _ ⟨x0, x1, x2, x3, x4, x5⟩ (fun _ => ?_)
        clear hK K x0 x1 x2 x3 x4 x5
        try simp only [Act.put, List.setIfInBounds_toArray, List.set_cons_zero, List.set_cons_succ]
        try rw [← hg]
        generalize hU : V17.alloc (.cells #[.bool false, .slice none 0 0, .int .i64 0] 24) = V23 at *
        clear hU
        have hlgy : gy < V23.heap.size := by omega
        have hne : gx ≠ gy := by omega
        have hlgx : gx < V23.heap.size := by omega
        clear hg hsz
        have hBs0 : w1.heap.size ≤ V23.heap.size := hB.size
        refine wpAnyH_ready (rs := [1]) (by kernel_rfl) (by simp) ?_
        refine (AllReadyH.cons (o := ⟨_, _, _, _, _, _⟩) rfl (fun K hK => ?_) AllReadyH.nil)
        · go_simp
          refine (OA.out V23 (ha.below hW hS) (fun b h => up hW b h)).mono ?_
          rintro e V24 ⟨A1, c1, rfl, rx, hb0⟩
          have ma := heldz hb0 ma
          have mb := heldz hb0 mb
          have mx := heldz hb0 mx
          have my := heldz hb0 my
          have hB := hB.trans (hb0.mono hB.size)
          have hW := hW.trans (hb0.mono hW.size)
          have hlx : ∀ g, A1 = some ⟨g, 0, none⟩ → g < V24.heap.size := by
            intro g q1
            rcases rx.form with ⟨z, _⟩ | ⟨g3, z, _, z3⟩
            · rw [z] at q1; cases q1
            · rw [z] at q1; injection q1 with q1; injection q1 with q1; omega
          have rx := rx.more (base' := w1.heap.size) hBs0
          (try dsimp only)
          obtain ⟨x0, x1, x2⟩ := box3_of ma
          obtain ⟨x3, x4, x5⟩ := box3_of mb
          refine hK.out _ _ ⟨x0, x1, x2, x3, x4, x5⟩ (fun _ => ?_)
          clear hK K x0 x1 x2 x3 x4 x5
          try simp only [Act.put, List.setIfInBounds_toArray, List.set_cons_zero, List.set_cons_succ]
          have hlgx : gx < V24.heap.size := Nat.lt_of_lt_of_le hlgx hb0.size
          have hlgy : gy < V24.heap.size := Nat.lt_of_lt_of_le hlgy hb0.size
          have hBs0 : w1.heap.size ≤ V24.heap.size := hB.size
          refine wpAnyH_ready (rs := [3]) (by kernel_rfl) (by simp) ?_
          refine (AllReadyH.cons (o := ⟨_, _, _, _, _, _⟩) rfl (fun K hK => ?_) AllReadyH.nil)
          · go_simp
            refine (OB.out V24 (hb.below hW hS) (fun b h => up hW b h)).mono ?_
            rintro e V25 ⟨A2, c2, rfl, ry, hb0⟩
            have ma := heldz hb0 ma
            have mb := heldz hb0 mb
            have mx := heldz hb0 mx
            have my := heldz hb0 my
            have rx := rx.below hb0 (Nat.le_refl _)
            have hdis : ∀ g, A1 = some ⟨g, 0, none⟩ → A2 = some ⟨g, 0, none⟩ → False := by
              intro g q1 q2
              subst q1 q2
              rcases ry.form with ⟨z, _⟩ | ⟨g3, z, z2, _⟩
              · cases z
              · injection z with z; injection z with z
                have := hlx g rfl; omega
            have hB := hB.trans (hb0.mono hB.size)
            have hW := hW.trans (hb0.mono hW.size)
            have ry := ry.more (base' := w1.heap.size) hBs0
            have hlx : ∀ g, A1 = some ⟨g, 0, none⟩ → g < V25.heap.size := fun g q => Nat.lt_of_lt_of_le (hlx g q) hb0.size
            (try dsimp only)
            obtain ⟨x0, x1, x2⟩ := box3_of ma
            obtain ⟨x3, x4, x5⟩ := box3_of mb
            refine hK.out _ _ ⟨x0, x1, x2, x3, x4, x5⟩ (fun _ => ?_)
            clear hK K x0 x1 x2 x3 x4 x5
            try simp only [Act.put, List.setIfInBounds_toArray, List.set_cons_zero, List.set_cons_succ]
            have hlgx : gx < V25.heap.size := Nat.lt_of_lt_of_le hlgx hb0.size
            have hlgy : gy < V25.heap.size := Nat.lt_of_lt_of_le hlgy hb0.size
            have hBs0 : w1.heap.size ≤ V25.heap.size := hB.size
            have hnxx := rx.ne_box mx ty_ne
            have hnxy := rx.ne_box my ty_ne
            have hnyx := ry.ne_box mx ty_ne
            have hnyy := ry.ne_box my ty_ne
            have hsw1 : w.heap.size + 1 < w1.heap.size := (Array.getElem?_eq_some_iff.1 mb1).1
            refine wpAnyH_ready (rs := [6]) (by kernel_rfl) (by simp) (AllReadyH.cons (o := ⟨_, _, _, _, _, _⟩) rfl (fun K hK => ?_) AllReadyH.nil)
            obtain ⟨t0, t1, t2⟩ := box3_of mx
            have f0 := frozen_of 0 mx
            have f1 := frozen_of 1 mx
            have f2 := frozen_of 2 mx
            go_simp
            clear t0 t1 t2 f0 f1 f2
            have mx := set_blk (v := .bool na) (i := 0) mx rfl
            have ma := set_other (i := 0) ma (show w.heap.size ≠ gx by omega) (.bool na)
            have mb := set_other (i := 0) mb (show w.heap.size + 1 ≠ gx by omega) (.bool na)
            have my := set_other (i := 0) my (show gy ≠ gx by omega) (.bool na)
            have rx := rx.setNe (p := ⟨gx, 0, none⟩) hnxx (.bool na)
            have ry := ry.setNe (p := ⟨gx, 0, none⟩) hnyx (.bool na)
            have hB := hB.setCell (p := ⟨gx, 0, none⟩) hkgx (.bool na)
            have mx := set_blk (v := .slice A1 n c1) (i := 1) mx rfl
            have ma := set_other (i := 1) ma (show w.heap.size ≠ gx by omega) (.slice A1 n c1)
            have mb := set_other (i := 1) mb (show w.heap.size + 1 ≠ gx by omega) (.slice A1 n c1)
            have my := set_other (i := 1) my (show gy ≠ gx by omega) (.slice A1 n c1)
            have rx := rx.setNe (p := ⟨gx, 1, none⟩) hnxx (.slice A1 n c1)
            have ry := ry.setNe (p := ⟨gx, 1, none⟩) hnyx (.slice A1 n c1)
            have hB := hB.setCell (p := ⟨gx, 1, none⟩) hkgx (.slice A1 n c1)
            have mx := set_blk (v := .int .i64 e1) (i := 2) mx rfl
            have ma := set_other (i := 2) ma (show w.heap.size ≠ gx by omega) (.int .i64 e1)
            have mb := set_other (i := 2) mb (show w.heap.size + 1 ≠ gx by omega) (.int .i64 e1)
            have my := set_other (i := 2) my (show gy ≠ gx by omega) (.int .i64 e1)
            have rx := rx.setNe (p := ⟨gx, 2, none⟩) hnxx (.int .i64 e1)
            have ry := ry.setNe (p := ⟨gx, 2, none⟩) hnyx (.int .i64 e1)
            have hB := hB.setCell (p := ⟨gx, 2, none⟩) hkgx (.int .i64 e1)
            obtain ⟨x0, x1, x2⟩ := box3_of ma
            obtain ⟨x3, x4, x5⟩ := box3_of mb
            refine hK.out _ _ ⟨x0, x1, x2, x3, x4, x5⟩ (fun _ => ?_)
            clear hK K x0 x1 x2 x3 x4 x5
            try simp only [Act.put, List.setIfInBounds_toArray, List.set_cons_zero, List.set_cons_succ]
            refine wpAnyH_ready (rs := [7]) (by kernel_rfl) (by simp) (AllReadyH.cons (o := ⟨_, _, _, _, _, _⟩) rfl (fun K hK => ?_) AllReadyH.nil)
            obtain ⟨t0, t1, t2⟩ := box3_of my
            have f0 := frozen_of 0 my
            have f1 := frozen_of 1 my
            have f2 := frozen_of 2 my
            go_simp
            clear t0 t1 t2 f0 f1 f2
            have my := set_blk (v := .bool nb) (i := 0) my rfl
            have ma := set_other (i := 0) ma (show w.heap.size ≠ gy by omega) (.bool nb)
            have mb := set_other (i := 0) mb (show w.heap.size + 1 ≠ gy by omega) (.bool nb)
            have mx := set_other (i := 0) mx (show gx ≠ gy by omega) (.bool nb)
            have rx := rx.setNe (p := ⟨gy, 0, none⟩) hnxy (.bool nb)
            have ry := ry.setNe (p := ⟨gy, 0, none⟩) hnyy (.bool nb)
            have hB := hB.setCell (p := ⟨gy, 0, none⟩) hkgy (.bool nb)
            have my := set_blk (v := .slice A2 m c2) (i := 1) my rfl
            have ma := set_other (i := 1) ma (show w.heap.size ≠ gy by omega) (.slice A2 m c2)
            have mb := set_other (i := 1) mb (show w.heap.size + 1 ≠ gy by omega) (.slice A2 m c2)
            have mx := set_other (i := 1) mx (show gx ≠ gy by omega) (.slice A2 m c2)
            have rx := rx.setNe (p := ⟨gy, 1, none⟩) hnxy (.slice A2 m c2)
            have ry := ry.setNe (p := ⟨gy, 1, none⟩) hnyy (.slice A2 m c2)
            have hB := hB.setCell (p := ⟨gy, 1, none⟩) hkgy (.slice A2 m c2)
            have my := set_blk (v := .int .i64 e2) (i := 2) my rfl
            have ma := set_other (i := 2) ma (show w.heap.size ≠ gy by omega) (.int .i64 e2)
            have mb := set_other (i := 2) mb (show w.heap.size + 1 ≠ gy by omega) (.int .i64 e2)
            have mx := set_other (i := 2) mx (show gx ≠ gy by omega) (.int .i64 e2)
            have rx := rx.setNe (p := ⟨gy, 2, none⟩) hnxy (.int .i64 e2)
            have ry := ry.setNe (p := ⟨gy, 2, none⟩) hnyy (.int .i64 e2)
            have hB := hB.setCell (p := ⟨gy, 2, none⟩) hkgy (.int .i64 e2)
            obtain ⟨x0, x1, x2⟩ := box3_of ma
            obtain ⟨x3, x4, x5⟩ := box3_of mb
            refine hK.out _ _ ⟨x0, x1, x2, x3, x4, x5⟩ (fun _ => ?_)
            clear hK K x0 x1 x2 x3 x4 x5
            try simp only [Act.put, List.setIfInBounds_toArray, List.set_cons_zero, List.set_cons_succ]
            refine wpAnyH_done (by kernel_rfl) ?_ _
            go_wp2
            go_meet
            exact ⟨gx, gy, A1, c1, A2, c2, rfl, rfl, hne, mx, my, hkgx, hkgy, rx, ry, hdis, hB⟩
    · go_simp
      obtain ⟨gy, hg⟩ : ∃ g, g = V0.heap.size := ⟨_, rfl⟩
      have ma := heldA (.cells #[.bool false, .slice none 0 0, .int .i64 0] 24) ma
      have mb := heldA (.cells #[.bool false, .slice none 0 0, .int .i64 0] 24) mb
      have my := World.alloc_heap_new V0 (.cells #[.bool false, .slice none 0 0, .int .i64 0] 24)
      rw [← hg] at my
      have hsz : (V0.alloc (.cells #[.bool false, .slice none 0 0, .int .i64 0] 24)).heap.size = V0.heap.size + 1 := by simp
      have hkgy : w1.heap.size ≤ gy := by have := hB.size; omega
      have hB := hB.alloc hB.size (.cells #[.bool false, .slice none 0 0, .int .i64 0] 24)
      have hW := hW.alloc hW.size (.cells #[.bool false, .slice none 0 0, .int .i64 0] 24)
      obtain ⟨x0, x1, x2⟩ := box3_of ma
      obtain ⟨x3, x4, x5⟩ := box3_of mb
      refine hK.out _ _ ⟨x0, x1, x2, x3, x4, x5⟩ (fun _ => ?_)
      clear hK K x0 x1 x2 x3 x4 x5
      try simp only [Act.put, List.setIfInBounds_toArray, List.set_cons_zero, List.set_cons_succ]
      try rw [← hg]
      generalize hU : V0.alloc (.cells #[.bool false, .slice none 0 0, .int .i64 0] 24) = V26 at *
      clear hU
      have hlgy : gy < V26.heap.size := by omega
      clear hg hsz
      have hBs0 : w1.heap.size ≤ V26.heap.size := hB.size
      refine wpAnyH_ready (rs := [1, 4]) (by kernel_rfl) (by simp) ?_
      refine (AllReadyH.cons (o := ⟨_, _, _, _, _, _⟩) rfl (fun K hK => ?_) (AllReadyH.cons (o := ⟨_, _, _, _, _, _⟩) rfl (fun K hK => ?_) AllReadyH.nil))
      · go_simp
        refine (OA.out V26 (ha.below hW hS) (fun b h => up hW b h)).mono ?_
        rintro e V27 ⟨A1, c1, rfl, rx, hb0⟩
        have ma := heldz hb0 ma
        have mb := heldz hb0 mb
        have my := heldz hb0 my
        have hB := hB.trans (hb0.mono hB.size)
        have hW := hW.trans (hb0.mono hW.size)
        have hlx : ∀ g, A1 = some ⟨g, 0, none⟩ → g < V27.heap.size := by
          intro g q1
          rcases rx.form with ⟨z, _⟩ | ⟨g3, z, _, z3⟩
          · rw [z] at q1; cases q1
          · rw [z] at q1; injection q1 with q1; injection q1 with q1; omega
        have rx := rx.more (base' := w1.heap.size) hBs0
        (try dsimp only)
        obtain ⟨x0, x1, x2⟩ := box3_of ma
        obtain ⟨x3, x4, x5⟩ := box3_of mb
        refine hK.out _ _ ⟨x0, x1, x2, x3, x4, x5⟩ (fun _ => ?_)
        clear hK K x0 x1 x2 x3 x4 x5
        try simp only [Act.put, List.setIfInBounds_toArray, List.set_cons_zero, List.set_cons_succ]
        have hlgy : gy < V27.heap.size := Nat.lt_of_lt_of_le hlgy hb0.size
        have hBs0 : w1.heap.size ≤ V27.heap.size := hB.size
        refine wpAnyH_ready (rs := [3, 4]) (by kernel_rfl) (by simp) ?_
        refine (AllReadyH.cons (o := ⟨_, _, _, _, _, _⟩) rfl (fun K hK => ?_) (AllReadyH.cons (o := ⟨_, _, _, _, _, _⟩) rfl (fun K hK => ?_) AllReadyH.nil))
        · go_simp
          refine (OB.out V27 (hb.below hW hS) (fun b h => up hW b h)).mono ?_
          rintro e V28 ⟨A2, c2, rfl, ry, hb0⟩
          have ma := heldz hb0 ma
          have mb := heldz hb0 mb
          have my := heldz hb0 my
          have rx := rx.below hb0 (Nat.le_refl _)
          have hdis : ∀ g, A1 = some ⟨g, 0, none⟩ → A2 = some ⟨g, 0, none⟩ → False := by
            intro g q1 q2
            subst q1 q2
            rcases ry.form with ⟨z, _⟩ | ⟨g3, z, z2, _⟩
            · cases z
            · injection z with z; injection z with z
              have := hlx g rfl; omega
          have hB := hB.trans (hb0.mono hB.size)
          have hW := hW.trans (hb0.mono hW.size)
          have ry := ry.more (base' := w1.heap.size) hBs0
          have hlx : ∀ g, A1 = some ⟨g, 0, none⟩ → g < V28.heap.size := fun g q => Nat.lt_of_lt_of_le (hlx g q) hb0.size
          (try dsimp only)
          obtain ⟨x0, x1, x2⟩ := box3_of ma
          obtain ⟨x3, x4, x5⟩ := box3_of mb
          refine hK.out _ _ ⟨x0, x1, x2, x3, x4, x5⟩ (fun _ => ?_)
          clear hK K x0 x1 x2 x3 x4 x5
          try simp only [Act.put, List.setIfInBounds_toArray, List.set_cons_zero, List.set_cons_succ]
          have hlgy : gy < V28.heap.size := Nat.lt_of_lt_of_le hlgy hb0.size
          have hBs0 : w1.heap.size ≤ V28.heap.size := hB.size
          refine wpAnyH_ready (rs := [4]) (by kernel_rfl) (by simp) ?_
          refine (AllReadyH.cons (o := ⟨_, _, _, _, _, _⟩) rfl (fun K hK => ?_) AllReadyH.nil)
          · go_simp
            obtain ⟨gx, hg⟩ : ∃ g, g = V28.heap.size := ⟨_, rfl⟩
            have ma := heldA (.cells #[.bool false, .slice none 0 0, .int .i64 0] 24) ma
            have mb := heldA (.cells #[.bool false, .slice none 0 0, .int .i64 0] 24) mb
            have my := heldA (.cells #[.bool false, .slice none 0 0, .int .i64 0] 24) my
            have mx := World.alloc_heap_new V28 (.cells #[.bool false, .slice none 0 0, .int .i64 0] 24)
            rw [← hg] at mx
            have rx := rx.below ((Below.refl V28.heap.size V28).alloc (Nat.le_refl _) (.cells #[.bool false, .slice none 0 0, .int .i64 0] 24)) (Nat.le_refl _)
            have ry := ry.below ((Below.refl V28.heap.size V28).alloc (Nat.le_refl _) (.cells #[.bool false, .slice none 0 0, .int .i64 0] 24)) (Nat.le_refl _)
            have hsz : (V28.alloc (.cells #[.bool false, .slice none 0 0, .int .i64 0] 24)).heap.size = V28.heap.size + 1 := by simp
            have hlx : ∀ g, A1 = some ⟨g, 0, none⟩ → g < (V28.alloc (.cells #[.bool false, .slice none 0 0, .int .i64 0] 24)).heap.size := fun g q => by have := hlx g q; omega
            have hkgx : w1.heap.size ≤ gx := by have := hB.size; omega
            have hB := hB.alloc hB.size (.cells #[.bool false, .slice none 0 0, .int .i64 0] 24)
            have hW := hW.alloc hW.size (.cells #[.bool false, .slice none 0 0, .int .i64 0] 24)
            obtain ⟨x0, x1, x2⟩ := box3_of ma
            obtain ⟨x3, x4, x5⟩ := box3_of mb
            refine hK.out _ _ ⟨x0, x1, x2, x3, x4, x5⟩ (fun _ => ?_)
            clear hK K x0 x1 x2 x3 x4 x5
            try simp only [Act.put, List.setIfInBounds_toArray, List.set_cons_zero, List.set_cons_succ]
            try rw [← hg]
            generalize hU : V28.alloc (.cells #[.bool false, .slice none 0 0, .int .i64 0] 24) = V29 at *
            clear hU
            have hlgx : gx < V29.heap.size := by omega
            have hne : gx ≠ gy := by omega
            have hlgy : gy < V29.heap.size := by omega
            clear hg hsz
            have hBs0 : w1.heap.size ≤ V29.heap.size := hB.size
            have hnxx := rx.ne_box mx ty_ne
            have hnxy := rx.ne_box my ty_ne
            have hnyx := ry.ne_box mx ty_ne
            have hnyy := ry.ne_box my ty_ne
            have hsw1 : w.heap.size + 1 < w1.heap.size := (Array.getElem?_eq_some_iff.1 mb1).1
            refine wpAnyH_ready (rs := [6]) (by kernel_rfl) (by simp) (AllReadyH.cons (o := ⟨_, _, _, _, _, _⟩) rfl (fun K hK => ?_) AllReadyH.nil)
            obtain ⟨t0, t1, t2⟩ := box3_of mx
            have f0 := frozen_of 0 mx
            have f1 := frozen_of 1 mx
            have f2 := frozen_of 2 mx
            go_simp
            clear t0 t1 t2 f0 f1 f2
            have mx := set_blk (v := .bool na) (i := 0) mx rfl
            have ma := set_other (i := 0) ma (show w.heap.size ≠ gx by omega) (.bool na)
            have mb := set_other (i := 0) mb (show w.heap.size + 1 ≠ gx by omega) (.bool na)
            have my := set_other (i := 0) my (show gy ≠ gx by omega) (.bool na)
            have rx := rx.setNe (p := ⟨gx, 0, none⟩) hnxx (.bool na)
            have ry := ry.setNe (p := ⟨gx, 0, none⟩) hnyx (.bool na)
            have hB := hB.setCell (p := ⟨gx, 0, none⟩) hkgx (.bool na)
            have mx := set_blk (v := .slice A1 n c1) (i := 1) mx rfl
            have ma := set_other (i := 1) ma (show w.heap.size ≠ gx by omega) (.slice A1 n c1)
            have mb := set_other (i := 1) mb (show w.heap.size + 1 ≠ gx by omega) (.slice A1 n c1)
            have my := set_other (i := 1) my (show gy ≠ gx by omega) (.slice A1 n c1)
            have rx := rx.setNe (p := ⟨gx, 1, none⟩) hnxx (.slice A1 n c1)
            have ry := ry.setNe (p := ⟨gx, 1, none⟩) hnyx (.slice A1 n c1)
            have hB := hB.setCell (p := ⟨gx, 1, none⟩) hkgx (.slice A1 n c1)
            have mx := set_blk (v := .int .i64 e1) (i := 2) mx rfl
            have ma := set_other (i := 2) ma (show w.heap.size ≠ gx by omega) (.int .i64 e1)
            have mb := set_other (i := 2) mb (show w.heap.size + 1 ≠ gx by omega) (.int .i64 e1)
            have my := set_other (i := 2) my (show gy ≠ gx by omega) (.int .i64 e1)
            have rx := rx.setNe (p := ⟨gx, 2, none⟩) hnxx (.int .i64 e1)
            have ry := ry.setNe (p := ⟨gx, 2, none⟩) hnyx (.int .i64 e1)
            have hB := hB.setCell (p := ⟨gx, 2, none⟩) hkgx (.int .i64 e1)
            obtain ⟨x0, x1, x2⟩ := box3_of ma
            obtain ⟨x3, x4, x5⟩ := box3_of mb
            refine hK.out _ _ ⟨x0, x1, x2, x3, x4, x5⟩ (fun _ => ?_)
            clear hK K x0 x1 x2 x3 x4 x5
            try simp only [Act.put, List.setIfInBounds_toArray, List.set_cons_zero, List.set_cons_succ]
            refine wpAnyH_ready (rs := [7]) (by kernel_rfl) (by simp) (AllReadyH.cons (o := ⟨_, _, _, _, _, _⟩) rfl (fun K hK => ?_) AllReadyH.nil)
            obtain ⟨t0, t1, t2⟩ := box3_of my
            have f0 := frozen_of 0 my
            have f1 := frozen_of 1 my
            have f2 := frozen_of 2 my
            go_simp
            clear t0 t1 t2 f0 f1 f2
            have my := set_blk (v := .bool nb) (i := 0) my rfl
            have ma := set_other (i := 0) ma (show w.heap.size ≠ gy by omega) (.bool nb)
            have mb := set_other (i := 0) mb (show w.heap.size + 1 ≠ gy by omega) (.bool nb)
            have mx := set_other (i := 0) mx (show gx ≠ gy by omega) (.bool nb)
            have rx := rx.setNe (p := ⟨gy, 0, none⟩) hnxy (.bool nb)
            have ry := ry.setNe (p := ⟨gy, 0, none⟩) hnyy (.bool nb)
            have hB := hB.setCell (p := ⟨gy, 0, none⟩) hkgy (.bool nb)
            have my := set_blk (v := .slice A2 m c2) (i := 1) my rfl
            have ma := set_other (i := 1) ma (show w.heap.size ≠ gy by omega) (.slice A2 m c2)
            have mb := set_other (i := 1) mb (show w.heap.size + 1 ≠ gy by omega) (.slice A2 m c2)
            have mx := set_other (i := 1) mx (show gx ≠ gy by omega) (.slice A2 m c2)
            have rx := rx.setNe (p := ⟨gy, 1, none⟩) hnxy (.slice A2 m c2)
            have ry := ry.setNe (p := ⟨gy, 1, none⟩) hnyy (.slice A2 m c2)
            have hB := hB.setCell (p := ⟨gy, 1, none⟩) hkgy (.slice A2 m c2)
            have my := set_blk (v := .int .i64 e2) (i := 2) my rfl
            have ma := set_other (i := 2) ma (show w.heap.size ≠ gy by omega) (.int .i64 e2)
            have mb := set_other (i := 2) mb (show w.heap.size + 1 ≠ gy by omega) (.int .i64 e2)
            have mx := set_other (i := 2) mx (show gx ≠ gy by omega) (.int .i64 e2)
            have rx := rx.setNe (p := ⟨gy, 2, none⟩) hnxy (.int .i64 e2)
            have ry := ry.setNe (p := ⟨gy, 2, none⟩) hnyy (.int .i64 e2)
            have hB := hB.setCell (p := ⟨gy, 2, none⟩) hkgy (.int .i64 e2)
            obtain ⟨x0, x1, x2⟩ := box3_of ma
            obtain ⟨x3, x4, x5⟩ := box3_of mb
            refine hK.out _ _ ⟨x0, x1, x2, x3, x4, x5⟩ (fun _ => ?_)
            clear hK K x0 x1 x2 x3 x4 x5
            try simp only [Act.put, List.setIfInBounds_toArray, List.set_cons_zero, List.set_cons_succ]
            refine wpAnyH_done (by kernel_rfl) ?_ _
            go_wp2
            go_meet
            exact ⟨gx, gy, A1, c1, A2, c2, rfl, rfl, hne, mx, my, hkgx, hkgy, rx, ry, hdis, hB⟩
        · go_simp
          obtain ⟨gx, hg⟩ : ∃ g, g = V27.heap.size := ⟨_, rfl⟩
          have ma := heldA (.cells #[.bool false, .slice none 0 0, .int .i64 0] 24) ma
          have mb := heldA (.cells #[.bool false, .slice none 0 0, .int .i64 0] 24) mb
          have my := heldA (.cells #[.bool false, .slice none 0 0, .int .i64 0] 24) my
          have mx := World.alloc_heap_new V27 (.cells #[.bool false, .slice none 0 0, .int .i64 0] 24)
          rw [← hg] at mx
          have rx := rx.below ((Below.refl V27.heap.size V27).alloc (Nat.le_refl _) (.cells #[.bool false, .slice none 0 0, .int .i64 0] 24)) (Nat.le_refl _)
          have hsz : (V27.alloc (.cells #[.bool false, .slice none 0 0, .int .i64 0] 24)).heap.size = V27.heap.size + 1 := by simp
          have hlx : ∀ g, A1 = some ⟨g, 0, none⟩ → g < (V27.alloc (.cells #[.bool false, .slice none 0 0, .int .i64 0] 24)).heap.size := fun g q => by have := hlx g q; omega
          have hkgx : w1.heap.size ≤ gx := by have := hB.size; omega
          have hB := hB.alloc hB.size (.cells #[.bool false, .slice none 0 0, .int .i64 0] 24)
          have hW := hW.alloc hW.size (.cells #[.bool false, .slice none 0 0, .int .i64 0] 24)
          obtain ⟨x0, x1, x2⟩ := box3_of ma
          obtain ⟨x3, x4, x5⟩ := box3_of mb
          refine hK.out _ _ ⟨x0, x1, x2, x3, x4, x5⟩ (fun _ => ?_)
          clear hK K x0 x1 x2 x3 x4 x5
          try simp only [Act.put, List.setIfInBounds_toArray, List.set_cons_zero, List.set_cons_succ]
          try rw [← hg]
          generalize hU : V27.alloc (.cells #[.bool false, .slice none 0 0, .int .i64 0] 24) = V30 at *
          clear hU
          have hlgx : gx < V30.heap.size := by omega
          have hne : gx ≠ gy := by omega
          have hlgy : gy < V30.heap.size := by omega
          clear hg hsz
          have hBs0 : w1.heap.size ≤ V30.heap.size := hB.size
          refine wpAnyH_ready (rs := [3]) (by kernel_rfl) (by simp) ?_
          refine (AllReadyH.cons (o := ⟨_, _, _, _, _, _⟩) rfl (fun K hK => ?_) AllReadyH.nil)
          · go_simp
            refine (OB.out V30 (hb.below hW hS) (fun b h => up hW b h)).mono ?_
            rintro e V31 ⟨A2, c2, rfl, ry, hb0⟩
            have ma := heldz hb0 ma
            have mb := heldz hb0 mb
            have mx := heldz hb0 mx
            have my := heldz hb0 my
            have rx := rx.below hb0 (Nat.le_refl _)
            have hdis : ∀ g, A1 = some ⟨g, 0, none⟩ → A2 = some ⟨g, 0, none⟩ → False := by
              intro g q1 q2
              subst q1 q2
              rcases ry.form with ⟨z, _⟩ | ⟨g3, z, z2, _⟩
              · cases z
              · injection z with z; injection z with z
                have := hlx g rfl; omega
            have hB := hB.trans (hb0.mono hB.size)
            have hW := hW.trans (hb0.mono hW.size)
            have ry := ry.more (base' := w1.heap.size) hBs0
            have hlx : ∀ g, A1 = some ⟨g, 0, none⟩ → g < V31.heap.size := fun g q => Nat.lt_of_lt_of_le (hlx g q) hb0.size
            (try dsimp only)
            obtain ⟨x0, x1, x2⟩ := box3_of ma
            obtain ⟨x3, x4, x5⟩ := box3_of mb
            refine hK.out _ _ ⟨x0, x1, x2, x3, x4, x5⟩ (fun _ => ?_)
            clear hK K x0 x1 x2 x3 x4 x5
            try simp only [Act.put, List.setIfInBounds_toArray, List.set_cons_zero, List.set_cons_succ]
            have hlgx : gx < V31.heap.size := Nat.lt_of_lt_of_le hlgx hb0.size
            have hlgy : gy < V31.heap.size := Nat.lt_of_lt_of_le hlgy hb0.size
            have hBs0 : w1.heap.size ≤ V31.heap.size := hB.size
            have hnxx := rx.ne_box mx ty_ne
            have hnxy := rx.ne_box my ty_ne
            have hnyx := ry.ne_box mx ty_ne
            have hnyy := ry.ne_box my ty_ne
            have hsw1 : w.heap.size + 1 < w1.heap.size := (Array.getElem?_eq_some_iff.1 mb1).1
            refine wpAnyH_ready (rs := [6]) (by kernel_rfl) (by simp) (AllReadyH.cons (o := ⟨_, _, _, _, _, _⟩) rfl (fun K hK => ?_) AllReadyH.nil)
            obtain ⟨t0, t1, t2⟩ := box3_of mx
            have f0 := frozen_of 0 mx
            have f1 := frozen_of 1 mx
            have f2 := frozen_of 2 mx
            go_simp
            clear t0 t1 t2 f0 f1 f2
            have mx := set_blk (v := .bool na) (i := 0) mx rfl
            have ma := set_other (i := 0) ma (show w.heap.size ≠ gx by omega) (.bool na)
            have mb := set_other (i := 0) mb (show w.heap.size + 1 ≠ gx by omega) (.bool na)
            have my := set_other (i := 0) my (show gy ≠ gx by omega) (.bool na)
            have rx := rx.setNe (p := ⟨gx, 0, none⟩) hnxx (.bool na)
            have ry := ry.setNe (p := ⟨gx, 0, none⟩) hnyx (.bool na)
            have hB := hB.setCell (p := ⟨gx, 0, none⟩) hkgx (.bool na)
            have mx := set_blk (v := .slice A1 n c1) (i := 1) mx rfl
            have ma := set_other (i := 1) ma (show w.heap.size ≠ gx by omega) (.slice A1 n c1)
            have mb := set_other (i := 1) mb (show w.heap.size + 1 ≠ gx by omega) (.slice A1 n c1)
            have my := set_other (i := 1) my (show gy ≠ gx by omega) (.slice A1 n c1)
            have rx := rx.setNe (p := ⟨gx, 1, none⟩) hnxx (.slice A1 n c1)
            have ry := ry.setNe (p := ⟨gx, 1, none⟩) hnyx (.slice A1 n c1)
            have hB := hB.setCell (p := ⟨gx, 1, none⟩) hkgx (.slice A1 n c1)
            have mx := set_blk (v := .int .i64 e1) (i := 2) mx rfl
            have ma := set_other (i := 2) ma (show w.heap.size ≠ gx by omega) (.int .i64 e1)
            have mb := set_other (i := 2) mb (show w.heap.size + 1 ≠ gx by omega) (.int .i64 e1)
            have my := set_other (i := 2) my (show gy ≠ gx by omega) (.int .i64 e1)
            have rx := rx.setNe (p := ⟨gx, 2, none⟩) hnxx (.int .i64 e1)
            have ry := ry.setNe (p := ⟨gx, 2, none⟩) hnyx (.int .i64 e1)
            have hB := hB.setCell (p := ⟨gx, 2, none⟩) hkgx (.int .i64 e1)
            obtain ⟨x0, x1, x2⟩ := box3_of ma
            obtain ⟨x3, x4, x5⟩ := box3_of mb
            refine hK.out _ _ ⟨x0, x1, x2, x3, x4, x5⟩ (fun _ => ?_)
            clear hK K x0 x1 x2 x3 x4 x5
            try simp only [Act.put, List.setIfInBounds_toArray, List.set_cons_zero, List.set_cons_succ]
            refine wpAnyH_ready (rs := [7]) (by kernel_rfl) (by simp) (AllReadyH.cons (o := ⟨_, _, _, _, _, _⟩) rfl (fun K hK => ?_) AllReadyH.nil)
            obtain ⟨t0, t1, t2⟩ := box3_of my
            have f0 := frozen_of 0 my
            have f1 := frozen_of 1 my
            have f2 := frozen_of 2 my
            go_simp
            clear t0 t1 t2 f0 f1 f2
            have my := set_blk (v := .bool nb) (i := 0) my rfl
            have ma := set_other (i := 0) ma (show w.heap.size ≠ gy by omega) (.bool nb)
            have mb := set_other (i := 0) mb (show w.heap.size + 1 ≠ gy by omega) (.bool nb)
            have mx := set_other (i := 0) mx (show gx ≠ gy by omega) (.bool nb)
            have rx := rx.setNe (p := ⟨gy, 0, none⟩) hnxy (.bool nb)
            have ry := ry.setNe (p := ⟨gy, 0, none⟩) hnyy (.bool nb)
            have hB := hB.setCell (p := ⟨gy, 0, none⟩) hkgy (.bool nb)
            have my := set_blk (v := .slice A2 m c2) (i := 1) my rfl
            have ma := set_other (i := 1) ma (show w.heap.size ≠ gy by omega) (.slice A2 m c2)
            have mb := set_other (i := 1) mb (show w.heap.size + 1 ≠ gy by omega) (.slice A2 m c2)
            have mx := set_other (i := 1) mx (show gx ≠ gy by omega) (.slice A2 m c2)
            have rx := rx.setNe (p := ⟨gy, 1, none⟩) hnxy (.slice A2 m c2)
            have ry := ry.setNe (p := ⟨gy, 1, none⟩) hnyy (.slice A2 m c2)
            have hB := hB.setCell (p := ⟨gy, 1, none⟩) hkgy (.slice A2 m c2)
            have my := set_blk (v := .int .i64 e2) (i := 2) my rfl
            have ma := set_other (i := 2) ma (show w.heap.size ≠ gy by omega) (.int .i64 e2)
            have mb := set_other (i := 2) mb (show w.heap.size + 1 ≠ gy by omega) (.int .i64 e2)
            have mx := set_other (i := 2) mx (show gx ≠ gy by omega) (.int .i64 e2)
            have rx := rx.setNe (p := ⟨gy, 2, none⟩) hnxy (.int .i64 e2)
            have ry := ry.setNe (p := ⟨gy, 2, none⟩) hnyy (.int .i64 e2)
            have hB := hB.setCell (p := ⟨gy, 2, none⟩) hkgy (.int .i64 e2)
            obtain ⟨x0, x1, x2⟩ := box3_of ma
            obtain ⟨x3, x4, x5⟩ := box3_of mb
            refine hK.out _ _ ⟨x0, x1, x2, x3, x4, x5⟩ (fun _ => ?_)
            clear hK K x0 x1 x2 x3 x4 x5
            try simp only [Act.put, List.setIfInBounds_toArray, List.set_cons_zero, List.set_cons_succ]
            refine wpAnyH_done (by kernel_rfl) ?_ _
            go_wp2
            go_meet
            exact ⟨gx, gy, A1, c1, A2, c2, rfl, rfl, hne, mx, my, hkgx, hkgy, rx, ry, hdis, hB⟩
      · go_simp
        obtain ⟨gx, hg⟩ : ∃ g, g = V26.heap.size := ⟨_, rfl⟩
        have ma := heldA (.cells #[.bool false, .slice none 0 0, .int .i64 0] 24) ma
        have mb := heldA (.cells #[.bool false, .slice none 0 0, .int .i64 0] 24) mb
        have my := heldA (.cells #[.bool false, .slice none 0 0, .int .i64 0] 24) my
        have mx := World.alloc_heap_new V26 (.cells #[.bool false, .slice none 0 0, .int .i64 0] 24)
        rw [← hg] at mx
        have hsz : (V26.alloc (.cells #[.bool false, .slice none 0 0, .int .i64 0] 24)).heap.size = V26.heap.size + 1 := by simp
        have hkgx : w1.heap.size ≤ gx := by have := hB.size; omega
        have hB := hB.alloc hB.size (.cells #[.bool false, .slice none 0 0, .int .i64 0] 24)
        have hW := hW.alloc hW.size (.cells #[.bool false, .slice none 0 0, .int .i64 0] 24)
        obtain ⟨x0, x1, x2⟩ := box3_of ma
        obtain ⟨x3, x4, x5⟩ := box3_of mb
        refine hK.out _ _ ⟨x0, x1, x2, x3, x4, x5⟩ (fun _ => ?_)
        clear hK K x0 x1 x2 x3 x4 x5
        try simp only [Act.put, List.setIfInBounds_toArray, List.set_cons_zero, List.set_cons_succ]
        try rw [← hg]
        generalize hU : V26.alloc (.cells #[.bool false, .slice none 0 0, .int .i64 0] 24) = V32 at *
        clear hU
        have hlgx : gx < V32.heap.size := by omega
        have hne : gx ≠ gy := by omega
        have hlgy : gy < V32.heap.size := by omega
        clear hg hsz
        have hBs0 : w1.heap.size ≤ V32.heap.size := hB.size
        refine wpAnyH_ready (rs := [1]) (by kernel_rfl) (by simp) ?_
        refine (AllReadyH.cons (o := ⟨_, _, _, _, _, _⟩) rfl (fun K hK => ?_) AllReadyH.nil)
        · go_simp
          refine (OA.out V32 (ha.below hW hS) (fun b h => up hW b h)).mono ?_
          rintro e V33 ⟨A1, c1, rfl, rx, hb0⟩
          have ma := heldz hb0 ma
          have mb := heldz hb0 mb
          have mx := heldz hb0 mx
          have my := heldz hb0 my
          have hB := hB.trans (hb0.mono hB.size)
          have hW := hW.trans (hb0.mono hW.size)
          have hlx : ∀ g, A1 = some ⟨g, 0, none⟩ → g < V33.heap.size := by
            intro g q1
            rcases rx.form with ⟨z, _⟩ | ⟨g3, z, _, z3⟩
            · rw [z] at q1; cases q1
            · rw [z] at q1; injection q1 with q1; injection q1 with q1; omega
          have rx := rx.more (base' := w1.heap.size) hBs0
          (try dsimp only)
          obtain ⟨x0, x1, x2⟩ := box3_of ma
          obtain ⟨x3, x4, x5⟩ := box3_of mb
          refine hK.out _ _ ⟨x0, x1, x2, x3, x4, x5⟩ (fun _ => ?_)
          clear hK K x0 x1 x2 x3 x4 x5
          try simp only [Act.put, List.setIfInBounds_toArray, List.set_cons_zero, List.set_cons_succ]
          have hlgx : gx < V33.heap.size := Nat.lt_of_lt_of_le hlgx hb0.size
          have hlgy : gy < V33.heap.size := Nat.lt_of_lt_of_le hlgy hb0.size
          have hBs0 : w1.heap.size ≤ V33.heap.size := hB.size
          refine wpAnyH_ready (rs := [3]) (by kernel_rfl) (by simp) ?_
          refine (AllReadyH.cons (o := ⟨_, _, _, _, _, _⟩) rfl (fun K hK => ?_) AllReadyH.nil)
          · go_simp
            refine (OB.out V33 (hb.below hW hS) (fun b h => up hW b h)).mono ?_
            rintro e V34 ⟨A2, c2, rfl, ry, hb0⟩
            have ma := heldz hb0 ma
            have mb := heldz hb0 mb
            have mx := heldz hb0 mx
            have my := heldz hb0 my
            have rx := rx.below hb0 (Nat.le_refl _)
            have hdis : ∀ g, A1 = some ⟨g, 0, none⟩ → A2 = some ⟨g, 0, none⟩ → False := by
              intro g q1 q2
              subst q1 q2
              rcases ry.form with ⟨z, _⟩ | ⟨g3, z, z2, _⟩
              · cases z
              · injection z with z; injection z with z
                have := hlx g rfl; omega
            have hB := hB.trans (hb0.mono hB.size)
            have hW := hW.trans (hb0.mono hW.size)
            have ry := ry.more (base' := w1.heap.size) hBs0
            have hlx : ∀ g, A1 = some ⟨g, 0, none⟩ → g < V34.heap.size := fun g q => Nat.lt_of_lt_of_le (hlx g q) hb0.size
            (try dsimp only)
            obtain ⟨x0, x1, x2⟩ := box3_of ma
            obtain ⟨x3, x4, x5⟩ := box3_of mb
            refine hK.out _ _ ⟨x0, x1, x2, x3, x4, x5⟩ (fun _ => ?_)
            clear hK K x0 x1 x2 x3 x4 x5
            try simp only [Act.put, List.setIfInBounds_toArray, List.set_cons_zero, List.set_cons_succ]
            have hlgx : gx < V34.heap.size := Nat.lt_of_lt_of_le hlgx hb0.size
            have hlgy : gy < V34.heap.size := Nat.lt_of_lt_of_le hlgy hb0.size
            have hBs0 : w1.heap.size ≤ V34.heap.size := hB.size
            have hnxx := rx.ne_box mx ty_ne
            have hnxy := rx.ne_box my ty_ne
            have hnyx := ry.ne_box mx ty_ne
            have hnyy := ry.ne_box my ty_ne
            have hsw1 : w.heap.size + 1 < w1.heap.size := (Array.getElem?_eq_some_iff.1 mb1).1
            refine wpAnyH_ready (rs := [6]) (by kernel_rfl) (by simp) (AllReadyH.cons (o := ⟨_, _, _, _, _, _⟩) rfl (fun K hK => ?_) AllReadyH.nil)
            obtain ⟨t0, t1, t2⟩ := box3_of mx
            have f0 := frozen_of 0 mx
            have f1 := frozen_of 1 mx
            have f2 := frozen_of 2 mx
            go_simp
            clear t0 t1 t2 f0 f1 f2
            have mx := set_blk (v := .bool na) (i := 0) mx rfl
            have ma := set_other (i := 0) ma (show w.heap.size ≠ gx by omega) (.bool na)
            have mb := set_other (i := 0) mb (show w.heap.size + 1 ≠ gx by omega) (.bool na)
            have my := set_other (i := 0) my (show gy ≠ gx by omega) (.bool na)
            have rx := rx.setNe (p := ⟨gx, 0, none⟩) hnxx (.bool na)
            have ry := ry.setNe (p := ⟨gx, 0, none⟩) hnyx (.bool na)
            have hB := hB.setCell (p := ⟨gx, 0, none⟩) hkgx (.bool na)
            have mx := set_blk (v := .slice A1 n c1) (i := 1) mx rfl
            have ma := set_other (i := 1) ma (show w.heap.size ≠ gx by omega) (.slice A1 n c1)
            have mb := set_other (i := 1) mb (show w.heap.size + 1 ≠ gx by omega) (.slice A1 n c1)
            have my := set_other (i := 1) my (show gy ≠ gx by omega) (.slice A1 n c1)
            have rx := rx.setNe (p := ⟨gx, 1, none⟩) hnxx (.slice A1 n c1)
            have ry := ry.setNe (p := ⟨gx, 1, none⟩) hnyx (.slice A1 n c1)
            have hB := hB.setCell (p := ⟨gx, 1, none⟩) hkgx (.slice A1 n c1)
            have mx := set_blk (v := .int .i64 e1) (i := 2) mx rfl
            have ma := set_other (i := 2) ma (show w.heap.size ≠ gx by omega) (.int .i64 e1)
            have mb := set_other (i := 2) mb (show w.heap.size + 1 ≠ gx by omega) (.int .i64 e1)
            have my := set_other (i := 2) my (show gy ≠ gx by omega) (.int .i64 e1)
            have rx := rx.setNe (p := ⟨gx, 2, none⟩) hnxx (.int .i64 e1)
            have ry := ry.setNe (p := ⟨gx, 2, none⟩) hnyx (.int .i64 e1)
            have hB := hB.setCell (p := ⟨gx, 2, none⟩) hkgx (.int .i64 e1)
            obtain ⟨x0, x1, x2⟩ := box3_of ma
            obtain ⟨x3, x4, x5⟩ := box3_of mb
            refine hK.out _ _ ⟨x0, x1, x2, x3, x4, x5⟩ (fun _ => ?_)
            clear hK K x0 x1 x2 x3 x4 x5
            try simp only [Act.put, List.setIfInBounds_toArray, List.set_cons_zero, List.set_cons_succ]
            refine wpAnyH_ready (rs := [7]) (by kernel_rfl) (by simp) (AllReadyH.cons (o := ⟨_, _, _, _, _, _⟩) rfl (fun K hK => ?_) AllReadyH.nil)
            obtain ⟨t0, t1, t2⟩ := box3_of my
            have f0 := frozen_of 0 my
            have f1 := frozen_of 1 my
            have f2 := frozen_of 2 my
            go_simp
            clear t0 t1 t2 f0 f1 f2
            have my := set_blk (v := .bool nb) (i := 0) my rfl
            have ma := set_other (i := 0) ma (show w.heap.size ≠ gy by omega) (.bool nb)
            have mb := set_other (i := 0) mb (show w.heap.size + 1 ≠ gy by omega) (.bool nb)
            have mx := set_other (i := 0) mx (show gx ≠ gy by omega) (.bool nb)
            have rx := rx.setNe (p := ⟨gy, 0, none⟩) hnxy (.bool nb)
            have ry := ry.setNe (p := ⟨gy, 0, none⟩) hnyy (.bool nb)
            have hB := hB.setCell (p := ⟨gy, 0, none⟩) hkgy (.bool nb)
            have my := set_blk (v := .slice A2 m c2) (i := 1) my rfl
            have ma := set_other (i := 1) ma (show w.heap.size ≠ gy by omega) (.slice A2 m c2)
            have mb := set_other (i := 1) mb (show w.heap.size + 1 ≠ gy by omega) (.slice A2 m c2)
            have mx := set_other (i := 1) mx (show gx ≠ gy by omega) (.slice A2 m c2)
            have rx := rx.setNe (p := ⟨gy, 1, none⟩) hnxy (.slice A2 m c2)
            have ry := ry.setNe (p := ⟨gy, 1, none⟩) hnyy (.slice A2 m c2)
            have hB := hB.setCell (p := ⟨gy, 1, none⟩) hkgy (.slice A2 m c2)
            have my := set_blk (v := .int .i64 e2) (i := 2) my rfl
            have ma := set_other (i := 2) ma (show w.heap.size ≠ gy by omega) (.int .i64 e2)
            have mb := set_other (i := 2) mb (show w.heap.size + 1 ≠ gy by omega) (.int .i64 e2)
            have mx := set_other (i := 2) mx (show gx ≠ gy by omega) (.int .i64 e2)
            have rx := rx.setNe (p := ⟨gy, 2, none⟩) hnxy (.int .i64 e2)
            have ry := ry.setNe (p := ⟨gy, 2, none⟩) hnyy (.int .i64 e2)
            have hB := hB.setCell (p := ⟨gy, 2, none⟩) hkgy (.int .i64 e2)
            obtain ⟨x0, x1, x2⟩ := box3_of ma
            obtain ⟨x3, x4, x5⟩ := box3_of mb
            refine hK.out _ _ ⟨x0, x1, x2, x3, x4, x5⟩ (fun _ => ?_)
            clear hK K x0 x1 x2 x3 x4 x5
            try simp only [Act.put, List.setIfInBounds_toArray, List.set_cons_zero, List.set_cons_succ]
            refine wpAnyH_done (by kernel_rfl) ?_ _
            go_wp2
            go_meet
            exact ⟨gx, gy, A1, c1, A2, c2, rfl, rfl, hne, mx, my, hkgx, hkgy, rx, ry, hdis, hB⟩
  case rest =>
    obtain ⟨gx, gy, A1, c1, A2, c2, rfl, rfl, hne, mx, my, hkgx, hkgy, rx, ry, hdis, hB⟩ := hcut
    rename_i wc
    have ma := held hB (Array.getElem?_eq_some_iff.1 ma).1 ma
    have mb := held hB (Array.getElem?_eq_some_iff.1 mb).1 mb
    have hw := hw.trans (hB.mono hw.size)
    clear hB p0 p1 p2 p3 p4 p5 hne hkgx hkgy hdis
    obtain ⟨px0, px1, px2⟩ := box3_of mx
    obtain ⟨py0, py1, py2⟩ := box3_of my
    go_wp2_with fail
    refine (CMP.out wc (fun b => b < wc.heap.size) A1 c1 A2 c2 (rx.rd.more (fun b h => h.2)) (ry.rd.more (fun b h => h.2)) (fun b h => h)).mono ?_
    rintro e w2 ⟨rfl, hb2⟩
    clear px0 px1 px2 py0 py1 py2
    have ma := heldz hb2 ma
    have mb := heldz hb2 mb
    have mx := heldz hb2 mx
    have my := heldz hb2 my
    have rx := rx.below hb2 (Nat.le_refl _)
    have ry := ry.below hb2 (Nat.le_refl _)
    have hw := hw.trans (hb2.mono hw.size)
    obtain ⟨pa0, pa1, pa2⟩ := box3_of ma
    obtain ⟨pb0, pb1, pb2⟩ := box3_of mb
    go_wp2_with fail
    refine (RCMP.out _ (ha.below hw hS) (hb.below hw hS) (up hw)).mono ?_
    rintro e w3 ⟨rfl, hb3⟩
    clear pa0 pa1 pa2 pb0 pb1 pb2
    have ma := heldz hb3 ma
    have mb := heldz hb3 mb
    have mx := heldz hb3 mx
    have my := heldz hb3 my
    have rx := rx.below hb3 (Nat.le_refl _)
    have ry := ry.below hb3 (Nat.le_refl _)
    have hw := hw.trans (hb3.mono hw.size)
    obtain ⟨px0, px1, px2⟩ := box3_of mx
    obtain ⟨py0, py1, py2⟩ := box3_of my
    go_wp2_with fail
    refine (ADD.out w3 (fun b => b < w3.heap.size) A1 c1 A2 c2 (rx.rd.more (fun b h => h.2)) (ry.rd.more (fun b h => h.2)) (fun b h => h)).mono ?_
    rintro e w4 ⟨⟨As, ns, cs, rfl, rs⟩, hb4⟩
    clear px0 px1 px2 py0 py1 py2
    have ma := heldz hb4 ma
    have mb := heldz hb4 mb
    have mx := heldz hb4 mx
    have my := heldz hb4 my
    have rx := rx.below hb4 (Nat.le_refl _)
    have ry := ry.below hb4 (Nat.le_refl _)
    have hw := hw.trans (hb4.mono hw.size)
    have ma := heldA (.cells #[.bool N1, .slice As ns cs, .int .i64 X1] 24) ma
    have mb := heldA (.cells #[.bool N1, .slice As ns cs, .int .i64 X1] 24) mb
    have mx := heldA (.cells #[.bool N1, .slice As ns cs, .int .i64 X1] 24) mx
    have my := heldA (.cells #[.bool N1, .slice As ns cs, .int .i64 X1] 24) my
    have ms := World.alloc_heap_new w4 (.cells #[.bool N1, .slice As ns cs, .int .i64 X1] 24)
    obtain ⟨pa0, pa1, pa2⟩ := box3_of ma
    obtain ⟨pb0, pb1, pb2⟩ := box3_of mb
    go_wp2_with fail
    clear pa0 pa1 pa2 pb0 pb1 pb2
    have rx := rx.below ((Below.refl w4.heap.size w4).alloc (Nat.le_refl _) (.cells #[.bool N1, .slice As ns cs, .int .i64 X1] 24)) (Nat.le_refl _)
    have ry := ry.below ((Below.refl w4.heap.size w4).alloc (Nat.le_refl _) (.cells #[.bool N1, .slice As ns cs, .int .i64 X1] 24)) (Nat.le_refl _)
    have rs := rs.below ((Below.refl w4.heap.size w4).alloc (Nat.le_refl _) (.cells #[.bool N1, .slice As ns cs, .int .i64 X1] 24)) (Nat.le_refl _)
    have hw := hw.alloc hw.size (.cells #[.bool N1, .slice As ns cs, .int .i64 X1] 24)
    generalize hV4 : (w4.alloc (.cells #[.bool N1, .slice As ns cs, .int .i64 X1] 24)) = V4 at *
    clear hV4
    refine (RADD.out _ (ha.below hw hS) (hb.below hw hS) (up hw)).mono ?_
    rintro e w5 ⟨⟨At, nt, ct, rfl, rt⟩, hb5⟩
    have ma := heldz hb5 ma
    have mb := heldz hb5 mb
    have mx := heldz hb5 mx
    have my := heldz hb5 my
    have ms := heldz hb5 ms
    have rx := rx.below hb5 (Nat.le_refl _)
    have ry := ry.below hb5 (Nat.le_refl _)
    have rs := rs.below hb5 (Nat.le_refl _)
    have hw := hw.trans (hb5.mono hw.size)
    have ma := heldA (.cells #[.bool N1, .slice At nt ct, .int .i64 X1] 24) ma
    have mb := heldA (.cells #[.bool N1, .slice At nt ct, .int .i64 X1] 24) mb
    have mx := heldA (.cells #[.bool N1, .slice At nt ct, .int .i64 X1] 24) mx
    have my := heldA (.cells #[.bool N1, .slice At nt ct, .int .i64 X1] 24) my
    have ms := heldA (.cells #[.bool N1, .slice At nt ct, .int .i64 X1] 24) ms
    have mt := World.alloc_heap_new w5 (.cells #[.bool N1, .slice At nt ct, .int .i64 X1] 24)
    obtain ⟨px0, px1, px2⟩ := box3_of mx
    obtain ⟨py0, py1, py2⟩ := box3_of my
    go_wp2_with fail
    clear px0 px1 px2 py0 py1 py2
    have rx := rx.below ((Below.refl w5.heap.size w5).alloc (Nat.le_refl _) (.cells #[.bool N1, .slice At nt ct, .int .i64 X1] 24)) (Nat.le_refl _)
    have ry := ry.below ((Below.refl w5.heap.size w5).alloc (Nat.le_refl _) (.cells #[.bool N1, .slice At nt ct, .int .i64 X1] 24)) (Nat.le_refl _)
    have rs := rs.below ((Below.refl w5.heap.size w5).alloc (Nat.le_refl _) (.cells #[.bool N1, .slice At nt ct, .int .i64 X1] 24)) (Nat.le_refl _)
    have rt := rt.below ((Below.refl w5.heap.size w5).alloc (Nat.le_refl _) (.cells #[.bool N1, .slice At nt ct, .int .i64 X1] 24)) (Nat.le_refl _)
    have hw := hw.alloc hw.size (.cells #[.bool N1, .slice At nt ct, .int .i64 X1] 24)
    generalize hV5 : (w5.alloc (.cells #[.bool N1, .slice At nt ct, .int .i64 X1] 24)) = V5 at *
    clear hV5
    refine (SUB.out V5 (fun b => b < V5.heap.size) A1 c1 A2 c2 (rx.rd.more (fun b h => h.2)) (ry.rd.more (fun b h => h.2)) (fun b h => h)).mono ?_
    rintro e w6 ⟨⟨Au, nu, cu, rfl, ru⟩, hb6⟩
    have ma := heldz hb6 ma
    have mb := heldz hb6 mb
    have mx := heldz hb6 mx
    have my := heldz hb6 my
    have ms := heldz hb6 ms
    have mt := heldz hb6 mt
    have rx := rx.below hb6 (Nat.le_refl _)
    have ry := ry.below hb6 (Nat.le_refl _)
    have rs := rs.below hb6 (Nat.le_refl _)
    have rt := rt.below hb6 (Nat.le_refl _)
    have hw := hw.trans (hb6.mono hw.size)
    have ma := heldA (.cells #[.bool N2, .slice Au nu cu, .int .i64 X2] 24) ma
    have mb := heldA (.cells #[.bool N2, .slice Au nu cu, .int .i64 X2] 24) mb
    have mx := heldA (.cells #[.bool N2, .slice Au nu cu, .int .i64 X2] 24) mx
    have my := heldA (.cells #[.bool N2, .slice Au nu cu, .int .i64 X2] 24) my
    have ms := heldA (.cells #[.bool N2, .slice Au nu cu, .int .i64 X2] 24) ms
    have mt := heldA (.cells #[.bool N2, .slice Au nu cu, .int .i64 X2] 24) mt
    have mu := World.alloc_heap_new w6 (.cells #[.bool N2, .slice Au nu cu, .int .i64 X2] 24)
    obtain ⟨pa0, pa1, pa2⟩ := box3_of ma
    obtain ⟨pb0, pb1, pb2⟩ := box3_of mb
    go_wp2_with fail
    clear pa0 pa1 pa2 pb0 pb1 pb2
    have rx := rx.below ((Below.refl w6.heap.size w6).alloc (Nat.le_refl _) (.cells #[.bool N2, .slice Au nu cu, .int .i64 X2] 24)) (Nat.le_refl _)
    have ry := ry.below ((Below.refl w6.heap.size w6).alloc (Nat.le_refl _) (.cells #[.bool N2, .slice Au nu cu, .int .i64 X2] 24)) (Nat.le_refl _)
    have rs := rs.below ((Below.refl w6.heap.size w6).alloc (Nat.le_refl _) (.cells #[.bool N2, .slice Au nu cu, .int .i64 X2] 24)) (Nat.le_refl _)
    have rt := rt.below ((Below.refl w6.heap.size w6).alloc (Nat.le_refl _) (.cells #[.bool N2, .slice Au nu cu, .int .i64 X2] 24)) (Nat.le_refl _)
    have ru := ru.below ((Below.refl w6.heap.size w6).alloc (Nat.le_refl _) (.cells #[.bool N2, .slice Au nu cu, .int .i64 X2] 24)) (Nat.le_refl _)
    have hw := hw.alloc hw.size (.cells #[.bool N2, .slice Au nu cu, .int .i64 X2] 24)
    generalize hV6 : (w6.alloc (.cells #[.bool N2, .slice Au nu cu, .int .i64 X2] 24)) = V6 at *
    clear hV6
    refine (RSUB.out _ (ha.below hw hS) (hb.below hw hS) (up hw)).mono ?_
    rintro e w7 ⟨⟨Av, nv, cv, rfl, rv⟩, hb7⟩
    have ma := heldz hb7 ma
    have mb := heldz hb7 mb
    have mx := heldz hb7 mx
    have my := heldz hb7 my
    have ms := heldz hb7 ms
    have mt := heldz hb7 mt
    have mu := heldz hb7 mu
    have rx := rx.below hb7 (Nat.le_refl _)
    have ry := ry.below hb7 (Nat.le_refl _)
    have rs := rs.below hb7 (Nat.le_refl _)
    have rt := rt.below hb7 (Nat.le_refl _)
    have ru := ru.below hb7 (Nat.le_refl _)
    have hw := hw.trans (hb7.mono hw.size)
    have ma := heldA (.cells #[.bool N2, .slice Av nv cv, .int .i64 X2] 24) ma
    have mb := heldA (.cells #[.bool N2, .slice Av nv cv, .int .i64 X2] 24) mb
    have mx := heldA (.cells #[.bool N2, .slice Av nv cv, .int .i64 X2] 24) mx
    have my := heldA (.cells #[.bool N2, .slice Av nv cv, .int .i64 X2] 24) my
    have ms := heldA (.cells #[.bool N2, .slice Av nv cv, .int .i64 X2] 24) ms
    have mt := heldA (.cells #[.bool N2, .slice Av nv cv, .int .i64 X2] 24) mt
    have mu := heldA (.cells #[.bool N2, .slice Av nv cv, .int .i64 X2] 24) mu
    have mv := World.alloc_heap_new w7 (.cells #[.bool N2, .slice Av nv cv, .int .i64 X2] 24)
    obtain ⟨px0, px1, px2⟩ := box3_of mx
    obtain ⟨py0, py1, py2⟩ := box3_of my
    go_wp2_with fail
    clear px0 px1 px2 py0 py1 py2
    have rx := rx.below ((Below.refl w7.heap.size w7).alloc (Nat.le_refl _) (.cells #[.bool N2, .slice Av nv cv, .int .i64 X2] 24)) (Nat.le_refl _)
    have ry := ry.below ((Below.refl w7.heap.size w7).alloc (Nat.le_refl _) (.cells #[.bool N2, .slice Av nv cv, .int .i64 X2] 24)) (Nat.le_refl _)
    have rs := rs.below ((Below.refl w7.heap.size w7).alloc (Nat.le_refl _) (.cells #[.bool N2, .slice Av nv cv, .int .i64 X2] 24)) (Nat.le_refl _)
    have rt := rt.below ((Below.refl w7.heap.size w7).alloc (Nat.le_refl _) (.cells #[.bool N2, .slice Av nv cv, .int .i64 X2] 24)) (Nat.le_refl _)
    have ru := ru.below ((Below.refl w7.heap.size w7).alloc (Nat.le_refl _) (.cells #[.bool N2, .slice Av nv cv, .int .i64 X2] 24)) (Nat.le_refl _)
    have rv := rv.below ((Below.refl w7.heap.size w7).alloc (Nat.le_refl _) (.cells #[.bool N2, .slice Av nv cv, .int .i64 X2] 24)) (Nat.le_refl _)
    have hw := hw.alloc hw.size (.cells #[.bool N2, .slice Av nv cv, .int .i64 X2] 24)
    generalize hV7 : (w7.alloc (.cells #[.bool N2, .slice Av nv cv, .int .i64 X2] 24)) = V7 at *
    clear hV7
    refine (MUL.out V7 (fun b => b < V7.heap.size) A1 c1 A2 c2 (rx.rd.more (fun b h => h.2)) (ry.rd.more (fun b h => h.2)) (fun b h => h)).mono ?_
    rintro e w8 ⟨⟨Ap, np, cp, rfl, rp⟩, hb8⟩
    have ma := heldz hb8 ma
    have mb := heldz hb8 mb
    have mx := heldz hb8 mx
    have my := heldz hb8 my
    have ms := heldz hb8 ms
    have mt := heldz hb8 mt
    have mu := heldz hb8 mu
    have mv := heldz hb8 mv
    have rx := rx.below hb8 (Nat.le_refl _)
    have ry := ry.below hb8 (Nat.le_refl _)
    have rs := rs.below hb8 (Nat.le_refl _)
    have rt := rt.below hb8 (Nat.le_refl _)
    have ru := ru.below hb8 (Nat.le_refl _)
    have rv := rv.below hb8 (Nat.le_refl _)
    have hw := hw.trans (hb8.mono hw.size)
    have ma := heldA (.cells #[.bool N3, .slice Ap np cp, .int .i64 X3] 24) ma
    have mb := heldA (.cells #[.bool N3, .slice Ap np cp, .int .i64 X3] 24) mb
    have mx := heldA (.cells #[.bool N3, .slice Ap np cp, .int .i64 X3] 24) mx
    have my := heldA (.cells #[.bool N3, .slice Ap np cp, .int .i64 X3] 24) my
    have ms := heldA (.cells #[.bool N3, .slice Ap np cp, .int .i64 X3] 24) ms
    have mt := heldA (.cells #[.bool N3, .slice Ap np cp, .int .i64 X3] 24) mt
    have mu := heldA (.cells #[.bool N3, .slice Ap np cp, .int .i64 X3] 24) mu
    have mv := heldA (.cells #[.bool N3, .slice Ap np cp, .int .i64 X3] 24) mv
    have mp := World.alloc_heap_new w8 (.cells #[.bool N3, .slice Ap np cp, .int .i64 X3] 24)
    obtain ⟨pa0, pa1, pa2⟩ := box3_of ma
    obtain ⟨pb0, pb1, pb2⟩ := box3_of mb
    go_wp2_with fail
    clear pa0 pa1 pa2 pb0 pb1 pb2
    have rx := rx.below ((Below.refl w8.heap.size w8).alloc (Nat.le_refl _) (.cells #[.bool N3, .slice Ap np cp, .int .i64 X3] 24)) (Nat.le_refl _)
    have ry := ry.below ((Below.refl w8.heap.size w8).alloc (Nat.le_refl _) (.cells #[.bool N3, .slice Ap np cp, .int .i64 X3] 24)) (Nat.le_refl _)
    have rs := rs.below ((Below.refl w8.heap.size w8).alloc (Nat.le_refl _) (.cells #[.bool N3, .slice Ap np cp, .int .i64 X3] 24)) (Nat.le_refl _)
    have rt := rt.below ((Below.refl w8.heap.size w8).alloc (Nat.le_refl _) (.cells #[.bool N3, .slice Ap np cp, .int .i64 X3] 24)) (Nat.le_refl _)
    have ru := ru.below ((Below.refl w8.heap.size w8).alloc (Nat.le_refl _) (.cells #[.bool N3, .slice Ap np cp, .int .i64 X3] 24)) (Nat.le_refl _)
    have rv := rv.below ((Below.refl w8.heap.size w8).alloc (Nat.le_refl _) (.cells #[.bool N3, .slice Ap np cp, .int .i64 X3] 24)) (Nat.le_refl _)
    have rp := rp.below ((Below.refl w8.heap.size w8).alloc (Nat.le_refl _) (.cells #[.bool N3, .slice Ap np cp, .int .i64 X3] 24)) (Nat.le_refl _)
    have hw := hw.alloc hw.size (.cells #[.bool N3, .slice Ap np cp, .int .i64 X3] 24)
    generalize hV8 : (w8.alloc (.cells #[.bool N3, .slice Ap np cp, .int .i64 X3] 24)) = V8 at *
    clear hV8
    refine (RMUL.out _ (ha.below hw hS) (hb.below hw hS) (up hw)).mono ?_
    rintro e w9 ⟨⟨Aq, nq, cq, rfl, rq⟩, hb9⟩
    have ma := heldz hb9 ma
    have mb := heldz hb9 mb
    have mx := heldz hb9 mx
    have my := heldz hb9 my
    have ms := heldz hb9 ms
    have mt := heldz hb9 mt
    have mu := heldz hb9 mu
    have mv := heldz hb9 mv
    have mp := heldz hb9 mp
    have rx := rx.below hb9 (Nat.le_refl _)
    have ry := ry.below hb9 (Nat.le_refl _)
    have rs := rs.below hb9 (Nat.le_refl _)
    have rt := rt.below hb9 (Nat.le_refl _)
    have ru := ru.below hb9 (Nat.le_refl _)
    have rv := rv.below hb9 (Nat.le_refl _)
    have rp := rp.below hb9 (Nat.le_refl _)
    have hw := hw.trans (hb9.mono hw.size)
    have ma := heldA (.cells #[.bool N3, .slice Aq nq cq, .int .i64 X3] 24) ma
    have mb := heldA (.cells #[.bool N3, .slice Aq nq cq, .int .i64 X3] 24) mb
    have mx := heldA (.cells #[.bool N3, .slice Aq nq cq, .int .i64 X3] 24) mx
    have my := heldA (.cells #[.bool N3, .slice Aq nq cq, .int .i64 X3] 24) my
    have ms := heldA (.cells #[.bool N3, .slice Aq nq cq, .int .i64 X3] 24) ms
    have mt := heldA (.cells #[.bool N3, .slice Aq nq cq, .int .i64 X3] 24) mt
    have mu := heldA (.cells #[.bool N3, .slice Aq nq cq, .int .i64 X3] 24) mu
    have mv := heldA (.cells #[.bool N3, .slice Aq nq cq, .int .i64 X3] 24) mv
    have mp := heldA (.cells #[.bool N3, .slice Aq nq cq, .int .i64 X3] 24) mp
    have mq := World.alloc_heap_new w9 (.cells #[.bool N3, .slice Aq nq cq, .int .i64 X3] 24)
    obtain ⟨ps0, ps1, ps2⟩ := box3_of ms
    obtain ⟨pt0, pt1, pt2⟩ := box3_of mt
    go_wp2_with (first
      | (go_at_call 21; refine (num2_c _ _).mono ?_; rintro e w' ⟨rfl, rfl⟩)
      | fail)
    clear ps0 ps1 ps2 pt0 pt1 pt2
    have rx := rx.below ((Below.refl w9.heap.size w9).alloc (Nat.le_refl _) (.cells #[.bool N3, .slice Aq nq cq, .int .i64 X3] 24)) (Nat.le_refl _)
    have ry := ry.below ((Below.refl w9.heap.size w9).alloc (Nat.le_refl _) (.cells #[.bool N3, .slice Aq nq cq, .int .i64 X3] 24)) (Nat.le_refl _)
    have rs := rs.below ((Below.refl w9.heap.size w9).alloc (Nat.le_refl _) (.cells #[.bool N3, .slice Aq nq cq, .int .i64 X3] 24)) (Nat.le_refl _)
    have rt := rt.below ((Below.refl w9.heap.size w9).alloc (Nat.le_refl _) (.cells #[.bool N3, .slice Aq nq cq, .int .i64 X3] 24)) (Nat.le_refl _)
    have ru := ru.below ((Below.refl w9.heap.size w9).alloc (Nat.le_refl _) (.cells #[.bool N3, .slice Aq nq cq, .int .i64 X3] 24)) (Nat.le_refl _)
    have rv := rv.below ((Below.refl w9.heap.size w9).alloc (Nat.le_refl _) (.cells #[.bool N3, .slice Aq nq cq, .int .i64 X3] 24)) (Nat.le_refl _)
    have rp := rp.below ((Below.refl w9.heap.size w9).alloc (Nat.le_refl _) (.cells #[.bool N3, .slice Aq nq cq, .int .i64 X3] 24)) (Nat.le_refl _)
    have rq := rq.below ((Below.refl w9.heap.size w9).alloc (Nat.le_refl _) (.cells #[.bool N3, .slice Aq nq cq, .int .i64 X3] 24)) (Nat.le_refl _)
    have hw := hw.alloc hw.size (.cells #[.bool N3, .slice Aq nq cq, .int .i64 X3] 24)
    generalize hV9 : (w9.alloc (.cells #[.bool N3, .slice Aq nq cq, .int .i64 X3] 24)) = V9 at *
    clear hV9
    refine (S1.out _ _ _ _ _ _ _ _ _ rs.rd rt.rd (fun b h => h.2) (fun b h => h.2) rs.lt rt.lt).mono ?_
    rintro e w10 ⟨rfl, hb10⟩
    have ma := heldz hb10 ma
    have mb := heldz hb10 mb
    have mx := heldz hb10 mx
    have my := heldz hb10 my
    have ms := heldz hb10 ms
    have mt := heldz hb10 mt
    have mu := heldz hb10 mu
    have mv := heldz hb10 mv
    have mp := heldz hb10 mp
    have mq := heldz hb10 mq
    have rx := rx.below hb10 (Nat.le_refl _)
    have ry := ry.below hb10 (Nat.le_refl _)
    have rs := rs.below hb10 (Nat.le_refl _)
    have rt := rt.below hb10 (Nat.le_refl _)
    have ru := ru.below hb10 (Nat.le_refl _)
    have rv := rv.below hb10 (Nat.le_refl _)
    have rp := rp.below hb10 (Nat.le_refl _)
    have rq := rq.below hb10 (Nat.le_refl _)
    have hw := hw.trans (hb10.mono hw.size)
    obtain ⟨pu0, pu1, pu2⟩ := box3_of mu
    obtain ⟨pv0, pv1, pv2⟩ := box3_of mv
    go_wp2_with (first
      | (go_at_call 21; refine (num2_c _ _).mono ?_; rintro e w' ⟨rfl, rfl⟩)
      | fail)
    refine (S2.out _ _ _ _ _ _ _ _ _ ru.rd rv.rd (fun b h => h.2) (fun b h => h.2) ru.lt rv.lt).mono ?_
    rintro e w11 ⟨rfl, hb11⟩
    clear pu0 pu1 pu2 pv0 pv1 pv2
    have ma := heldz hb11 ma
    have mb := heldz hb11 mb
    have mx := heldz hb11 mx
    have my := heldz hb11 my
    have ms := heldz hb11 ms
    have mt := heldz hb11 mt
    have mu := heldz hb11 mu
    have mv := heldz hb11 mv
    have mp := heldz hb11 mp
    have mq := heldz hb11 mq
    have rx := rx.below hb11 (Nat.le_refl _)
    have ry := ry.below hb11 (Nat.le_refl _)
    have rs := rs.below hb11 (Nat.le_refl _)
    have rt := rt.below hb11 (Nat.le_refl _)
    have ru := ru.below hb11 (Nat.le_refl _)
    have rv := rv.below hb11 (Nat.le_refl _)
    have rp := rp.below hb11 (Nat.le_refl _)
    have rq := rq.below hb11 (Nat.le_refl _)
    have hw := hw.trans (hb11.mono hw.size)
    obtain ⟨pp0, pp1, pp2⟩ := box3_of mp
    obtain ⟨pq0, pq1, pq2⟩ := box3_of mq
    go_wp2_with (first
      | (go_at_call 21; refine (num2_c _ _).mono ?_; rintro e w' ⟨rfl, rfl⟩)
      | fail)
    refine (S3.out _ _ _ _ _ _ _ _ _ rp.rd rq.rd (fun b h => h.2) (fun b h => h.2) rp.lt rq.lt).mono ?_
    rintro e w12 ⟨rfl, hb12⟩
    clear pp0 pp1 pp2 pq0 pq1 pq2
    have ma := heldz hb12 ma
    have mb := heldz hb12 mb
    have mx := heldz hb12 mx
    have my := heldz hb12 my
    have ms := heldz hb12 ms
    have mt := heldz hb12 mt
    have mu := heldz hb12 mu
    have mv := heldz hb12 mv
    have mp := heldz hb12 mp
    have mq := heldz hb12 mq
    have rx := rx.below hb12 (Nat.le_refl _)
    have ry := ry.below hb12 (Nat.le_refl _)
    have rs := rs.below hb12 (Nat.le_refl _)
    have rt := rt.below hb12 (Nat.le_refl _)
    have ru := ru.below hb12 (Nat.le_refl _)
    have rv := rv.below hb12 (Nat.le_refl _)
    have rp := rp.below hb12 (Nat.le_refl _)
    have rq := rq.below hb12 (Nat.le_refl _)
    have hw := hw.trans (hb12.mono hw.size)
    obtain ⟨px0, px1, px2⟩ := box3_of mx
    go_wp2_with (first
      | (go_at_call 21; refine (num2_c _ _).mono ?_; rintro e w' ⟨rfl, rfl⟩)
      | fail)
    refine (NEG.out w12 (fun b => b < w12.heap.size) A1 c1 (rx.rd.more (fun b h => h.2)) (fun b h => h)).mono ?_
    rintro e w13 ⟨⟨Ao, no, co, rfl, ro⟩, hb13⟩
    clear px0 px1 px2
    have ma := heldz hb13 ma
    have mb := heldz hb13 mb
    have mx := heldz hb13 mx
    have my := heldz hb13 my
    have ms := heldz hb13 ms
    have mt := heldz hb13 mt
    have mu := heldz hb13 mu
    have mv := heldz hb13 mv
    have mp := heldz hb13 mp
    have mq := heldz hb13 mq
    have rx := rx.below hb13 (Nat.le_refl _)
    have ry := ry.below hb13 (Nat.le_refl _)
    have rs := rs.below hb13 (Nat.le_refl _)
    have rt := rt.below hb13 (Nat.le_refl _)
    have ru := ru.below hb13 (Nat.le_refl _)
    have rv := rv.below hb13 (Nat.le_refl _)
    have rp := rp.below hb13 (Nat.le_refl _)
    have rq := rq.below hb13 (Nat.le_refl _)
    have hw := hw.trans (hb13.mono hw.size)
    have ma := heldA (.cells #[.bool N4, .slice Ao no co, .int .i64 X4] 24) ma
    have mb := heldA (.cells #[.bool N4, .slice Ao no co, .int .i64 X4] 24) mb
    have mx := heldA (.cells #[.bool N4, .slice Ao no co, .int .i64 X4] 24) mx
    have my := heldA (.cells #[.bool N4, .slice Ao no co, .int .i64 X4] 24) my
    have ms := heldA (.cells #[.bool N4, .slice Ao no co, .int .i64 X4] 24) ms
    have mt := heldA (.cells #[.bool N4, .slice Ao no co, .int .i64 X4] 24) mt
    have mu := heldA (.cells #[.bool N4, .slice Ao no co, .int .i64 X4] 24) mu
    have mv := heldA (.cells #[.bool N4, .slice Ao no co, .int .i64 X4] 24) mv
    have mp := heldA (.cells #[.bool N4, .slice Ao no co, .int .i64 X4] 24) mp
    have mq := heldA (.cells #[.bool N4, .slice Ao no co, .int .i64 X4] 24) mq
    have mo := World.alloc_heap_new w13 (.cells #[.bool N4, .slice Ao no co, .int .i64 X4] 24)
    obtain ⟨pa0, pa1, pa2⟩ := box3_of ma
    go_wp2_with fail
    clear pa0 pa1 pa2
    have rx := rx.below ((Below.refl w13.heap.size w13).alloc (Nat.le_refl _) (.cells #[.bool N4, .slice Ao no co, .int .i64 X4] 24)) (Nat.le_refl _)
    have ry := ry.below ((Below.refl w13.heap.size w13).alloc (Nat.le_refl _) (.cells #[.bool N4, .slice Ao no co, .int .i64 X4] 24)) (Nat.le_refl _)
    have rs := rs.below ((Below.refl w13.heap.size w13).alloc (Nat.le_refl _) (.cells #[.bool N4, .slice Ao no co, .int .i64 X4] 24)) (Nat.le_refl _)
    have rt := rt.below ((Below.refl w13.heap.size w13).alloc (Nat.le_refl _) (.cells #[.bool N4, .slice Ao no co, .int .i64 X4] 24)) (Nat.le_refl _)
    have ru := ru.below ((Below.refl w13.heap.size w13).alloc (Nat.le_refl _) (.cells #[.bool N4, .slice Ao no co, .int .i64 X4] 24)) (Nat.le_refl _)
    have rv := rv.below ((Below.refl w13.heap.size w13).alloc (Nat.le_refl _) (.cells #[.bool N4, .slice Ao no co, .int .i64 X4] 24)) (Nat.le_refl _)
    have rp := rp.below ((Below.refl w13.heap.size w13).alloc (Nat.le_refl _) (.cells #[.bool N4, .slice Ao no co, .int .i64 X4] 24)) (Nat.le_refl _)
    have rq := rq.below ((Below.refl w13.heap.size w13).alloc (Nat.le_refl _) (.cells #[.bool N4, .slice Ao no co, .int .i64 X4] 24)) (Nat.le_refl _)
    have ro := ro.below ((Below.refl w13.heap.size w13).alloc (Nat.le_refl _) (.cells #[.bool N4, .slice Ao no co, .int .i64 X4] 24)) (Nat.le_refl _)
    have hw := hw.alloc hw.size (.cells #[.bool N4, .slice Ao no co, .int .i64 X4] 24)
    generalize hV13 : (w13.alloc (.cells #[.bool N4, .slice Ao no co, .int .i64 X4] 24)) = V13 at *
    clear hV13
    refine (RNEG.out _ (ha.below hw hS) (up hw)).mono ?_
    rintro e w14 ⟨⟨Ag, ng, cg, rfl, rg⟩, hb14⟩
    have ma := heldz hb14 ma
    have mb := heldz hb14 mb
    have mx := heldz hb14 mx
    have my := heldz hb14 my
    have ms := heldz hb14 ms
    have mt := heldz hb14 mt
    have mu := heldz hb14 mu
    have mv := heldz hb14 mv
    have mp := heldz hb14 mp
    have mq := heldz hb14 mq
    have mo := heldz hb14 mo
    have rx := rx.below hb14 (Nat.le_refl _)
    have ry := ry.below hb14 (Nat.le_refl _)
    have rs := rs.below hb14 (Nat.le_refl _)
    have rt := rt.below hb14 (Nat.le_refl _)
    have ru := ru.below hb14 (Nat.le_refl _)
    have rv := rv.below hb14 (Nat.le_refl _)
    have rp := rp.below hb14 (Nat.le_refl _)
    have rq := rq.below hb14 (Nat.le_refl _)
    have ro := ro.below hb14 (Nat.le_refl _)
    have hw := hw.trans (hb14.mono hw.size)
    have ma := heldA (.cells #[.bool N4, .slice Ag ng cg, .int .i64 X4] 24) ma
    have mb := heldA (.cells #[.bool N4, .slice Ag ng cg, .int .i64 X4] 24) mb
    have mx := heldA (.cells #[.bool N4, .slice Ag ng cg, .int .i64 X4] 24) mx
    have my := heldA (.cells #[.bool N4, .slice Ag ng cg, .int .i64 X4] 24) my
    have ms := heldA (.cells #[.bool N4, .slice Ag ng cg, .int .i64 X4] 24) ms
    have mt := heldA (.cells #[.bool N4, .slice Ag ng cg, .int .i64 X4] 24) mt
    have mu := heldA (.cells #[.bool N4, .slice Ag ng cg, .int .i64 X4] 24) mu
    have mv := heldA (.cells #[.bool N4, .slice Ag ng cg, .int .i64 X4] 24) mv
    have mp := heldA (.cells #[.bool N4, .slice Ag ng cg, .int .i64 X4] 24) mp
    have mq := heldA (.cells #[.bool N4, .slice Ag ng cg, .int .i64 X4] 24) mq
    have mo := heldA (.cells #[.bool N4, .slice Ag ng cg, .int .i64 X4] 24) mo
    have mg := World.alloc_heap_new w14 (.cells #[.bool N4, .slice Ag ng cg, .int .i64 X4] 24)
    obtain ⟨px0, px1, px2⟩ := box3_of mx
    go_wp2_with fail
    clear px0 px1 px2
    have rx := rx.below ((Below.refl w14.heap.size w14).alloc (Nat.le_refl _) (.cells #[.bool N4, .slice Ag ng cg, .int .i64 X4] 24)) (Nat.le_refl _)
    have ry := ry.below ((Below.refl w14.heap.size w14).alloc (Nat.le_refl _) (.cells #[.bool N4, .slice Ag ng cg, .int .i64 X4] 24)) (Nat.le_refl _)
    have rs := rs.below ((Below.refl w14.heap.size w14).alloc (Nat.le_refl _) (.cells #[.bool N4, .slice Ag ng cg, .int .i64 X4] 24)) (Nat.le_refl _)
    have rt := rt.below ((Below.refl w14.heap.size w14).alloc (Nat.le_refl _) (.cells #[.bool N4, .slice Ag ng cg, .int .i64 X4] 24)) (Nat.le_refl _)
    have ru := ru.below ((Below.refl w14.heap.size w14).alloc (Nat.le_refl _) (.cells #[.bool N4, .slice Ag ng cg, .int .i64 X4] 24)) (Nat.le_refl _)
    have rv := rv.below ((Below.refl w14.heap.size w14).alloc (Nat.le_refl _) (.cells #[.bool N4, .slice Ag ng cg, .int .i64 X4] 24)) (Nat.le_refl _)
    have rp := rp.below ((Below.refl w14.heap.size w14).alloc (Nat.le_refl _) (.cells #[.bool N4, .slice Ag ng cg, .int .i64 X4] 24)) (Nat.le_refl _)
    have rq := rq.below ((Below.refl w14.heap.size w14).alloc (Nat.le_refl _) (.cells #[.bool N4, .slice Ag ng cg, .int .i64 X4] 24)) (Nat.le_refl _)
    have ro := ro.below ((Below.refl w14.heap.size w14).alloc (Nat.le_refl _) (.cells #[.bool N4, .slice Ag ng cg, .int .i64 X4] 24)) (Nat.le_refl _)
    have rg := rg.below ((Below.refl w14.heap.size w14).alloc (Nat.le_refl _) (.cells #[.bool N4, .slice Ag ng cg, .int .i64 X4] 24)) (Nat.le_refl _)
    have hw := hw.alloc hw.size (.cells #[.bool N4, .slice Ag ng cg, .int .i64 X4] 24)
    generalize hV14 : (w14.alloc (.cells #[.bool N4, .slice Ag ng cg, .int .i64 X4] 24)) = V14 at *
    clear hV14
    refine (WH.out V14 (fun b => b < V14.heap.size) A1 c1 (rx.rd.more (fun b h => h.2)) (fun b h => h)).mono ?_
    rintro e w15 ⟨rfl, hb15⟩
    have ma := heldz hb15 ma
    have mb := heldz hb15 mb
    have mx := heldz hb15 mx
    have my := heldz hb15 my
    have ms := heldz hb15 ms
    have mt := heldz hb15 mt
    have mu := heldz hb15 mu
    have mv := heldz hb15 mv
    have mp := heldz hb15 mp
    have mq := heldz hb15 mq
    have mo := heldz hb15 mo
    have mg := heldz hb15 mg
    have rx := rx.below hb15 (Nat.le_refl _)
    have ry := ry.below hb15 (Nat.le_refl _)
    have rs := rs.below hb15 (Nat.le_refl _)
    have rt := rt.below hb15 (Nat.le_refl _)
    have ru := ru.below hb15 (Nat.le_refl _)
    have rv := rv.below hb15 (Nat.le_refl _)
    have rp := rp.below hb15 (Nat.le_refl _)
    have rq := rq.below hb15 (Nat.le_refl _)
    have ro := ro.below hb15 (Nat.le_refl _)
    have rg := rg.below hb15 (Nat.le_refl _)
    have hw := hw.trans (hb15.mono hw.size)
    obtain ⟨pa0, pa1, pa2⟩ := box3_of ma
    go_wp2_with fail
    refine (RWH.out _ (ha.below hw hS) (up hw)).mono ?_
    rintro e w16 ⟨rfl, hb16⟩
    clear pa0 pa1 pa2
    have ma := heldz hb16 ma
    have mb := heldz hb16 mb
    have mx := heldz hb16 mx
    have my := heldz hb16 my
    have ms := heldz hb16 ms
    have mt := heldz hb16 mt
    have mu := heldz hb16 mu
    have mv := heldz hb16 mv
    have mp := heldz hb16 mp
    have mq := heldz hb16 mq
    have mo := heldz hb16 mo
    have mg := heldz hb16 mg
    have rx := rx.below hb16 (Nat.le_refl _)
    have ry := ry.below hb16 (Nat.le_refl _)
    have rs := rs.below hb16 (Nat.le_refl _)
    have rt := rt.below hb16 (Nat.le_refl _)
    have ru := ru.below hb16 (Nat.le_refl _)
    have rv := rv.below hb16 (Nat.le_refl _)
    have rp := rp.below hb16 (Nat.le_refl _)
    have rq := rq.below hb16 (Nat.le_refl _)
    have ro := ro.below hb16 (Nat.le_refl _)
    have rg := rg.below hb16 (Nat.le_refl _)
    have hw := hw.trans (hb16.mono hw.size)
    obtain ⟨qo0, qo1, qo2⟩ := box3_of mo
    obtain ⟨qg0, qg1, qg2⟩ := box3_of mg
    obtain ⟨qx0, qx1, qx2⟩ := box3_of mx
    obtain ⟨qy0, qy1, qy2⟩ := box3_of my
    obtain ⟨qa0, qa1, qa2⟩ := box3_of ma
    obtain ⟨qb0, qb1, qb2⟩ := box3_of mb
    go_wp2_with fail
    refine wp_region_held_drew (S := fun w' => w'.cell? ⟨w13.heap.size, 0, none⟩ = some (.bool N4) ∧ w'.cell? ⟨w13.heap.size, 1, none⟩ = some (.slice Ao no co) ∧ w'.cell? ⟨w13.heap.size, 2, none⟩ = some (.int .i64 X4) ∧ w'.cell? ⟨w14.heap.size, 0, none⟩ = some (.bool N4) ∧ w'.cell? ⟨w14.heap.size, 1, none⟩ = some (.slice Ag ng cg) ∧ w'.cell? ⟨w14.heap.size, 2, none⟩ = some (.int .i64 X4) ∧ w'.cell? ⟨gx, 0, none⟩ = some (.bool na) ∧ w'.cell? ⟨gx, 1, none⟩ = some (.slice A1 n c1) ∧ w'.cell? ⟨gx, 2, none⟩ = some (.int .i64 e1) ∧ w'.cell? ⟨gy, 0, none⟩ = some (.bool nb) ∧ w'.cell? ⟨gy, 1, none⟩ = some (.slice A2 m c2) ∧ w'.cell? ⟨gy, 2, none⟩ = some (.int .i64 e2) ∧ w'.cell? ⟨w.heap.size, 0, none⟩ = some (.bool na) ∧ w'.cell? ⟨w.heap.size, 1, none⟩ = some (.slice A n c) ∧ w'.cell? ⟨w.heap.size, 2, none⟩ = some (.int .i64 e1) ∧ w'.cell? ⟨w.heap.size + 1, 0, none⟩ = some (.bool nb) ∧ w'.cell? ⟨w.heap.size + 1, 1, none⟩ = some (.slice B m d) ∧ w'.cell? ⟨w.heap.size + 1, 2, none⟩ = some (.int .i64 e2)) (by kernel_rfl) ⟨qo0, qo1, qo2, qg0, qg1, qg2, qx0, qx1, qx2, qy0, qy1, qy2, qa0, qa1, qa2, qb0, qb1, qb2⟩ (fun hHeld => ?_)
    (try simp only [List.size_toArray, List.length_cons, List.length_nil, Nat.reduceAdd, Array.replicate_succ, Array.replicate_zero, List.push_toArray, List.append_toArray, List.nil_append, List.cons_append])
    clear qo0 qo1 qo2 qg0 qg1 qg2 qx0 qx1 qx2 qy0 qy1 qy2 qa0 qa1 qa2 qb0 qb1 qb2
    have mo : w16.drew.heap[(w13.heap.size : Nat)]? = _ := mo
    have mg : w16.drew.heap[(w14.heap.size : Nat)]? = _ := mg
    have mx : w16.drew.heap[(gx : Nat)]? = _ := mx
    have my : w16.drew.heap[(gy : Nat)]? = _ := my
    have ma : w16.drew.heap[(w.heap.size : Nat)]? = _ := ma
    have mb : w16.drew.heap[(w.heap.size + 1 : Nat)]? = _ := mb
    have ro := ro.keep (w' := w16.drew) (fun _ _ => rfl)
    have rg := rg.keep (w' := w16.drew) (fun _ _ => rfl)
    have rx := rx.keep (w' := w16.drew) (fun _ _ => rfl)
    have ry := ry.keep (w' := w16.drew) (fun _ _ => rfl)
    have hw := only_drewB hw
    clear ms mt mu mv mp mq rs rt ru rv rp rq ADD RADD SUB RSUB MUL RMUL NEG RNEG CMP RCMP WH RWH S1 S2 S3 OA OB
    generalize hV0 : w16.drew = V0 at *
    clear hV0
    have Hha0 := Lib.hid ha
    clear ha
    have Hhb0 := Lib.hid hb
    clear hb
    have Hmo := Lib.hid mo
    have Hmg := Lib.hid mg
    have Hmx := Lib.hid mx
    have Hmy := Lib.hid my
    have Hma := Lib.hid ma
    have Hmb := Lib.hid mb
    have Hro := Lib.hid ro
    have Hrg := Lib.hid rg
    have Hrx := Lib.hid rx
    have Hry := Lib.hid ry
    have Hhw := Lib.hid hw
    clear mo mg mx my ma mb ro rg rx ry hw
    refine wpAnyH_take (i := 0) (oi := ⟨_, _, _, _, _, _⟩) (v := ?_) rfl (by kernel_rfl) (by kernel_rfl) (by kernel_rfl) (fun _ _ _ h => h) (Or.inl ⟨by rfl, ?_⟩) (by assumption) ?_
    rotate_left
    · intro w hSw
      (try dsimp only at hSw)
      go_split_ands
      go_simp
      try with_reducible rfl
    try simp only [Act.put, List.setIfInBounds_toArray, List.set_cons_zero, List.set_cons_succ]
    refine wpAnyH_take (i := 1) (oi := ⟨_, _, _, _, _, _⟩) (v := ?_) rfl (by kernel_rfl) (by kernel_rfl) (by kernel_rfl) (fun _ _ _ h => h) (Or.inl ⟨by rfl, ?_⟩) (by assumption) ?_
    rotate_left
    · intro w hSw
      (try dsimp only at hSw)
      go_split_ands
      go_simp
      try with_reducible rfl
    try simp only [Act.put, List.setIfInBounds_toArray, List.set_cons_zero, List.set_cons_succ]
    refine wpAnyH_ready (rs := [2]) (by kernel_rfl) (by simp) (AllReadyH.cons (o := ⟨_, _, _, _, _, _⟩) rfl (fun K hK => ?_) AllReadyH.nil)
    go_simp
    have mo := Hmo.out
    have mg := Hmg.out
    have mx := Hmx.out
    have my := Hmy.out
    have ma := Hma.out
    have mb := Hmb.out
    have ro := Hro.out
    have rg := Hrg.out
    have rx := Hrx.out
    have ry := Hry.out
    have hw := Hhw.out
    clear Hmo Hmg Hmx Hmy Hma Hmb Hro Hrg Hrx Hry Hhw
    refine (S4.out _ _ _ _ _ _ _ _ _ ro.rd rg.rd (fun b h => h.2) (fun b h => h.2) ro.lt rg.lt).mono ?_
    rintro e w17 ⟨rfl, hb17⟩
    have mo := heldz hb17 mo
    have mg := heldz hb17 mg
    have mx := heldz hb17 mx
    have my := heldz hb17 my
    have ma := heldz hb17 ma
    have mb := heldz hb17 mb
    have ro := ro.below hb17 (Nat.le_refl _)
    have rg := rg.below hb17 (Nat.le_refl _)
    have rx := rx.below hb17 (Nat.le_refl _)
    have ry := ry.below hb17 (Nat.le_refl _)
    have hw := hw.trans (hb17.mono hw.size)
    (try dsimp only)
    obtain ⟨qo0, qo1, qo2⟩ := box3_of mo
    obtain ⟨qg0, qg1, qg2⟩ := box3_of mg
    obtain ⟨qx0, qx1, qx2⟩ := box3_of mx
    obtain ⟨qy0, qy1, qy2⟩ := box3_of my
    obtain ⟨qa0, qa1, qa2⟩ := box3_of ma
    obtain ⟨qb0, qb1, qb2⟩ := box3_of mb
    refine hK.out _ _ ⟨qo0, qo1, qo2, qg0, qg1, qg2, qx0, qx1, qx2, qy0, qy1, qy2, qa0, qa1, qa2, qb0, qb1, qb2⟩ (fun hHn => ?_)
    clear hK K hHeld
    have hHeld := hHn
    clear hHn
    clear qo0 qo1 qo2 qg0 qg1 qg2 qx0 qx1 qx2 qy0 qy1 qy2 qa0 qa1 qa2 qb0 qb1 qb2
    have Hmo := Lib.hid mo
    have Hmg := Lib.hid mg
    have Hmx := Lib.hid mx
    have Hmy := Lib.hid my
    have Hma := Lib.hid ma
    have Hmb := Lib.hid mb
    have Hro := Lib.hid ro
    have Hrg := Lib.hid rg
    have Hrx := Lib.hid rx
    have Hry := Lib.hid ry
    have Hhw := Lib.hid hw
    clear mo mg mx my ma mb ro rg rx ry hw
    try simp only [Act.put, List.setIfInBounds_toArray, List.set_cons_zero, List.set_cons_succ]
    refine wpAnyH_take (i := 3) (oi := ⟨_, _, _, _, _, _⟩) (v := ?_) rfl (by kernel_rfl) (by kernel_rfl) (by kernel_rfl) (fun _ _ _ h => h) (Or.inl ⟨by rfl, ?_⟩) (by assumption) ?_
    rotate_left
    · intro w hSw
      (try dsimp only at hSw)
      go_split_ands
      go_simp
      try with_reducible rfl
    try simp only [Act.put, List.setIfInBounds_toArray, List.set_cons_zero, List.set_cons_succ]
    refine wpAnyH_take (i := 4) (oi := ⟨_, _, _, _, _, _⟩) (v := ?_) rfl (by kernel_rfl) (by kernel_rfl) (by kernel_rfl) (fun _ _ _ h => h) (Or.inl ⟨by rfl, ?_⟩) (by assumption) ?_
    rotate_left
    · intro w hSw
      (try dsimp only at hSw)
      go_split_ands
      go_simp
      try with_reducible rfl
    try simp only [Act.put, List.setIfInBounds_toArray, List.set_cons_zero, List.set_cons_succ]
    refine wpAnyH_take (i := 6) (oi := ⟨_, _, _, _, _, _⟩) (v := ?_) rfl (by kernel_rfl) (by kernel_rfl) (by kernel_rfl) (fun _ _ _ h => h) (Or.inl ⟨by rfl, ?_⟩) (by assumption) ?_
    rotate_left
    · intro w hSw
      (try dsimp only at hSw)
      go_split_ands
      go_simp
      try with_reducible rfl
    try simp only [Act.put, List.setIfInBounds_toArray, List.set_cons_zero, List.set_cons_succ]
    refine wpAnyH_ready (rs := [5]) (by kernel_rfl) (by simp) (AllReadyH.cons (o := ⟨_, _, _, _, _, _⟩) rfl (fun K hK => ?_) AllReadyH.nil)
    go_simp
    have mo := Hmo.out
    have mg := Hmg.out
    have mx := Hmx.out
    have my := Hmy.out
    have ma := Hma.out
    have mb := Hmb.out
    have ro := Hro.out
    have rg := Hrg.out
    have rx := Hrx.out
    have ry := Hry.out
    have hw := Hhw.out
    clear Hmo Hmg Hmx Hmy Hma Hmb Hro Hrg Hrx Hry Hhw
    refine (num2_c _ _).mono ?_
    rintro e w' ⟨rfl, hnw⟩
    subst hnw
    (try dsimp only)
    obtain ⟨qo0, qo1, qo2⟩ := box3_of mo
    obtain ⟨qg0, qg1, qg2⟩ := box3_of mg
    obtain ⟨qx0, qx1, qx2⟩ := box3_of mx
    obtain ⟨qy0, qy1, qy2⟩ := box3_of my
    obtain ⟨qa0, qa1, qa2⟩ := box3_of ma
    obtain ⟨qb0, qb1, qb2⟩ := box3_of mb
    refine hK.out _ _ ⟨qo0, qo1, qo2, qg0, qg1, qg2, qx0, qx1, qx2, qy0, qy1, qy2, qa0, qa1, qa2, qb0, qb1, qb2⟩ (fun hHn => ?_)
    clear hK K hHeld
    have hHeld := hHn
    clear hHn
    clear qo0 qo1 qo2 qg0 qg1 qg2 qx0 qx1 qx2 qy0 qy1 qy2 qa0 qa1 qa2 qb0 qb1 qb2
    have Hmo := Lib.hid mo
    have Hmg := Lib.hid mg
    have Hmx := Lib.hid mx
    have Hmy := Lib.hid my
    have Hma := Lib.hid ma
    have Hmb := Lib.hid mb
    have Hro := Lib.hid ro
    have Hrg := Lib.hid rg
    have Hrx := Lib.hid rx
    have Hry := Lib.hid ry
    have Hhw := Lib.hid hw
    clear mo mg mx my ma mb ro rg rx ry hw
    try simp only [Act.put, List.setIfInBounds_toArray, List.set_cons_zero, List.set_cons_succ]
    refine wpAnyH_take (i := 7) (oi := ⟨_, _, _, _, _, _⟩) (v := ?_) rfl (by kernel_rfl) (by kernel_rfl) (by kernel_rfl) (fun _ _ _ h => h) (Or.inl ⟨by rfl, ?_⟩) (by assumption) ?_
    rotate_left
    · intro w hSw
      (try dsimp only at hSw)
      go_split_ands
      go_simp
      try with_reducible rfl
    try simp only [Act.put, List.setIfInBounds_toArray, List.set_cons_zero, List.set_cons_succ]
    refine wpAnyH_take (i := 8) (oi := ⟨_, _, _, _, _, _⟩) (v := ?_) rfl (by kernel_rfl) (by kernel_rfl) (by kernel_rfl) (fun _ _ _ h => h) (Or.inl ⟨by rfl, ?_⟩) (by assumption) ?_
    rotate_left
    · intro w hSw
      (try dsimp only at hSw)
      go_split_ands
      go_simp
      try with_reducible rfl
    try simp only [Act.put, List.setIfInBounds_toArray, List.set_cons_zero, List.set_cons_succ]
    refine wpAnyH_take (i := 9) (oi := ⟨_, _, _, _, _, _⟩) (v := ?_) rfl (by kernel_rfl) (by kernel_rfl) (by kernel_rfl) (fun _ _ _ h => h) (Or.inl ⟨by rfl, ?_⟩) (by assumption) ?_
    rotate_left
    · intro w hSw
      (try dsimp only at hSw)
      go_split_ands
      go_simp
      try with_reducible rfl
    try simp only [Act.put, List.setIfInBounds_toArray, List.set_cons_zero, List.set_cons_succ]
    refine wpAnyH_take (i := 10) (oi := ⟨_, _, _, _, _, _⟩) (v := ?_) rfl (by kernel_rfl) (by kernel_rfl) (by kernel_rfl) (fun _ _ _ h => h) (Or.inl ⟨by rfl, ?_⟩) (by assumption) ?_
    rotate_left
    · intro w hSw
      (try dsimp only at hSw)
      go_split_ands
      go_simp
      try with_reducible rfl
    try simp only [Act.put, List.setIfInBounds_toArray, List.set_cons_zero, List.set_cons_succ]
    refine wpAnyH_take (i := 11) (oi := ⟨_, _, _, _, _, _⟩) (v := ?_) rfl (by kernel_rfl) (by kernel_rfl) (by kernel_rfl) (fun _ _ _ h => h) (Or.inl ⟨by rfl, ?_⟩) (by assumption) ?_
    rotate_left
    · intro w hSw
      (try dsimp only at hSw)
      go_split_ands
      go_simp
      try with_reducible rfl
    try simp only [Act.put, List.setIfInBounds_toArray, List.set_cons_zero, List.set_cons_succ]
    refine wpAnyH_take (i := 12) (oi := ⟨_, _, _, _, _, _⟩) (v := ?_) rfl (by kernel_rfl) (by kernel_rfl) (by kernel_rfl) (fun _ _ _ h => h) (Or.inl ⟨by rfl, ?_⟩) (by assumption) ?_
    rotate_left
    · intro w hSw
      (try dsimp only at hSw)
      go_split_ands
      go_simp
      try with_reducible rfl
    try simp only [Act.put, List.setIfInBounds_toArray, List.set_cons_zero, List.set_cons_succ]
    refine wpAnyH_take (i := 13) (oi := ⟨_, _, _, _, _, _⟩) (v := ?_) rfl (by kernel_rfl) (by kernel_rfl) (by kernel_rfl) (fun _ _ _ h => h) (Or.inl ⟨by rfl, ?_⟩) (by assumption) ?_
    rotate_left
    · intro w hSw
      (try dsimp only at hSw)
      go_split_ands
      go_simp
      try with_reducible rfl
    try simp only [Act.put, List.setIfInBounds_toArray, List.set_cons_zero, List.set_cons_succ]
    refine wpAnyH_take (i := 14) (oi := ⟨_, _, _, _, _, _⟩) (v := ?_) rfl (by kernel_rfl) (by kernel_rfl) (by kernel_rfl) (fun _ _ _ h => h) (Or.inl ⟨by rfl, ?_⟩) (by assumption) ?_
    rotate_left
    · intro w hSw
      (try dsimp only at hSw)
      go_split_ands
      go_simp
      try with_reducible rfl
    try simp only [Act.put, List.setIfInBounds_toArray, List.set_cons_zero, List.set_cons_succ]
    refine wpAnyH_take (i := 15) (oi := ⟨_, _, _, _, _, _⟩) (v := ?_) rfl (by kernel_rfl) (by kernel_rfl) (by kernel_rfl) (fun _ _ _ h => h) (Or.inl ⟨by rfl, ?_⟩) (by assumption) ?_
    rotate_left
    · intro w hSw
      (try dsimp only at hSw)
      go_split_ands
      go_simp
      try with_reducible rfl
    try simp only [Act.put, List.setIfInBounds_toArray, List.set_cons_zero, List.set_cons_succ]
    refine wpAnyH_take (i := 16) (oi := ⟨_, _, _, _, _, _⟩) (v := ?_) rfl (by kernel_rfl) (by kernel_rfl) (by kernel_rfl) (fun _ _ _ h => h) (Or.inl ⟨by rfl, ?_⟩) (by assumption) ?_
    rotate_left
    · intro w hSw
      (try dsimp only at hSw)
      go_split_ands
      go_simp
      try with_reducible rfl
    try simp only [Act.put, List.setIfInBounds_toArray, List.set_cons_zero, List.set_cons_succ]
    refine wpAnyH_take (i := 17) (oi := ⟨_, _, _, _, _, _⟩) (v := ?_) rfl (by kernel_rfl) (by kernel_rfl) (by kernel_rfl) (fun _ _ _ h => h) (Or.inl ⟨by rfl, ?_⟩) (by assumption) ?_
    rotate_left
    · intro w hSw
      (try dsimp only at hSw)
      go_split_ands
      go_simp
      try with_reducible rfl
    try simp only [Act.put, List.setIfInBounds_toArray, List.set_cons_zero, List.set_cons_succ]
    refine wpAnyH_take (i := 18) (oi := ⟨_, _, _, _, _, _⟩) (v := ?_) rfl (by kernel_rfl) (by kernel_rfl) (by kernel_rfl) (fun _ _ _ h => h) (Or.inl ⟨by rfl, ?_⟩) (by assumption) ?_
    rotate_left
    · intro w hSw
      (try dsimp only at hSw)
      go_split_ands
      go_simp
      try with_reducible rfl
    try simp only [Act.put, List.setIfInBounds_toArray, List.set_cons_zero, List.set_cons_succ]
    refine wpAnyH_take (i := 19) (oi := ⟨_, _, _, _, _, _⟩) (v := ?_) rfl (by kernel_rfl) (by kernel_rfl) (by kernel_rfl) (fun _ _ _ h => h) (Or.inl ⟨by rfl, ?_⟩) (by assumption) ?_
    rotate_left
    · intro w hSw
      (try dsimp only at hSw)
      go_split_ands
      go_simp
      try with_reducible rfl
    try simp only [Act.put, List.setIfInBounds_toArray, List.set_cons_zero, List.set_cons_succ]
    refine wpAnyH_take (i := 20) (oi := ⟨_, _, _, _, _, _⟩) (v := ?_) rfl (by kernel_rfl) (by kernel_rfl) (by kernel_rfl) (fun _ _ _ h => h) (Or.inl ⟨by rfl, ?_⟩) (by assumption) ?_
    rotate_left
    · intro w hSw
      (try dsimp only at hSw)
      go_split_ands
      go_simp
      try with_reducible rfl
    try simp only [Act.put, List.setIfInBounds_toArray, List.set_cons_zero, List.set_cons_succ]
    refine wpAnyH_take (i := 22) (oi := ⟨_, _, _, _, _, _⟩) (v := ?_) rfl (by kernel_rfl) (by kernel_rfl) (by kernel_rfl) (fun _ _ _ h => h) (Or.inl ⟨by rfl, ?_⟩) (by assumption) ?_
    rotate_left
    · intro w hSw
      (try dsimp only at hSw)
      go_split_ands
      go_simp
      try with_reducible rfl
    try simp only [Act.put, List.setIfInBounds_toArray, List.set_cons_zero, List.set_cons_succ]
    refine wpAnyH_ready (rs := [21]) (by kernel_rfl) (by simp) (AllReadyH.cons (o := ⟨_, _, _, _, _, _⟩) rfl (fun K hK => ?_) AllReadyH.nil)
    go_simp
    have mo := Hmo.out
    have mg := Hmg.out
    have mx := Hmx.out
    have my := Hmy.out
    have ma := Hma.out
    have mb := Hmb.out
    have ro := Hro.out
    have rg := Hrg.out
    have rx := Hrx.out
    have ry := Hry.out
    have hw := Hhw.out
    clear Hmo Hmg Hmx Hmy Hma Hmb Hro Hrg Hrx Hry Hhw
    refine (num2_c _ _).mono ?_
    rintro e w' ⟨rfl, hnw⟩
    subst hnw
    (try dsimp only)
    obtain ⟨qo0, qo1, qo2⟩ := box3_of mo
    obtain ⟨qg0, qg1, qg2⟩ := box3_of mg
    obtain ⟨qx0, qx1, qx2⟩ := box3_of mx
    obtain ⟨qy0, qy1, qy2⟩ := box3_of my
    obtain ⟨qa0, qa1, qa2⟩ := box3_of ma
    obtain ⟨qb0, qb1, qb2⟩ := box3_of mb
    refine hK.out _ _ ⟨qo0, qo1, qo2, qg0, qg1, qg2, qx0, qx1, qx2, qy0, qy1, qy2, qa0, qa1, qa2, qb0, qb1, qb2⟩ (fun hHn => ?_)
    clear hK K hHeld
    have hHeld := hHn
    clear hHn
    clear qo0 qo1 qo2 qg0 qg1 qg2 qx0 qx1 qx2 qy0 qy1 qy2 qa0 qa1 qa2 qb0 qb1 qb2
    have Hmo := Lib.hid mo
    have Hmg := Lib.hid mg
    have Hmx := Lib.hid mx
    have Hmy := Lib.hid my
    have Hma := Lib.hid ma
    have Hmb := Lib.hid mb
    have Hro := Lib.hid ro
    have Hrg := Lib.hid rg
    have Hrx := Lib.hid rx
    have Hry := Lib.hid ry
    have Hhw := Lib.hid hw
    clear mo mg mx my ma mb ro rg rx ry hw
    try simp only [Act.put, List.setIfInBounds_toArray, List.set_cons_zero, List.set_cons_succ]
    refine wpAnyH_take (i := 23) (oi := ⟨_, _, _, _, _, _⟩) (v := ?_) rfl (by kernel_rfl) (by kernel_rfl) (by kernel_rfl) (fun _ _ _ h => h) (Or.inl ⟨by rfl, ?_⟩) (by assumption) ?_
    rotate_left
    · intro w hSw
      (try dsimp only at hSw)
      go_split_ands
      go_simp
      try with_reducible rfl
    try simp only [Act.put, List.setIfInBounds_toArray, List.set_cons_zero, List.set_cons_succ]
    refine wpAnyH_take (i := 24) (oi := ⟨_, _, _, _, _, _⟩) (v := ?_) rfl (by kernel_rfl) (by kernel_rfl) (by kernel_rfl) (fun _ _ _ h => h) (Or.inl ⟨by rfl, ?_⟩) (by assumption) ?_
    rotate_left
    · intro w hSw
      (try dsimp only at hSw)
      go_split_ands
      go_simp
      try with_reducible rfl
    try simp only [Act.put, List.setIfInBounds_toArray, List.set_cons_zero, List.set_cons_succ]
    refine wpAnyH_take (i := 25) (oi := ⟨_, _, _, _, _, _⟩) (v := ?_) rfl (by kernel_rfl) (by kernel_rfl) (by kernel_rfl) (fun _ _ _ h => h) (Or.inl ⟨by rfl, ?_⟩) (by assumption) ?_
    rotate_left
    · intro w hSw
      (try dsimp only at hSw)
      go_split_ands
      go_simp
      try with_reducible rfl
    try simp only [Act.put, List.setIfInBounds_toArray, List.set_cons_zero, List.set_cons_succ]
    refine wpAnyH_take (i := 26) (oi := ⟨_, _, _, _, _, _⟩) (v := ?_) rfl (by kernel_rfl) (by kernel_rfl) (by kernel_rfl) (fun _ _ _ h => h) (Or.inl ⟨by rfl, ?_⟩) (by assumption) ?_
    rotate_left
    · intro w hSw
      (try dsimp only at hSw)
      go_split_ands
      go_simp
      try with_reducible rfl
    try simp only [Act.put, List.setIfInBounds_toArray, List.set_cons_zero, List.set_cons_succ]
    refine wpAnyH_take (i := 29) (oi := ⟨_, _, _, _, _, _⟩) (v := ?_) rfl (by kernel_rfl) (by kernel_rfl) (by kernel_rfl) (fun _ _ _ h => h) (Or.inl ⟨by rfl, ?_⟩) (by assumption) ?_
    rotate_left
    · intro w hSw
      (try dsimp only at hSw)
      go_split_ands
      go_simp
      try with_reducible rfl
    try simp only [Act.put, List.setIfInBounds_toArray, List.set_cons_zero, List.set_cons_succ]
    refine wpAnyH_ready (rs := [27]) (by kernel_rfl) (by simp) (AllReadyH.cons (o := ⟨_, _, _, _, _, _⟩) rfl (fun K hK => ?_) AllReadyH.nil)
    go_simp
    have mo := Hmo.out
    have mg := Hmg.out
    have mx := Hmx.out
    have my := Hmy.out
    have ma := Hma.out
    have mb := Hmb.out
    have ro := Hro.out
    have rg := Hrg.out
    have rx := Hrx.out
    have ry := Hry.out
    have hw := Hhw.out
    clear Hmo Hmg Hmx Hmy Hma Hmb Hro Hrg Hrx Hry Hhw
    refine (CK.out w17 (fun b => b < w17.heap.size) A1 c1 (rx.rd.more (fun b h => h.2)) (fun b h => h)).mono ?_
    rintro e w18 ⟨rfl, hb18⟩
    have mo := heldz hb18 mo
    have mg := heldz hb18 mg
    have mx := heldz hb18 mx
    have my := heldz hb18 my
    have ma := heldz hb18 ma
    have mb := heldz hb18 mb
    have ro := ro.below hb18 (Nat.le_refl _)
    have rg := rg.below hb18 (Nat.le_refl _)
    have rx := rx.below hb18 (Nat.le_refl _)
    have ry := ry.below hb18 (Nat.le_refl _)
    have hw := hw.trans (hb18.mono hw.size)
    (try dsimp only)
    obtain ⟨qo0, qo1, qo2⟩ := box3_of mo
    obtain ⟨qg0, qg1, qg2⟩ := box3_of mg
    obtain ⟨qx0, qx1, qx2⟩ := box3_of mx
    obtain ⟨qy0, qy1, qy2⟩ := box3_of my
    obtain ⟨qa0, qa1, qa2⟩ := box3_of ma
    obtain ⟨qb0, qb1, qb2⟩ := box3_of mb
    refine hK.out _ _ ⟨qo0, qo1, qo2, qg0, qg1, qg2, qx0, qx1, qx2, qy0, qy1, qy2, qa0, qa1, qa2, qb0, qb1, qb2⟩ (fun hHn => ?_)
    clear hK K hHeld
    have hHeld := hHn
    clear hHn
    clear qo0 qo1 qo2 qg0 qg1 qg2 qx0 qx1 qx2 qy0 qy1 qy2 qa0 qa1 qa2 qb0 qb1 qb2
    have Hmo := Lib.hid mo
    have Hmg := Lib.hid mg
    have Hmx := Lib.hid mx
    have Hmy := Lib.hid my
    have Hma := Lib.hid ma
    have Hmb := Lib.hid mb
    have Hro := Lib.hid ro
    have Hrg := Lib.hid rg
    have Hrx := Lib.hid rx
    have Hry := Lib.hid ry
    have Hhw := Lib.hid hw
    clear mo mg mx my ma mb ro rg rx ry hw
    try simp only [Act.put, List.setIfInBounds_toArray, List.set_cons_zero, List.set_cons_succ]
    refine wpAnyH_ready (rs := [28]) (by kernel_rfl) (by simp) (AllReadyH.cons (o := ⟨_, _, _, _, _, _⟩) rfl (fun K hK => ?_) AllReadyH.nil)
    go_simp
    have mo := Hmo.out
    have mg := Hmg.out
    have mx := Hmx.out
    have my := Hmy.out
    have ma := Hma.out
    have mb := Hmb.out
    have ro := Hro.out
    have rg := Hrg.out
    have rx := Hrx.out
    have ry := Hry.out
    have hw := Hhw.out
    clear Hmo Hmg Hmx Hmy Hma Hmb Hro Hrg Hrx Hry Hhw
    refine (num2_c _ _).mono ?_
    rintro e w' ⟨rfl, hnw⟩
    subst hnw
    (try dsimp only)
    obtain ⟨qo0, qo1, qo2⟩ := box3_of mo
    obtain ⟨qg0, qg1, qg2⟩ := box3_of mg
    obtain ⟨qx0, qx1, qx2⟩ := box3_of mx
    obtain ⟨qy0, qy1, qy2⟩ := box3_of my
    obtain ⟨qa0, qa1, qa2⟩ := box3_of ma
    obtain ⟨qb0, qb1, qb2⟩ := box3_of mb
    refine hK.out _ _ ⟨qo0, qo1, qo2, qg0, qg1, qg2, qx0, qx1, qx2, qy0, qy1, qy2, qa0, qa1, qa2, qb0, qb1, qb2⟩ (fun hHn => ?_)
    clear hK K hHeld
    have hHeld := hHn
    clear hHn
    clear qo0 qo1 qo2 qg0 qg1 qg2 qx0 qx1 qx2 qy0 qy1 qy2 qa0 qa1 qa2 qb0 qb1 qb2
    have Hmo := Lib.hid mo
    have Hmg := Lib.hid mg
    have Hmx := Lib.hid mx
    have Hmy := Lib.hid my
    have Hma := Lib.hid ma
    have Hmb := Lib.hid mb
    have Hro := Lib.hid ro
    have Hrg := Lib.hid rg
    have Hrx := Lib.hid rx
    have Hry := Lib.hid ry
    have Hhw := Lib.hid hw
    clear mo mg mx my ma mb ro rg rx ry hw
    try simp only [Act.put, List.setIfInBounds_toArray, List.set_cons_zero, List.set_cons_succ]
    refine wpAnyH_ready (rs := [30]) (by kernel_rfl) (by simp) (AllReadyH.cons (o := ⟨_, _, _, _, _, _⟩) rfl (fun K hK => ?_) AllReadyH.nil)
    go_simp
    have mo := Hmo.out
    have mg := Hmg.out
    have mx := Hmx.out
    have my := Hmy.out
    have ma := Hma.out
    have mb := Hmb.out
    have ro := Hro.out
    have rg := Hrg.out
    have rx := Hrx.out
    have ry := Hry.out
    have hw := Hhw.out
    clear Hmo Hmg Hmx Hmy Hma Hmb Hro Hrg Hrx Hry Hhw
    refine (RCK.out _ (Hha0.out.below hw hS) (up hw)).mono ?_
    rintro e w19 ⟨rfl, hb19⟩
    have mo := heldz hb19 mo
    have mg := heldz hb19 mg
    have mx := heldz hb19 mx
    have my := heldz hb19 my
    have ma := heldz hb19 ma
    have mb := heldz hb19 mb
    have ro := ro.below hb19 (Nat.le_refl _)
    have rg := rg.below hb19 (Nat.le_refl _)
    have rx := rx.below hb19 (Nat.le_refl _)
    have ry := ry.below hb19 (Nat.le_refl _)
    have hw := hw.trans (hb19.mono hw.size)
    (try dsimp only)
    obtain ⟨qo0, qo1, qo2⟩ := box3_of mo
    obtain ⟨qg0, qg1, qg2⟩ := box3_of mg
    obtain ⟨qx0, qx1, qx2⟩ := box3_of mx
    obtain ⟨qy0, qy1, qy2⟩ := box3_of my
    obtain ⟨qa0, qa1, qa2⟩ := box3_of ma
    obtain ⟨qb0, qb1, qb2⟩ := box3_of mb
    refine hK.out _ _ ⟨qo0, qo1, qo2, qg0, qg1, qg2, qx0, qx1, qx2, qy0, qy1, qy2, qa0, qa1, qa2, qb0, qb1, qb2⟩ (fun hHn => ?_)
    clear hK K hHeld
    have hHeld := hHn
    clear hHn
    clear qo0 qo1 qo2 qg0 qg1 qg2 qx0 qx1 qx2 qy0 qy1 qy2 qa0 qa1 qa2 qb0 qb1 qb2
    have Hmo := Lib.hid mo
    have Hmg := Lib.hid mg
    have Hmx := Lib.hid mx
    have Hmy := Lib.hid my
    have Hma := Lib.hid ma
    have Hmb := Lib.hid mb
    have Hro := Lib.hid ro
    have Hrg := Lib.hid rg
    have Hrx := Lib.hid rx
    have Hry := Lib.hid ry
    have Hhw := Lib.hid hw
    clear mo mg mx my ma mb ro rg rx ry hw
    try simp only [Act.put, List.setIfInBounds_toArray, List.set_cons_zero, List.set_cons_succ]
    refine wpAnyH_take (i := 31) (oi := ⟨_, _, _, _, _, _⟩) (v := ?_) rfl (by kernel_rfl) (by kernel_rfl) (by kernel_rfl) (fun _ _ _ h => h) (Or.inl ⟨by rfl, ?_⟩) (by assumption) ?_
    rotate_left
    · intro w hSw
      (try dsimp only at hSw)
      go_split_ands
      go_simp
      try with_reducible rfl
    try simp only [Act.put, List.setIfInBounds_toArray, List.set_cons_zero, List.set_cons_succ]
    refine wpAnyH_take (i := 32) (oi := ⟨_, _, _, _, _, _⟩) (v := ?_) rfl (by kernel_rfl) (by kernel_rfl) (by kernel_rfl) (fun _ _ _ h => h) (Or.inl ⟨by rfl, ?_⟩) (by assumption) ?_
    rotate_left
    · intro w hSw
      (try dsimp only at hSw)
      go_split_ands
      go_simp
      try with_reducible rfl
    try simp only [Act.put, List.setIfInBounds_toArray, List.set_cons_zero, List.set_cons_succ]
    refine wpAnyH_take (i := 33) (oi := ⟨_, _, _, _, _, _⟩) (v := ?_) rfl (by kernel_rfl) (by kernel_rfl) (by kernel_rfl) (fun _ _ _ h => h) (Or.inl ⟨by rfl, ?_⟩) (by assumption) ?_
    rotate_left
    · intro w hSw
      (try dsimp only at hSw)
      go_split_ands
      go_simp
      try with_reducible rfl
    try simp only [Act.put, List.setIfInBounds_toArray, List.set_cons_zero, List.set_cons_succ]
    refine wpAnyH_take (i := 34) (oi := ⟨_, _, _, _, _, _⟩) (v := ?_) rfl (by kernel_rfl) (by kernel_rfl) (by kernel_rfl) (fun _ _ _ h => h) (Or.inl ⟨by rfl, ?_⟩) (by assumption) ?_
    rotate_left
    · intro w hSw
      (try dsimp only at hSw)
      go_split_ands
      go_simp
      try with_reducible rfl
    try simp only [Act.put, List.setIfInBounds_toArray, List.set_cons_zero, List.set_cons_succ]
    refine wpAnyH_take (i := 36) (oi := ⟨_, _, _, _, _, _⟩) (v := ?_) rfl (by kernel_rfl) (by kernel_rfl) (by kernel_rfl) (fun _ _ _ h => h) (Or.inl ⟨by rfl, ?_⟩) (by assumption) ?_
    rotate_left
    · intro w hSw
      (try dsimp only at hSw)
      go_split_ands
      go_simp
      try with_reducible rfl
    try simp only [Act.put, List.setIfInBounds_toArray, List.set_cons_zero, List.set_cons_succ]
    refine wpAnyH_ready (rs := [35]) (by kernel_rfl) (by simp) (AllReadyH.cons (o := ⟨_, _, _, _, _, _⟩) rfl (fun K hK => ?_) AllReadyH.nil)
    go_simp
    have mo := Hmo.out
    have mg := Hmg.out
    have mx := Hmx.out
    have my := Hmy.out
    have ma := Hma.out
    have mb := Hmb.out
    have ro := Hro.out
    have rg := Hrg.out
    have rx := Hrx.out
    have ry := Hry.out
    have hw := Hhw.out
    clear Hmo Hmg Hmx Hmy Hma Hmb Hro Hrg Hrx Hry Hhw
    refine (INT.out _).mono ?_
    rintro e w20 ⟨Ak, nk, ck, rfl, rk, hb20⟩
    have mo := heldz hb20 mo
    have mg := heldz hb20 mg
    have mx := heldz hb20 mx
    have my := heldz hb20 my
    have ma := heldz hb20 ma
    have mb := heldz hb20 mb
    have ro := ro.below hb20 (Nat.le_refl _)
    have rg := rg.below hb20 (Nat.le_refl _)
    have rx := rx.below hb20 (Nat.le_refl _)
    have ry := ry.below hb20 (Nat.le_refl _)
    have hw := hw.trans (hb20.mono hw.size)
    (try dsimp only)
    obtain ⟨qo0, qo1, qo2⟩ := box3_of mo
    obtain ⟨qg0, qg1, qg2⟩ := box3_of mg
    obtain ⟨qx0, qx1, qx2⟩ := box3_of mx
    obtain ⟨qy0, qy1, qy2⟩ := box3_of my
    obtain ⟨qa0, qa1, qa2⟩ := box3_of ma
    obtain ⟨qb0, qb1, qb2⟩ := box3_of mb
    refine hK.out _ _ ⟨qo0, qo1, qo2, qg0, qg1, qg2, qx0, qx1, qx2, qy0, qy1, qy2, qa0, qa1, qa2, qb0, qb1, qb2⟩ (fun hHn => ?_)
    clear hK K hHeld
    have hHeld := hHn
    clear hHn
    clear qo0 qo1 qo2 qg0 qg1 qg2 qx0 qx1 qx2 qy0 qy1 qy2 qa0 qa1 qa2 qb0 qb1 qb2
    have Hmo := Lib.hid mo
    have Hmg := Lib.hid mg
    have Hmx := Lib.hid mx
    have Hmy := Lib.hid my
    have Hma := Lib.hid ma
    have Hmb := Lib.hid mb
    have Hro := Lib.hid ro
    have Hrg := Lib.hid rg
    have Hrx := Lib.hid rx
    have Hry := Lib.hid ry
    have Hrk := Lib.hid rk
    have Hhw := Lib.hid hw
    clear mo mg mx my ma mb ro rg rx ry rk hw
    try simp only [Act.put, List.setIfInBounds_toArray, List.set_cons_zero, List.set_cons_succ]
    refine wpAnyH_ready (rs := [37]) (by kernel_rfl) (by simp) (AllReadyH.cons (o := ⟨_, _, _, _, _, _⟩) rfl (fun K hK => ?_) AllReadyH.nil)
    go_simp
    have mo := Hmo.out
    have mg := Hmg.out
    have mx := Hmx.out
    have my := Hmy.out
    have ma := Hma.out
    have mb := Hmb.out
    have ro := Hro.out
    have rg := Hrg.out
    have rx := Hrx.out
    have ry := Hry.out
    have rk := Hrk.out
    have hw := Hhw.out
    clear Hmo Hmg Hmx Hmy Hma Hmb Hro Hrg Hrx Hry Hrk Hhw
    refine (RINT.out _).mono ?_
    rintro e w21 ⟨Al, nl, cl, rfl, rl, hb21⟩
    have mo := heldz hb21 mo
    have mg := heldz hb21 mg
    have mx := heldz hb21 mx
    have my := heldz hb21 my
    have ma := heldz hb21 ma
    have mb := heldz hb21 mb
    have ro := ro.below hb21 (Nat.le_refl _)
    have rg := rg.below hb21 (Nat.le_refl _)
    have rx := rx.below hb21 (Nat.le_refl _)
    have ry := ry.below hb21 (Nat.le_refl _)
    have rk := rk.below hb21 (Nat.le_refl _)
    have hw := hw.trans (hb21.mono hw.size)
    (try dsimp only)
    obtain ⟨qo0, qo1, qo2⟩ := box3_of mo
    obtain ⟨qg0, qg1, qg2⟩ := box3_of mg
    obtain ⟨qx0, qx1, qx2⟩ := box3_of mx
    obtain ⟨qy0, qy1, qy2⟩ := box3_of my
    obtain ⟨qa0, qa1, qa2⟩ := box3_of ma
    obtain ⟨qb0, qb1, qb2⟩ := box3_of mb
    refine hK.out _ _ ⟨qo0, qo1, qo2, qg0, qg1, qg2, qx0, qx1, qx2, qy0, qy1, qy2, qa0, qa1, qa2, qb0, qb1, qb2⟩ (fun hHn => ?_)
    clear hK K hHeld
    have hHeld := hHn
    clear hHn
    clear qo0 qo1 qo2 qg0 qg1 qg2 qx0 qx1 qx2 qy0 qy1 qy2 qa0 qa1 qa2 qb0 qb1 qb2
    have Hmo := Lib.hid mo
    have Hmg := Lib.hid mg
    have Hmx := Lib.hid mx
    have Hmy := Lib.hid my
    have Hma := Lib.hid ma
    have Hmb := Lib.hid mb
    have Hro := Lib.hid ro
    have Hrg := Lib.hid rg
    have Hrx := Lib.hid rx
    have Hry := Lib.hid ry
    have Hrk := Lib.hid rk
    have Hrl := Lib.hid rl
    have Hhw := Lib.hid hw
    clear mo mg mx my ma mb ro rg rx ry rk rl hw
    try simp only [Act.put, List.setIfInBounds_toArray, List.set_cons_zero, List.set_cons_succ]
    refine wpAnyH_ready (rs := [38]) (by kernel_rfl) (by simp) (AllReadyH.cons (o := ⟨_, _, _, _, _, _⟩) rfl (fun K hK => ?_) AllReadyH.nil)
    go_simp
    have mo := Hmo.out
    have mg := Hmg.out
    have mx := Hmx.out
    have my := Hmy.out
    have ma := Hma.out
    have mb := Hmb.out
    have ro := Hro.out
    have rg := Hrg.out
    have rx := Hrx.out
    have ry := Hry.out
    have rk := Hrk.out
    have rl := Hrl.out
    have hw := Hhw.out
    clear Hmo Hmg Hmx Hmy Hma Hmb Hro Hrg Hrx Hry Hrk Hrl Hhw
    refine (S5.out _ _ _ _ _ _ _ _ _ rk.rd rl.rd (fun b h => h.2) (fun b h => h.2) rk.lt rl.lt).mono ?_
    rintro e w22 ⟨rfl, hb22⟩
    have mo := heldz hb22 mo
    have mg := heldz hb22 mg
    have mx := heldz hb22 mx
    have my := heldz hb22 my
    have ma := heldz hb22 ma
    have mb := heldz hb22 mb
    have ro := ro.below hb22 (Nat.le_refl _)
    have rg := rg.below hb22 (Nat.le_refl _)
    have rx := rx.below hb22 (Nat.le_refl _)
    have ry := ry.below hb22 (Nat.le_refl _)
    have rk := rk.below hb22 (Nat.le_refl _)
    have rl := rl.below hb22 (Nat.le_refl _)
    have hw := hw.trans (hb22.mono hw.size)
    (try dsimp only)
    obtain ⟨qo0, qo1, qo2⟩ := box3_of mo
    obtain ⟨qg0, qg1, qg2⟩ := box3_of mg
    obtain ⟨qx0, qx1, qx2⟩ := box3_of mx
    obtain ⟨qy0, qy1, qy2⟩ := box3_of my
    obtain ⟨qa0, qa1, qa2⟩ := box3_of ma
    obtain ⟨qb0, qb1, qb2⟩ := box3_of mb
    refine hK.out _ _ ⟨qo0, qo1, qo2, qg0, qg1, qg2, qx0, qx1, qx2, qy0, qy1, qy2, qa0, qa1, qa2, qb0, qb1, qb2⟩ (fun hHn => ?_)
    clear hK K hHeld
    have hHeld := hHn
    clear hHn
    clear qo0 qo1 qo2 qg0 qg1 qg2 qx0 qx1 qx2 qy0 qy1 qy2 qa0 qa1 qa2 qb0 qb1 qb2
    have Hmo := Lib.hid mo
    have Hmg := Lib.hid mg
    have Hmx := Lib.hid mx
    have Hmy := Lib.hid my
    have Hma := Lib.hid ma
    have Hmb := Lib.hid mb
    have Hro := Lib.hid ro
    have Hrg := Lib.hid rg
    have Hrx := Lib.hid rx
    have Hry := Lib.hid ry
    have Hrk := Lib.hid rk
    have Hrl := Lib.hid rl
    have Hhw := Lib.hid hw
    clear mo mg mx my ma mb ro rg rx ry rk rl hw
    try simp only [Act.put, List.setIfInBounds_toArray, List.set_cons_zero, List.set_cons_succ]
    refine wpAnyH_take (i := 39) (oi := ⟨_, _, _, _, _, _⟩) (v := ?_) rfl (by kernel_rfl) (by kernel_rfl) (by kernel_rfl) (fun _ _ _ h => h) (Or.inl ⟨by rfl, ?_⟩) (by assumption) ?_
    rotate_left
    · intro w hSw
      (try dsimp only at hSw)
      go_split_ands
      go_simp
      try with_reducible rfl
    try simp only [Act.put, List.setIfInBounds_toArray, List.set_cons_zero, List.set_cons_succ]
    refine wpAnyH_take (i := 40) (oi := ⟨_, _, _, _, _, _⟩) (v := ?_) rfl (by kernel_rfl) (by kernel_rfl) (by kernel_rfl) (fun _ _ _ h => h) (Or.inl ⟨by rfl, ?_⟩) (by assumption) ?_
    rotate_left
    · intro w hSw
      (try dsimp only at hSw)
      go_split_ands
      go_simp
      try with_reducible rfl
    try simp only [Act.put, List.setIfInBounds_toArray, List.set_cons_zero, List.set_cons_succ]
    refine wpAnyH_take (i := 41) (oi := ⟨_, _, _, _, _, _⟩) (v := ?_) rfl (by kernel_rfl) (by kernel_rfl) (by kernel_rfl) (fun _ _ _ h => h) (Or.inl ⟨by rfl, ?_⟩) (by assumption) ?_
    rotate_left
    · intro w hSw
      (try dsimp only at hSw)
      go_split_ands
      go_simp
      try with_reducible rfl
    try simp only [Act.put, List.setIfInBounds_toArray, List.set_cons_zero, List.set_cons_succ]
    refine wpAnyH_take (i := 42) (oi := ⟨_, _, _, _, _, _⟩) (v := ?_) rfl (by kernel_rfl) (by kernel_rfl) (by kernel_rfl) (fun _ _ _ h => h) (Or.inl ⟨by rfl, ?_⟩) (by assumption) ?_
    rotate_left
    · intro w hSw
      (try dsimp only at hSw)
      go_split_ands
      go_simp
      try with_reducible rfl
    try simp only [Act.put, List.setIfInBounds_toArray, List.set_cons_zero, List.set_cons_succ]
    refine wpAnyH_ready (rs := [43]) (by kernel_rfl) (by simp) (AllReadyH.cons (o := ⟨_, _, _, _, _, _⟩) rfl (fun K hK => ?_) AllReadyH.nil)
    go_simp
    have mo := Hmo.out
    have mg := Hmg.out
    have mx := Hmx.out
    have my := Hmy.out
    have ma := Hma.out
    have mb := Hmb.out
    have ro := Hro.out
    have rg := Hrg.out
    have rx := Hrx.out
    have ry := Hry.out
    have rk := Hrk.out
    have rl := Hrl.out
    have hw := Hhw.out
    clear Hmo Hmg Hmx Hmy Hma Hmb Hro Hrg Hrx Hry Hrk Hrl Hhw
    refine (S6.out _ _ _ _ _ _ _ rx.rd (Hha0.out.below hw hS) (fun b h => h.2) (up hw)).mono ?_
    rintro e w23 ⟨rfl, hb23⟩
    have mo := heldz hb23 mo
    have mg := heldz hb23 mg
    have mx := heldz hb23 mx
    have my := heldz hb23 my
    have ma := heldz hb23 ma
    have mb := heldz hb23 mb
    have ro := ro.below hb23 (Nat.le_refl _)
    have rg := rg.below hb23 (Nat.le_refl _)
    have rx := rx.below hb23 (Nat.le_refl _)
    have ry := ry.below hb23 (Nat.le_refl _)
    have rk := rk.below hb23 (Nat.le_refl _)
    have rl := rl.below hb23 (Nat.le_refl _)
    have hw := hw.trans (hb23.mono hw.size)
    (try dsimp only)
    obtain ⟨qo0, qo1, qo2⟩ := box3_of mo
    obtain ⟨qg0, qg1, qg2⟩ := box3_of mg
    obtain ⟨qx0, qx1, qx2⟩ := box3_of mx
    obtain ⟨qy0, qy1, qy2⟩ := box3_of my
    obtain ⟨qa0, qa1, qa2⟩ := box3_of ma
    obtain ⟨qb0, qb1, qb2⟩ := box3_of mb
    refine hK.out _ _ ⟨qo0, qo1, qo2, qg0, qg1, qg2, qx0, qx1, qx2, qy0, qy1, qy2, qa0, qa1, qa2, qb0, qb1, qb2⟩ (fun hHn => ?_)
    clear hK K hHeld
    have hHeld := hHn
    clear hHn
    clear qo0 qo1 qo2 qg0 qg1 qg2 qx0 qx1 qx2 qy0 qy1 qy2 qa0 qa1 qa2 qb0 qb1 qb2
    have Hmo := Lib.hid mo
    have Hmg := Lib.hid mg
    have Hmx := Lib.hid mx
    have Hmy := Lib.hid my
    have Hma := Lib.hid ma
    have Hmb := Lib.hid mb
    have Hro := Lib.hid ro
    have Hrg := Lib.hid rg
    have Hrx := Lib.hid rx
    have Hry := Lib.hid ry
    have Hrk := Lib.hid rk
    have Hrl := Lib.hid rl
    have Hhw := Lib.hid hw
    clear mo mg mx my ma mb ro rg rx ry rk rl hw
    try simp only [Act.put, List.setIfInBounds_toArray, List.set_cons_zero, List.set_cons_succ]
    refine wpAnyH_take (i := 44) (oi := ⟨_, _, _, _, _, _⟩) (v := ?_) rfl (by kernel_rfl) (by kernel_rfl) (by kernel_rfl) (fun _ _ _ h => h) (Or.inl ⟨by rfl, ?_⟩) (by assumption) ?_
    rotate_left
    · intro w hSw
      (try dsimp only at hSw)
      go_split_ands
      go_simp
      try with_reducible rfl
    try simp only [Act.put, List.setIfInBounds_toArray, List.set_cons_zero, List.set_cons_succ]
    refine wpAnyH_take (i := 45) (oi := ⟨_, _, _, _, _, _⟩) (v := ?_) rfl (by kernel_rfl) (by kernel_rfl) (by kernel_rfl) (fun _ _ _ h => h) (Or.inl ⟨by rfl, ?_⟩) (by assumption) ?_
    rotate_left
    · intro w hSw
      (try dsimp only at hSw)
      go_split_ands
      go_simp
      try with_reducible rfl
    try simp only [Act.put, List.setIfInBounds_toArray, List.set_cons_zero, List.set_cons_succ]
    refine wpAnyH_take (i := 46) (oi := ⟨_, _, _, _, _, _⟩) (v := ?_) rfl (by kernel_rfl) (by kernel_rfl) (by kernel_rfl) (fun _ _ _ h => h) (Or.inl ⟨by rfl, ?_⟩) (by assumption) ?_
    rotate_left
    · intro w hSw
      (try dsimp only at hSw)
      go_split_ands
      go_simp
      try with_reducible rfl
    try simp only [Act.put, List.setIfInBounds_toArray, List.set_cons_zero, List.set_cons_succ]
    refine wpAnyH_take (i := 47) (oi := ⟨_, _, _, _, _, _⟩) (v := ?_) rfl (by kernel_rfl) (by kernel_rfl) (by kernel_rfl) (fun _ _ _ h => h) (Or.inl ⟨by rfl, ?_⟩) (by assumption) ?_
    rotate_left
    · intro w hSw
      (try dsimp only at hSw)
      go_split_ands
      go_simp
      try with_reducible rfl
    try simp only [Act.put, List.setIfInBounds_toArray, List.set_cons_zero, List.set_cons_succ]
    refine wpAnyH_ready (rs := [48]) (by kernel_rfl) (by simp) (AllReadyH.cons (o := ⟨_, _, _, _, _, _⟩) rfl (fun K hK => ?_) AllReadyH.nil)
    go_simp
    have mo := Hmo.out
    have mg := Hmg.out
    have mx := Hmx.out
    have my := Hmy.out
    have ma := Hma.out
    have mb := Hmb.out
    have ro := Hro.out
    have rg := Hrg.out
    have rx := Hrx.out
    have ry := Hry.out
    have rk := Hrk.out
    have rl := Hrl.out
    have hw := Hhw.out
    clear Hmo Hmg Hmx Hmy Hma Hmb Hro Hrg Hrx Hry Hrk Hrl Hhw
    refine (S7.out _ _ _ _ _ _ _ ry.rd (Hhb0.out.below hw hS) (fun b h => h.2) (up hw)).mono ?_
    rintro e w24 ⟨rfl, hb24⟩
    have mo := heldz hb24 mo
    have mg := heldz hb24 mg
    have mx := heldz hb24 mx
    have my := heldz hb24 my
    have ma := heldz hb24 ma
    have mb := heldz hb24 mb
    have ro := ro.below hb24 (Nat.le_refl _)
    have rg := rg.below hb24 (Nat.le_refl _)
    have rx := rx.below hb24 (Nat.le_refl _)
    have ry := ry.below hb24 (Nat.le_refl _)
    have rk := rk.below hb24 (Nat.le_refl _)
    have rl := rl.below hb24 (Nat.le_refl _)
    have hw := hw.trans (hb24.mono hw.size)
    (try dsimp only)
    obtain ⟨qo0, qo1, qo2⟩ := box3_of mo
    obtain ⟨qg0, qg1, qg2⟩ := box3_of mg
    obtain ⟨qx0, qx1, qx2⟩ := box3_of mx
    obtain ⟨qy0, qy1, qy2⟩ := box3_of my
    obtain ⟨qa0, qa1, qa2⟩ := box3_of ma
    obtain ⟨qb0, qb1, qb2⟩ := box3_of mb
    refine hK.out _ _ ⟨qo0, qo1, qo2, qg0, qg1, qg2, qx0, qx1, qx2, qy0, qy1, qy2, qa0, qa1, qa2, qb0, qb1, qb2⟩ (fun hHn => ?_)
    clear hK K hHeld
    have hHeld := hHn
    clear hHn
    clear qo0 qo1 qo2 qg0 qg1 qg2 qx0 qx1 qx2 qy0 qy1 qy2 qa0 qa1 qa2 qb0 qb1 qb2
    have Hmo := Lib.hid mo
    have Hmg := Lib.hid mg
    have Hmx := Lib.hid mx
    have Hmy := Lib.hid my
    have Hma := Lib.hid ma
    have Hmb := Lib.hid mb
    have Hro := Lib.hid ro
    have Hrg := Lib.hid rg
    have Hrx := Lib.hid rx
    have Hry := Lib.hid ry
    have Hrk := Lib.hid rk
    have Hrl := Lib.hid rl
    have Hhw := Lib.hid hw
    clear mo mg mx my ma mb ro rg rx ry rk rl hw
    try simp only [Act.put, List.setIfInBounds_toArray, List.set_cons_zero, List.set_cons_succ]
    refine wpAnyH_take (i := 49) (oi := ⟨_, _, _, _, _, _⟩) (v := ?_) rfl (by kernel_rfl) (by kernel_rfl) (by kernel_rfl) (fun _ _ _ h => h) (Or.inl ⟨by rfl, ?_⟩) (by assumption) ?_
    rotate_left
    · intro w hSw
      (try dsimp only at hSw)
      go_split_ands
      go_simp
      try with_reducible rfl
    try simp only [Act.put, List.setIfInBounds_toArray, List.set_cons_zero, List.set_cons_succ]
    refine wpAnyH_take (i := 50) (oi := ⟨_, _, _, _, _, _⟩) (v := ?_) rfl (by kernel_rfl) (by kernel_rfl) (by kernel_rfl) (fun _ _ _ h => h) (Or.inl ⟨by rfl, ?_⟩) (by assumption) ?_
    rotate_left
    · intro w hSw
      (try dsimp only at hSw)
      go_split_ands
      go_simp
      try with_reducible rfl
    try simp only [Act.put, List.setIfInBounds_toArray, List.set_cons_zero, List.set_cons_succ]
    refine wpAnyH_ready (rs := [51]) (by kernel_rfl) (by simp) (AllReadyH.cons (o := ⟨_, _, _, _, _, _⟩) rfl (fun K hK => ?_) AllReadyH.nil)
    go_simp
    have mo := Hmo.out
    have mg := Hmg.out
    have mx := Hmx.out
    have my := Hmy.out
    have ma := Hma.out
    have mb := Hmb.out
    have ro := Hro.out
    have rg := Hrg.out
    have rx := Hrx.out
    have ry := Hry.out
    have rk := Hrk.out
    have rl := Hrl.out
    have hw := Hhw.out
    clear Hmo Hmg Hmx Hmy Hma Hmb Hro Hrg Hrx Hry Hrk Hrl Hhw
    refine (alive2_c _).mono ?_
    rintro e w25 ⟨rfl, hb25⟩
    have mo := heldz hb25 mo
    have mg := heldz hb25 mg
    have mx := heldz hb25 mx
    have my := heldz hb25 my
    have ma := heldz hb25 ma
    have mb := heldz hb25 mb
    have ro := ro.below hb25 (Nat.le_refl _)
    have rg := rg.below hb25 (Nat.le_refl _)
    have rx := rx.below hb25 (Nat.le_refl _)
    have ry := ry.below hb25 (Nat.le_refl _)
    have rk := rk.below hb25 (Nat.le_refl _)
    have rl := rl.below hb25 (Nat.le_refl _)
    have hw := hw.trans (hb25.mono hw.size)
    (try dsimp only)
    obtain ⟨qo0, qo1, qo2⟩ := box3_of mo
    obtain ⟨qg0, qg1, qg2⟩ := box3_of mg
    obtain ⟨qx0, qx1, qx2⟩ := box3_of mx
    obtain ⟨qy0, qy1, qy2⟩ := box3_of my
    obtain ⟨qa0, qa1, qa2⟩ := box3_of ma
    obtain ⟨qb0, qb1, qb2⟩ := box3_of mb
    refine hK.out _ _ ⟨qo0, qo1, qo2, qg0, qg1, qg2, qx0, qx1, qx2, qy0, qy1, qy2, qa0, qa1, qa2, qb0, qb1, qb2⟩ (fun hHn => ?_)
    clear hK K hHeld
    have hHeld := hHn
    clear hHn
    clear qo0 qo1 qo2 qg0 qg1 qg2 qx0 qx1 qx2 qy0 qy1 qy2 qa0 qa1 qa2 qb0 qb1 qb2
    have Hmo := Lib.hid mo
    have Hmg := Lib.hid mg
    have Hmx := Lib.hid mx
    have Hmy := Lib.hid my
    have Hma := Lib.hid ma
    have Hmb := Lib.hid mb
    have Hro := Lib.hid ro
    have Hrg := Lib.hid rg
    have Hrx := Lib.hid rx
    have Hry := Lib.hid ry
    have Hrk := Lib.hid rk
    have Hrl := Lib.hid rl
    have Hhw := Lib.hid hw
    clear mo mg mx my ma mb ro rg rx ry rk rl hw
    try simp only [Act.put, List.setIfInBounds_toArray, List.set_cons_zero, List.set_cons_succ]
    refine wpAnyH_take (i := 52) (oi := ⟨_, _, _, _, _, _⟩) (v := ?_) rfl (by kernel_rfl) (by kernel_rfl) (by kernel_rfl) (fun _ _ _ h => h) (Or.inl ⟨by rfl, ?_⟩) (by assumption) ?_
    rotate_left
    · intro w hSw
      (try dsimp only at hSw)
      go_split_ands
      go_simp
      try with_reducible rfl
    try simp only [Act.put, List.setIfInBounds_toArray, List.set_cons_zero, List.set_cons_succ]
    refine wpAnyH_take (i := 53) (oi := ⟨_, _, _, _, _, _⟩) (v := ?_) rfl (by kernel_rfl) (by kernel_rfl) (by kernel_rfl) (fun _ _ _ h => h) (Or.inl ⟨by rfl, ?_⟩) (by assumption) ?_
    rotate_left
    · intro w hSw
      (try dsimp only at hSw)
      go_split_ands
      go_simp
      try with_reducible rfl
    try simp only [Act.put, List.setIfInBounds_toArray, List.set_cons_zero, List.set_cons_succ]
    refine wpAnyH_done (by kernel_rfl) ?_ _
    go_wp2
    go_ret
    exact ⟨rfl, Hhw.out⟩
end Go.Proofs.YtnlkcjfedomcgaaGreatDoor
