/-
  Contracts of firstTrue of an entry by the names of its key, and of keyOf.
  The contract of keyOf of an entry.
-/
import Derived.Test.YtpmdcahomkdfmaaGreatDoorBKgn
set_option linter.unusedVariables false
set_option linter.unusedSimpArgs false
namespace Go.Proofs.YtpmdcahomkdfmaaGreatDoor
open Go.RowKit Go.Lib

theorem own_moreK {w : World} {M N : Nat} {x : VT} {cs : List Value} {Z : World} (h : VIn w (Own' M w) x cs) (hb : ∀ k, M ≤ k → k < w.heap.size → Z.heap[k]? = w.heap[k]?) (hN : N ≤ M) (hz : w.heap.size ≤ Z.heap.size) : VIn Z (Own' N Z) x cs :=
  (h.keep fun p hp => World.cell?_of_block (hb _ hp.1 hp.2)).more fun b hb => ⟨by have := hb.1; omega, by have := hb.2; omega⟩
set_option maxRecDepth 1000000 in
set_option maxHeartbeats 8000000 in
theorem firstKey_c {S : Nat → Prop} {s : ByteArray} {v : VT} {cs : List Value} {nb : Nat} (w : World) (hx : VIn w S (entryV s v) cs) (hS : ∀ b, S b → b < w.heap.size) (hnb : nb < w.heap.size) (h0 : w.cell? ⟨nb, 0, none⟩ = some (.string ⟨#[107, 101, 121]⟩)) :
    Calls Tryz.prog 18 #[.agg cs.toArray, .slice (some ⟨nb, 0, none⟩) 3 3] w fun e' w' => ∃ cs', e' = .returned (.agg cs'.toArray) ∧ VIn w' (Own' w.heap.size w') (textV s) cs' ∧ Below w.heap.size w w' := by
  have hsz : under (textV s) ≤ 21474836 := by show 0 ≤ _; omega
  obtain ⟨neg, A, n, c, e, t, LA, ln, lc, KA, kn, kc, rfl, -, -, -⟩ := vin_kindK hx
  have hk6 : (entryV s v).kind = 6 := rfl
  rw [hk6] at hx ⊢
  obtain ⟨b0, hb0⟩ : ∃ b, w.heap.size = b := ⟨_, rfl⟩
  obtain ⟨wa, hwa⟩ : ∃ y, w.alloc (.cells #[.int .i64 6, .bool neg, .slice A n c, .int .i64 e, .string t, .slice LA ln lc, .slice KA kn kc] 28) = y := ⟨_, rfl⟩
  have ga : Below b0 w wa := by rw [← hwa]; exact (Below.refl _ w).alloc (by omega) _
  have sa : wa.heap.size = b0 + 1 := by rw [← hwa, World.size_alloc, hb0]
  have na : wa.heap[b0]? = some (.cells #[.int .i64 6, .bool neg, .slice A n c, .int .i64 e, .string t, .slice LA ln lc, .slice KA kn kc] 28) := by rw [← hwa, ← hb0]; exact World.alloc_heap_new w _
  obtain ⟨wb, hwb⟩ : ∃ y, wa.alloc (.cells #[.int .i64 0, .bool false, .slice none 0 0, .int .i64 0, .string ⟨#[]⟩, .slice none 0 0, .slice none 0 0] 28) = y := ⟨_, rfl⟩
  have gb : Below (b0 + 1) wa wb := by rw [← hwb]; exact (Below.refl _ wa).alloc (by omega) _
  have sb : wb.heap.size = b0 + 2 := by rw [← hwb, World.size_alloc, sa]
  have nb1 : wb.heap[b0 + 1]? = some (.cells #[.int .i64 0, .bool false, .slice none 0 0, .int .i64 0, .string ⟨#[]⟩, .slice none 0 0, .slice none 0 0] 28) := by rw [← hwb, ← sa]; exact World.alloc_heap_new wa _
  obtain ⟨w0, hw0⟩ : ∃ y, wb.alloc (.cells #[.int .i64 0, .bool false, .slice none 0 0, .int .i64 0, .string ⟨#[]⟩, .slice none 0 0, .slice none 0 0] 28) = y := ⟨_, rfl⟩
  have gc : Below (b0 + 2) wb w0 := by rw [← hw0]; exact (Below.refl _ wb).alloc (by omega) _
  have sc : w0.heap.size = b0 + 3 := by rw [← hw0, World.size_alloc, sb]
  have nc : w0.heap[b0 + 2]? = some (.cells #[.int .i64 0, .bool false, .slice none 0 0, .int .i64 0, .string ⟨#[]⟩, .slice none 0 0, .slice none 0 0] 28) := by rw [← hw0, ← sb]; exact World.alloc_heap_new wb _
  have ne : w0.heap[b0]? = some (.cells #[.int .i64 6, .bool neg, .slice A n c, .int .i64 e, .string t, .slice LA ln lc, .slice KA kn kc] 28) := (gc.block _ (by omega)).trans ((gb.block _ (by omega)).trans na)
  have nr : w0.heap[b0 + 1]? = some (.cells #[.int .i64 0, .bool false, .slice none 0 0, .int .i64 0, .string ⟨#[]⟩, .slice none 0 0, .slice none 0 0] 28) := (gc.block _ (by omega)).trans nb1
  have g0 : Below b0 w w0 := (ga.trans (gb.mono (by omega))).trans (gc.mono (by omega))
  obtain ⟨x0, x1, x2, x3, x4, x5, x6⟩ := box7_of ne
  have hS0 : ∀ b, S b → b < b0 := fun b hb => by have := hS b hb; omega
  have hnm := (g0.cell (p := ⟨nb, 0, none⟩) (by show nb < b0; omega)).trans h0
  have hget := get_c w0 (hx.keep fun p hp => g0.cell (hS0 _ hp)) (fun b hb => by have := hS0 b hb; omega) rfl (i := 0) (s := ⟨#[107, 101, 121]⟩) (y := textV s) rfl (fun j hj => by omega) rfl hsz
  have HG := Lib.hid hget
  have HR := Lib.hid nr
  have HO := Lib.hid nc
  have HB := Lib.hid g0
  have HZ := Lib.hid sc
  rw [hb0]
  clear hx hS hS0 h0 ga gb gc na nb1 nc ne nr g0 hget
  go_enter Tryz.func18, Tryz.ntmps18
  go_upto_region 3 with fail
  try rw [hb0]
  clear hb0 hnb
  try rw [hwa]
  try rw [hwb]
  try rw [hw0]
  clear hwa hwb hw0 sa sb sc
  go_loopw [7, 8, 9, 12] (fun _ _ _ iv wr => iv = .int .i64 0 ∧ w0 = wr) (fun _ _ _ iv _ => 3 - (RowKit.intOf iv).toNat)
  case atStart => exact ⟨rfl, rfl⟩
  case round =>
    obtain ⟨rfl, rfl⟩ := hrel
    go_wp2_with fail
    refine HG.out.mono ?_
    rintro e9 w1 ⟨cs1, rfl, hv1, hb1⟩
    obtain ⟨neg1, A1, n1, c1, e1, t1, LA1, ln1, lc1, KA1, kn1, kc1, rfl, -, -, -⟩ := vin_kindK hv1
    have hk4 : (textV s).kind = 4 := rfl
    rw [hk4] at hv1 ⊢
    rw [HZ.out] at hb1 hv1
    obtain ⟨p, hp⟩ : ∃ b, w1.heap.size = b := ⟨_, rfl⟩
    have hs1 : b0 + 3 ≤ p := by have := hb1.size; rw [HZ.out, hp] at this; exact this
    obtain ⟨w2, hw2⟩ : ∃ y, w1.alloc (.cells #[.int .i64 0, .bool false, .slice none 0 0, .int .i64 0, .string ⟨#[]⟩, .slice none 0 0, .slice none 0 0] 28) = y := ⟨_, rfl⟩
    have g2 : Below p w1 w2 := by rw [← hw2]; exact (Below.refl _ w1).alloc (by omega) _
    have s2 : w2.heap.size = p + 1 := by rw [← hw2, World.size_alloc, hp]
    have n2 : w2.heap[p]? = some (.cells #[.int .i64 0, .bool false, .slice none 0 0, .int .i64 0, .string ⟨#[]⟩, .slice none 0 0, .slice none 0 0] 28) := by rw [← hw2, ← hp]; exact World.alloc_heap_new w1 _
    obtain ⟨w3, hw3⟩ : ∃ y, (((((((w2.setCell ⟨p, 0, none⟩ (.int .i64 4)).setCell ⟨p, 1, none⟩ (.bool neg1)).setCell ⟨p, 2, none⟩ (.slice A1 n1 c1)).setCell ⟨p, 3, none⟩ (.int .i64 e1)).setCell ⟨p, 4, none⟩ (.string t1)).setCell ⟨p, 5, none⟩ (.slice LA1 ln1 lc1)).setCell ⟨p, 6, none⟩ (.slice KA1 kn1 kc1)) = y := ⟨_, rfl⟩
    have n3 := heap_seven n2 (.int .i64 4) (.bool neg1) (.slice A1 n1 c1) (.int .i64 e1) (.string t1) (.slice LA1 ln1 lc1) (.slice KA1 kn1 kc1)
    have o3 : ∀ k, k ≠ p → w3.heap[k]? = w2.heap[k]? := fun k hk => by rw [← hw3]; exact heap_seven_ne hk _ _ _ _ _ _ _
    rw [hw3] at n3
    have s3 : w3.heap.size = p + 1 := by rw [← hw3]; simp [World.setCell, s2]
    have hlt1 : ∀ k, k < p → w3.heap[k]? = w1.heap[k]? := fun k hk => (o3 k (by omega)).trans (g2.block k hk)
    have nO1 : w3.heap[b0 + 2]? = some (.cells #[.int .i64 0, .bool false, .slice none 0 0, .int .i64 0, .string ⟨#[]⟩, .slice none 0 0, .slice none 0 0] 28) := (hlt1 _ (by omega)).trans ((hb1.block _ (by omega)).trans HO.out)
    obtain ⟨w4, hw4⟩ : ∃ y, (((((((w3.setCell ⟨b0 + 2, 0, none⟩ (.int .i64 4)).setCell ⟨b0 + 2, 1, none⟩ (.bool neg1)).setCell ⟨b0 + 2, 2, none⟩ (.slice A1 n1 c1)).setCell ⟨b0 + 2, 3, none⟩ (.int .i64 e1)).setCell ⟨b0 + 2, 4, none⟩ (.string t1)).setCell ⟨b0 + 2, 5, none⟩ (.slice LA1 ln1 lc1)).setCell ⟨b0 + 2, 6, none⟩ (.slice KA1 kn1 kc1)) = y := ⟨_, rfl⟩
    have n4 := heap_seven nO1 (.int .i64 4) (.bool neg1) (.slice A1 n1 c1) (.int .i64 e1) (.string t1) (.slice LA1 ln1 lc1) (.slice KA1 kn1 kc1)
    have o4 : ∀ k, k ≠ b0 + 2 → w4.heap[k]? = w3.heap[k]? := fun k hk => by rw [← hw4]; exact heap_seven_ne hk _ _ _ _ _ _ _
    rw [hw4] at n4
    have s4 : w4.heap.size = p + 1 := by rw [← hw4]; simp [World.setCell, s3]
    have np4 := (o4 p (by omega)).trans n3
    have nr4 : w4.heap[b0 + 1]? = some (.cells #[.int .i64 0, .bool false, .slice none 0 0, .int .i64 0, .string ⟨#[]⟩, .slice none 0 0, .slice none 0 0] 28) := (o4 _ (by omega)).trans ((hlt1 _ (by omega)).trans ((hb1.block _ (by omega)).trans HR.out))
    have hB2 : Below b0 w w2 := (HB.out.trans (hb1.mono (by omega))).trans (g2.mono (by omega))
    have hB3 := below_seven hB2 (show b0 ≤ p by omega) (.int .i64 4) (.bool neg1) (.slice A1 n1 c1) (.int .i64 e1) (.string t1) (.slice LA1 ln1 lc1) (.slice KA1 kn1 kc1)
    rw [hw3] at hB3
    have hB4 := below_seven hB3 (show b0 ≤ b0 + 2 by omega) (.int .i64 4) (.bool neg1) (.slice A1 n1 c1) (.int .i64 e1) (.string t1) (.slice LA1 ln1 lc1) (.slice KA1 kn1 kc1)
    rw [hw4] at hB4
    have HB4 := Lib.hid hB4
    have HP := Lib.hid hp
    clear hB2 hB3 hB4
    obtain ⟨f0, f1, f2, f3, f4, f5, f6⟩ := box7_of n3
    obtain ⟨q0, q1, q2, q3, q4, q5, q6⟩ := box7_of nO1
    have fo : ∀ j, w3.frozen? ⟨b0 + 2, j, none⟩ = false := fun j => frozen_of_row _ _ j _ _ nO1
    obtain ⟨m0, m1, m2, m3, m4, m5, m6⟩ := box7_of n2
    have fm : ∀ j, w2.frozen? ⟨p, j, none⟩ = false := fun j => frozen_of_row _ _ j _ _ n2
    obtain ⟨r0, r1, r2, r3, r4, r5, r6⟩ := box7_of np4
    have hbel4 : ∀ k, k < b0 → w4.heap[k]? = w0.heap[k]? := fun k hk => (o4 k (by omega)).trans ((hlt1 k (by omega)).trans (hb1.block k (by omega)))
    have HTR := Lib.hid (fun W => true_c (k := 4) (neg := neg1) (A := A1) (n := n1) (c := c1) (e := e1) (t := t1) (LA := LA1) (ln := ln1) (lc := lc1) (KA := KA1) (kn := kn1) (kc := kc1) W)
    have HV1 := Lib.hid hv1
    have HN4 := Lib.hid n4
    have HR4 := Lib.hid nr4
    have HB1 := Lib.hid hb1
    have HO4 := Lib.hid o4
    have HL1 := Lib.hid hlt1
    have HS4 := Lib.hid s4
    have HW4 := Lib.hid hw4
    have HW3 := Lib.hid hw3
    have HS1 := Lib.hid hs1
    clear hv1 n4 nr4 hb1 o4 hlt1 s4 hw4 hw3 g2 s2 n2 n3 o3 s3 nO1 np4 hs1 hbel4 hk4
    go_upto_region 6 with fail
    try rw [hp]
    try rw [hw2]
    rw [HW3.out]
    clear hw2 m0 m1 m2 m3 m4 m5 m6 fm hp
    go_upto_region 8 with fail
    rw [HW4.out]
    clear f0 f1 f2 f3 f4 f5 f6 q0 q1 q2 q3 q4 q5 q6 fo x0 x1 x2 x3 x4 x5 x6
    go_wp2_with fail
    refine (HTR.out w4).mono ?_
    rintro e8 w5 ⟨rfl, hb5⟩
    have htt : trueB 4 = true := rfl
    rw [htt]
    have hs4 := HS4.out
    have hs1 := HS1.out
    have n5 := (hb5.block (b0 + 2) (by omega)).trans HN4.out
    have nr5 := (hb5.block (b0 + 1) (by omega)).trans HR4.out
    obtain ⟨q0, q1, q2, q3, q4, q5, q6⟩ := box7_of n5
    obtain ⟨z0, z1, z2, z3, z4, z5, z6⟩ := box7_of nr5
    have fz : ∀ j, w5.frozen? ⟨b0 + 1, j, none⟩ = false := fun j => frozen_of_row _ _ j _ _ nr5
    have HB5 := Lib.hid hb5
    clear r0 r1 r2 r3 r4 r5 r6 hb5 n5 nr5 hs4 hs1 htt
    go_wp2_with fail
    refine bodyPost_ret (v := .agg #[.int .i64 4, .bool neg1, .slice A1 n1 c1, .int .i64 e1, .string t1, .slice LA1 ln1 lc1, .slice KA1 kn1 kc1]) (by simp [results, Tryz.results18, go_sem, z0, z1, z2, z3, z4, z5, z6]) rfl ?_
    have hs4 := HS4.out
    have hs1 := HS1.out
    have hs5 := HB5.out.size
    have hw : Below b0 w w5 := HB4.out.trans (HB5.out.mono (by omega))
    refine ⟨[.int .i64 4, .bool neg1, .slice A1 n1 c1, .int .i64 e1, .string t1, .slice LA1 ln1 lc1, .slice KA1 kn1 kc1], rfl, ?_, below_seven hw (by omega) _ _ _ _ _ _ _⟩
    have hin := own_moreK (N := b0 + 3) (Z := w5) HV1.out (fun k h1 h2 => (HB5.out.block k (by have := HP.out; omega)).trans ((HO4.out k (by omega)).trans (HL1.out k (by have := HP.out; omega)))) (by have := HP.out; omega) (by have := HP.out; omega)
    refine (hin.keep fun q hq => ?_).more fun b hb => ?_
    · exact cell_seven (by have := hq.1; omega) _ _ _ _ _ _ _
    · exact ⟨by have := hb.1; omega, by simpa [World.setCell] using hb.2⟩
end Go.Proofs.YtpmdcahomkdfmaaGreatDoor

namespace Go.Proofs.YtpmdcahomkdfmaaGreatDoor
open Go.RowKit Go.Lib

theorem vin_textB {w : World} {S : Nat → Prop} {s : ByteArray} {cs : List Value} (h : VIn w S (textV s) cs) : ∃ A n c LA ln lc KA kn kc, cs = [.int .i64 4, .bool false, .slice A n c, .int .i64 0, .string s, .slice LA ln lc, .slice KA kn kc] := by
  obtain ⟨A, n, c, LA, ln, lc, KA, kn, kc, rfl, -⟩ := VIn.parts (k := 4) (neg := false) (e := 0) (t := s) h
  exact ⟨A, n, c, LA, ln, lc, KA, kn, kc, rfl⟩
set_option maxRecDepth 1000000 in
set_option maxHeartbeats 8000000 in
theorem ekeyOf_c {S : Nat → Prop} {s : ByteArray} {v : VT} {cs : List Value} (w : World) (hx : VIn w S (entryV s v) cs) (hS : ∀ b, S b → b < w.heap.size) :
    Calls Tryz.prog 17 #[.agg cs.toArray] w fun e' w' => e' = .returned (.tuple #[.string s, .int .i64 0]) ∧ Below w.heap.size w w' := by
  obtain ⟨neg, A, n, c, e, t, LA, ln, lc, KA, kn, kc, rfl, -, -, -⟩ := vin_kindK hx
  have hk6 : (entryV s v).kind = 6 := rfl
  rw [hk6] at hx ⊢
  obtain ⟨b0, hb0⟩ : ∃ b, w.heap.size = b := ⟨_, rfl⟩
  obtain ⟨wa, hwa⟩ : ∃ y, w.alloc (.cells #[.int .i64 6, .bool neg, .slice A n c, .int .i64 e, .string t, .slice LA ln lc, .slice KA kn kc] 28) = y := ⟨_, rfl⟩
  have ga : Below b0 w wa := by rw [← hwa]; exact (Below.refl _ w).alloc (by omega) _
  have sa : wa.heap.size = b0 + 1 := by rw [← hwa, World.size_alloc, hb0]
  have na : wa.heap[b0]? = some (.cells #[.int .i64 6, .bool neg, .slice A n c, .int .i64 e, .string t, .slice LA ln lc, .slice KA kn kc] 28) := by rw [← hwa, ← hb0]; exact World.alloc_heap_new w _
  obtain ⟨wb, hwb⟩ : ∃ y, wa.alloc (.cells #[.string ⟨#[107, 101, 121]⟩, .string ⟨#[107]⟩, .string ⟨#[110, 97, 109, 101]⟩] 9) = y := ⟨_, rfl⟩
  have gb : Below (b0 + 1) wa wb := by rw [← hwb]; exact (Below.refl _ wa).alloc (by omega) _
  have sb : wb.heap.size = b0 + 2 := by rw [← hwb, World.size_alloc, sa]
  have nb : wb.heap[b0 + 1]? = some (.cells #[.string ⟨#[107, 101, 121]⟩, .string ⟨#[107]⟩, .string ⟨#[110, 97, 109, 101]⟩] 9) := by rw [← hwb, ← sa]; exact World.alloc_heap_new wa _
  have g0 : Below b0 w wb := ga.trans (gb.mono (by omega))
  obtain ⟨x0, x1, x2, x3, x4, x5, x6⟩ := box7_of na
  have HF := Lib.hid (firstKey_c (nb := b0 + 1) wb (hx.keep fun p hp => g0.cell (by have := hS _ hp; omega)) (fun b hb => by have := hS b hb; omega) (by omega) (cell_of_heap nb 0))
  have HB := Lib.hid g0
  have SB := Lib.hid sb
  rw [hb0]
  clear hx hS ga gb nb g0 sb
  have SA := Lib.hid sa
  clear sa na
  go_enter Tryz.func17, Tryz.ntmps17
  go_upto_region 1 with fail
  try rw [hwa]
  try rw [hb0]
  clear hwa hb0
  go_wp2_with fail
  rw [SA.out]
  refine HF.out.mono ?_
  rintro e9 w1 ⟨cs1, rfl, hv1, hb1⟩
  obtain ⟨A1, n1, c1, LA1, ln1, lc1, KA1, kn1, kc1, rfl⟩ := vin_textB hv1
  obtain ⟨p, hp⟩ : ∃ b, w1.heap.size = b := ⟨_, rfl⟩
  rw [SB.out] at hb1
  have hs1 : b0 + 2 ≤ p := by have := hb1.size; rw [SB.out, hp] at this; exact this
  obtain ⟨w2, hw2⟩ : ∃ y, w1.alloc (.cells #[.int .i64 0, .bool false, .slice none 0 0, .int .i64 0, .string ⟨#[]⟩, .slice none 0 0, .slice none 0 0] 28) = y := ⟨_, rfl⟩
  have g2 : Below p w1 w2 := by rw [← hw2]; exact (Below.refl _ w1).alloc (by omega) _
  have n2 : w2.heap[p]? = some (.cells #[.int .i64 0, .bool false, .slice none 0 0, .int .i64 0, .string ⟨#[]⟩, .slice none 0 0, .slice none 0 0] 28) := by rw [← hw2, ← hp]; exact World.alloc_heap_new w1 _
  obtain ⟨w3, hw3⟩ : ∃ y, (((((((w2.setCell ⟨p, 0, none⟩ (.int .i64 4)).setCell ⟨p, 1, none⟩ (.bool false)).setCell ⟨p, 2, none⟩ (.slice A1 n1 c1)).setCell ⟨p, 3, none⟩ (.int .i64 0)).setCell ⟨p, 4, none⟩ (.string s)).setCell ⟨p, 5, none⟩ (.slice LA1 ln1 lc1)).setCell ⟨p, 6, none⟩ (.slice KA1 kn1 kc1)) = y := ⟨_, rfl⟩
  have n3 := heap_seven n2 (.int .i64 4) (.bool false) (.slice A1 n1 c1) (.int .i64 0) (.string s) (.slice LA1 ln1 lc1) (.slice KA1 kn1 kc1)
  have g3 := below_seven g2 (Nat.le_refl p) (.int .i64 4) (.bool false) (.slice A1 n1 c1) (.int .i64 0) (.string s) (.slice LA1 ln1 lc1) (.slice KA1 kn1 kc1)
  rw [hw3] at n3 g3
  obtain ⟨f0, f1, f2, f3, f4, f5, f6⟩ := box7_of n3
  obtain ⟨m0, m1, m2, m3, m4, m5, m6⟩ := box7_of n2
  have fm : ∀ j, w2.frozen? ⟨p, j, none⟩ = false := fun j => frozen_of_row _ _ j _ _ n2
  have HB3 := Lib.hid ((HB.out.trans (hb1.mono (by omega))).trans (g3.mono (by omega)))
  clear hv1 hb1 g2 n2 n3 g3 hs1 x0 x1 x2 x3 x4 x5 x6 hk6
  go_upto_region 2 with fail
  try rw [hp]
  try rw [hw2]
  try rw [hw3]
  clear hw2 hw3 hp m0 m1 m2 m3 m4 m5 m6 fm
  go_wp2_with fail
  go_ret2
  exact ⟨rfl, HB3.out⟩
end Go.Proofs.YtpmdcahomkdfmaaGreatDoor
