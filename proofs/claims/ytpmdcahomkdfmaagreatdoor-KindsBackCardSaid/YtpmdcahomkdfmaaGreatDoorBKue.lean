/-
  The contract of firstTrue of an entry by the names of its value.
  Two rows of the call's own that grow in turn; what comes back of entries.
-/
import Derived.Test.YtpmdcahomkdfmaaGreatDoorBKko
import Derived.Test.YtpmdcahomkdfmaaGreatDoorBKgn
set_option linter.unusedVariables false
set_option linter.unusedSimpArgs false
namespace Go.Proofs.YtpmdcahomkdfmaaGreatDoor
open Go.RowKit Go.Lib

/-- What stands behind a round that found a value that does not count as true. -/
def FvS (w : World) (b0 : Nat) (E Z : Array Value) (v : VT) (X : World) : Prop := ∃ neg2 A2 n2 c2 e2 t2 LA2 ln2 lc2 KA2 kn2 kc2,
  X.heap[b0 + 2]? = some (.cells #[.int .i64 v.kind, .bool neg2, .slice A2 n2 c2, .int .i64 e2, .string t2, .slice LA2 ln2 lc2, .slice KA2 kn2 kc2] 28) ∧ VIn X (fun b => b0 + 3 ≤ b ∧ b < X.heap.size) v [.int .i64 v.kind, .bool neg2, .slice A2 n2 c2, .int .i64 e2, .string t2, .slice LA2 ln2 lc2, .slice KA2 kn2 kc2] ∧
  X.heap[b0]? = some (.cells E 28) ∧ X.heap[b0 + 1]? = some (.cells Z 28) ∧ Below b0 w X ∧ b0 + 3 ≤ X.heap.size
set_option maxRecDepth 1000000 in
set_option maxHeartbeats 8000000 in
theorem firstVal_c {S : Nat → Prop} {s : ByteArray} {v : VT} {cs : List Value} {nb : Nat} (w : World) (hx : VIn w S (entryV s v) cs) (hS : ∀ b, S b → b < w.heap.size) (hsz : under v ≤ 21474836) (hnb : nb < w.heap.size) (h0 : w.cell? ⟨nb, 0, none⟩ = some (.string ⟨#[118, 97, 108, 117, 101]⟩)) (h1 : w.cell? ⟨nb, 1, none⟩ = some (.string ⟨#[118]⟩)) :
    Calls Tryz.prog 18 #[.agg cs.toArray, .slice (some ⟨nb, 0, none⟩) 2 2] w fun e' w' => ∃ cs', e' = .returned (.agg cs'.toArray) ∧ VIn w' (Own' w.heap.size w') v cs' ∧ Below w.heap.size w w' := by
  have hxx := hx
  obtain ⟨neg, A, n, c, e, t, LA, ln, lc, KA, kn, kc, rfl, -, -, -⟩ := vin_kindK hx
  have hk6 : (entryV s v).kind = 6 := rfl
  rw [hk6] at hx ⊢
  obtain ⟨b0, hb0⟩ : ∃ b, w.heap.size = b := ⟨_, rfl⟩
  obtain ⟨wa, hwa⟩ : ∃ y, w.alloc (.cells #[.int .i64 6, .bool neg, .slice A n c, .int .i64 e, .string t, .slice LA ln lc, .slice KA kn kc] 28) = y := ⟨_, rfl⟩
  have ga : Below b0 w wa := by rw [← hwa]; exact (Below.refl _ w).alloc (by omega) _
  have sa : wa.heap.size = b0 + 1 := by rw [← hwa, World.size_alloc, hb0]
  have na : wa.heap[b0]? = some (.cells #[.int .i64 6, .bool neg, .slice A n c, .int .i64 e, .string t, .slice LA ln lc, .slice KA kn kc] 28) := by rw [← hwa, ← hb0]; exact World.alloc_heap_new w _
  obtain ⟨wb, hwb⟩ : ∃ y, wa.alloc (.cells #[.int .i64 0, .bool false, .slice none 0 0, .int .i64 0, .string ⟨#[]⟩, .slice none 0 0, .slice none 0 0] 28) = y := ⟨_, rfl⟩
  have gb : Below (b0 + 1) wa wb := by rw [← hwb]; exact (Below.refl _ wa).alloc (by omega) _
  have sb : wb.heap.size = b0 + 2 := by rw [← hwb, World.size_alloc, sa]
  have nb1 : wb.heap[b0 + 1]? = some (.cells #[.int .i64 0, .bool false, .slice none 0 0, .int .i64 0, .string ⟨#[]⟩, .slice none 0 0, .slice none 0 0] 28) := by rw [← hwb, ← sa]; exact World.alloc_heap_new wa _
  obtain ⟨w0, hw0⟩ : ∃ y, wb.alloc (.cells #[.int .i64 0, .bool false, .slice none 0 0, .int .i64 0, .string ⟨#[]⟩, .slice none 0 0, .slice none 0 0] 28) = y := ⟨_, rfl⟩
  have gc : Below (b0 + 2) wb w0 := by rw [← hw0]; exact (Below.refl _ wb).alloc (by omega) _
  have sc : w0.heap.size = b0 + 3 := by rw [← hw0, World.size_alloc, sb]
  have nc : w0.heap[b0 + 2]? = some (.cells #[.int .i64 0, .bool false, .slice none 0 0, .int .i64 0, .string ⟨#[]⟩, .slice none 0 0, .slice none 0 0] 28) := by rw [← hw0, ← sb]; exact World.alloc_heap_new wb _
  have ne : w0.heap[b0]? = some (.cells #[.int .i64 6, .bool neg, .slice A n c, .int .i64 e, .string t, .slice LA ln lc, .slice KA kn kc] 28) := (gc.block _ (by omega)).trans ((gb.block _ (by omega)).trans na)
  have nr : w0.heap[b0 + 1]? = some (.cells #[.int .i64 0, .bool false, .slice none 0 0, .int .i64 0, .string ⟨#[]⟩, .slice none 0 0, .slice none 0 0] 28) := (gc.block _ (by omega)).trans nb1
  have g0 : Below b0 w w0 := (ga.trans (gb.mono (by omega))).trans (gc.mono (by omega))
  obtain ⟨x0, x1, x2, x3, x4, x5, x6⟩ := box7_of ne
  have hS0 : ∀ b, S b → b < b0 := fun b hb => by have := hS b hb; omega
  have hnm := (g0.cell (p := ⟨nb, 0, none⟩) (by show nb < b0; omega)).trans h0
  have HNM := Lib.hid (fun (X : World) (h : Below b0 w X) => (h.cell (p := ⟨nb, 1, none⟩) (by show nb < b0; omega)).trans h1)
  have hget := get_c w0 (hx.keep fun p hp => g0.cell (hS0 _ hp)) (fun b hb => by have := hS0 b hb; omega) rfl (i := 1) (s := ⟨#[118, 97, 108, 117, 101]⟩) (y := v) rfl (fun j hj => by
    obtain rfl : j = 0 := by omega
    exact fun e => absurd (congrArg ByteArray.size (Option.some.inj e)) (by decide)) rfl hsz
  have HNO := Lib.hid (fun (X : World) (h : Below b0 w X) => getNo_c (s := ⟨#[118]⟩) X (hx.keep fun p hp => h.cell (hS0 _ hp)) (fun b hb => by have := hS0 b hb; have := h.size; omega) rfl (fun t ht => by
    have ht2 : t ∈ [(⟨#[107, 101, 121]⟩ : ByteArray), ⟨#[118, 97, 108, 117, 101]⟩] := ht
    simp only [List.mem_cons, List.not_mem_nil, or_false] at ht2
    rcases ht2 with rfl | rfl <;> exact fun e => absurd (congrArg ByteArray.size e) (by decide)))
  have HG := Lib.hid hget
  have HR := Lib.hid nr
  have HO := Lib.hid nc
  have HB := Lib.hid g0
  have HZ := Lib.hid sc
  have HE := Lib.hid ne
  rw [hb0]
  clear hx hxx hS hS0 h0 h1 ga gb gc na nb1 nc ne nr g0 hget
  go_enter Tryz.func18, Tryz.ntmps18
  go_upto_region 3 with fail
  try rw [hb0]
  clear hb0 hnb
  try rw [hwa]
  try rw [hwb]
  try rw [hw0]
  clear hwa hwb hw0 sa sb sc
  go_loopw [7, 8, 9, 12] (fun _ _ _ iv wr => (iv = .int .i64 0 ∧ w0 = wr) ∨ ((iv = .int .i64 1 ∨ iv = .int .i64 2) ∧ trueB v.kind = false ∧ FvS w b0 #[.int .i64 6, .bool neg, .slice A n c, .int .i64 e, .string t, .slice LA ln lc, .slice KA kn kc] #[.int .i64 0, .bool false, .slice none 0 0, .int .i64 0, .string ⟨#[]⟩, .slice none 0 0, .slice none 0 0] v wr)) (fun _ _ _ iv _ => 3 - (RowKit.intOf iv).toNat)
  case atStart => exact .inl ⟨rfl, rfl⟩
  case round =>
    rcases hrel with ⟨rfl, rfl⟩ | ⟨hiv, htf, HST⟩
    · go_wp2_with fail
      refine HG.out.mono ?_
      rintro e9 w1 ⟨cs1, rfl, hv1, hb1⟩
      obtain ⟨neg1, A1, n1, c1, e1, t1, LA1, ln1, lc1, KA1, kn1, kc1, rfl, -, -, -⟩ := vin_kindK hv1
      obtain ⟨κ, hκ⟩ : ∃ k, v.kind = k := ⟨_, rfl⟩
      rw [hκ] at hv1 ⊢
      rw [HZ.out] at hb1 hv1
      obtain ⟨p, hp⟩ : ∃ b, w1.heap.size = b := ⟨_, rfl⟩
      have hs1 : b0 + 3 ≤ p := by have := hb1.size; rw [HZ.out, hp] at this; exact this
      obtain ⟨w2, hw2⟩ : ∃ y, w1.alloc (.cells #[.int .i64 0, .bool false, .slice none 0 0, .int .i64 0, .string ⟨#[]⟩, .slice none 0 0, .slice none 0 0] 28) = y := ⟨_, rfl⟩
      have g2 : Below p w1 w2 := by rw [← hw2]; exact (Below.refl _ w1).alloc (by omega) _
      have s2 : w2.heap.size = p + 1 := by rw [← hw2, World.size_alloc, hp]
      have n2 : w2.heap[p]? = some (.cells #[.int .i64 0, .bool false, .slice none 0 0, .int .i64 0, .string ⟨#[]⟩, .slice none 0 0, .slice none 0 0] 28) := by rw [← hw2, ← hp]; exact World.alloc_heap_new w1 _
      obtain ⟨w3, hw3⟩ : ∃ y, (((((((w2.setCell ⟨p, 0, none⟩ (.int .i64 κ)).setCell ⟨p, 1, none⟩ (.bool neg1)).setCell ⟨p, 2, none⟩ (.slice A1 n1 c1)).setCell ⟨p, 3, none⟩ (.int .i64 e1)).setCell ⟨p, 4, none⟩ (.string t1)).setCell ⟨p, 5, none⟩ (.slice LA1 ln1 lc1)).setCell ⟨p, 6, none⟩ (.slice KA1 kn1 kc1)) = y := ⟨_, rfl⟩
      have n3 := heap_seven n2 (.int .i64 κ) (.bool neg1) (.slice A1 n1 c1) (.int .i64 e1) (.string t1) (.slice LA1 ln1 lc1) (.slice KA1 kn1 kc1)
      have o3 : ∀ k, k ≠ p → w3.heap[k]? = w2.heap[k]? := fun k hk => by rw [← hw3]; exact heap_seven_ne hk _ _ _ _ _ _ _
      rw [hw3] at n3
      have s3 : w3.heap.size = p + 1 := by rw [← hw3]; simp [World.setCell, s2]
      have hlt1 : ∀ k, k < p → w3.heap[k]? = w1.heap[k]? := fun k hk => (o3 k (by omega)).trans (g2.block k hk)
      have nO1 : w3.heap[b0 + 2]? = some (.cells #[.int .i64 0, .bool false, .slice none 0 0, .int .i64 0, .string ⟨#[]⟩, .slice none 0 0, .slice none 0 0] 28) := (hlt1 _ (by omega)).trans ((hb1.block _ (by omega)).trans HO.out)
      obtain ⟨w4, hw4⟩ : ∃ y, (((((((w3.setCell ⟨b0 + 2, 0, none⟩ (.int .i64 κ)).setCell ⟨b0 + 2, 1, none⟩ (.bool neg1)).setCell ⟨b0 + 2, 2, none⟩ (.slice A1 n1 c1)).setCell ⟨b0 + 2, 3, none⟩ (.int .i64 e1)).setCell ⟨b0 + 2, 4, none⟩ (.string t1)).setCell ⟨b0 + 2, 5, none⟩ (.slice LA1 ln1 lc1)).setCell ⟨b0 + 2, 6, none⟩ (.slice KA1 kn1 kc1)) = y := ⟨_, rfl⟩
      have n4 := heap_seven nO1 (.int .i64 κ) (.bool neg1) (.slice A1 n1 c1) (.int .i64 e1) (.string t1) (.slice LA1 ln1 lc1) (.slice KA1 kn1 kc1)
      have o4 : ∀ k, k ≠ b0 + 2 → w4.heap[k]? = w3.heap[k]? := fun k hk => by rw [← hw4]; exact heap_seven_ne hk _ _ _ _ _ _ _
      rw [hw4] at n4
      have s4 : w4.heap.size = p + 1 := by rw [← hw4]; simp [World.setCell, s3]
      have np4 := (o4 p (by omega)).trans n3
      have nr4 : w4.heap[b0 + 1]? = some (.cells #[.int .i64 0, .bool false, .slice none 0 0, .int .i64 0, .string ⟨#[]⟩, .slice none 0 0, .slice none 0 0] 28) := (o4 _ (by omega)).trans ((hlt1 _ (by omega)).trans ((hb1.block _ (by omega)).trans HR.out))
      have ne4 : w4.heap[b0]? = some (.cells #[.int .i64 6, .bool neg, .slice A n c, .int .i64 e, .string t, .slice LA ln lc, .slice KA kn kc] 28) := (o4 _ (by omega)).trans ((hlt1 _ (by omega)).trans ((hb1.block _ (by omega)).trans HE.out))
      have hB2 : Below b0 w w2 := (HB.out.trans (hb1.mono (by omega))).trans (g2.mono (by omega))
      have hB3 := below_seven hB2 (show b0 ≤ p by omega) (.int .i64 κ) (.bool neg1) (.slice A1 n1 c1) (.int .i64 e1) (.string t1) (.slice LA1 ln1 lc1) (.slice KA1 kn1 kc1)
      rw [hw3] at hB3
      have hB4 := below_seven hB3 (show b0 ≤ b0 + 2 by omega) (.int .i64 κ) (.bool neg1) (.slice A1 n1 c1) (.int .i64 e1) (.string t1) (.slice LA1 ln1 lc1) (.slice KA1 kn1 kc1)
      rw [hw4] at hB4
      have HB4 := Lib.hid hB4
      have HP := Lib.hid hp
      clear hB2 hB3 hB4
      obtain ⟨f0, f1, f2, f3, f4, f5, f6⟩ := box7_of n3
      obtain ⟨q0, q1, q2, q3, q4, q5, q6⟩ := box7_of nO1
      have fo : ∀ j, w3.frozen? ⟨b0 + 2, j, none⟩ = false := fun j => frozen_of_row _ _ j _ _ nO1
      obtain ⟨m0, m1, m2, m3, m4, m5, m6⟩ := box7_of n2
      have fm : ∀ j, w2.frozen? ⟨p, j, none⟩ = false := fun j => frozen_of_row _ _ j _ _ n2
      obtain ⟨r0, r1, r2, r3, r4, r5, r6⟩ := box7_of np4
      have HTR := Lib.hid (fun W => true_c (k := κ) (neg := neg1) (A := A1) (n := n1) (c := c1) (e := e1) (t := t1) (LA := LA1) (ln := ln1) (lc := lc1) (KA := KA1) (kn := kn1) (kc := kc1) W)
      have HV1 := Lib.hid hv1
      have HN4 := Lib.hid n4
      have HR4 := Lib.hid nr4
      have HE4 := Lib.hid ne4
      have HB1 := Lib.hid hb1
      have HO4 := Lib.hid o4
      have HL1 := Lib.hid hlt1
      have HS4 := Lib.hid s4
      have HW4 := Lib.hid hw4
      have HW3 := Lib.hid hw3
      have HS1 := Lib.hid hs1
      have HK := Lib.hid hκ
      clear hv1 n4 nr4 ne4 hb1 o4 hlt1 s4 hw4 hw3 g2 s2 n2 n3 o3 s3 nO1 np4 hs1 hκ
      go_upto_region 6 with fail
      try rw [hp]
      try rw [hw2]
      rw [HW3.out]
      clear hw2 m0 m1 m2 m3 m4 m5 m6 fm hp
      go_upto_region 8 with fail
      rw [HW4.out]
      clear f0 f1 f2 f3 f4 f5 f6 q0 q1 q2 q3 q4 q5 q6 fo x0 x1 x2 x3 x4 x5 x6
      go_wp2_with fail
      refine (HTR.out w4).mono ?_
      rintro e8 w5 ⟨rfl, hb5⟩
      have hs4 := HS4.out
      have hs1 := HS1.out
      have n5 := (hb5.block (b0 + 2) (by omega)).trans HN4.out
      have nr5 := (hb5.block (b0 + 1) (by omega)).trans HR4.out
      have ne5 := (hb5.block b0 (by omega)).trans HE4.out
      have HB5 := Lib.hid hb5
      have hs5 := hb5.size
      have hw : Below b0 w w5 := HB4.out.trans (hb5.mono (by omega))
      have hin := own_moreK (N := b0 + 3) (Z := w5) HV1.out (fun k h1 h2 => (hb5.block k (by have := HP.out; omega)).trans ((HO4.out k (by omega)).trans (HL1.out k (by have := HP.out; omega)))) (by have := HP.out; omega) (by have := HP.out; omega)
      obtain ⟨q0, q1, q2, q3, q4, q5, q6⟩ := box7_of n5
      obtain ⟨z0, z1, z2, z3, z4, z5, z6⟩ := box7_of nr5
      have fz : ∀ j, w5.frozen? ⟨b0 + 1, j, none⟩ = false := fun j => frozen_of_row _ _ j _ _ nr5
      have HN5 := Lib.hid n5
      have HR5 := Lib.hid nr5
      have HE5 := Lib.hid ne5
      have HW5 := Lib.hid hw
      have HIN := Lib.hid hin
      have HS5 := Lib.hid hs5
      clear r0 r1 r2 r3 r4 r5 r6 hb5 n5 nr5 ne5 hs4 hs1 hs5 hw hin
      cases htt : trueB κ
      · go_wp2_with fail
        go_roundw
        case rel =>
          refine .inr ⟨.inl rfl, ?_, neg1, A1, n1, c1, e1, t1, LA1, ln1, lc1, KA1, kn1, kc1, ?_, ?_, HE5.out, HR5.out, HW5.out, ?_⟩
          · rw [HK.out]; exact htt
          · rw [HK.out]; exact HN5.out
          · rw [HK.out]; exact HIN.out
          · have := HS5.out; have := HS4.out; have := HS1.out; omega
        case measure => first | decide | (simp [RowKit.intOf])
      · go_wp2_with fail
        refine bodyPost_ret (v := .agg #[.int .i64 κ, .bool neg1, .slice A1 n1 c1, .int .i64 e1, .string t1, .slice LA1 ln1 lc1, .slice KA1 kn1 kc1]) (by simp [results, Tryz.results18, go_sem, z0, z1, z2, z3, z4, z5, z6]) rfl ?_
        refine ⟨[.int .i64 κ, .bool neg1, .slice A1 n1 c1, .int .i64 e1, .string t1, .slice LA1 ln1 lc1, .slice KA1 kn1 kc1], rfl, ?_, below_seven HW5.out (by omega) _ _ _ _ _ _ _⟩
        refine (HIN.out.keep fun q hq => ?_).more fun b hb => ?_
        · exact cell_seven (by have := hq.1; omega) _ _ _ _ _ _ _
        · exact ⟨by have := hb.1; omega, by simpa [World.setCell] using hb.2⟩
    · obtain ⟨neg2, A2, n2, c2, e2, t2, LA2, ln2, lc2, KA2, kn2, kc2, y2, yv, y0, y1, hbw, hsw⟩ := HST
      clear x0 x1 x2 x3 x4 x5 x6 hnm
      obtain ⟨κ, hκ⟩ : ∃ k, v.kind = k := ⟨_, rfl⟩
      rw [hκ] at y2 yv
      have HK := Lib.hid hκ
      have HTF := Lib.hid htf
      rcases hiv with rfl | rfl
      · have hnm := HNM.out _ hbw
        have HN := Lib.hid (HNO.out _ hbw)
        obtain ⟨x0, x1, x2, x3, x4, x5, x6⟩ := box7_of y0
        have Y2 := Lib.hid y2
        have YV := Lib.hid yv
        have Y0 := Lib.hid y0
        have Y1 := Lib.hid y1
        have YB := Lib.hid hbw
        have YS := Lib.hid hsw
        clear y2 yv y0 y1 hbw hsw hκ htf
        go_wp2_with fail
        refine HN.out.mono ?_
        rintro e9 w1 ⟨rfl, hb1⟩
        obtain ⟨p, hp⟩ : ∃ b, w1.heap.size = b := ⟨_, rfl⟩
        obtain ⟨ws, hws⟩ : ∃ b, wr.heap.size = b := ⟨_, rfl⟩
        rw [hws] at hb1
        have hs1 : b0 + 3 ≤ ws ∧ ws ≤ p := by have := hb1.size; have := YS.out; omega
        obtain ⟨w2, hw2⟩ : ∃ y, w1.alloc (.cells #[.int .i64 0, .bool false, .slice none 0 0, .int .i64 0, .string ⟨#[]⟩, .slice none 0 0, .slice none 0 0] 28) = y := ⟨_, rfl⟩
        have g2 : Below p w1 w2 := by rw [← hw2]; exact (Below.refl _ w1).alloc (by omega) _
        have n2' : w2.heap[p]? = some (.cells #[.int .i64 0, .bool false, .slice none 0 0, .int .i64 0, .string ⟨#[]⟩, .slice none 0 0, .slice none 0 0] 28) := by rw [← hw2, ← hp]; exact World.alloc_heap_new w1 _
        obtain ⟨w3, hw3⟩ : ∃ y, (((((((w2.setCell ⟨p, 0, none⟩ (.int .i64 0)).setCell ⟨p, 1, none⟩ (.bool false)).setCell ⟨p, 2, none⟩ (.slice none 0 0)).setCell ⟨p, 3, none⟩ (.int .i64 0)).setCell ⟨p, 4, none⟩ (.string ⟨#[]⟩)).setCell ⟨p, 5, none⟩ (.slice none 0 0)).setCell ⟨p, 6, none⟩ (.slice none 0 0)) = y := ⟨_, rfl⟩
        have g3 := below_seven g2 (Nat.le_refl p) (.int .i64 0) (.bool false) (.slice none 0 0) (.int .i64 0) (.string ⟨#[]⟩) (.slice none 0 0) (.slice none 0 0)
        rw [hw3] at g3
        have g4 : Below ws wr w3 := hb1.trans (g3.mono hs1.2)
        have HG4 := Lib.hid g4
        have HW3 := Lib.hid hw3
        have HS1 := Lib.hid hs1
        have HWS := Lib.hid hws
        obtain ⟨m0, m1, m2, m3, m4, m5, m6⟩ := box7_of n2'
        have fm : ∀ j, w2.frozen? ⟨p, j, none⟩ = false := fun j => frozen_of_row _ _ j _ _ n2'
        clear g2 n2' g3 g4 hw3 hs1 hws hb1
        go_upto_region 6 with fail
        try rw [hp]
        try rw [hw2]
        rw [HW3.out]
        clear hw2 m0 m1 m2 m3 m4 m5 m6 fm hp
        go_wp2_with fail
        go_roundw
        case rel =>
          have hs1 := HS1.out
          have hws := HWS.out
          refine .inr ⟨.inr rfl, HTF.out, neg2, A2, n2, c2, e2, t2, LA2, ln2, lc2, KA2, kn2, kc2, ?_, ?_, (HG4.out.block _ (by omega)).trans Y0.out, (HG4.out.block _ (by omega)).trans Y1.out, YB.out.trans (HG4.out.mono (by omega)), ?_⟩
          · rw [HK.out]; exact (HG4.out.block _ (by omega)).trans Y2.out
          · rw [HK.out]; exact (YV.out.keep fun q hq => HG4.out.cell (by have := hq.2; omega)).more fun b hb => ⟨hb.1, by have := hb.2; have := HG4.out.size; omega⟩
          · have := HG4.out.size; omega
        case measure => first | decide | (simp [RowKit.intOf])
      · obtain ⟨q0, q1, q2, q3, q4, q5, q6⟩ := box7_of y2
        obtain ⟨z0, z1, z2, z3, z4, z5, z6⟩ := box7_of y1
        have fz : ∀ j, wr.frozen? ⟨b0 + 1, j, none⟩ = false := fun j => frozen_of_row _ _ j _ _ y1
        have YV := Lib.hid yv
        have YB := Lib.hid hbw
        clear y2 yv y0 y1 hbw hsw hκ htf
        go_wp2_with fail
        refine bodyPost_ret (v := .agg #[.int .i64 κ, .bool neg2, .slice A2 n2 c2, .int .i64 e2, .string t2, .slice LA2 ln2 lc2, .slice KA2 kn2 kc2]) (by simp [results, Tryz.results18, go_sem, z0, z1, z2, z3, z4, z5, z6]) rfl ?_
        refine ⟨[.int .i64 κ, .bool neg2, .slice A2 n2 c2, .int .i64 e2, .string t2, .slice LA2 ln2 lc2, .slice KA2 kn2 kc2], rfl, ?_, below_seven YB.out (by omega) _ _ _ _ _ _ _⟩
        refine (YV.out.keep fun q hq => ?_).more fun b hb => ?_
        · exact cell_seven (by have := hq.1; omega) _ _ _ _ _ _ _
        · exact ⟨by have := hb.1; omega, by simpa [World.setCell] using hb.2⟩
end Go.Proofs.YtpmdcahomkdfmaaGreatDoor

namespace Go.Proofs.YtpmdcahomkdfmaaGreatDoor
open Go.RowKit Go.Lib

theorem ownsRow_same {w w' : World} {base : Nat} {e : TypeId} {size : Nat} {v : Value} {n : Nat} {xs : List Value} (h : w.ownsRow base e size v n xs) (hk : ∀ k, v.ownBlock = some k → w'.heap[k]? = w.heap[k]?) : w'.ownsRow base e size v n xs := by
  obtain ⟨h1, h2⟩ := h
  refine ⟨h1, ?_⟩
  rcases h2 with h2 | ⟨g, cap, cur, e1, e2, e3, e4⟩
  · exact .inl h2
  · exact .inr ⟨g, cap, cur, e1, e2, (hk g (by rw [e1]; rfl)).trans e3, e4⟩
theorem rdT_ownK {W : World} {B n c : Nat} {A : Option Addr} {ks : List ByteArray} (h : W.ownsRow B 9 1 (.slice A n c) n (strs ks)) (hs : ∀ s ∈ ks, s.size ≤ 140737488355328) : RdT W (fun b => B ≤ b ∧ b < W.heap.size) A n ks := by
  have hl : ks.length = n := by
    have := h.1
    unfold strs at this
    rw [List.length_map] at this
    omega
  refine ⟨hl, fun h0 => ?_⟩
  rcases h.2 with ⟨-, h2⟩ | ⟨g, cap, cur, e1, e2, e3, e4⟩
  · omega
  · injection e1 with e5 e6 e7
    subst e5
    refine ⟨g, 0, rfl, ⟨e2, (Array.getElem?_eq_some_iff.1 e3).1⟩, fun i k hk => ⟨?_, hs k (List.mem_of_getElem? hk)⟩⟩
    rw [Nat.zero_add]
    exact ownsRow_cellK h (by unfold strs; rw [List.getElem?_map, hk]; rfl)
/-- The one row stays where the other one grows. -/
theorem GrowE.other {B : Nat} {S : Nat → Prop} {v k k' : Value} {l : List VT} {W W' : World} (h : GrowE B S (fun b => k.ownBlock = some b) v l W) (hg : W.grownBy W' k.ownBlock) (hat : k'.ownBlock = k.ownBlock ∨ k'.ownBlock = some W.heap.size)
    (hv : ∀ b, v.ownBlock = some b → ¬ k.ownBlock = some b) : GrowE B S (fun b => k'.ownBlock = some b) v l W' ∧ ∀ b, v.ownBlock = some b → ¬ k'.ownBlock = some b := by
  obtain ⟨cs, h1, h2, h3⟩ := h
  have hvl : ∀ b, v.ownBlock = some b → b < W.heap.size := fun b hb => (ownsRow_lt h1 hb).2
  have hne : ∀ b, b < W.heap.size → ¬ k.ownBlock = some b → ¬ k'.ownBlock = some b := fun b hb h4 h5 => by
    rcases hat with h6 | h6
    · exact h4 (h6 ▸ h5)
    · rw [h6] at h5; injection h5 with h5; omega
  have hblk : ∀ b, b < W.heap.size → ¬ k.ownBlock = some b → W'.heap[b]? = W.heap[b]? := fun b hb h4 => hg.block b hb fun e => h4 e.symm
  refine ⟨⟨cs, ownsRow_same h1 fun b hb => hblk b (hvl b hb) (hv b hb), h2, fun i x hx => ((h3 i x hx).keep fun p hp => ?_).more fun b hb => ?_⟩, fun b hb => hne b (hvl b hb) (hv b hb)⟩
  · exact World.cell?_of_block (hblk _ hp.2.1 hp.2.2.1)
  · exact ⟨hb.1, Nat.lt_of_lt_of_le hb.2.1 hg.size, hne b hb.2.1 hb.2.2.1, hb.2.2.2⟩
theorem entry_size {w : World} {S : Nat → Prop} {s : ByteArray} {v : VT} {cs : List Value} (h : VIn w S (entryV s v) cs) : s.size ≤ 140737488355328 := by
  obtain ⟨A, n, c, LA, ln, lc, KA, kn, kc, rfl, -, -, -, hl, -⟩ := VIn.parts (k := 6) (neg := false) (xs := []) (e := 0) (t := ⟨#[]⟩) (l := [textV s, v]) (ks := [keyS, valueS]) h
  have hln : ln = 2 := hl.1.symm
  obtain ⟨b, off, x, cs, -, -, hx, -, -, hv⟩ := hl.at_ (i := 0) (by omega)
  obtain rfl : textV s = x := Option.some.inj hx
  obtain ⟨A, n, c, LA, ln, lc, KA, kn, kc, rfl, -, -, h3, -⟩ := VIn.parts (k := 4) (neg := false) (xs := []) (e := 0) (t := s) (l := []) (ks := []) hv
  exact h3
end Go.Proofs.YtpmdcahomkdfmaaGreatDoor
