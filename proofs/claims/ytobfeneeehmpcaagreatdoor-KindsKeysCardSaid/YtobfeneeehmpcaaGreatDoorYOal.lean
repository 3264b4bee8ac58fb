/-
  Contract of the closure that reads the values of a list.
  Contracts of the reference's number and Int; whole numbers as decimals.
  Contracts of the reference's Number and the law's num.
  The page's example of order, as the law asks it.
-/
import Derived.Test.YtobfeneeehmpcaaGreatDoorYLlo
import Derived.Test.YtobfeneeehmpcaaGreatDoorYRgap
import Derived.Test.YtobfeneeehmpcaaGreatDoorYVargs
import Derived.Shelf.Strings.BuilderRune
import Derived.Shelf.Spec.DecodeRune
import Derived.WalkKit
import Derived.Test.YtobfeneeehmpcaaGreatDoorYDset
import Derived.Test.YtobfeneeehmpcaaGreatDoorYVcm
import Derived.Laws.Concat
import Derived.Deep.AppendLies
import Derived.Deep.RegionHeld3
import Derived.Lib.ItoaNum
import Derived.Test.YtobfeneeehmpcaaGreatDoorYNparse
import Derived.Test.YtobfeneeehmpcaaGreatDoorYVob
import Derived.Test.YtobfeneeehmpcaaGreatDoorYRtail
import Derived.Test.YtobfeneeehmpcaaGreatDoorYNrefe
import Derived.Test.YtobfeneeehmpcaaGreatDoorYVord
import Derived.Test.YtobfeneeehmpcaaGreatDoorYDintc
import Derived.Deep.QuietTactic
import Derived.BigQuiet
import Derived.Deep.Cut
import Derived.Deep.CutRange
import Derived.Test.YtobfeneeehmpcaaGreatDoorYArgs
import Derived.Test.YtobfeneeehmpcaaGreatDoorYUpure
import Derived.Deep.CutBlock
import Derived.Laws.BytesArg
import Derived.PlainAid
import Derived.Calls
import Derived.Test.YtobfeneeehmpcaaGreatDoorYVcpy
import Derived.Test.YtobfeneeehmpcaaGreatDoorYVchk
import Derived.Laws.EntriesVeiled
import Derived.Test.YtobfeneeehmpcaaGreatDoorYVsame
set_option linter.unusedVariables false
set_option linter.unusedSimpArgs false
namespace Go.Proofs.YtobfeneeehmpcaaGreatDoor
open Go.RowKit Go.Lib
variable {B : Nat} {L : List UInt8} {A : Option Addr} {c sb : Nat}

/-- A row of the call's own that holds trees; they lie in memory of its own, too, but not in the row. -/
def Grow (N : Nat) (v : Value) (l : List VT) (W : World) : Prop := ∃ cs : Nat → List Value, W.ownsRow N 28 7 v l.length (flatC cs id l.length) ∧ (∀ i, i < l.length → (cs i).length = 7) ∧
  (∀ i x, l[i]? = some x → VIn W (fun b => N ≤ b ∧ b < W.heap.size ∧ v.ownBlock ≠ some b) x (cs i))
theorem ownsRow_keepB {w w' : World} {base : Nat} {e : TypeId} {size : Nat} {v : Value} {n : Nat} {xs : List Value} {C : Nat → Prop} (h : w.ownsRow base e size v n xs) (hb : But C w w') (hC : ∀ k, v.ownBlock = some k → ¬ C k) : w'.ownsRow base e size v n xs := by
  obtain ⟨h1, h2⟩ := h
  refine ⟨h1, ?_⟩
  rcases h2 with h2 | ⟨g, cap, cur, e1, e2, e3, e4⟩
  · exact .inl h2
  · exact .inr ⟨g, cap, cur, e1, e2, (hb.block g (Array.getElem?_eq_some_iff.1 e3).1 (hC g (by rw [e1]; rfl))).trans e3, e4⟩
theorem ownsRow_lt {w : World} {base : Nat} {e : TypeId} {size : Nat} {v : Value} {n : Nat} {xs : List Value} (h : w.ownsRow base e size v n xs) {k : Nat} (hk : v.ownBlock = some k) : base ≤ k ∧ k < w.heap.size := by
  rcases h.2 with ⟨h2, -⟩ | ⟨g, cap, cur, e1, e2, e3, e4⟩
  · rw [h2] at hk; exact absurd hk (by simp [Value.ownBlock])
  · rw [e1] at hk
    injection hk with hk
    have hk : g = k := hk
    subst hk
    exact ⟨e2, (Array.getElem?_eq_some_iff.1 e3).1⟩
theorem Grow.keep {N : Nat} {v : Value} {l : List VT} {W W' : World} {C : Nat → Prop} (h : Grow N v l W) (hb : But C W W') (hC : ∀ k, C k → k < N) : Grow N v l W' := by
  obtain ⟨cs, h1, h2, h3⟩ := h
  refine ⟨cs, ownsRow_keepB h1 hb (fun k hk hc => by have := (ownsRow_lt h1 hk).1; have := hC k hc; omega), h2, fun i x hx => ?_⟩
  exact ((h3 i x hx).keep fun p hp => hb.cell hp.2.1 (fun hc => by have := hC _ hc; have := hp.1; omega)).more fun b hb' => ⟨hb'.1, Nat.lt_of_lt_of_le hb'.2.1 hb.size, hb'.2.2⟩
theorem Grow.push {N ln M g' cap' ob : Nat} {v : Value} {acc : List VT} {a : VT} {w2 W1 w5 w6 : World} {fs : Nat → List Value} {csa : List Value} (hln : acc.length = ln)
    (hfl : ∀ i, i < ln → (fs i).length = 7) (hft : ∀ i x, acc[i]? = some x → VIn W1 (fun b => N ≤ b ∧ b < W1.heap.size ∧ v.ownBlock ≠ some b) x (fs i))
    (hvl : ∀ k, v.ownBlock = some k → k < M) (hNM : N ≤ M) (h21 : Below w2.heap.size w2 W1)
    (hva : VIn w2 (fun b => M ≤ b ∧ b < w2.heap.size) a csa) (hc7 : csa.length = 7)
    (hg : W1.grownBy w5 v.ownBlock) (hat : (Value.slice (some ⟨g', 0, none⟩) (ln + 1) cap').ownBlock = v.ownBlock ∨ (Value.slice (some ⟨g', 0, none⟩) (ln + 1) cap').ownBlock = some W1.heap.size)
    (hb6 : But (fun j => j = g' ∨ j = ob) w5 w6) (hobN : ob < N)
    (hown6 : w6.ownsRow N 28 7 (.slice (some ⟨g', 0, none⟩) (ln + 1) cap') (ln + 1) (flatC fs id ln ++ csa)) : Grow N (.slice (some ⟨g', 0, none⟩) (ln + 1) cap') (acc ++ [a]) w6 := by
  have hg1 : ∀ b, v.ownBlock ≠ some b → b < W1.heap.size → b ≠ g' := fun b h1 h2 h3 => by
    subst h3
    rcases hat with h | h
    · exact h1 h.symm
    · injection h with h
      have h : b = W1.heap.size := h
      omega
  have hkeep : ∀ b, N ≤ b → b < W1.heap.size → v.ownBlock ≠ some b → w6.heap[b]? = W1.heap[b]? := fun b h0 h1 h2 => by
    rw [hb6.block b (Nat.lt_of_lt_of_le h1 hg.size) (by have := hg1 b h2 h1; omega)]
    exact hg.block b h1 (fun e => h2 e.symm)
  have hgo : ∀ b, v.ownBlock ≠ some b → b < W1.heap.size → (Value.slice (some ⟨g', 0, none⟩) (ln + 1) cap').ownBlock ≠ some b := fun b h1 h2 h3 => by
    injection h3 with h3
    exact hg1 b h1 h2 h3.symm
  have hsz : W1.heap.size ≤ w6.heap.size := Nat.le_trans hg.size hb6.size
  refine ⟨fun i => if i < ln then fs i else csa, ?_, fun i hi => ?_, fun i x hx => ?_⟩
  · rw [List.length_append, hln]
    show w6.ownsRow N _ 7 _ (ln + 1) (flatC _ id (ln + 1))
    rw [flatC_succ]
    have h1 : flatC (fun i => if i < ln then fs i else csa) id ln = flatC fs id ln := by
      unfold flatC
      congr 1
      refine List.map_congr_left fun q hq => ?_
      have := List.mem_range.1 hq
      simp [this]
    rw [h1]
    simpa using hown6
  · by_cases h : i < ln
    · simp only [h, if_true]; exact hfl i h
    · simp only [h, if_false]; exact hc7
  · by_cases h : i < ln
    · simp only [h, if_true]
      have hx2 : acc[i]? = some x := by rwa [List.getElem?_append_left (by omega)] at hx
      exact ((hft i x hx2).keep fun p hp => World.cell?_of_block (hkeep _ hp.1 hp.2.1 hp.2.2)).more fun b hb => ⟨hb.1, Nat.lt_of_lt_of_le hb.2.1 hsz, hgo b hb.2.2 hb.2.1⟩
    · simp only [h, if_false]
      have hxa : x = a := by
        rw [List.getElem?_append_right (by omega)] at hx
        rw [hln] at hx
        have h0 : i - ln = 0 := by
          rcases Nat.eq_zero_or_pos (i - ln) with h0 | h0
          · exact h0
          · rw [List.getElem?_eq_none (by first | (simp; done) | (simp; omega))] at hx; exact absurd hx (by simp)
        rw [h0] at hx
        injection hx with hx
        exact hx.symm
      subst hxa
      have hvo : ∀ b, M ≤ b → v.ownBlock ≠ some b := fun b hb e => by have := hvl b e; omega
      refine (hva.keep fun p hp => ?_).more fun b hb => ⟨by have := hb.1; omega, by have := hb.2; have := h21.size; omega, hgo b (hvo b hb.1) (by have := hb.2; have := h21.size; omega)⟩
      exact (World.cell?_of_block (hkeep _ (by have := hp.1; omega) (by have := hp.2; have := h21.size; omega) (hvo _ hp.1))).trans (h21.cell hp.2)
end Go.Proofs.YtobfeneeehmpcaaGreatDoor

namespace Go.Proofs.YtobfeneeehmpcaaGreatDoor
open Go.RowKit

set_option maxRecDepth 100000 in
theorem rnumber_c (x : Nat) (w : World) (hx : x < 18446744073709551616) :
    Calls Tryz.prog 54 #[.int .u64 x] w fun e w' => ∃ A n c ds, e = .returned (.slice A n c) ∧ ResI w' w.heap.size A n c ds ∧ DCan ds ∧ dval ds = x ∧ n ≤ 2731 ∧ Below w.heap.size w w' := by
  go_enter Tryz.func54, Tryz.ntmps54
  go_wp2_with fail
  refine (rFrom_c x w hx).mono ?_
  rintro e w1 ⟨A1, n1, c1, rfl, hr1, hn1, hb1⟩
  go_wp2_with fail
  refine (Digits_k (c := c1) w1 hr1.rd (fun b h => h.2) (by omega)).mono ?_
  rintro e w2 ⟨A2, n2, c2, ds, rfl, hr2, hd2, hv2, hl2, hb2⟩
  rw [lim_val] at hv2
  have HV := Lib.hid hv2
  clear hv2
  go_wp2
  go_ret
  exact ⟨A2, n2, c2, ds, rfl, hr2.more hb1.size, hd2, HV.out, hl2, hb1.trans (hb2.mono hb1.size)⟩
set_option maxRecDepth 100000 in
set_option maxHeartbeats 2000000 in
theorem RInt_c (z : Int) (w : World) (h1 : -9223372036854775808 ≤ z) (h2 : z ≤ 9223372036854775807) :
    Calls Tryz.prog 32 #[.int .i64 z] w fun e w' => ∃ A n c, e = .returned (dv (stN (decide (z < 0)) z.natAbs 0) A n c (stX z.natAbs 0)) ∧ Res w' w.heap.size A n c (stZ z.natAbs 0) ∧ Below w.heap.size w w' := by
  have hb0 : ∀ o, Below w.heap.size w (w.alloc o) := fun o => (Below.refl _ _).alloc (Nat.le_refl _) _
  have hW := hb0 (.cells #[.bool false, .slice none 0 0, .int .i64 0] 24)
  have m0 := World.alloc_heap_new w (.cells #[.bool false, .slice none 0 0, .int .i64 0] 24)
  have hsz : (w.alloc (.cells #[.bool false, .slice none 0 0, .int .i64 0] 24)).heap.size = w.heap.size + 1 := by simp
  have HM0 := Lib.hid m0
  clear m0
  by_cases hz : z < 0
  · rw [decide_eq_true hz]
    obtain ⟨u, hu⟩ : ∃ u : Nat, u = z.natAbs := ⟨_, rfl⟩
    obtain ⟨y, hy⟩ : ∃ y : Nat, (y : Int) = z + 18446744073709551616 := ⟨(z + 18446744073709551616).toNat, by omega⟩
    obtain ⟨v, hv⟩ : ∃ v : Nat, v + 1 = u := ⟨u - 1, by omega⟩
    have hc1 : IntKind.u64.wrap z = (y : Int) := by rw [IntKind.wrap]; simp [IntKind.signed, IntKind.bits]; omega
    have hc2 : IntKind.u64.wrap (-(z + 1)) = (v : Int) := by rw [IntKind.wrap]; simp [IntKind.signed, IntKind.bits]; omega
    have hvz : -(z + 1) = (v : Int) := by omega
    rw [← hu]
    go_enter Tryz.func32, Tryz.ntmps32
    go_wp2_with fail
    have m0 := HM0.out
    clear HM0
    generalize (w.alloc (.cells #[.bool false, .slice none 0 0, .int .i64 0] 24)) = W at *
    have hnum := fun V => rnumber_c y V (by omega)
    rw [hy] at hnum
    have HNUM := Lib.hid hnum
    clear hnum
    refine (HNUM.out W).mono ?_
    rintro e w1 ⟨A1, n1, c1, ds, rfl, hr1, hd1, hv1, hl1, hb1⟩
    have m1 := heldz hb1 m0
    have hw1 := hW.trans (hb1.mono hW.size)
    clear hr1 hd1 hv1
    have m2 := heldA (.cells #[.bool false, .slice A1 n1 c1, .int .i64 0] 85) m1
    have mB := World.alloc_heap_new w1 (.cells #[.bool false, .slice A1 n1 c1, .int .i64 0] 85)
    have hw2 := hw1.alloc hw1.size (.cells #[.bool false, .slice A1 n1 c1, .int .i64 0] 85)
    have hsz2 : (w1.alloc (.cells #[.bool false, .slice A1 n1 c1, .int .i64 0] 85)).heap.size = w1.heap.size + 1 := by simp
    have hvz2 : -(z + 1) = (v : Int) := hvz
    have hlt : w.heap.size < w1.heap.size := by have := hb1.size; omega
    go_wp2_with fail
    generalize (w1.alloc (.cells #[.bool false, .slice A1 n1 c1, .int .i64 0] 85)) = W2 at *
    refine (rnumber_c v W2 (by omega)).mono ?_
    rintro e w3 ⟨A3, n3, c3, ds3, rfl, hr3, hd3, hv3, hl3, hb3⟩
    have m3 := heldz hb3 m2
    have mC := heldz hb3 mB
    have hw3 := hw2.trans (hb3.mono hw2.size)
    clear m2 mB m0 m1
    have HD := Lib.hid hd3
    have HV := Lib.hid hv3
    clear hd3 hv3
    go_wp2_with fail
    have hltP : w1.heap.size < (w3.alloc (.cells #[.int .i64 1] 3)).heap.size := by have := hb3.size; simp; omega
    have hlit := ResI.lit w3 [1] 1 rfl (LI.one (by omega)) (by omega)
    have hq1 : (i64s [1]).toArray = #[Value.int IntKind.i64 1] := by simp [i64s]
    rw [hq1] at hlit
    have hd1 : Hid (DCan [1]) := ⟨D10.cons.2 ⟨by omega, D10.nil⟩, .inr (by decide)⟩
    have m4 := heldA (.cells #[.int .i64 1] 3) m3
    have mD := heldA (.cells #[.int .i64 1] 3) mC
    have hw4 := hw3.alloc hw3.size (.cells #[.int .i64 1] 3)
    have hr4 := hr3.below (B := w3.heap.size) ((Below.refl _ w3).alloc (Nat.le_refl _) (.cells #[.int .i64 1] 3)) (Nat.le_refl _)
    refine (Plus_c _ hr4.rd hlit.rd (fun b h => h.2) (fun b h => h.2) HD.out.1 hd1.out.1 (by omega) (by omega)).mono ?_
    rintro e w5 ⟨A5, n5, c5, ds5, rfl, hr5, hd5, hv5, hb5⟩
    have HV5 : Hid (dval ds5 = u) := by
      show _ = _
      rw [hv5, HV.out, ← hv]; simp [dval, dp]
    have HD5 := Lib.hid hd5
    have m5 := heldz hb5 m4
    have mE := heldz hb5 mD
    have hw5 := hw4.trans (hb5.mono hw4.size)
    have hlt5 : w1.heap.size < w5.heap.size := (Array.getElem?_eq_some_iff.1 mE).1
    clear hv5 hd5 m4 mD m3 mC hlit
    have y0 : w5.cell? ⟨w1.heap.size, 0, none⟩ = some (.bool false) := cell_of mE rfl
    have y1 : w5.cell? ⟨w1.heap.size, 1, none⟩ = some (.slice A1 n1 c1) := cell_of mE rfl
    have y2 : w5.cell? ⟨w1.heap.size, 2, none⟩ = some (.int .i64 0) := cell_of mE rfl
    have f0 := frozen_of 0 mE
    have f1 := frozen_of 1 mE
    have f2 := frozen_of 2 mE
    go_wp2_with fail
    have hl5 : n5 ≤ 100000 := by
      have h := HD5.out.len_le (m := 40) (by rw [HV5.out]; have := ten19; omega)
      rw [hr5.len] at h; omega
    have hw6 : Below w.heap.size w (((w5.setCell ⟨w1.heap.size, 0, none⟩ (.bool true)).setCell ⟨w1.heap.size, 1, none⟩ (.slice A5 n5 c5)).setCell ⟨w1.heap.size, 2, none⟩ (.int .i64 0)) :=
      ((hw5.setCell (p := ⟨w1.heap.size, 0, none⟩) hw1.size _).setCell (p := ⟨w1.heap.size, 1, none⟩) hw1.size _).setCell (p := ⟨w1.heap.size, 2, none⟩) hw1.size _
    have hb6 : Below w1.heap.size w5 (((w5.setCell ⟨w1.heap.size, 0, none⟩ (.bool true)).setCell ⟨w1.heap.size, 1, none⟩ (.slice A5 n5 c5)).setCell ⟨w1.heap.size, 2, none⟩ (.int .i64 0)) :=
      (((Below.refl _ w5).setCell (p := ⟨w1.heap.size, 0, none⟩) (Nat.le_refl _) _).setCell (p := ⟨w1.heap.size, 1, none⟩) (Nat.le_refl _) _).setCell (p := ⟨w1.heap.size, 2, none⟩) (Nat.le_refl _) _
    have m6 := held hb6 hlt m5
    have hr6 := ((hr5.setOther (p := ⟨w1.heap.size, 0, none⟩) hltP (.bool true)).setOther (p := ⟨w1.heap.size, 1, none⟩) hltP (.slice A5 n5 c5)).setOther (p := ⟨w1.heap.size, 2, none⟩) hltP (.int .i64 0)
    have hncb := hr5.n_le
    have hmx : maxLen ≤ 9223372036854775807 := by decide
    clear m5 mE y0 y1 y2 f0 f1 f2
    generalize (((w5.setCell ⟨w1.heap.size, 0, none⟩ (.bool true)).setCell ⟨w1.heap.size, 1, none⟩ (.slice A5 n5 c5)).setCell ⟨w1.heap.size, 2, none⟩ (.int .i64 0)) = W6 at *
    have hM := Made_c (c := c5) true 0 W6 hr6.rd (fun b h => h.2) HD5.out.1 hl5 hncb.1 (by omega) (by omega)
    have hE0 := stE_small (v := u) (by have := ten19; omega)
    rw [HV5.out, hE0] at hM
    unfold nv dv at hM
    have HM := Lib.hid hM
    clear hM
    refine HM.out.mono ?_
    rintro e w7 ⟨A7, n7, c7, rfl, hr7, hb7⟩
    have m7 := heldz hb7 m6
    have hw7 := hw6.trans (hb7.mono hw6.size)
    have m8 := heldA (.cells #[.bool (stN true u 0), .slice A7 n7 c7, .int .i64 (stX u 0)] 24) m7
    have hw8 := hw7.alloc hw7.size (.cells #[.bool (stN true u 0), .slice A7 n7 c7, .int .i64 (stX u 0)] 24)
    have hr8 := hr7.below (B := w7.heap.size) ((Below.refl _ w7).alloc (Nat.le_refl _) (.cells #[.bool (stN true u 0), .slice A7 n7 c7, .int .i64 (stX u 0)] 24)) (Nat.le_refl _)
    obtain ⟨y0, y1, y2⟩ := box3_of m8
    have f0 := frozen_of 0 m8
    have f1 := frozen_of 1 m8
    have f2 := frozen_of 2 m8
    have hlt7 : w.heap.size < W6.heap.size := (Array.getElem?_eq_some_iff.1 m6).1
    clear m6 m7 m8 hr5 hr6 hr7
    clear hu hv
    go_wp2
    refine bodyPost_ret (v := .agg #[.bool (stN true u 0), .slice A7 n7 c7, .int .i64 (stX u 0)]) (by simp [results, Tryz.results32, go_sem, y0, y1, y2]) rfl ?_
    exact ⟨A7, n7, c7, rfl, (((hr8.setOther (p := ⟨w.heap.size, 0, none⟩) hlt7 _).setOther (p := ⟨w.heap.size, 1, none⟩) hlt7 _).setOther (p := ⟨w.heap.size, 2, none⟩) hlt7 _).more hw6.size,
      ((hw8.setCell (p := ⟨w.heap.size, 0, none⟩) (Nat.le_refl _) _).setCell (p := ⟨w.heap.size, 1, none⟩) (Nat.le_refl _) _).setCell (p := ⟨w.heap.size, 2, none⟩) (Nat.le_refl _) _⟩
  · rw [decide_eq_false hz]
    obtain ⟨u, hu⟩ : ∃ u : Nat, z = (u : Int) := ⟨z.toNat, by omega⟩
    subst hu
    have hc1 : IntKind.u64.wrap (u : Int) = (u : Int) := by rw [IntKind.wrap]; simp [IntKind.signed, IntKind.bits]; omega
    have hab : ((u : Int)).natAbs = u := by omega
    rw [hab]
    go_enter Tryz.func32, Tryz.ntmps32
    go_wp2_with fail
    have m0 := HM0.out
    clear HM0
    generalize (w.alloc (.cells #[.bool false, .slice none 0 0, .int .i64 0] 24)) = W at *
    refine (rnumber_c u W (by omega)).mono ?_
    rintro e w1 ⟨A5, n5, c5, ds5, rfl, hr5, hd5, hv5, hl1, hb1⟩
    have m1 := heldz hb1 m0
    have hw1 := hW.trans (hb1.mono hW.size)
    have HV5 := Lib.hid hv5
    have HD5 := Lib.hid hd5
    clear hd5 hv5 m0
    have m2 := heldA (.cells #[.bool false, .slice A5 n5 c5, .int .i64 0] 85) m1
    have mB := World.alloc_heap_new w1 (.cells #[.bool false, .slice A5 n5 c5, .int .i64 0] 85)
    have hw6 := hw1.alloc hw1.size (.cells #[.bool false, .slice A5 n5 c5, .int .i64 0] 85)
    have hr6 := hr5.below (B := w1.heap.size) ((Below.refl _ w1).alloc (Nat.le_refl _) (.cells #[.bool false, .slice A5 n5 c5, .int .i64 0] 85)) (Nat.le_refl _)
    have m6 := m2
    have hncb := hr5.n_le
    clear m2 m1
    go_wp2_with fail
    have hmx : maxLen ≤ 9223372036854775807 := by decide
    generalize (w1.alloc (.cells #[.bool false, .slice A5 n5 c5, .int .i64 0] 85)) = W6 at *
    have hM := Made_c (c := c5) false 0 W6 hr6.rd (fun b h => h.2) HD5.out.1 (by omega) hncb.1 (by omega) (by omega)
    have hE0 := stE_small (v := u) (by have := ten19; omega)
    rw [HV5.out, hE0] at hM
    unfold nv dv at hM
    have HM := Lib.hid hM
    clear hM
    refine HM.out.mono ?_
    rintro e w7 ⟨A7, n7, c7, rfl, hr7, hb7⟩
    have m7 := heldz hb7 m6
    have hw7 := hw6.trans (hb7.mono hw6.size)
    have m8 := heldA (.cells #[.bool (stN false u 0), .slice A7 n7 c7, .int .i64 (stX u 0)] 24) m7
    have hw8 := hw7.alloc hw7.size (.cells #[.bool (stN false u 0), .slice A7 n7 c7, .int .i64 (stX u 0)] 24)
    have hr8 := hr7.below (B := w7.heap.size) ((Below.refl _ w7).alloc (Nat.le_refl _) (.cells #[.bool (stN false u 0), .slice A7 n7 c7, .int .i64 (stX u 0)] 24)) (Nat.le_refl _)
    obtain ⟨y0, y1, y2⟩ := box3_of m8
    have f0 := frozen_of 0 m8
    have f1 := frozen_of 1 m8
    have f2 := frozen_of 2 m8
    have hlt7 : w.heap.size < W6.heap.size := (Array.getElem?_eq_some_iff.1 m6).1
    clear m6 m7 m8 hr5 hr6 hr7
    go_wp2
    refine bodyPost_ret (v := .agg #[.bool (stN false u 0), .slice A7 n7 c7, .int .i64 (stX u 0)]) (by simp [results, Tryz.results32, go_sem, y0, y1, y2]) rfl ?_
    exact ⟨A7, n7, c7, rfl, (((hr8.setOther (p := ⟨w.heap.size, 0, none⟩) hlt7 _).setOther (p := ⟨w.heap.size, 1, none⟩) hlt7 _).setOther (p := ⟨w.heap.size, 2, none⟩) hlt7 _).more hw6.size,
      ((hw8.setCell (p := ⟨w.heap.size, 0, none⟩) (Nat.le_refl _) _).setCell (p := ⟨w.heap.size, 1, none⟩) (Nat.le_refl _) _).setCell (p := ⟨w.heap.size, 2, none⟩) (Nat.le_refl _) _⟩
end Go.Proofs.YtobfeneeehmpcaaGreatDoor

namespace Go.Proofs.YtobfeneeehmpcaaGreatDoor
open Go.RowKit

set_option maxRecDepth 100000 in
set_option maxHeartbeats 4000000 in
theorem rnum_c (w : World) (z : Int) (h1 : -9223372036854775808 ≤ z) (h2 : z ≤ 9223372036854775807) (hl : (stZ z.natAbs 0).length ≤ 35184372088832) :
    Calls Tryz.prog 13 #[.int .i64 z] w fun e' w' => ∃ cs', e' = .returned (.agg cs'.toArray) ∧ VIn w' (Own' w.heap.size w') (.mk 3 (stN (decide (z < 0)) z.natAbs 0) (stZ z.natAbs 0) (stX z.natAbs 0) ⟨#[]⟩ [] []) cs' ∧ Below w.heap.size w w' := by
  have hW : Below w.heap.size w (w.alloc (.cells #[.int .i64 0, .bool false, .slice none 0 0, .int .i64 0, .string ⟨#[]⟩, .slice none 0 0, .slice none 0 0] 28)) := (Below.refl _ w).alloc (Nat.le_refl _) _
  have hm2 := World.alloc_heap_new w (.cells #[.int .i64 0, .bool false, .slice none 0 0, .int .i64 0, .string ⟨#[]⟩, .slice none 0 0, .slice none 0 0] 28)
  have hz : (w.alloc (.cells #[.int .i64 0, .bool false, .slice none 0 0, .int .i64 0, .string ⟨#[]⟩, .slice none 0 0, .slice none 0 0] 28)).heap.size = w.heap.size + 1 := by simp
  go_enter Tryz.func13, Tryz.ntmps13
  go_upto_region 1 with fail
  generalize (w.alloc (.cells #[.int .i64 0, .bool false, .slice none 0 0, .int .i64 0, .string ⟨#[]⟩, .slice none 0 0, .slice none 0 0] 28)) = W0 at *
  have HC := RInt_c z W0 h1 h2
  have HM2 := Lib.hid hm2
  have HW := Lib.hid hW
  clear hm2 hW
  unfold dv at HC
  go_wp2_with fail
  refine HC.mono ?_
  rintro e' w1 ⟨A, n, c, rfl, hres, hb1⟩
  clear HC
  have hv : VIn w1 (Own' W0.heap.size w1) (.mk 3 (stN (decide (z < 0)) z.natAbs 0) (stZ z.natAbs 0) (stX z.natAbs 0) ⟨#[]⟩ [] []) [.int .i64 3, .bool (stN (decide (z < 0)) z.natAbs 0), .slice A n c, .int .i64 (stX z.natAbs 0), .string ⟨#[]⟩, .slice none 0 0, .slice none 0 0] :=
    .mk (cs := fun _ => []) hres.rd (by rw [← hres.len]; exact hl) (by decide) ⟨rfl, fun h0 => absurd h0 (by omega)⟩ (by omega) rfl (by omega) (Nat.le_refl _) (fun h0 => absurd h0 (by omega)) (fun i x hi => by simp at hi)
  have HRES := Lib.hid hres
  clear hres
  have hmz := (hb1.block _ (by omega)).trans HM2.out
  obtain ⟨z0, z1, z2, z3, z4, z5, z6⟩ := box7_of hmz
  have fz : ∀ j, w1.frozen? ⟨w.heap.size, j, none⟩ = false := fun j => frozen_of_row w1 _ j _ _ hmz
  have HV := Lib.hid hv
  clear hv hmz
  go_wp2_with fail
  refine bodyPost_ret (v := .agg #[.int .i64 3, .bool (stN (decide (z < 0)) z.natAbs 0), .slice A n c, .int .i64 (stX z.natAbs 0), .string ⟨#[]⟩, .slice none 0 0, .slice none 0 0]) (by simp [results, Tryz.results13, go_sem, z0, z1, z2, z3, z4, z5, z6]) rfl ?_
  refine ⟨[.int .i64 3, .bool (stN (decide (z < 0)) z.natAbs 0), .slice A n c, .int .i64 (stX z.natAbs 0), .string ⟨#[]⟩, .slice none 0 0, .slice none 0 0], rfl, ?_, below_seven (HW.out.trans (hb1.mono (by omega))) (by omega) _ _ _ _ _ _ _⟩
  refine (HV.out.keep fun p hp => ?_).more fun b hb => ⟨by have := hb.1; omega, ?_⟩
  · have h1 := hp.1
    exact cell_seven (by omega) _ _ _ _ _ _ _
  · have := hb.2
    simpa [World.setCell] using this

/-- Number(z). -/
def numT (z : Int) : VT := .mk 3 (stN (decide (z < 0)) z.natAbs 0) (stZ z.natAbs 0) (stX z.natAbs 0) ⟨#[]⟩ [] []
end Go.Proofs.YtobfeneeehmpcaaGreatDoor
