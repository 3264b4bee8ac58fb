/-
  Contracts of Indent, Compact and ASCII, and of the closures that they hand to written.
  Contracts of Compact and of the law's num; the page's example, as the law asks it.
-/
import Derived.Test.YtcanfiaooabocaaGreatDoorQWwr
set_option linter.unusedVariables false
set_option linter.unusedSimpArgs false
namespace Go.Proofs.YtcanfiaooabocaaGreatDoor
open Go.RowKit Go.Lib

theorem Gl.up {B C : Nat} {w : World} (h : Gl B w) (hc : B ≤ C) : Gl C w := ⟨h.tabs, h.ten, h.deb, Nat.lt_of_lt_of_le h.lt.1 hc, Nat.lt_of_lt_of_le h.lt.2.1 hc, Nat.lt_of_lt_of_le h.lt.2.2.1 hc, Nat.lt_of_lt_of_le h.lt.2.2.2 hc⟩
theorem numP_ok2 : NtOk numP := numP_ok fun hx hok => by have := prt_len hx hok; omega
theorem prV_ne {qc : Int → List UInt8} {st o : Nat} {x : VT} (hx : Gp x) : prV qc numP st o x ≠ [] := by
  obtain ⟨c, t, h, -⟩ := prV_head (qc := qc) (st := st) (o := o) numP_ok2 hx
  rw [h]; exact List.cons_ne_nil _ _

set_option maxRecDepth 100000 in
set_option maxHeartbeats 2000000 in
theorem ind1_c {F : Value} {qc : Int → List UInt8} (hM : Md F qc) {B st : Nat} {S : Nat → Prop} {x : VT} {cs : List Value} (hS : ∀ b, S b → b < B) (hst : st ≤ 8) (hx : Gp x) (hd : dpt 1000 x ≤ 64) (bp pb : Nat) (w : World) (hP : Pg B pb [] 1048576 st 0 F w) (hG : Gl B w) (hB : B ≤ w.heap.size)
    (hv : VIn w S x cs) (hbox : w.heap[bp]? = some (.cells cs.toArray 28)) : Calls Tryz.prog 25 #[pgP pb, .pointer (some ⟨bp, 0, none⟩)] w (Wr B pb [] 1048576 st 0 F w (prV qc numP st 0 x)) := by
  have hc := pvalue_c (st := st) hM hS hst 64 1000 x cs [] 1048576 0 w (by omega) hd hx (by omega) hP hG hB hv (by simp)
  obtain ⟨R, hR⟩ : ∃ R, Wr B pb [] 1048576 st 0 F w (prV qc numP st 0 x) = R := ⟨_, rfl⟩
  have hRr : ∀ v w', R (.returned v) w' → v = .tuple #[] := by
    rintro v w' h
    rw [← hR] at h
    rcases h with ⟨-, h, -⟩ | ⟨-, h, -⟩
    · injection h
    · cases h
  have hRo : ∀ w', ¬ R .outgrown w' := by
    rintro w' h
    rw [← hR] at h
    rcases h with ⟨-, h, -⟩ | ⟨-, h, -⟩ <;> cases h
  rw [hR] at hc ⊢
  obtain ⟨k, neg, A, n, c, e, t, LA, ln, lc, KA, kn, kc, rfl, -, -⟩ := hv.seven
  obtain ⟨y0, y1, y2, y3, y4, y5, y6⟩ := box7_of hbox
  have HC := Lib.hid hc
  have HR := Lib.hid hRr
  have HRO := Lib.hid hRo
  clear hc hv hR hbox hP hG hRr hRo hx
  go_enter Tryz.func25, Tryz.ntmps25
  go_wp2_with fail
  refine HC.out.mono ?_
  rintro e9 w9 hr
  cases e9 with
  | returned v =>
    have hv := HR.out _ _ hr
    subst hv
    go_wp2_with fail
    first | go_end0 | refine bodyPost_ret (results_none rfl _ _ _) rfl ?_
    exact hr
  | panicked ch => exact ⟨rfl, hr⟩
  | outgrown =>
    exact absurd hr (HRO.out _)

/-- What Indent comes to; what ASCII comes to. -/
def IndE (x : VT) (n : Int) (e : Ending) : Prop :=
  if errV x ≠ 0 then e = .returned (.tuple #[.string ⟨#[]⟩, .int .i64 ((errV x : Nat) : Int)])
  else if n < 0 ∨ 8 < n then e = .returned (.tuple #[.string ⟨#[]⟩, .int .i64 4])
  else WrE (prV quoteC numP n.toNat 0 x) 1048576 e
set_option maxRecDepth 100000 in
set_option maxHeartbeats 4000000 in
theorem indent_c {S : Nat → Prop} {x : VT} {cs : List Value} (n : Int) (w : World) (hG : Gl w.heap.size w) (hx : VIn w S x cs) (hS : ∀ b, S b → b < w.heap.size) :
    Calls Tryz.prog 10 #[.agg cs.toArray, .int .i64 n] w fun e w' => IndE x n e ∧ Below w.heap.size w w' := by
  have hmf : ∀ (fn : Fn) (first cap : Array Value) (w : World), (Instr.makeFunc fn first cap).run Tryz.prog w = .ok (.func fn first cap) w := fun _ _ _ _ => rfl
  obtain ⟨k, neg, A, nn, c, e, t, LA, ln, lc, KA, kn, kc, rfl, -, -⟩ := hx.seven
  obtain ⟨bp, hbp⟩ : ∃ b, w.heap.size = b := ⟨_, rfl⟩
  have hb : Below w.heap.size w (w.alloc (.cells #[.int .i64 k, .bool neg, .slice A nn c, .int .i64 e, .string t, .slice LA ln lc, .slice KA kn kc] 28)) := (Below.refl _ w).alloc (Nat.le_refl _) _
  have hm := World.alloc_heap_new w (.cells #[.int .i64 k, .bool neg, .slice A nn c, .int .i64 e, .string t, .slice LA ln lc, .slice KA kn kc] 28)
  have hsz : (w.alloc (.cells #[.int .i64 k, .bool neg, .slice A nn c, .int .i64 e, .string t, .slice LA ln lc, .slice KA kn kc] 28)).heap.size = bp + 1 := by rw [World.size_alloc, hbp]
  have hG1 := hG.low hb
  have hx1 := hx.keep (w' := (w.alloc (.cells #[.int .i64 k, .bool neg, .slice A nn c, .int .i64 e, .string t, .slice LA ln lc, .slice KA kn kc] 28))) fun p hp => hb.cell (p := p) (hS _ hp)
  have hl := hx.l32
  rw [hbp] at hm hb hG1 hS ⊢
  obtain ⟨y0, y1, y2, y3, y4, y5, y6⟩ := box7_of hm
  have HG := Lib.hid hG1
  have HX := Lib.hid hx1
  have HB := Lib.hid hb
  have HM := Lib.hid hm
  have HL := Lib.hid hl
  have HS := Lib.hid hS
  have HBP := Lib.hid hbp
  clear hG hx hG1 hx1 hb hm hS hl
  go_enter Tryz.func10, Tryz.ntmps10
  go_wp2_with fail
  try rw [hbp]
  clear y0 y1 y2 y3 y4 y5 y6 hbp
  generalize (w.alloc (.cells #[.int .i64 k, .bool neg, .slice A nn c, .int .i64 e, .string t, .slice LA ln lc, .slice KA kn kc] 28)) = w1 at *
  refine (VCheck_c w1 HG.out.tabs HX.out (fun b h => by have := HS.out b h; omega)).mono ?_
  rintro e9 w2 ⟨rfl, hb2⟩
  rw [hsz] at hb2
  obtain ⟨r, hr⟩ : ∃ r, errV x = r := ⟨_, rfl⟩
  rw [hr]
  have hB2 : Below bp w w2 := HB.out.trans (hb2.mono (by omega))
  have hl2 : bp + 1 ≤ w2.heap.size := by have := hb2.size; omega
  have HB2 := Lib.hid hB2
  have HR := Lib.hid hr
  have HW2 := Lib.hid hb2
  clear hB2 hb2 hr
  rcases Nat.eq_zero_or_pos r with h0 | h0
  case inr =>
    have hne : (r : Int) ≠ 0 := by omega
    go_wp2_with fail
    go_ret2
    refine ⟨?_, HB2.out⟩
    unfold IndE
    rw [HR.out, if_pos (by omega)]
    rfl
  subst h0
  by_cases hn : n < 0
  · go_wp2_with fail
    go_ret2
    refine ⟨?_, HB2.out⟩
    unfold IndE
    rw [HR.out, if_neg (by omega), if_pos (.inl hn)]
    rfl
  by_cases hn8 : 8 < n
  · go_wp2_with fail
    go_ret2
    refine ⟨?_, HB2.out⟩
    unfold IndE
    rw [HR.out, if_neg (by omega), if_pos (.inr hn8)]
    rfl
  obtain ⟨m, rfl⟩ : ∃ m : Nat, n = (m : Int) := ⟨n.toNat, by omega⟩
  have hbx := (HW2.out.block bp (by omega)).trans HM.out
  have hx2 := HX.out.keep (w' := w2) fun p hp => HW2.out.cell (p := p) (by have := HS.out _ hp; omega)
  have hg2 : Gl w2.heap.size w2 := ((HG.out.up (C := bp + 1) (by omega)).low HW2.out).up (by omega)
  obtain ⟨g1, g2, g3⟩ := okV_gp (x := x) HR.out HL.out
  have hwc := written_c (F := plainF) (room := 1048576) (st := m) (out := prV quoteC numP m 0 x) (fn := 25) (cp := .pointer (some ⟨bp, 0, none⟩)) w2 (by omega) (prV_ne g1) (fun ar W => by kernel_rfl)
    (fun w' hP hb => ind1_c (.inl ⟨rfl, rfl⟩) (B := w2.heap.size) (S := S) (fun b hb => by have := HS.out b hb; omega) (by omega) g1 g3 bp _ w' hP (hg2.low (hb.below (Nat.le_refl _) fun _ _ h => h)) hb.size (hx2.keep fun p hp => (hb.below (Nat.le_refl _) fun _ _ h => h).cell (by have := HS.out _ hp; omega)) ((hb.block bp (by omega) (fun h => h)).trans hbx))
  obtain ⟨out, hout⟩ : ∃ out, prV quoteC numP m 0 x = out := ⟨_, rfl⟩
  rw [hout] at hwc
  have HOUT := Lib.hid hout
  have HWC := Lib.hid hwc
  clear hwc hout g1 g2 g3 hg2 hx2 hbx
  go_wp2_with fail
  refine HWC.out.mono ?_
  rintro e9 w3 ⟨he, hb3⟩
  have hB3 := HB2.out.trans (hb3.mono (by omega))
  rcases he with ⟨hl, rfl⟩ | ⟨hl, rfl⟩
  all_goals
    have HB3 := Lib.hid hB3
    clear hB3 hb3
    go_wp2_with fail
    go_ret2
    refine ⟨?_, HB3.out⟩
    unfold IndE
    rw [HR.out, if_neg (by omega), if_neg (by omega), Int.toNat_natCast, HOUT.out]
    unfold WrE
    simp [hl]

end Go.Proofs.YtcanfiaooabocaaGreatDoor

namespace Go.Proofs.YtcanfiaooabocaaGreatDoor
open Go.RowKit Go.Lib

theorem lnum9_c (z : Int) (w : World) : Calls Tryz.prog 12 #[.int .i64 z] w fun e w' => e = .returned (.int .i64 z) ∧ w = w' := by
  go_enter Tryz.func12, Tryz.ntmps12
  go_wp2_with fail
  go_ret
  exact ⟨rfl, rfl⟩

/-- The page's example: an object of a list of a number. -/
def exL : VT := .mk 5 false [] 0 ⟨#[]⟩ [numT 1] []
def exO : VT := .mk 6 false [] 0 ⟨#[]⟩ [exL] [⟨#[97]⟩]
theorem err_exO : errV exO = 0 := by kernel_rfl
theorem out_exO : prV quoteC numP 1 0 exO = [123, 10, 32, 34, 97, 34, 58, 32, 91, 10, 32, 32, 49, 10, 32, 93, 10, 125] := by kernel_rfl
set_option maxRecDepth 100000 in
set_option maxHeartbeats 4000000 in
theorem alive9_c (w : World) (hG : Gl w.heap.size w) : Calls Tryz.prog 8 #[] w fun e w' => e = .returned (.bool true) ∧ Below w.heap.size w w' := by
  obtain ⟨kb, hkb⟩ : ∃ b, w.heap.size = b := ⟨_, rfl⟩
  obtain ⟨w0, hw0⟩ : ∃ w0, w.alloc (.cells #[.string ⟨#[97]⟩] 9) = w0 := ⟨_, rfl⟩
  have hb0 : Below kb w w0 := by rw [← hw0, ← hkb]; exact (Below.refl _ w).alloc (Nat.le_refl _) _
  have hm0 : w0.heap[kb]? = some (.cells #[.string ⟨#[97]⟩] 9) := by rw [← hw0, ← hkb]; exact World.alloc_heap_new _ _
  have hs0 : w0.heap.size = kb + 1 := by rw [← hw0, World.size_alloc, hkb]
  rw [hkb] at hG
  have HW0 := Lib.hid hw0
  have HC1 := num_c 1 (by omega) w0
  rw [hs0] at HC1
  have HG := Lib.hid hG
  have HB0 := Lib.hid hb0
  have HM0 := Lib.hid hm0
  clear hG hb0 hm0 hw0
  go_enter Tryz.func8, Tryz.ntmps8
  go_wp2_with fail
  rw [HW0.out]
  try rw [hkb]
  refine HC1.mono ?_
  rintro e' w1 ⟨cs1, rfl, hv1, hb1⟩
  clear HC1
  obtain ⟨k1, n1, A1, m1, c1, e1, t1, LA1, lm1, lc1, KA1, km1, kc1, rfl, -, -⟩ := hv1.seven
  obtain ⟨rb, hrb⟩ : ∃ b, w1.heap.size = b := ⟨_, rfl⟩
  obtain ⟨w4, hw4⟩ : ∃ w4, ((w1.alloc (.cells #[.int .i64 k1, .bool n1, .slice A1 m1 c1, .int .i64 e1, .string t1, .slice LA1 lm1 lc1, .slice KA1 km1 kc1] 28)).alloc (.cells #[.int .i64 5, .bool false, .slice none 0 0, .int .i64 0, .string ⟨#[]⟩, .slice (some ⟨rb, 0, none⟩) 1 1, .slice none 0 0] 28)).alloc (.cells #[.int .i64 6, .bool false, .slice none 0 0, .int .i64 0, .string ⟨#[]⟩, .slice (some ⟨rb + 1, 0, none⟩) 1 1, .slice (some ⟨kb, 0, none⟩) 1 1] 28) = w4 := ⟨_, rfl⟩
  have hkr : kb + 1 ≤ rb := by have := hb1.size; omega
  have hb4 : Below rb w1 w4 := by rw [← hw4, ← hrb]; exact (((Below.refl _ w1).alloc (Nat.le_refl _) _).alloc (by rw [World.size_alloc]; omega) _).alloc (by rw [World.size_alloc, World.size_alloc]; omega) _
  have hr4 : w4.heap[rb]? = some (.cells #[.int .i64 k1, .bool n1, .slice A1 m1 c1, .int .i64 e1, .string t1, .slice LA1 lm1 lc1, .slice KA1 km1 kc1] 28) := by
    rw [← hw4, Below.heap_alloc _ _ _ (by simp; omega), Below.heap_alloc _ _ _ (by simp; omega), ← hrb]; exact World.alloc_heap_new _ _
  have hl4 : w4.heap[rb + 1]? = some (.cells #[.int .i64 5, .bool false, .slice none 0 0, .int .i64 0, .string ⟨#[]⟩, .slice (some ⟨rb, 0, none⟩) 1 1, .slice none 0 0] 28) := by
    rw [← hw4, Below.heap_alloc _ _ _ (by simp; omega)]
    have := World.alloc_heap_new (w1.alloc (.cells #[.int .i64 k1, .bool n1, .slice A1 m1 c1, .int .i64 e1, .string t1, .slice LA1 lm1 lc1, .slice KA1 km1 kc1] 28)) (.cells #[.int .i64 5, .bool false, .slice none 0 0, .int .i64 0, .string ⟨#[]⟩, .slice (some ⟨rb, 0, none⟩) 1 1, .slice none 0 0] 28)
    rwa [World.size_alloc, hrb] at this
  have ho4 : w4.heap[rb + 1 + 1]? = some (.cells #[.int .i64 6, .bool false, .slice none 0 0, .int .i64 0, .string ⟨#[]⟩, .slice (some ⟨rb + 1, 0, none⟩) 1 1, .slice (some ⟨kb, 0, none⟩) 1 1] 28) := by
    rw [← hw4]
    have := World.alloc_heap_new ((w1.alloc (.cells #[.int .i64 k1, .bool n1, .slice A1 m1 c1, .int .i64 e1, .string t1, .slice LA1 lm1 lc1, .slice KA1 km1 kc1] 28)).alloc (.cells #[.int .i64 5, .bool false, .slice none 0 0, .int .i64 0, .string ⟨#[]⟩, .slice (some ⟨rb, 0, none⟩) 1 1, .slice none 0 0] 28)) (.cells #[.int .i64 6, .bool false, .slice none 0 0, .int .i64 0, .string ⟨#[]⟩, .slice (some ⟨rb + 1, 0, none⟩) 1 1, .slice (some ⟨kb, 0, none⟩) 1 1] 28)
    rwa [World.size_alloc, World.size_alloc, hrb] at this
  have hs4 : w4.heap.size = rb + 3 := by rw [← hw4]; simp; omega
  have hk4 : w4.heap[kb]? = some (.cells #[.string ⟨#[97]⟩] 9) := (hb4.block kb (by omega)).trans ((hb1.block kb (by omega)).trans HM0.out)
  have hbw : Below kb w w4 := HB0.out.trans ((hb1.mono (by omega)).trans (hb4.mono (by omega)))
  have hv1' : VIn w4 (fun b => b < w4.heap.size) (numT 1) [.int .i64 k1, .bool n1, .slice A1 m1 c1, .int .i64 e1, .string t1, .slice LA1 lm1 lc1, .slice KA1 km1 kc1] := (hv1.keep fun p hp => hb4.cell (by have := hp.2; omega)).more fun b hb => by have := hb.2; omega
  have hvL : VIn w4 (fun b => b < w4.heap.size) exL [.int .i64 5, .bool false, .slice none 0 0, .int .i64 0, .string ⟨#[]⟩, .slice (some ⟨rb, 0, none⟩) 1 1, .slice none 0 0] :=
    .mk (cs := fun _ => [.int .i64 k1, .bool n1, .slice A1 m1 c1, .int .i64 e1, .string t1, .slice LA1 lm1 lc1, .slice KA1 km1 kc1]) (Rd.nil _ _ _) (by omega) (by decide) ⟨rfl, fun h0 => absurd h0 (by omega)⟩ (by omega) rfl (by omega) (Nat.le_refl _)
      (fun _ => ⟨rb, 0, rfl, by show rb < _; omega, fun i hi => by
        obtain rfl : i = 0 := by omega
        exact ⟨rfl, fun t ht => by
          match t, ht with
          | 0, _ => exact cell_at hr4 rfl
          | 1, _ => exact cell_at hr4 rfl
          | 2, _ => exact cell_at hr4 rfl
          | 3, _ => exact cell_at hr4 rfl
          | 4, _ => exact cell_at hr4 rfl
          | 5, _ => exact cell_at hr4 rfl
          | 6, _ => exact cell_at hr4 rfl⟩⟩)
      (fun i x hi => by
        match i, hi with
        | 0, hi => injection hi with hi; subst hi; exact hv1')
  have hvO : VIn w4 (fun b => b < w4.heap.size) exO [.int .i64 6, .bool false, .slice none 0 0, .int .i64 0, .string ⟨#[]⟩, .slice (some ⟨rb + 1, 0, none⟩) 1 1, .slice (some ⟨kb, 0, none⟩) 1 1] :=
    .mk (cs := fun _ => [.int .i64 5, .bool false, .slice none 0 0, .int .i64 0, .string ⟨#[]⟩, .slice (some ⟨rb, 0, none⟩) 1 1, .slice none 0 0]) (Rd.nil _ _ _) (by omega) (by decide) ⟨rfl, fun _ => ⟨kb, 0, rfl, by show kb < _; omega, fun i k hi => by
        match i, hi with
        | 0, hi => injection hi with hi; subst hi; exact ⟨cell_at hk4 rfl, by decide⟩⟩⟩ (by omega) rfl (by omega) (Nat.le_refl _)
      (fun _ => ⟨rb + 1, 0, rfl, by show rb + 1 < _; omega, fun i hi => by
        obtain rfl : i = 0 := by omega
        exact ⟨rfl, fun t ht => by
          match t, ht with
          | 0, _ => exact cell_at hl4 rfl
          | 1, _ => exact cell_at hl4 rfl
          | 2, _ => exact cell_at hl4 rfl
          | 3, _ => exact cell_at hl4 rfl
          | 4, _ => exact cell_at hl4 rfl
          | 5, _ => exact cell_at hl4 rfl
          | 6, _ => exact cell_at hl4 rfl⟩⟩)
      (fun i x hi => by
        match i, hi with
        | 0, hi => injection hi with hi; subst hi; exact hvL)
  have hc := indent_c 1 w4 (((HG.out.low hbw)).up (by omega)) hvO (fun b h => h)
  have HC := Lib.hid hc
  have HBW := Lib.hid hbw
  have HW4 := Lib.hid hw4
  clear hc hvO hvL hv1' hv1 hk4 ho4 hl4 hr4 hb4 hbw hw4 hb1
  go_wp2_with fail
  try rw [hrb]
  rw [HW4.out]
  refine HC.out.mono ?_
  rintro e9 w5 ⟨he, hb5⟩
  have hBw : Below kb w w5 := HBW.out.trans (hb5.mono (by omega))
  have HBW5 := Lib.hid hBw
  clear hb5 hBw
  unfold IndE at he
  rw [err_exO, if_neg (by decide), if_neg (by decide), show ((1 : Int).toNat) = 1 from rfl, out_exO] at he
  rcases he with ⟨-, rfl⟩ | ⟨hl, -⟩
  case inr => exact absurd hl (by decide)
  go_wp2_with (first | (go_at_call 12; refine (lnum9_c _ _).mono ?_; rintro e' w' ⟨rfl, rfl⟩))
  go_ret
  rw [hkb]
  exact ⟨rfl, HBW5.out⟩
end Go.Proofs.YtcanfiaooabocaaGreatDoor
