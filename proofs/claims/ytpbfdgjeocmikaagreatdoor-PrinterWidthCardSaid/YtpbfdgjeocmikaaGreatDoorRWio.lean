/-
  Contracts of Indent, Compact and ASCII, and of the closures that they hand to written.
-/
import Derived.Test.YtpbfdgjeocmikaaGreatDoorRWwr
set_option linter.unusedVariables false
set_option linter.unusedSimpArgs false
namespace Go.Proofs.YtpbfdgjeocmikaaGreatDoor
open Go.RowKit Go.Lib

theorem Gl.up {B C : Nat} {w : World} (h : Gl B w) (hc : B ≤ C) : Gl C w := ⟨h.tabs, h.ten, h.deb, Nat.lt_of_lt_of_le h.lt.1 hc, Nat.lt_of_lt_of_le h.lt.2.1 hc, Nat.lt_of_lt_of_le h.lt.2.2.1 hc, Nat.lt_of_lt_of_le h.lt.2.2.2 hc⟩
theorem numP_ok2 : NtOk numP := numP_ok fun hx hok => by have := prt_len hx hok; omega
theorem prV_ne {qc : Int → List UInt8} {st o : Nat} {x : VT} (hx : Gp x) : prV qc numP st o x ≠ [] := by
  obtain ⟨c, t, h, -⟩ := prV_head (qc := qc) (st := st) (o := o) numP_ok2 hx
  rw [h]; exact List.cons_ne_nil _ _

set_option maxRecDepth 100000 in
set_option maxHeartbeats 2000000 in
theorem ind1_c {F : Value} {qc : Int → List UInt8} (hM : Md F qc) {B st : Nat} {S : Nat → Prop} {x : VT} {cs : List Value} (hS : ∀ b, S b → b < B) (hst : st ≤ 8) (hx : Gp x) (hd : dpt 1000 x ≤ 64) (bp pb : Nat) (w : World) (hP : Pg B pb [] 1048576 st 0 F w) (hG : Gl B w) (hB : B ≤ w.heap.size)
    (hv : VIn w S x cs) (hbox : w.heap[bp]? = some (.cells cs.toArray 28)) : Calls Tryz.prog 25 #[pgP pb, .pointer (some ⟨bp, 0, none⟩)] w (Wr B pb [] 1048576 st 0 F w (prV qc numP st 0 x)) := by
  have hc := pvalue_c (st := st) hM hS hst 64 1000 x cs [] 1048576 0 w (by omega) hd hx (by omega) hP hG hB hv (by simp)
  obtain ⟨R, hR⟩ : ∃ R, Wr B pb [] 1048576 st 0 F w (prV qc numP st 0 x) = R := ⟨_, rfl⟩
  have hRr : ∀ v w', R (.returned v) w' → v = .tuple #[] := by
    rintro v w' h
    rw [← hR] at h
    rcases h with ⟨-, h, -⟩ | ⟨-, h, -⟩
    · injection h
    · cases h
  have hRo : ∀ w', ¬ R .outgrown w' := by
    rintro w' h
    rw [← hR] at h
    rcases h with ⟨-, h, -⟩ | ⟨-, h, -⟩ <;> cases h
  rw [hR] at hc ⊢
  obtain ⟨k, neg, A, n, c, e, t, LA, ln, lc, KA, kn, kc, rfl, -, -⟩ := hv.seven
  obtain ⟨y0, y1, y2, y3, y4, y5, y6⟩ := box7_of hbox
  have HC := Lib.hid hc
  have HR := Lib.hid hRr
  have HRO := Lib.hid hRo
  clear hc hv hR hbox hP hG hRr hRo hx
  go_enter Tryz.func25, Tryz.ntmps25
  go_wp2_with fail
  refine HC.out.mono ?_
  rintro e9 w9 hr
  cases e9 with
  | returned v =>
    have hv := HR.out _ _ hr
    subst hv
    go_wp2_with fail
    first | go_end0 | refine bodyPost_ret (results_none rfl _ _ _) rfl ?_
    exact hr
  | panicked ch => exact ⟨rfl, hr⟩
  | outgrown =>
    exact absurd hr (HRO.out _)

/-- What Indent comes to; what ASCII comes to. -/
def IndE (x : VT) (n : Int) (e : Ending) : Prop :=
  if errV x ≠ 0 then e = .returned (.tuple #[.string ⟨#[]⟩, .int .i64 ((errV x : Nat) : Int)])
  else if n < 0 ∨ 8 < n then e = .returned (.tuple #[.string ⟨#[]⟩, .int .i64 4])
  else WrE (prV quoteC numP n.toNat 0 x) 1048576 e
set_option maxRecDepth 100000 in
set_option maxHeartbeats 4000000 in
theorem indent_c {S : Nat → Prop} {x : VT} {cs : List Value} (n : Int) (w : World) (hG : Gl w.heap.size w) (hx : VIn w S x cs) (hS : ∀ b, S b → b < w.heap.size) :
    Calls Tryz.prog 10 #[.agg cs.toArray, .int .i64 n] w fun e w' => IndE x n e ∧ Below w.heap.size w w' := by
  have hmf : ∀ (fn : Fn) (first cap : Array Value) (w : World), (Instr.makeFunc fn first cap).run Tryz.prog w = .ok (.func fn first cap) w := fun _ _ _ _ => rfl
  obtain ⟨k, neg, A, nn, c, e, t, LA, ln, lc, KA, kn, kc, rfl, -, -⟩ := hx.seven
  obtain ⟨bp, hbp⟩ : ∃ b, w.heap.size = b := ⟨_, rfl⟩
  have hb : Below w.heap.size w (w.alloc (.cells #[.int .i64 k, .bool neg, .slice A nn c, .int .i64 e, .string t, .slice LA ln lc, .slice KA kn kc] 28)) := (Below.refl _ w).alloc (Nat.le_refl _) _
  have hm := World.alloc_heap_new w (.cells #[.int .i64 k, .bool neg, .slice A nn c, .int .i64 e, .string t, .slice LA ln lc, .slice KA kn kc] 28)
  have hsz : (w.alloc (.cells #[.int .i64 k, .bool neg, .slice A nn c, .int .i64 e, .string t, .slice LA ln lc, .slice KA kn kc] 28)).heap.size = bp + 1 := by rw [World.size_alloc, hbp]
  have hG1 := hG.low hb
  have hx1 := hx.keep (w' := (w.alloc (.cells #[.int .i64 k, .bool neg, .slice A nn c, .int .i64 e, .string t, .slice LA ln lc, .slice KA kn kc] 28))) fun p hp => hb.cell (p := p) (hS _ hp)
  have hl := hx.l32
  rw [hbp] at hm hb hG1 hS ⊢
  obtain ⟨y0, y1, y2, y3, y4, y5, y6⟩ := box7_of hm
  have HG := Lib.hid hG1
  have HX := Lib.hid hx1
  have HB := Lib.hid hb
  have HM := Lib.hid hm
  have HL := Lib.hid hl
  have HS := Lib.hid hS
  have HBP := Lib.hid hbp
  clear hG hx hG1 hx1 hb hm hS hl
  go_enter Tryz.func10, Tryz.ntmps10
  go_wp2_with fail
  try rw [hbp]
  clear y0 y1 y2 y3 y4 y5 y6 hbp
  generalize (w.alloc (.cells #[.int .i64 k, .bool neg, .slice A nn c, .int .i64 e, .string t, .slice LA ln lc, .slice KA kn kc] 28)) = w1 at *
  refine (VCheck_c w1 HG.out.tabs HX.out (fun b h => by have := HS.out b h; omega)).mono ?_
  rintro e9 w2 ⟨rfl, hb2⟩
  rw [hsz] at hb2
  obtain ⟨r, hr⟩ : ∃ r, errV x = r := ⟨_, rfl⟩
  rw [hr]
  have hB2 : Below bp w w2 := HB.out.trans (hb2.mono (by omega))
  have hl2 : bp + 1 ≤ w2.heap.size := by have := hb2.size; omega
  have HB2 := Lib.hid hB2
  have HR := Lib.hid hr
  have HW2 := Lib.hid hb2
  clear hB2 hb2 hr
  rcases Nat.eq_zero_or_pos r with h0 | h0
  case inr =>
    have hne : (r : Int) ≠ 0 := by omega
    go_wp2_with fail
    go_ret2
    refine ⟨?_, HB2.out⟩
    unfold IndE
    rw [HR.out, if_pos (by omega)]
    rfl
  subst h0
  by_cases hn : n < 0
  · go_wp2_with fail
    go_ret2
    refine ⟨?_, HB2.out⟩
    unfold IndE
    rw [HR.out, if_neg (by omega), if_pos (.inl hn)]
    rfl
  by_cases hn8 : 8 < n
  · go_wp2_with fail
    go_ret2
    refine ⟨?_, HB2.out⟩
    unfold IndE
    rw [HR.out, if_neg (by omega), if_pos (.inr hn8)]
    rfl
  obtain ⟨m, rfl⟩ : ∃ m : Nat, n = (m : Int) := ⟨n.toNat, by omega⟩
  have hbx := (HW2.out.block bp (by omega)).trans HM.out
  have hx2 := HX.out.keep (w' := w2) fun p hp => HW2.out.cell (p := p) (by have := HS.out _ hp; omega)
  have hg2 : Gl w2.heap.size w2 := ((HG.out.up (C := bp + 1) (by omega)).low HW2.out).up (by omega)
  obtain ⟨g1, g2, g3⟩ := okV_gp (x := x) HR.out HL.out
  have hwc := written_c (F := plainF) (room := 1048576) (st := m) (out := prV quoteC numP m 0 x) (fn := 25) (cp := .pointer (some ⟨bp, 0, none⟩)) w2 (by omega) (prV_ne g1) (fun ar W => by kernel_rfl)
    (fun w' hP hb => ind1_c (.inl ⟨rfl, rfl⟩) (B := w2.heap.size) (S := S) (fun b hb => by have := HS.out b hb; omega) (by omega) g1 g3 bp _ w' hP (hg2.low (hb.below (Nat.le_refl _) fun _ _ h => h)) hb.size (hx2.keep fun p hp => (hb.below (Nat.le_refl _) fun _ _ h => h).cell (by have := HS.out _ hp; omega)) ((hb.block bp (by omega) (fun h => h)).trans hbx))
  obtain ⟨out, hout⟩ : ∃ out, prV quoteC numP m 0 x = out := ⟨_, rfl⟩
  rw [hout] at hwc
  have HOUT := Lib.hid hout
  have HWC := Lib.hid hwc
  clear hwc hout g1 g2 g3 hg2 hx2 hbx
  go_wp2_with fail
  refine HWC.out.mono ?_
  rintro e9 w3 ⟨he, hb3⟩
  have hB3 := HB2.out.trans (hb3.mono (by omega))
  rcases he with ⟨hl, rfl⟩ | ⟨hl, rfl⟩
  all_goals
    have HB3 := Lib.hid hB3
    clear hB3 hb3
    go_wp2_with fail
    go_ret2
    refine ⟨?_, HB3.out⟩
    unfold IndE
    rw [HR.out, if_neg (by omega), if_neg (by omega), Int.toNat_natCast, HOUT.out]
    unfold WrE
    simp [hl]

end Go.Proofs.YtpbfdgjeocmikaaGreatDoor
