/-
  Contract of kinds.workOut: what is worked out of values that may be, in memory of its own.
-/
import Derived.Test.YtpmdcahomkdfmaaGreatDoorBKck
set_option linter.unusedVariables false
set_option linter.unusedSimpArgs false
namespace Go.Proofs.YtpmdcahomkdfmaaGreatDoor
open Go.RowKit Go.Lib

/-- The error that is told; what is told. -/
def WoR (eK E : Nat) (y : VT) : Nat := if eK ≠ 0 then eK else if E ≠ 0 then E else errV y
def WoV (eK E : Nat) (y : VT) : VT := if WoR eK E y = 0 then y else VT0
/-- An answer of a value in memory of its own, and an error. -/
def WoP (y : VT) (R : Nat) (N : Nat) (e : Ending) (w' : World) : Prop := ∃ cs : List Value, e = .returned (.tuple #[.agg cs.toArray, .int .i64 (R : Int)]) ∧ VIn w' (fun b => N ≤ b ∧ b < w'.heap.size) y cs
theorem row_oneK {w : World} {S : Nat → Prop} {b : Nat} {x : VT} {cs : List Value} (h : w.heap[b]? = some (.cells cs.toArray 28)) (hb : S b) (hx : VIn w S x cs) : RdL w S (some ⟨b, 0, none⟩) 1 [x] := by
  obtain ⟨k, neg, A, n, c, e, t, LA, ln, lc, KA, kn, kc, rfl, -, -⟩ := hx.seven
  refine ⟨rfl, by omega, fun _ => [.int .i64 k, .bool neg, .slice A n c, .int .i64 e, .string t, .slice LA ln lc, .slice KA kn kc], fun _ => ⟨b, 0, rfl, hb, fun i hi => ⟨rfl, fun j hj => ?_⟩⟩, fun i y hy => ?_⟩
  · obtain rfl : i = 0 := by omega
    rw [Nat.zero_mul, Nat.zero_add, Nat.zero_add, cell_of_heap h j, List.getElem?_toArray]
  · cases i with
    | zero => rw [List.getElem?_cons_zero] at hy; injection hy with hy; rw [← hy]; exact hx
    | succ i => simp at hy
theorem field3K (k : Int) (neg : Bool) (A2 LA2 KA2 : Option Addr) (n2 c2 ln2 lc2 kn2 kc2 : Nat) (e : Int) (t : ByteArray) (w : World) :
    (Instr.field 28 (.agg #[.int .i64 k, .bool neg, .slice A2 n2 c2, .int .i64 e, .string t, .slice LA2 ln2 lc2, .slice KA2 kn2 kc2]) 3).run Tryz.prog w = .ok (.slice LA2 ln2 lc2) w := by
  kernel_rfl
set_option maxRecDepth 1000000 in
set_option maxHeartbeats 8000000 in
theorem workOut_c {S : Nat → Prop} {A : Option Addr} {n c : Nat} {l : List VT} {fn : Nat} {caps : Array Value} {y : VT} {E : Nat} (w : World) (hT : Tabs w) (hl : RdL w S A n l) (hS : ∀ b, S b → b < w.heap.size)
    (hcf : ∀ (ar : Array Value) (W : World), (callFunc fn ar).run Tryz.prog W = .ok (.enter fn ar) W)
    (hwk : errK l = 0 → ∀ W, Below w.heap.size w W → Calls Tryz.prog fn caps W fun e w' => ∃ cs : List Value, e = .returned (.tuple #[.agg cs.toArray, .int .i64 (E : Int)]) ∧ VIn w' (fun b => b < w'.heap.size) y cs ∧ Below W.heap.size W w') :
    Calls Tryz.prog 13 #[.func (.func fn) #[] caps, .slice A n c] w fun e w' => WoP (WoV (errK l) E y) (WoR (errK l) E y) w.heap.size e w' ∧ Below w.heap.size w w' := by
  obtain ⟨rs, hrs⟩ : ∃ b, w.heap.size = b := ⟨_, rfl⟩
  have hb0 : Below w.heap.size w (w.alloc (.cells #[.int .i64 0, .bool false, .slice none 0 0, .int .i64 0, .string ⟨#[]⟩, .slice none 0 0, .slice none 0 0] 28)) := (Below.refl _ w).alloc (Nat.le_refl _) _
  have hm := World.alloc_heap_new w (.cells #[.int .i64 0, .bool false, .slice none 0 0, .int .i64 0, .string ⟨#[]⟩, .slice none 0 0, .slice none 0 0] 28)
  have hs0 : (w.alloc (.cells #[.int .i64 0, .bool false, .slice none 0 0, .int .i64 0, .string ⟨#[]⟩, .slice none 0 0, .slice none 0 0] 28)).heap.size = rs + 1 := by rw [World.size_alloc, hrs]
  have hck := kcheck_c (c := c) (w.alloc (.cells #[.int .i64 0, .bool false, .slice none 0 0, .int .i64 0, .string ⟨#[]⟩, .slice none 0 0, .slice none 0 0] 28)) (hT.below hb0) (hl.keep fun p hp => hb0.cell (hS _ hp)) (fun b hb => by have := hS b hb; omega)
  have hTs := fun W (h : Below w.heap.size w W) => hT.below h
  obtain ⟨eK, heK⟩ : ∃ eK, errK l = eK := ⟨_, rfl⟩
  rw [heK] at hck hwk ⊢
  rw [hrs] at hb0 hm hwk hTs ⊢
  have HT := Lib.hid hTs
  have HCK := Lib.hid hck
  have HB0 := Lib.hid hb0
  have HM := Lib.hid hm
  have HS0 := Lib.hid hs0
  have HWK := Lib.hid hwk
  clear hck hb0 hm hs0 hwk heK hl hS hT hTs
  go_enter Tryz.func13, Tryz.ntmps13
  go_wp2_with fail
  try rw [hrs]
  clear hrs
  generalize (w.alloc (.cells #[.int .i64 0, .bool false, .slice none 0 0, .int .i64 0, .string ⟨#[]⟩, .slice none 0 0, .slice none 0 0] 28)) = w0 at *
  refine HCK.out.mono ?_
  rintro e9 w1 ⟨rfl, hb1⟩
  have hb01 : Below rs w w1 := HB0.out.trans (hb1.mono (by rw [HS0.out]; omega))
  have hm1 := (hb1.block rs (by rw [HS0.out]; omega)).trans HM.out
  have hs1 : rs + 1 ≤ w1.heap.size := by have := hb1.size; rw [HS0.out] at this; exact this
  have HB1 := Lib.hid hb01
  have HM1 := Lib.hid hm1
  clear HCK hb1 hb01 hm1 HB0 HM HS0
  -- an error is told with the zero value
  have bad : ∀ (V : World) (R : Nat), Below rs w V → V.heap[rs]? = some (.cells #[.int .i64 0, .bool false, .slice none 0 0, .int .i64 0, .string ⟨#[]⟩, .slice none 0 0, .slice none 0 0] 28) → R = WoR eK E y → R ≠ 0 →
      WoP (WoV eK E y) (WoR eK E y) rs (.returned (.tuple #[.agg #[.int .i64 0, .bool false, .slice none 0 0, .int .i64 0, .string ⟨#[]⟩, .slice none 0 0, .slice none 0 0], .int .i64 (R : Int)])) (((((((V.setCell ⟨rs, 0, none⟩ (.int .i64 0)).setCell ⟨rs, 1, none⟩ (.bool false)).setCell ⟨rs, 2, none⟩ (.slice none 0 0)).setCell ⟨rs, 3, none⟩ (.int .i64 0)).setCell ⟨rs, 4, none⟩ (.string ⟨#[]⟩)).setCell ⟨rs, 5, none⟩ (.slice none 0 0)).setCell ⟨rs, 6, none⟩ (.slice none 0 0)) ∧
      Below rs w (((((((V.setCell ⟨rs, 0, none⟩ (.int .i64 0)).setCell ⟨rs, 1, none⟩ (.bool false)).setCell ⟨rs, 2, none⟩ (.slice none 0 0)).setCell ⟨rs, 3, none⟩ (.int .i64 0)).setCell ⟨rs, 4, none⟩ (.string ⟨#[]⟩)).setCell ⟨rs, 5, none⟩ (.slice none 0 0)).setCell ⟨rs, 6, none⟩ (.slice none 0 0)) := by
    rintro V R hB hV rfl hR
    refine ⟨⟨_, rfl, ?_⟩, below_seven hB (Nat.le_refl _) _ _ _ _ _ _ _⟩
    rw [WoV, if_neg hR]
    exact vin_zero _ _
  have BAD := Lib.hid bad
  clear bad
  rcases Nat.eq_zero_or_pos eK with h0 | h0
  case inr =>
    have h1 : ((eK : Int) == 0) = false := by rw [beq_eq_false_iff_ne]; omega
    obtain ⟨z0, z1, z2, z3, z4, z5, z6⟩ := box7_of HM1.out
    have fz : ∀ j, w1.frozen? ⟨rs, j, none⟩ = false := fun j => frozen_of_row w1 _ j _ _ HM1.out
    have hR : eK = WoR eK E y := by unfold WoR; rw [if_pos (by omega)]
    have hfin := BAD.out w1 eK HB1.out HM1.out hR (by omega)
    have HF := Lib.hid hfin
    clear hfin hR
    go_wp2_with fail
    refine bodyPost_ret (v := .tuple #[.agg #[.int .i64 0, .bool false, .slice none 0 0, .int .i64 0, .string ⟨#[]⟩, .slice none 0 0, .slice none 0 0], .int .i64 (eK : Int)]) (by simp [results, Tryz.results13, go_sem, z0, z1, z2, z3, z4, z5, z6]) rfl ?_
    exact HF.out
  subst h0
  have hcall := HWK.out rfl w1 HB1.out
  have HC := Lib.hid hcall
  clear hcall HWK
  go_wp2_with fail
  refine HC.out.mono ?_
  rintro e9 w2 ⟨cs, rfl, hv, hb2⟩
  obtain ⟨k1, neg1, A1, n1, c1, ex1, t1, LA1, ln1, lc1, KA1, kn1, kc1, rfl, -, -⟩ := hv.seven
  clear HC
  have hb02 : Below rs w w2 := HB1.out.trans (hb2.mono (by omega))
  have hm2 := (hb2.block rs (by omega)).trans HM1.out
  have hs2 : rs + 1 ≤ w2.heap.size := by have := hb2.size; omega
  obtain ⟨ob, hob⟩ : ∃ b, w2.heap.size = b := ⟨_, rfl⟩
  have hb3 : Below ob w2 (w2.alloc (.cells #[.int .i64 k1, .bool neg1, .slice A1 n1 c1, .int .i64 ex1, .string t1, .slice LA1 ln1 lc1, .slice KA1 kn1 kc1] 28)) := (Below.refl _ w2).alloc (Nat.le_of_eq hob.symm) _
  have ho3 := World.alloc_heap_new w2 (.cells #[.int .i64 k1, .bool neg1, .slice A1 n1 c1, .int .i64 ex1, .string t1, .slice LA1 ln1 lc1, .slice KA1 kn1 kc1] 28)
  rw [hob] at ho3
  have hs3 : (w2.alloc (.cells #[.int .i64 k1, .bool neg1, .slice A1 n1 c1, .int .i64 ex1, .string t1, .slice LA1 ln1 lc1, .slice KA1 kn1 kc1] 28)).heap.size = ob + 1 := by rw [World.size_alloc, hob]
  have hv3 := (hv.keep (w' := w2.alloc (.cells #[.int .i64 k1, .bool neg1, .slice A1 n1 c1, .int .i64 ex1, .string t1, .slice LA1 ln1 lc1, .slice KA1 kn1 kc1] 28)) fun p hp => hb3.cell (p := p) (by omega)).more (S' := fun b => b < ob + 1) (fun b hb => by omega)
  have HV3 := Lib.hid hv3
  have HB3 := Lib.hid (hb02.trans (hb3.mono (by omega)))
  have HM3 := Lib.hid ((hb3.block rs (by omega)).trans hm2)
  have HO3 := Lib.hid ho3
  have HS3 := Lib.hid hs3
  have HOB := Lib.hid (show rs + 1 ≤ ob by omega)
  clear hv hb2 hb02 hm2 hs2 hb3 ho3 hs3 hv3 HB1 HM1
  rcases Nat.eq_zero_or_pos E with hE0 | hE0
  case inr =>
    have h1 : ((E : Int) == 0) = false := by rw [beq_eq_false_iff_ne]; omega
    have h2 : ¬ (E : Int) = 0 := by omega
    obtain ⟨z0, z1, z2, z3, z4, z5, z6⟩ := box7_of HM3.out
    have fz : ∀ j, (w2.alloc (.cells #[.int .i64 k1, .bool neg1, .slice A1 n1 c1, .int .i64 ex1, .string t1, .slice LA1 ln1 lc1, .slice KA1 kn1 kc1] 28)).frozen? ⟨rs, j, none⟩ = false := fun j => frozen_of_row _ _ j _ _ HM3.out
    have hfin := BAD.out _ E HB3.out HM3.out (by unfold WoR; rw [if_neg (by omega), if_pos (by omega)]) (by omega)
    have HF := Lib.hid hfin
    clear hfin
    go_wp2_with fail
    refine bodyPost_ret (v := .tuple #[.agg #[.int .i64 0, .bool false, .slice none 0 0, .int .i64 0, .string ⟨#[]⟩, .slice none 0 0, .slice none 0 0], .int .i64 (E : Int)]) (by simp [results, Tryz.results13, go_sem, z0, z1, z2, z3, z4, z5, z6]) rfl ?_
    exact HF.out
  subst hE0
  -- the answer is looked at
  go_upto_region 6 with fail
  try rw [hob]
  clear hob
  generalize (w2.alloc (.cells #[.int .i64 k1, .bool neg1, .slice A1 n1 c1, .int .i64 ex1, .string t1, .slice LA1 ln1 lc1, .slice KA1 kn1 kc1] 28)) = w3 at *
  obtain ⟨u0, u1, u2, u3, u4, u5, u6⟩ := box7_of HO3.out
  have hb4 : Below (ob + 1) w3 (w3.alloc (.cells #[.int .i64 k1, .bool neg1, .slice A1 n1 c1, .int .i64 ex1, .string t1, .slice LA1 ln1 lc1, .slice KA1 kn1 kc1] 28)) := (Below.refl _ w3).alloc (by rw [HS3.out]; omega) _
  have hr4 := World.alloc_heap_new w3 (.cells #[.int .i64 k1, .bool neg1, .slice A1 n1 c1, .int .i64 ex1, .string t1, .slice LA1 ln1 lc1, .slice KA1 kn1 kc1] 28)
  rw [HS3.out] at hr4
  have hs4 : (w3.alloc (.cells #[.int .i64 k1, .bool neg1, .slice A1 n1 c1, .int .i64 ex1, .string t1, .slice LA1 ln1 lc1, .slice KA1 kn1 kc1] 28)).heap.size = ob + 2 := by rw [World.size_alloc, HS3.out]
  have hv4 := (HV3.out.keep (w' := w3.alloc (.cells #[.int .i64 k1, .bool neg1, .slice A1 n1 c1, .int .i64 ex1, .string t1, .slice LA1 ln1 lc1, .slice KA1 kn1 kc1] 28)) fun p hp => hb4.cell (p := p) hp).more (S' := fun b => b < ob + 2) (fun b hb => by omega)
  have hrow4 := row_oneK (S := fun b => b < ob + 2) hr4 (by omega) hv4
  have hb04 := HB3.out.trans (hb4.mono (by have := HOB.out; omega))
  have hck := kcheck_c (c := 1) _ (HT.out _ hb04) hrow4 (fun b hb => by rw [hs4]; exact hb)
  rw [errK_one] at hck
  have HCK := Lib.hid hck
  have HS4 := Lib.hid hs4
  have HB4 := Lib.hid hb04
  have HM4 := Lib.hid ((hb4.block rs (by have := HOB.out; omega)).trans HM3.out)
  have HO4 := Lib.hid ((hb4.block ob (by omega)).trans HO3.out)
  have HV4 := Lib.hid hv4
  have hs3 := HS3.out
  clear hb4 hr4 hs4 hv4 hrow4 hb04 hck
  go_wp2_with fail
  try rw [hs3]
  clear hs3
  generalize (w3.alloc (.cells #[.int .i64 k1, .bool neg1, .slice A1 n1 c1, .int .i64 ex1, .string t1, .slice LA1 ln1 lc1, .slice KA1 kn1 kc1] 28)) = w4 at *
  clear u0 u1 u2 u3 u4 u5 u6
  refine HCK.out.mono ?_
  rintro e9 w5 ⟨rfl, hb5⟩
  rw [HS4.out] at hb5
  have hobr := HOB.out
  have hm5 := (hb5.block rs (by omega)).trans HM4.out
  have ho5 := (hb5.block ob (by omega)).trans HO4.out
  have hs5 : ob + 2 ≤ w5.heap.size := by have := hb5.size; rw [HS4.out] at this; exact this
  have HV5 := Lib.hid (HV4.out.keep (w' := w5) fun p hp => hb5.cell (p := p) hp)
  have HB5 := Lib.hid (HB4.out.trans (hb5.mono (by omega)))
  have HM5 := Lib.hid hm5
  have HO5 := Lib.hid ho5
  clear HCK hb5 hm5 ho5 HV4 HB4 HM4 HO4 HV3 HB3 HM3 HO3
  obtain ⟨z0, z1, z2, z3, z4, z5, z6⟩ := box7_of HM5.out
  obtain ⟨u0, u1, u2, u3, u4, u5, u6⟩ := box7_of HO5.out
  obtain ⟨r, hr⟩ : ∃ r, errV y = r := ⟨_, rfl⟩
  have HR := Lib.hid hr
  rw [hr]
  clear hr
  rcases Nat.eq_zero_or_pos r with hr0 | hr0
  case inr =>
    have h1 : ((r : Int) == 0) = false := by rw [beq_eq_false_iff_ne]; omega
    have fz : ∀ j, w5.frozen? ⟨rs, j, none⟩ = false := fun j => frozen_of_row w5 _ j _ _ HM5.out
    have hfin := BAD.out w5 r HB5.out HM5.out (by unfold WoR; rw [if_neg (by omega), if_neg (by omega)]; exact HR.out.symm) (by omega)
    have HF := Lib.hid hfin
    clear hfin
    go_wp2_with fail
    refine bodyPost_ret (v := .tuple #[.agg #[.int .i64 0, .bool false, .slice none 0 0, .int .i64 0, .string ⟨#[]⟩, .slice none 0 0, .slice none 0 0], .int .i64 (r : Int)]) (by simp [results, Tryz.results13, go_sem, z0, z1, z2, z3, z4, z5, z6]) rfl ?_
    exact HF.out
  subst hr0
  obtain ⟨lb, hlb⟩ : ∃ b, w5.heap.size = b := ⟨_, rfl⟩
  have hb6 : Below lb w5 (w5.alloc (.cells #[.int .i64 k1, .bool neg1, .slice A1 n1 c1, .int .i64 ex1, .string t1, .slice LA1 ln1 lc1, .slice KA1 kn1 kc1] 28)) := (Below.refl _ w5).alloc (Nat.le_of_eq hlb.symm) _
  have hr6 := World.alloc_heap_new w5 (.cells #[.int .i64 k1, .bool neg1, .slice A1 n1 c1, .int .i64 ex1, .string t1, .slice LA1 ln1 lc1, .slice KA1 kn1 kc1] 28)
  rw [hlb] at hr6
  have hs6 : (w5.alloc (.cells #[.int .i64 k1, .bool neg1, .slice A1 n1 c1, .int .i64 ex1, .string t1, .slice LA1 ln1 lc1, .slice KA1 kn1 kc1] 28)).heap.size = lb + 1 := by rw [World.size_alloc, hlb]
  have hv6 := (HV5.out.keep (w' := w5.alloc (.cells #[.int .i64 k1, .bool neg1, .slice A1 n1 c1, .int .i64 ex1, .string t1, .slice LA1 ln1 lc1, .slice KA1 kn1 kc1] 28)) fun p hp => hb6.cell (p := p) (by omega)).more (S' := fun b => b < lb + 1) (fun b hb => by omega)
  have hrow6 := row_oneK (S := fun b => b < lb + 1) hr6 (by omega) hv6
  have hli := list_c (c := 1) _ hrow6 (by omega) (by omega) (fun b hb => by rw [hs6]; exact hb) (by have := under_ok (x := y) HR.out; simp only [underL]; omega)
  have HLI := Lib.hid hli
  have HS6 := Lib.hid hs6
  have HB6 := Lib.hid (HB5.out.trans (hb6.mono (by omega)))
  have HM6 := Lib.hid ((hb6.block rs (by omega)).trans HM5.out)
  clear hb6 hr6 hs6 hv6 hrow6 hli z0 z1 z2 z3 z4 z5 z6 HV5 HB5 HM5 HO5 BAD
  go_wp2_with fail
  try rw [hlb]
  have hlr : rs + 1 ≤ lb := by omega
  clear hlb
  generalize (w5.alloc (.cells #[.int .i64 k1, .bool neg1, .slice A1 n1 c1, .int .i64 ex1, .string t1, .slice LA1 ln1 lc1, .slice KA1 kn1 kc1] 28)) = w6 at *
  clear u0 u1 u2 u3 u4 u5 u6
  refine HLI.out.mono ?_
  rintro e9 w7 ⟨cs', rfl, hv7, hb7⟩
  rw [HS6.out] at hv7 hb7
  obtain ⟨A2, n2, c2, LA2, ln2, lc2, KA2, kn2, kc2, rfl, -, -, -, hl7, -, -, hlc⟩ := hv7.parts
  have hln2 : ln2 = 1 := by rw [← hl7.1]; rfl
  subst hln2
  obtain ⟨b, off, x, cs2, rfl, hSb, hx, h7, hcells, hvx⟩ := hl7.at_ (i := 0) (by omega)
  rw [List.getElem?_cons_zero] at hx
  injection hx with hx
  subst hx
  obtain ⟨k3, neg3, A3, n3, c3, ex3, t3, LA3, ln3, lc3, KA3, kn3, kc3, rfl, -, -⟩ := hvx.seven
  have hcw : ∀ a, a < 7 → w7.cell? ⟨b, off + (0 * 7 + a), none⟩ = _ := fun a ha => hcells a ha
  have d0 : w7.cell? ⟨b, off, none⟩ = some (.int .i64 k3) := hcw 0 (by omega)
  have d1 : w7.cell? ⟨b, off + 1, none⟩ = some (.bool neg3) := hcw 1 (by omega)
  have d2 : w7.cell? ⟨b, off + 2, none⟩ = some (.slice A3 n3 c3) := hcw 2 (by omega)
  have d3 : w7.cell? ⟨b, off + 3, none⟩ = some (.int .i64 ex3) := hcw 3 (by omega)
  have d4 : w7.cell? ⟨b, off + 4, none⟩ = some (.string t3) := hcw 4 (by omega)
  have d5 : w7.cell? ⟨b, off + 5, none⟩ = some (.slice LA3 ln3 lc3) := hcw 5 (by omega)
  have d6 : w7.cell? ⟨b, off + 6, none⟩ = some (.slice KA3 kn3 kc3) := hcw 6 (by omega)
  have hm7 := (hb7.block rs (by omega)).trans HM6.out
  obtain ⟨z0, z1, z2, z3, z4, z5, z6⟩ := box7_of hm7
  have fz : ∀ j, w7.frozen? ⟨rs, j, none⟩ = false := fun j => frozen_of_row w7 _ j _ _ hm7
  have hfd := fun W => field3K 5 false A2 (some ⟨b, off, none⟩) KA2 n2 c2 1 lc2 kn2 kc2 0 ⟨#[]⟩ W
  have HVX := Lib.hid hvx
  have HB7 := Lib.hid (HB6.out.trans (hb7.mono (by omega)))
  have HSB := Lib.hid hSb
  clear HLI hv7 hb7 hl7 hcells hcw h7 hvx hm7 hSb
  go_wp2_with fail
  refine bodyPost_ret (v := .tuple #[.agg #[.int .i64 k3, .bool neg3, .slice A3 n3 c3, .int .i64 ex3, .string t3, .slice LA3 ln3 lc3, .slice KA3 kn3 kc3], .int .i64 0]) (by simp [results, Tryz.results13, go_sem, z0, z1, z2, z3, z4, z5, z6]) rfl ?_
  have hR : WoR 0 0 y = 0 := by unfold WoR; rw [if_neg (by omega), if_neg (by omega)]; exact HR.out
  refine ⟨⟨[.int .i64 k3, .bool neg3, .slice A3 n3 c3, .int .i64 ex3, .string t3, .slice LA3 ln3 lc3, .slice KA3 kn3 kc3], by rw [hR]; rfl, ?_⟩, below_seven HB7.out (Nat.le_refl _) _ _ _ _ _ _ _⟩
  rw [WoV, if_pos hR]
  refine (HVX.out.keep fun p hp => ?_).more fun b hb => ⟨by have := hb.1; omega, ?_⟩
  · have h1 := hp.1
    exact cell_seven (by omega) _ _ _ _ _ _ _
  · have := hb.2
    simpa [World.setCell] using this
end Go.Proofs.YtpmdcahomkdfmaaGreatDoor
