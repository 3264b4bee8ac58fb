/-
  Contracts of kinds.number and of what Length does.
-/
import Derived.Test.YtpmdcahomkdfmaaGreatDoorBKwo
set_option linter.unusedVariables false
set_option linter.unusedSimpArgs false
namespace Go.Proofs.YtpmdcahomkdfmaaGreatDoor
open Go.RowKit Go.Lib

theorem stZ_lenK (Z : Nat) (lo : Int) (h : -5000 ≤ lo) : (stZ Z lo).length ≤ 256 := by
  by_cases h0 : stE Z lo = 0
  · obtain ⟨h1, h2, -⟩ := settle_may (s := false) h h0
    exact (okB_true h2 h1).2.1
  · rw [(st_bad false h0).2.2]; simp
theorem vinNumK {w : World} {S : Nat → Prop} {neg : Bool} {A : Option Addr} {n c : Nat} {xs : List Nat} {e : Int} (h : Rd w S A n xs) (hn : n ≤ 35184372088832) : VIn w S (.mk 3 neg xs e ⟨#[]⟩ [] []) [.int .i64 3, .bool neg, .slice A n c, .int .i64 e, .string ⟨#[]⟩, .slice none 0 0, .slice none 0 0] :=
  .mk (cs := fun _ => []) h hn (by decide) ⟨rfl, fun h0 => absurd h0 (by omega)⟩ (by omega) rfl (by omega) (Nat.le_refl _) (fun h0 => absurd h0 (by omega)) (fun i x hi => by simp at hi)
theorem buildNK (neg : Bool) (A : Option Addr) (n c : Nat) (e : Int) (w : World) : (Instr.build 28 #[(0, .int .i64 3), (1, .agg #[.bool neg, .slice A n c, .int .i64 e])]).run Tryz.prog w = .ok (.agg #[.int .i64 3, .bool neg, .slice A n c, .int .i64 e, .string ⟨#[]⟩, .slice none 0 0, .slice none 0 0]) w := run_build w 28 _ _ (by kernel_rfl)
set_option maxRecDepth 1000000 in
set_option maxHeartbeats 2000000 in
theorem knum_c (neg : Bool) (A : Option Addr) (n c : Nat) (ex : Int) (E : Int) (w : World) :
    Calls Tryz.prog 30 #[.agg #[.bool neg, .slice A n c, .int .i64 ex], .int .i64 E] w fun e w' => e = .returned (.tuple #[.agg #[.int .i64 3, .bool neg, .slice A n c, .int .i64 ex, .string ⟨#[]⟩, .slice none 0 0, .slice none 0 0], .int .i64 E]) ∧ Below w.heap.size w w' := by
  obtain ⟨nb, hnb⟩ : ∃ b, w.heap.size = b := ⟨_, rfl⟩
  obtain ⟨w2, hw2⟩ : ∃ w2, (w.alloc (.cells #[.bool neg, .slice A n c, .int .i64 ex] 24)).alloc (.cells #[.int .i64 0, .bool false, .slice none 0 0, .int .i64 0, .string ⟨#[]⟩, .slice none 0 0, .slice none 0 0] 28) = w2 := ⟨_, rfl⟩
  have hb2 : Below nb w w2 := by rw [← hw2]; exact ((Below.refl nb w).alloc (by omega) _).alloc (by rw [World.size_alloc]; omega) _
  have h0 : w2.heap[nb]? = some (.cells #[.bool neg, .slice A n c, .int .i64 ex] 24) := by
    rw [← hw2, Below.heap_alloc _ _ _ (by simp; omega), ← hnb]; exact World.alloc_heap_new _ _
  have h1 : w2.heap[nb + 1]? = some (.cells #[.int .i64 0, .bool false, .slice none 0 0, .int .i64 0, .string ⟨#[]⟩, .slice none 0 0, .slice none 0 0] 28) := by
    rw [← hw2]
    have := World.alloc_heap_new (w.alloc (.cells #[.bool neg, .slice A n c, .int .i64 ex] 24)) (.cells #[.int .i64 0, .bool false, .slice none 0 0, .int .i64 0, .string ⟨#[]⟩, .slice none 0 0, .slice none 0 0] 28)
    rwa [World.size_alloc, hnb] at this
  have d0 : w2.cell? ⟨nb, 0, none⟩ = some (.bool neg) := cell_at3 h0 rfl
  have d1 : w2.cell? ⟨nb, 1, none⟩ = some (.slice A n c) := cell_at3 h0 rfl
  have d2 : w2.cell? ⟨nb, 2, none⟩ = some (.int .i64 ex) := cell_at3 h0 rfl
  obtain ⟨z0, z1, z2, z3, z4, z5, z6⟩ := box7_of h1
  have fz : ∀ j, w2.frozen? ⟨nb + 1, j, none⟩ = false := fun j => frozen_of_row _ _ j _ _ h1
  have hbu := fun W => buildNK neg A n c ex W
  have HW2 := Lib.hid hw2
  have HB2 := Lib.hid hb2
  have HNB := Lib.hid hnb
  rw [hnb]
  clear hw2 hb2 h0 h1
  go_enter Tryz.func30, Tryz.ntmps30
  go_upto_region 1 with fail
  try rw [hnb]
  clear hnb
  rw [HW2.out]
  go_wp2_with fail
  refine bodyPost_ret (v := .tuple #[.agg #[.int .i64 3, .bool neg, .slice A n c, .int .i64 ex, .string ⟨#[]⟩, .slice none 0 0, .slice none 0 0], .int .i64 E]) (by simp [results, Tryz.results30, go_sem, z0, z1, z2, z3, z4, z5, z6]) rfl ?_
  exact ⟨rfl, below_seven HB2.out (by omega) _ _ _ _ _ _ _⟩
/-- What Length comes to, of a value that may be. -/
def lenE (x : VT) : Nat := if x.kind = 0 then 0 else if x.kind = 3 then stE (val x.num) x.exp else if x.kind = 4 then errT x.text.data.toList else if x.kind = 5 then 0 else if x.kind = 6 then 0 else 41
def lenY (x : VT) : VT := if x.kind = 0 then numT 0 else if x.kind = 3 then .mk 3 (stN false (val x.num) x.exp) (stZ (val x.num) x.exp) (stX (val x.num) x.exp) ⟨#[]⟩ [] [] else if x.kind = 4 then numT (cntT x.text.data.toList : Int) else if x.kind = 5 then numT (x.list.length : Int) else if x.kind = 6 then numT (x.list.length : Int) else VT0
theorem numT_lenK (z : Int) : (stZ z.natAbs 0).length ≤ 35184372088832 := Nat.le_trans (stZ_lenK z.natAbs 0 (by omega)) (by decide)
theorem fin7 {rs : Nat} {w w1 : World} {y : VT} {E : Nat} {k3 ex3 : Int} {neg3 : Bool} {A3 LA3 KA3 : Option Addr} {n3 c3 ln3 lc3 kn3 kc3 : Nat} {t3 : ByteArray} (hs : rs + 1 ≤ w1.heap.size)
    (hv : VIn w1 (Own' (rs + 1) w1) y [.int .i64 k3, .bool neg3, .slice A3 n3 c3, .int .i64 ex3, .string t3, .slice LA3 ln3 lc3, .slice KA3 kn3 kc3]) (hb : Below rs w w1) :
    (∃ cs' : List Value, Ending.returned (.tuple #[.agg #[.int .i64 k3, .bool neg3, .slice A3 n3 c3, .int .i64 ex3, .string t3, .slice LA3 ln3 lc3, .slice KA3 kn3 kc3], .int .i64 (E : Int)]) = .returned (.tuple #[.agg cs'.toArray, .int .i64 (E : Int)]) ∧ VIn (((((((w1.setCell ⟨rs, 0, none⟩ (.int .i64 k3)).setCell ⟨rs, 1, none⟩ (.bool neg3)).setCell ⟨rs, 2, none⟩ (.slice A3 n3 c3)).setCell ⟨rs, 3, none⟩ (.int .i64 ex3)).setCell ⟨rs, 4, none⟩ (.string t3)).setCell ⟨rs, 5, none⟩ (.slice LA3 ln3 lc3)).setCell ⟨rs, 6, none⟩ (.slice KA3 kn3 kc3)) (fun b => b < (((((((w1.setCell ⟨rs, 0, none⟩ (.int .i64 k3)).setCell ⟨rs, 1, none⟩ (.bool neg3)).setCell ⟨rs, 2, none⟩ (.slice A3 n3 c3)).setCell ⟨rs, 3, none⟩ (.int .i64 ex3)).setCell ⟨rs, 4, none⟩ (.string t3)).setCell ⟨rs, 5, none⟩ (.slice LA3 ln3 lc3)).setCell ⟨rs, 6, none⟩ (.slice KA3 kn3 kc3)).heap.size) y cs' ∧
      Below rs w (((((((w1.setCell ⟨rs, 0, none⟩ (.int .i64 k3)).setCell ⟨rs, 1, none⟩ (.bool neg3)).setCell ⟨rs, 2, none⟩ (.slice A3 n3 c3)).setCell ⟨rs, 3, none⟩ (.int .i64 ex3)).setCell ⟨rs, 4, none⟩ (.string t3)).setCell ⟨rs, 5, none⟩ (.slice LA3 ln3 lc3)).setCell ⟨rs, 6, none⟩ (.slice KA3 kn3 kc3))) := by
  refine ⟨[.int .i64 k3, .bool neg3, .slice A3 n3 c3, .int .i64 ex3, .string t3, .slice LA3 ln3 lc3, .slice KA3 kn3 kc3], rfl, (hv.keep fun p hp => cell_seven (by have := hp.1; omega) _ _ _ _ _ _ _).more fun b hb => ?_, below_seven hb (Nat.le_refl _) _ _ _ _ _ _ _⟩
  have := hb.2
  simpa [World.setCell] using this
theorem fitNumK {x : VT} (h : okV x) (h3 : x.kind = 3) : okB x.neg x.num x.exp = true := by
  have ha := (okV_parts h).1 x (mem_parts.2 (.inl rfl))
  unfold alone at ha
  split at ha
  · exact absurd ha (by decide)
  split at ha
  · exact absurd ha (by decide)
  split at ha
  · exact absurd ha (by decide)
  split at ha
  · exact absurd ha (by decide)
  split at ha
  · rename_i hf
    unfold fitV at hf
    rw [if_pos h3, Bool.and_eq_true] at hf
    exact hf.1
  · exact absurd ha (by decide)
set_option maxRecDepth 1000000 in
set_option maxHeartbeats 8000000 in
theorem length1_c {S : Nat → Prop} {x : VT} {cs : List Value} (vb : Nat) (w : World) (hT : Tabs w) (hok : okV x) (hx : VIn w S x cs) (hS : ∀ b, S b → b < w.heap.size) (hv : w.heap[vb]? = some (.cells cs.toArray 28)) :
    Calls Tryz.prog 28 #[.pointer (some ⟨vb, 0, none⟩)] w fun e w' => ∃ cs' : List Value, e = .returned (.tuple #[.agg cs'.toArray, .int .i64 (lenE x : Int)]) ∧ VIn w' (fun b => b < w'.heap.size) (lenY x) cs' ∧ Below w.heap.size w w' := by
  obtain ⟨rs, hrs⟩ : ∃ b, w.heap.size = b := ⟨_, rfl⟩
  have hb0 : Below w.heap.size w (w.alloc (.cells #[.int .i64 0, .bool false, .slice none 0 0, .int .i64 0, .string ⟨#[]⟩, .slice none 0 0, .slice none 0 0] 28)) := (Below.refl _ w).alloc (Nat.le_refl _) _
  have hm := World.alloc_heap_new w (.cells #[.int .i64 0, .bool false, .slice none 0 0, .int .i64 0, .string ⟨#[]⟩, .slice none 0 0, .slice none 0 0] 28)
  have hs0 : (w.alloc (.cells #[.int .i64 0, .bool false, .slice none 0 0, .int .i64 0, .string ⟨#[]⟩, .slice none 0 0, .slice none 0 0] 28)).heap.size = rs + 1 := by rw [World.size_alloc, hrs]
  have hfit := fitNumK hok
  obtain ⟨k2, neg2, xs2, e2, t2, li2, ks2, rfl⟩ : ∃ k2 neg2 xs2 e2 t2 li2 ks2, x = VT.mk k2 neg2 xs2 e2 t2 li2 ks2 := by cases x; exact ⟨_, _, _, _, _, _, _, rfl⟩
  have hbds := hx
  obtain ⟨A2, n2, c2, LA2, ln2, lc2, KA2, kn2, kc2, rfl, hrd, hn2, ht2, hli2, -, -, hlc2⟩ := hx.parts
  obtain ⟨-, -, hlnb⟩ := hbds.bounds
  have hvl := (Array.getElem?_eq_some_iff.1 hv).1
  have hv0 := (hb0.block vb hvl).trans hv
  have hrd0 := hrd.keep (w' := w.alloc (.cells #[.int .i64 0, .bool false, .slice none 0 0, .int .i64 0, .string ⟨#[]⟩, .slice none 0 0, .slice none 0 0] 28)) fun p hp => hb0.cell (p := p) (hS _ hp)
  have hT0 := hT.below hb0
  rw [hrs] at hb0 hm hS ⊢
  obtain ⟨y0, y1, y2, y3, y4, y5, y6⟩ := box7_of hv0
  obtain ⟨z0, z1, z2, z3, z4, z5, z6⟩ := box7_of hm
  have fz : ∀ j, (w.alloc (.cells #[.int .i64 0, .bool false, .slice none 0 0, .int .i64 0, .string ⟨#[]⟩, .slice none 0 0, .slice none 0 0] 28)).frozen? ⟨rs, j, none⟩ = false := fun j => frozen_of_row _ _ j _ _ hm
  have HB0 := Lib.hid hb0
  have HM := Lib.hid hm
  have HS0 := Lib.hid hs0
  have HS := Lib.hid hS
  have HT0 := Lib.hid hT0
  have HRD := Lib.hid hrd0
  have HLN := Lib.hid hli2.1
  have HFIT := Lib.hid hfit
  have hL32 := hrd.l32
  have HL32 := Lib.hid hL32
  clear hb0 hm hs0 hx hbds hrd hli2 hv hv0 hS hok hT hT0 hrd0 hfit hL32
  have hEE : lenE (.mk k2 neg2 xs2 e2 t2 li2 ks2) = if k2 = 0 then 0 else if k2 = 3 then stE (val xs2) e2 else if k2 = 4 then errT t2.data.toList else if k2 = 5 then 0 else if k2 = 6 then 0 else 41 := rfl
  have hYY : lenY (.mk k2 neg2 xs2 e2 t2 li2 ks2) = if k2 = 0 then numT 0 else if k2 = 3 then .mk 3 (stN false (val xs2) e2) (stZ (val xs2) e2) (stX (val xs2) e2) ⟨#[]⟩ [] [] else if k2 = 4 then numT (cntT t2.data.toList : Int) else if k2 = 5 then numT (li2.length : Int) else if k2 = 6 then numT (li2.length : Int) else VT0 := rfl
  obtain ⟨Z, hZ⟩ : ∃ Z, val xs2 = Z := ⟨_, rfl⟩
  obtain ⟨sn, hsn⟩ : ∃ sn, stN false Z e2 = sn := ⟨_, rfl⟩
  obtain ⟨sx, hsx⟩ : ∃ sx, stX Z e2 = sx := ⟨_, rfl⟩
  obtain ⟨sz, hsz⟩ : ∃ sz, stZ Z e2 = sz := ⟨_, rfl⟩
  obtain ⟨se, hse⟩ : ∃ se, stE Z e2 = se := ⟨_, rfl⟩
  obtain ⟨Cn, hCn⟩ : ∃ Cn, cntT t2.data.toList = Cn := ⟨_, rfl⟩
  obtain ⟨Er, hEr⟩ : ∃ Er, errT t2.data.toList = Er := ⟨_, rfl⟩
  obtain ⟨LL, hLL⟩ : ∃ LL, li2.length = LL := ⟨_, rfl⟩
  rw [hZ, hse, hEr] at hEE
  rw [hZ, hsn, hsz, hsx, hCn, hLL] at hYY
  rw [hEE, hYY]
  have HZ := Lib.hid hZ
  have HSN := Lib.hid hsn
  have HSX := Lib.hid hsx
  have HSZ := Lib.hid hsz
  have HSE := Lib.hid hse
  have HCN0 := Lib.hid hCn
  have HER0 := Lib.hid hEr
  have HLL := Lib.hid hLL
  clear hEE hYY hZ hsn hsx hsz hse hCn hEr hLL
  go_enter Tryz.func28, Tryz.ntmps28
  go_upto_region 1 with fail
  try rw [hrs]
  clear hrs
  generalize (w.alloc (.cells #[.int .i64 0, .bool false, .slice none 0 0, .int .i64 0, .string ⟨#[]⟩, .slice none 0 0, .slice none 0 0] 28)) = w0 at *
  by_cases h0 : k2 = 0
  · subst h0
    have hnum := number_c w0 0 (by decide) (by decide) (numT_lenK _)
    have HNU := Lib.hid hnum
    clear hnum
    go_wp2_with fail
    refine HNU.out.mono ?_
    rintro e9 w1 ⟨cs', rfl, hv1, hb1⟩
    obtain ⟨k3, neg3, A3, n3, c3, ex3, t3, LA3, ln3, lc3, KA3, kn3, kc3, rfl, -, -⟩ := hv1.seven
    rw [HS0.out] at hv1 hb1
    have hm1 := (hb1.block rs (by omega)).trans HM.out
    have hs1 : rs + 1 ≤ w1.heap.size := by have := hb1.size; rw [HS0.out] at this; exact this
    clear y0 y1 y2 y3 y4 y5 y6 z0 z1 z2 z3 z4 z5 z6 fz
    obtain ⟨z0, z1, z2, z3, z4, z5, z6⟩ := box7_of hm1
    have fz : ∀ j, w1.frozen? ⟨rs, j, none⟩ = false := fun j => frozen_of_row _ _ j _ _ hm1
    have HV := Lib.hid hv1
    have HB1 := Lib.hid (HB0.out.trans (hb1.mono (by omega)))
    clear hv1 hb1 hm1
    go_wp2_with fail
    refine bodyPost_ret (v := .tuple #[.agg #[.int .i64 k3, .bool neg3, .slice A3 n3 c3, .int .i64 ex3, .string t3, .slice LA3 ln3 lc3, .slice KA3 kn3 kc3], .int .i64 ((0 : Nat) : Int)]) (by simp [results, Tryz.results28, go_sem, z0, z1, z2, z3, z4, z5, z6]) rfl ?_
    exact fin7 hs1 HV.out HB1.out
  have h0b : (k2 == 0) = false := by simpa using h0
  by_cases h3 : k2 = 3
  · subst h3
    have hq := QAbs_c (c := c2) neg2 e2 w0 HRD.out (fun b hb => by have := HS.out b hb; rw [HS0.out]; omega) (by omega)
    rw [show okE neg2 xs2 e2 = 0 by unfold okE; rw [show okB neg2 xs2 e2 = true from HFIT.out rfl]; rfl] at hq
    unfold dv at hq
    have hex : -1000 ≤ e2 ∧ e2 ≤ 1000 := (okB_true HL32.out (HFIT.out rfl)).2.2.2.1
    have HQ := Lib.hid hq
    clear hq
    have hq2 : Calls Tryz.prog 31 #[.agg #[.bool neg2, .slice A2 n2 c2, .int .i64 e2]] w0 fun e w' => ∃ A' n' c', (e = .returned (.tuple #[.agg #[.bool sn, .slice A' n' c', .int .i64 sx], .int .i64 (se : Int)]) ∧ Res w' w0.heap.size A' n' c' sz) ∧ Below w0.heap.size w0 w' := by
      refine HQ.out.mono ?_
      rintro e9 w1 ⟨⟨E0, s, Z', lo, hp, htold⟩, hb1⟩
      rcases hp with ⟨h, -⟩ | ⟨-, h1, h2, h3, h4⟩
      · exact absurd rfl h
      subst h1 h2 h4
      have h3 : Z' = Z := h3.trans HZ.out
      subst h3
      obtain ⟨A', n', c', rfl, hres⟩ := htold
      refine ⟨A', n', c', ⟨?_, ?_⟩, hb1⟩
      · rw [← HSN.out, ← HSX.out, ← HSE.out]; rfl
      · rw [← HSZ.out]; exact hres
    have hlen : sz.length ≤ 256 := by rw [← HSZ.out]; exact stZ_lenK Z e2 (by omega)
    have HQ2 := Lib.hid hq2
    clear hq2 HQ
    go_wp2_with fail
    refine HQ2.out.mono ?_
    rintro e9 w1 ⟨A', n', c', ⟨rfl, hres⟩, hb1⟩
    have hv1 : VIn w1 (Own' (rs + 1) w1) (.mk 3 sn sz sx ⟨#[]⟩ [] []) [.int .i64 3, .bool sn, .slice A' n' c', .int .i64 sx, .string ⟨#[]⟩, .slice none 0 0, .slice none 0 0] := by
      rw [HS0.out] at hres
      exact vinNumK hres.rd (by rw [← hres.len]; omega)
    rw [HS0.out] at hb1
    have HV1 := Lib.hid hv1
    have hm1 := (hb1.block rs (by omega)).trans HM.out
    have hs1 : rs + 1 ≤ w1.heap.size := by have := hb1.size; rw [HS0.out] at this; exact this
    have HM1 := Lib.hid hm1
    have HB1 := Lib.hid (HB0.out.trans (hb1.mono (by omega)))
    clear hv1 hb1 hm1 hres hlen y0 y1 y2 y3 y4 y5 y6 z0 z1 z2 z3 z4 z5 z6 fz
    go_wp2_with fail
    refine (knum_c sn A' n' c' sx (se : Int) w1).mono ?_
    rintro e9 w2 ⟨rfl, hb2⟩
    have hm2 := (hb2.block rs (by omega)).trans HM1.out
    have hs2 : rs + 1 ≤ w2.heap.size := by have := hb2.size; omega
    have HV2 := Lib.hid ((HV1.out.keep (w' := w2) fun p hp => hb2.cell (p := p) hp.2).more (S' := Own' (rs + 1) w2) fun b hb => ⟨hb.1, Nat.lt_of_lt_of_le hb.2 hb2.size⟩)
    have HB2 := Lib.hid (HB1.out.trans (hb2.mono (by omega)))
    obtain ⟨z0, z1, z2, z3, z4, z5, z6⟩ := box7_of hm2
    have fz : ∀ j, w2.frozen? ⟨rs, j, none⟩ = false := fun j => frozen_of_row _ _ j _ _ hm2
    clear hb2 hm2
    go_wp2_with fail
    refine bodyPost_ret (v := .tuple #[.agg #[.int .i64 3, .bool sn, .slice A' n' c', .int .i64 sx, .string ⟨#[]⟩, .slice none 0 0, .slice none 0 0], .int .i64 (se : Int)]) (by simp [results, Tryz.results28, go_sem, z0, z1, z2, z3, z4, z5, z6]) rfl ?_
    exact fin7 hs2 HV2.out HB2.out
  have h3b : (k2 == 3) = false := by simpa using h3
  by_cases h4 : k2 = 4
  · subst h4
    have hcnt := Count_c t2 w0 HT0.out ht2
    have hle : cntT t2.data.toList ≤ 140737488355328 := by
      unfold cntT
      split
      · have := pcs_len t2.data.toList
        have h9 : t2.data.toList.length = t2.size := by rw [Array.length_toList]; rfl
        omega
      · omega
    rw [HCN0.out, HER0.out] at hcnt
    rw [HCN0.out] at hle
    have HCN := Lib.hid hcnt
    clear hcnt
    go_wp2_with fail
    refine HCN.out.mono ?_
    rintro e9 w2 ⟨rfl, hb2⟩
    rw [HS0.out] at hb2
    have hm2 := (hb2.block rs (by omega)).trans HM.out
    have hs2 : rs + 1 ≤ w2.heap.size := by have := hb2.size; rw [HS0.out] at this; exact this
    have HM2 := Lib.hid hm2
    have HB2 := Lib.hid (HB0.out.trans (hb2.mono (by omega)))
    clear hb2 hm2 y0 y1 y2 y3 y4 y5 y6 z0 z1 z2 z3 z4 z5 z6 fz
    have hnum := number_c w2 (Cn : Int) (by omega) (by omega) (numT_lenK _)
    have HNU := Lib.hid hnum
    clear hnum
    go_wp2_with fail
    refine HNU.out.mono ?_
    rintro e9 w1 ⟨cs', rfl, hv1, hb1⟩
    obtain ⟨k3, neg3, A3, n3, c3, ex3, t3, LA3, ln3, lc3, KA3, kn3, kc3, rfl, -, -⟩ := hv1.seven
    have hm1 := (hb1.block rs (by omega)).trans HM2.out
    have hs1 : rs + 1 ≤ w1.heap.size := by have := hb1.size; omega
    obtain ⟨z0, z1, z2, z3, z4, z5, z6⟩ := box7_of hm1
    have fz : ∀ j, w1.frozen? ⟨rs, j, none⟩ = false := fun j => frozen_of_row _ _ j _ _ hm1
    have HV := Lib.hid (hv1.more (S' := Own' (rs + 1) w1) fun b hb => ⟨by have := hb.1; omega, hb.2⟩)
    have HB1 := Lib.hid (HB2.out.trans (hb1.mono (by omega)))
    clear hv1 hb1 hm1
    go_wp2_with fail
    refine bodyPost_ret (v := .tuple #[.agg #[.int .i64 k3, .bool neg3, .slice A3 n3 c3, .int .i64 ex3, .string t3, .slice LA3 ln3 lc3, .slice KA3 kn3 kc3], .int .i64 (Er : Int)]) (by simp [results, Tryz.results28, go_sem, z0, z1, z2, z3, z4, z5, z6]) rfl ?_
    exact fin7 hs1 HV.out HB1.out
  have h4b : (k2 == 4) = false := by simpa using h4
  by_cases h5 : k2 = 5
  · subst h5
    have hlnl := HLN.out
    rw [HLL.out] at hlnl
    subst hlnl
    have hnum := number_c w0 (LL : Int) (by omega) (by omega) (numT_lenK _)
    have HNU := Lib.hid hnum
    clear hnum
    go_wp2_with fail
    refine HNU.out.mono ?_
    rintro e9 w1 ⟨cs', rfl, hv1, hb1⟩
    obtain ⟨k3, neg3, A3, n3, c3, ex3, t3, LA3, ln3, lc3, KA3, kn3, kc3, rfl, -, -⟩ := hv1.seven
    rw [HS0.out] at hv1 hb1
    have hm1 := (hb1.block rs (by omega)).trans HM.out
    have hs1 : rs + 1 ≤ w1.heap.size := by have := hb1.size; rw [HS0.out] at this; exact this
    clear y0 y1 y2 y3 y4 y5 y6 z0 z1 z2 z3 z4 z5 z6 fz
    obtain ⟨z0, z1, z2, z3, z4, z5, z6⟩ := box7_of hm1
    have fz : ∀ j, w1.frozen? ⟨rs, j, none⟩ = false := fun j => frozen_of_row _ _ j _ _ hm1
    have HV := Lib.hid hv1
    have HB1 := Lib.hid (HB0.out.trans (hb1.mono (by omega)))
    clear hv1 hb1 hm1
    go_wp2_with fail
    refine bodyPost_ret (v := .tuple #[.agg #[.int .i64 k3, .bool neg3, .slice A3 n3 c3, .int .i64 ex3, .string t3, .slice LA3 ln3 lc3, .slice KA3 kn3 kc3], .int .i64 ((0 : Nat) : Int)]) (by simp [results, Tryz.results28, go_sem, z0, z1, z2, z3, z4, z5, z6]) rfl ?_
    exact fin7 hs1 HV.out HB1.out
  have h5b : (k2 == 5) = false := by simpa using h5
  by_cases h6 : k2 = 6
  · subst h6
    have hlnl := HLN.out
    rw [HLL.out] at hlnl
    subst hlnl
    have hnum := number_c w0 (LL : Int) (by omega) (by omega) (numT_lenK _)
    have HNU := Lib.hid hnum
    clear hnum
    go_wp2_with fail
    refine HNU.out.mono ?_
    rintro e9 w1 ⟨cs', rfl, hv1, hb1⟩
    obtain ⟨k3, neg3, A3, n3, c3, ex3, t3, LA3, ln3, lc3, KA3, kn3, kc3, rfl, -, -⟩ := hv1.seven
    rw [HS0.out] at hv1 hb1
    have hm1 := (hb1.block rs (by omega)).trans HM.out
    have hs1 : rs + 1 ≤ w1.heap.size := by have := hb1.size; rw [HS0.out] at this; exact this
    clear y0 y1 y2 y3 y4 y5 y6 z0 z1 z2 z3 z4 z5 z6 fz
    obtain ⟨z0, z1, z2, z3, z4, z5, z6⟩ := box7_of hm1
    have fz : ∀ j, w1.frozen? ⟨rs, j, none⟩ = false := fun j => frozen_of_row _ _ j _ _ hm1
    have HV := Lib.hid hv1
    have HB1 := Lib.hid (HB0.out.trans (hb1.mono (by omega)))
    clear hv1 hb1 hm1
    go_wp2_with fail
    refine bodyPost_ret (v := .tuple #[.agg #[.int .i64 k3, .bool neg3, .slice A3 n3 c3, .int .i64 ex3, .string t3, .slice LA3 ln3 lc3, .slice KA3 kn3 kc3], .int .i64 ((0 : Nat) : Int)]) (by simp [results, Tryz.results28, go_sem, z0, z1, z2, z3, z4, z5, z6]) rfl ?_
    exact fin7 hs1 HV.out HB1.out
  have h6b : (k2 == 6) = false := by simpa using h6
  go_wp2_with fail
  refine bodyPost_ret (v := .tuple #[.agg #[.int .i64 0, .bool false, .slice none 0 0, .int .i64 0, .string ⟨#[]⟩, .slice none 0 0, .slice none 0 0], .int .i64 ((41 : Nat) : Int)]) (by simp [results, Tryz.results28, go_sem, z0, z1, z2, z3, z4, z5, z6]) rfl ?_
  exact fin7 (y := VT0) (by rw [HS0.out]; omega) (vin_zero _ _) HB0.out
end Go.Proofs.YtpmdcahomkdfmaaGreatDoor
