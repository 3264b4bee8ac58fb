/-
  The walk of the law DecBack: it returns true, whatever the decimal reads as and whatever the text is.
-/
import Derived.Test.YtjhaoncganoaaaaGreatDoorDtab
import Derived.Test.YtjhaoncganoaaaaGreatDoorDparse
import Derived.Test.YtjhaoncganoaaaaGreatDoorDq
import Derived.Test.YtjhaoncganoaaaaGreatDoorDv
set_option linter.unusedVariables false
set_option linter.unusedSimpArgs false
namespace Go.Proofs.YtjhaoncganoaaaaGreatDoor
open Go.RowKit

theorem heldB {w w' : World} {b : Nat} {vs : Array Value} {t : TypeId} (hb : Below w.heap.size w w') (h : w.heap[b]? = some (.cells vs t)) : w'.heap[b]? = some (.cells vs t) := held hb (Array.getElem?_eq_some_iff.1 h).1 h
theorem heldC {w : World} {b : Nat} {vs : Array Value} {t : TypeId} (o : Obj) (h : w.heap[b]? = some (.cells vs t)) : (w.alloc o).heap[b]? = some (.cells vs t) := (Below.heap_alloc _ _ _ (Array.getElem?_eq_some_iff.1 h).1).trans h
theorem pT_back {neg : Bool} {xs : List Nat} {exp : Int} (hx : L32 xs) (hok : okB neg xs exp = true) : fE (pT neg xs exp) = 0 ∧ fN (pT neg xs exp) = neg ∧ fX (pT neg xs exp) = exp ∧ fZ (pT neg xs exp) = xs := by
  have e : pT neg xs exp = prt neg (val xs) exp := by unfold pT; rw [if_pos hok]
  rw [e]
  exact prt_back hx hok (by have := prt_len hx hok; omega)
theorem lz_le2 (ds : List Nat) : lz ds ≤ ds.length := lz_le ds
theorem f_may {T : List Nat} (h : fE T = 0) : okB (fN T) (fZ T) (fX T) = true := by
  unfold fE at h
  by_cases hg : fGood T
  · unfold fN fZ fX
    rw [if_pos hg] at h ⊢
    rw [if_pos hg, if_pos hg]
    by_cases hb : 1000000 ≤ (tPow T).2
    · obtain ⟨g1, _⟩ := g_big hb
      rw [g1] at h
      exact absurd h (by omega)
    · obtain ⟨g1, g2, g3, g4⟩ := g_small (xs := T) (by omega)
      rw [g1] at h
      rw [g2, g3, g4]
      obtain ⟨sg, wh, fr, pw, hP⟩ := form_parts hg.1
      obtain ⟨f, hfa, hf2, hm1, hm2⟩ := mfold_parts hP
      have hcut : cutE T = sg ++ (wh ++ fr) := by
        have he := hP.eq
        rcases hP.pw with e | ⟨x, s, p, e1, he2, _⟩
        · rw [e] at he
          rw [he]
          have := cutE_plain (mant_octs hP)
          simpa using this
        · rw [e1] at he
          have := cutE_at (mant_octs hP) he2 (s ++ p)
          rw [he]
          simpa using this
      have hl : wh.length + f.length ≤ T.length := by
        have := congrArg List.length hP.eq
        simp only [List.length_append] at this
        rcases hf2 with ⟨_, e⟩ | e
        · rw [e]; simp; omega
        · rw [e, List.length_cons] at this; omega
      obtain ⟨K, hK⟩ : ∃ K : Nat, K = 2000 := ⟨_, rfl⟩
      have hv : tVal T < 10 ^ K := by
        have e : tVal T = pnum (wh ++ f) := by
          unfold tVal tMan
          rw [hcut, hm1]
          exact dval_pnum _
        rw [e]
        have h1 := pnum_lt (allDig_app hP.wh.1 hfa)
        have h2 : 10 ^ (wh ++ f).length ≤ 10 ^ K := Nat.pow_le_pow_right (by omega) (by rw [List.length_append, hK]; have := hg.2; omega)
        omega
      by_cases hz : tVal T = 0
      · obtain ⟨z1, z2, z3, z4⟩ := st_zero (tNeg T) (tExp T)
        rw [hz, z2, z3, z4]; decide
      · have hlo : -5000 ≤ tExp T := by
          have hd : (dOf (tVal T)).length ≤ K := by
            obtain ⟨d1, d2⟩ := dgOf_ok (tVal T) (tVal T) (Nat.le_refl _)
            refine DCan.len_le (ds := dOf (tVal T)) d1 ?_
            have e : dval (dOf (tVal T)) = tVal T := d2
            rw [e]; exact hv
          have hz2 : lz (dOf (tVal T)) ≤ (dOf (tVal T)).length := lz_le2 _
          unfold stE at h
          rw [if_neg hz] at h
          by_cases c1 : 300 < (cf (tVal T)).length
          · rw [if_pos c1] at h; omega
          · rw [if_neg c1] at h
            by_cases c2 : -1000 ≤ tExp T + (lz (dOf (tVal T)) : Int) ∧ tExp T + (lz (dOf (tVal T)) : Int) ≤ 1000
            · omega
            · rw [if_neg c2] at h; omega
        exact (settle_may hlo h).1
  · rw [if_neg hg] at h
    split at h <;> exact absurd h (by omega)

set_option maxRecDepth 100000 in
set_option maxHeartbeats 4000000 in
theorem DecBack_c {S : Nat → Prop} {n c : Nat} {A : Option Addr} {xs : List Nat} (neg : Bool) (exp : Int) (s : ByteArray) (w : World) (hT : Tab10 w) (ha : Rd w S A n xs) (hS : ∀ b, S b → b < w.heap.size) (hn : n ≤ 9223372036854775807) (hs : s.size ≤ 140737488355328) :
    Calls Tryz.prog 4 #[dv neg A n c exp, .string s] w fun e w' => e = .returned (.bool true) ∧ Below w.heap.size w w' := by
  have hx := ha.l32
  have hAl := fun V => alive2_c V
  have hPa := fun V (h : Tab10 V) (h2 : Rd V S A n xs) (h3 : ∀ b, S b → b < V.heap.size) => DPrint_c (c := c) neg exp V h h2 h3 hn
  have hPs := fun V => DParse_c s V hs
  have hPt := fun (t : ByteArray) V (h : t.size ≤ 1000) => DParse_c t V (by omega)
  have hpe : pE neg xs exp = 0 ∨ pE neg xs exp = 9 := by unfold pE; split; exact .inl rfl; exact .inr rfl
  have hback : okB neg xs exp = true → fE (pT neg xs exp) = 0 ∧ fN (pT neg xs exp) = neg ∧ fX (pT neg xs exp) = exp ∧ fZ (pT neg xs exp) = xs := pT_back hx
  have hpe0 : pE neg xs exp = 0 → okB neg xs exp = true := fun h => by
    unfold pE at h
    cases hok : okB neg xs exp with
    | true => rfl
    | false => rw [hok] at h; exact absurd h (by decide)
  obtain ⟨NS, hNS⟩ : ∃ x, x = fN (octs s) := ⟨_, rfl⟩
  obtain ⟨XS, hXS⟩ : ∃ x, x = fX (octs s) := ⟨_, rfl⟩
  obtain ⟨ZS, hZS⟩ : ∃ x, x = fZ (octs s) := ⟨_, rfl⟩
  obtain ⟨ES, hES⟩ : ∃ x, x = fE (octs s) := ⟨_, rfl⟩
  rw [← hNS, ← hXS, ← hZS, ← hES] at hPs
  have hmay : ES = 0 → okB NS ZS XS = true := fun h => by rw [hNS, hZS, hXS]; exact f_may (by rw [← hES]; exact h)
  have HAL := Lib.hid hAl
  have HPA := Lib.hid hPa
  have HPS := Lib.hid hPs
  have HPT := Lib.hid hPt
  have HPE := Lib.hid hpe
  have HPE0 := Lib.hid hpe0
  have HBACK := Lib.hid hback
  have HMAY := Lib.hid hmay
  have HT := Lib.hid hT
  have HA := Lib.hid ha
  have HS := Lib.hid hS
  have HX := Lib.hid hx
  have hb0 : Below w.heap.size w (w.alloc (.cells #[.bool neg, .slice A n c, .int .i64 exp] 24)) := (Below.refl _ w).alloc (Nat.le_refl _) _
  have m0 := World.alloc_heap_new w (.cells #[.bool neg, .slice A n c, .int .i64 exp] 24)
  have HB0 := Lib.hid hb0
  have HM0 := Lib.hid m0
  obtain ⟨PE, hPE⟩ : ∃ x, x = pE neg xs exp := ⟨_, rfl⟩
  rw [← hPE] at HPA HPE HPE0
  clear hAl hPa hPs hPt hpe hpe0 hback hmay hT ha hS hb0 m0 hNS hXS hZS hES hPE hx
  unfold dv at HPA HPS HPT ⊢
  go_enter Tryz.func4, Tryz.ntmps4
  go_wp2_with fail
  refine (HAL.out _).mono ?_
  rintro e w1 ⟨rfl, hb1⟩
  have HB1 := Lib.hid (HB0.out.trans (hb1.mono (by simp)))
  have m1 := heldB hb1 HM0.out
  obtain ⟨q0, q1, q2⟩ := (⟨cell_of m1 rfl, cell_of m1 rfl, cell_of m1 rfl⟩ : w1.cell? ⟨w.heap.size, 0, none⟩ = some (.bool neg) ∧ w1.cell? ⟨w.heap.size, 1, none⟩ = some (.slice A n c) ∧ w1.cell? ⟨w.heap.size, 2, none⟩ = some (.int .i64 exp))
  have HM1 := Lib.hid m1
  clear hb1 m1
  go_wp2_with fail
  refine (HPA.out w1 (HT.out.below HB1.out) (HA.out.below HB1.out HS.out) (fun b h => by have := HS.out b h; have := HB1.out.size; omega)).mono ?_
  rintro e w2 ⟨t, rfl, ht, hts, hb2⟩
  have HB2 := Lib.hid (HB1.out.trans (hb2.mono HB1.out.size))
  have HM2 := Lib.hid (heldB hb2 HM1.out)
  have HTT := Lib.hid ht
  clear hb2 q0 q1 q2
  have hPT := HPT.out t w2 hts
  rw [ht] at hPT
  rcases HPE.out with rfl | rfl
  · obtain ⟨k1, k2, k3, k4⟩ := HBACK.out (HPE0.out rfl)
    rw [k1, k2, k3, k4] at hPT
    have HPT2 := Lib.hid hPT
    clear hPT k1 k2 k3 k4
    go_wp2_with fail
    refine HPT2.out.mono ?_
    rintro e w3 ⟨A3, n3, c3, rfl, hr3, hb3⟩
    have hw3 := HB2.out.trans (hb3.mono HB2.out.size)
    have m3 := heldC (.cells #[.bool neg, .slice A3 n3 c3, .int .i64 exp] 24) (heldB hb3 HM2.out)
    have r3 := (hr3.rd.below ((Below.refl w3.heap.size w3).alloc (Nat.le_refl _) (.cells #[.bool neg, .slice A3 n3 c3, .int .i64 exp] 24)) (fun b h => h.2))
    have hw4 := hw3.alloc hw3.size (.cells #[.bool neg, .slice A3 n3 c3, .int .i64 exp] 24)
    have hSm := DSame_c (c := c3) (d := c) neg neg exp exp (w3.alloc (.cells #[.bool neg, .slice A3 n3 c3, .int .i64 exp] 24)) r3 (HA.out.below hw4 HS.out) (fun b h => by have := h.2; simp; omega) (fun b h => by have := HS.out b h; have := hw4.size; omega) (by have := hr3.n_le; unfold maxLen at this; omega) hn
    rw [decide_eq_true (show neg = neg ∧ exp = exp ∧ xs = xs from ⟨rfl, rfl, rfl⟩)] at hSm
    unfold dv at hSm
    have hm4 := World.alloc_heap_new w3 (.cells #[.bool neg, .slice A3 n3 c3, .int .i64 exp] 24)
    obtain ⟨q0, q1, q2⟩ := (⟨cell_of m3 rfl, cell_of m3 rfl, cell_of m3 rfl⟩ : (w3.alloc (.cells #[.bool neg, .slice A3 n3 c3, .int .i64 exp] 24)).cell? ⟨w.heap.size, 0, none⟩ = some (.bool neg) ∧ (w3.alloc (.cells #[.bool neg, .slice A3 n3 c3, .int .i64 exp] 24)).cell? ⟨w.heap.size, 1, none⟩ = some (.slice A n c) ∧ (w3.alloc (.cells #[.bool neg, .slice A3 n3 c3, .int .i64 exp] 24)).cell? ⟨w.heap.size, 2, none⟩ = some (.int .i64 exp))
    have HSM := Lib.hid hSm
    have HW4 := Lib.hid hw4
    clear hw3 r3 hSm hb3 hr3 m3 hw4 hm4
    go_wp2_with (go_at_call 18; refine (num2_c _ _).mono ?_; rintro e w' ⟨rfl, rfl⟩)
    refine HSM.out.mono ?_
    rintro e w4 ⟨rfl, hb4⟩
    have HW5 := Lib.hid (HW4.out.trans (hb4.mono HW4.out.size))
    clear q0 q1 q2 hb4
    go_wp2_with (go_at_call 18; refine (num2_c _ _).mono ?_; rintro e w' ⟨rfl, rfl⟩)
    refine (HPS.out _).mono ?_
    rintro e w5 ⟨A5, n5, c5, rfl, hr5, hb5⟩
    have hw5 := HW5.out.trans (hb5.mono HW5.out.size)
    have hw6 := hw5.alloc hw5.size (.cells #[.bool NS, .slice A5 n5 c5, .int .i64 XS] 24)
    have r6 := hr5.rd.below ((Below.refl w5.heap.size w5).alloc (Nat.le_refl _) (.cells #[.bool NS, .slice A5 n5 c5, .int .i64 XS] 24)) (fun b h => h.2)
    have m6 := World.alloc_heap_new w5 (.cells #[.bool NS, .slice A5 n5 c5, .int .i64 XS] 24)
    have hn5 : n5 ≤ 9223372036854775807 := by have := hr5.n_le; unfold maxLen at this; omega
    have hS6 : ∀ b, (fun b => w4.heap.size ≤ b ∧ b < w5.heap.size) b → b < (w5.alloc (.cells #[.bool NS, .slice A5 n5 c5, .int .i64 XS] 24)).heap.size := fun b h => by have := h.2; simp; omega
    have hl5 := hr5.l32
    have hPY := DPrint_c (c := c5) NS XS (w5.alloc (.cells #[.bool NS, .slice A5 n5 c5, .int .i64 XS] 24)) (HT.out.below hw6) r6 hS6 hn5
    unfold dv at hPY
    have HPY := Lib.hid hPY
    have HM6 := Lib.hid m6
    have HW6 := Lib.hid hw6
    have HR6 := Lib.hid r6
    have HS6 := Lib.hid hS6
    have HL5 := Lib.hid hl5
    clear hPY hw5 hw6 r6 m6 hS6 hl5 hb5 hr5
    go_wp2_with fail
    refine HPY.out.mono ?_
    rintro e w7 ⟨u, rfl, hu, hus, hb7⟩
    have HW7 := Lib.hid (HW6.out.trans (hb7.mono HW6.out.size))
    have HM7 := Lib.hid (heldB hb7 HM6.out)
    have HR7 := Lib.hid (HR6.out.below hb7 HS6.out)
    have hS7 : ∀ b, (fun b => w4.heap.size ≤ b ∧ b < w5.heap.size) b → b < w7.heap.size := fun b h => by have := HS6.out b h; have := hb7.size; omega
    have HS7 := Lib.hid hS7
    have hPU := HPT.out u w7 hus
    rw [hu] at hPU
    clear hb7 hu hS7 HR6 HS6 HM6
    by_cases hes : ES = 0
    · obtain ⟨k1, k2, k3, k4⟩ := pT_back HL5.out (HMAY.out hes)
      have hpy : pE NS ZS XS = 0 := by unfold pE; rw [if_pos (HMAY.out hes)]
      have hoe : okE NS ZS XS = 0 := by unfold okE; rw [if_pos (HMAY.out hes)]
      rw [k1, k2, k3, k4] at hPU
      have HPU := Lib.hid hPU
      have HOE := Lib.hid hoe
      rw [hpy]
      subst hes
      clear hPU k1 k2 k3 k4 hpy hoe
      go_wp2_with fail
      refine HPU.out.mono ?_
      rintro e w8 ⟨A8, n8, c8, rfl, hr8, hb8⟩
      have hw8 := HW7.out.trans (hb8.mono HW7.out.size)
      have hw9 := hw8.alloc hw8.size (.cells #[.bool NS, .slice A8 n8 c8, .int .i64 XS] 24)
      have m9 := heldC (.cells #[.bool NS, .slice A8 n8 c8, .int .i64 XS] 24) (heldB hb8 HM7.out)
      have z9 := World.alloc_heap_new w8 (.cells #[.bool NS, .slice A8 n8 c8, .int .i64 XS] 24)
      have hal : Below w8.heap.size w8 (w8.alloc (.cells #[.bool NS, .slice A8 n8 c8, .int .i64 XS] 24)) := (Below.refl _ _).alloc (Nat.le_refl _) _
      have hS8 : ∀ b, (fun b => w4.heap.size ≤ b ∧ b < w5.heap.size) b → b < w8.heap.size := fun b h => by have := HS7.out b h; have := hb8.size; omega
      have r9 := (HR7.out.below hb8 HS7.out).below hal hS8
      have r8 := hr8.rd.below hal (fun b h => h.2)
      have hn8 : n8 ≤ 9223372036854775807 := by have := hr8.n_le; unfold maxLen at this; omega
      have hS9 : ∀ b, (fun b => w4.heap.size ≤ b ∧ b < w5.heap.size) b → b < (w8.alloc (.cells #[.bool NS, .slice A8 n8 c8, .int .i64 XS] 24)).heap.size := fun b h => by have := hS8 b h; simp; omega
      have hCk := DCheck_c (c := c5) NS XS (w8.alloc (.cells #[.bool NS, .slice A8 n8 c8, .int .i64 XS] 24)) r9 hS9 hn5
      rw [HOE.out] at hCk
      have hSm := fun V (hb : Below (w8.alloc (.cells #[.bool NS, .slice A8 n8 c8, .int .i64 XS] 24)).heap.size (w8.alloc (.cells #[.bool NS, .slice A8 n8 c8, .int .i64 XS] 24)) V) => DSame_c (c := c5) (d := c8) NS NS XS XS V (r9.below hb hS9) (r8.below hb (fun b h => by have := h.2; simp; omega)) (fun b h => by have := hS9 b h; have := hb.size; omega) (fun b h => by have h2 : b < w8.heap.size := h.2; have := hb.size; simp at this; omega) hn5 hn8
      rw [decide_eq_true (show NS = NS ∧ XS = XS ∧ ZS = ZS from ⟨rfl, rfl, rfl⟩)] at hSm
      unfold dv at hCk hSm
      obtain ⟨q0, q1, q2⟩ := (⟨cell_of m9 rfl, cell_of m9 rfl, cell_of m9 rfl⟩ : (w8.alloc (.cells #[.bool NS, .slice A8 n8 c8, .int .i64 XS] 24)).cell? ⟨w5.heap.size, 0, none⟩ = some (.bool NS) ∧ (w8.alloc (.cells #[.bool NS, .slice A8 n8 c8, .int .i64 XS] 24)).cell? ⟨w5.heap.size, 1, none⟩ = some (.slice A5 n5 c5) ∧ (w8.alloc (.cells #[.bool NS, .slice A8 n8 c8, .int .i64 XS] 24)).cell? ⟨w5.heap.size, 2, none⟩ = some (.int .i64 XS))
      have HCK := Lib.hid hCk
      have HSM := Lib.hid hSm
      have HW9 := Lib.hid hw9
      have HM9 := Lib.hid m9
      have HZ9 := Lib.hid z9
      clear hCk hSm hw9 m9 z9 hw8 hal hS8 r9 r8 hS9 hb8 hr8
      go_wp2_with (go_at_call 18; refine (num2_c _ _).mono ?_; rintro e w' ⟨rfl, rfl⟩)
      refine HCK.out.mono ?_
      rintro e w10 ⟨rfl, hb10⟩
      have m10 := heldB hb10 HM9.out
      have z10 := heldB hb10 HZ9.out
      obtain ⟨y0, y1, y2⟩ := (⟨cell_of m10 rfl, cell_of m10 rfl, cell_of m10 rfl⟩ : w10.cell? ⟨w5.heap.size, 0, none⟩ = some (.bool NS) ∧ w10.cell? ⟨w5.heap.size, 1, none⟩ = some (.slice A5 n5 c5) ∧ w10.cell? ⟨w5.heap.size, 2, none⟩ = some (.int .i64 XS))
      obtain ⟨x0, x1, x2⟩ := (⟨cell_of z10 rfl, cell_of z10 rfl, cell_of z10 rfl⟩ : w10.cell? ⟨w8.heap.size, 0, none⟩ = some (.bool NS) ∧ w10.cell? ⟨w8.heap.size, 1, none⟩ = some (.slice A8 n8 c8) ∧ w10.cell? ⟨w8.heap.size, 2, none⟩ = some (.int .i64 XS))
      have HSM2 := Lib.hid (HSM.out w10 hb10)
      have HW10 := Lib.hid (HW9.out.trans (hb10.mono HW9.out.size))
      clear q0 q1 q2 m10 z10 hb10
      go_wp2_with (go_at_call 18; refine (num2_c _ _).mono ?_; rintro e w' ⟨rfl, rfl⟩)
      refine HSM2.out.mono ?_
      rintro e w11 ⟨rfl, hb11⟩
      have HW11 := Lib.hid (HW10.out.trans (hb11.mono HW10.out.size))
      clear y0 y1 y2 x0 x1 x2 hb11
      go_wp2
      go_ret
      exact ⟨rfl, HW11.out⟩
    · have hne : ((ES : Int) != 0) = true := by rw [bne_iff_ne]; omega
      have hne2 : ((ES : Int) == 0) = false := by rw [beq_eq_false_iff_ne]; omega
      have HPU := Lib.hid hPU
      clear hPU hes
      go_wp2_with fail
      refine HPU.out.mono ?_
      rintro e w8 ⟨A8, n8, c8, rfl, hr8, hb8⟩
      have hw8 := HW7.out.trans (hb8.mono HW7.out.size)
      have HW9 := Lib.hid (hw8.alloc hw8.size (.cells #[.bool (fN (pT NS ZS XS)), .slice A8 n8 c8, .int .i64 (fX (pT NS ZS XS))] 24))
      clear hw8 hb8 hr8
      go_wp2_with (go_at_call 18; refine (num2_c _ _).mono ?_; rintro e w' ⟨rfl, rfl⟩)
      go_ret
      exact ⟨rfl, HW9.out⟩
  · have HPT2 := Lib.hid hPT
    clear hPT
    go_wp2_with fail
    refine HPT2.out.mono ?_
    rintro e w3 ⟨A3, n3, c3, rfl, hr3, hb3⟩
    have hw3 := HB2.out.trans (hb3.mono HB2.out.size)
    have HW5 := Lib.hid (hw3.alloc hw3.size (.cells #[.bool (fN (pT neg xs exp)), .slice A3 n3 c3, .int .i64 (fX (pT neg xs exp))] 24))
    clear hb3 hr3 hw3
    go_wp2_with (go_at_call 18; refine (num2_c _ _).mono ?_; rintro e w' ⟨rfl, rfl⟩)
    refine (HPS.out _).mono ?_
    rintro e w5 ⟨A5, n5, c5, rfl, hr5, hb5⟩
    have hw5 := HW5.out.trans (hb5.mono HW5.out.size)
    have hw6 := hw5.alloc hw5.size (.cells #[.bool NS, .slice A5 n5 c5, .int .i64 XS] 24)
    have r6 := hr5.rd.below ((Below.refl w5.heap.size w5).alloc (Nat.le_refl _) (.cells #[.bool NS, .slice A5 n5 c5, .int .i64 XS] 24)) (fun b h => h.2)
    have m6 := World.alloc_heap_new w5 (.cells #[.bool NS, .slice A5 n5 c5, .int .i64 XS] 24)
    have hn5 : n5 ≤ 9223372036854775807 := by have := hr5.n_le; unfold maxLen at this; omega
    have hS6 : ∀ b, (fun b => (w3.alloc (.cells #[.bool (fN (pT neg xs exp)), .slice A3 n3 c3, .int .i64 (fX (pT neg xs exp))] 24)).heap.size ≤ b ∧ b < w5.heap.size) b → b < (w5.alloc (.cells #[.bool NS, .slice A5 n5 c5, .int .i64 XS] 24)).heap.size := fun b h => by have := h.2; simp; omega
    have hl5 := hr5.l32
    have hPY := DPrint_c (c := c5) NS XS (w5.alloc (.cells #[.bool NS, .slice A5 n5 c5, .int .i64 XS] 24)) (HT.out.below hw6) r6 hS6 hn5
    unfold dv at hPY
    have HPY := Lib.hid hPY
    have HM6 := Lib.hid m6
    have HW6 := Lib.hid hw6
    have HR6 := Lib.hid r6
    have HS6 := Lib.hid hS6
    have HL5 := Lib.hid hl5
    clear hPY hw5 hw6 r6 m6 hS6 hl5 hb5 hr5
    go_wp2_with fail
    refine HPY.out.mono ?_
    rintro e w7 ⟨u, rfl, hu, hus, hb7⟩
    have HW7 := Lib.hid (HW6.out.trans (hb7.mono HW6.out.size))
    have HM7 := Lib.hid (heldB hb7 HM6.out)
    have HR7 := Lib.hid (HR6.out.below hb7 HS6.out)
    have hS7 : ∀ b, (fun b => (w3.alloc (.cells #[.bool (fN (pT neg xs exp)), .slice A3 n3 c3, .int .i64 (fX (pT neg xs exp))] 24)).heap.size ≤ b ∧ b < w5.heap.size) b → b < w7.heap.size := fun b h => by have := HS6.out b h; have := hb7.size; omega
    have HS7 := Lib.hid hS7
    have hPU := HPT.out u w7 hus
    rw [hu] at hPU
    clear hb7 hu hS7 HR6 HS6 HM6
    by_cases hes : ES = 0
    · obtain ⟨k1, k2, k3, k4⟩ := pT_back HL5.out (HMAY.out hes)
      have hpy : pE NS ZS XS = 0 := by unfold pE; rw [if_pos (HMAY.out hes)]
      have hoe : okE NS ZS XS = 0 := by unfold okE; rw [if_pos (HMAY.out hes)]
      rw [k1, k2, k3, k4] at hPU
      have HPU := Lib.hid hPU
      have HOE := Lib.hid hoe
      rw [hpy]
      subst hes
      clear hPU k1 k2 k3 k4 hpy hoe
      go_wp2_with fail
      refine HPU.out.mono ?_
      rintro e w8 ⟨A8, n8, c8, rfl, hr8, hb8⟩
      have hw8 := HW7.out.trans (hb8.mono HW7.out.size)
      have hw9 := hw8.alloc hw8.size (.cells #[.bool NS, .slice A8 n8 c8, .int .i64 XS] 24)
      have m9 := heldC (.cells #[.bool NS, .slice A8 n8 c8, .int .i64 XS] 24) (heldB hb8 HM7.out)
      have z9 := World.alloc_heap_new w8 (.cells #[.bool NS, .slice A8 n8 c8, .int .i64 XS] 24)
      have hal : Below w8.heap.size w8 (w8.alloc (.cells #[.bool NS, .slice A8 n8 c8, .int .i64 XS] 24)) := (Below.refl _ _).alloc (Nat.le_refl _) _
      have hS8 : ∀ b, (fun b => (w3.alloc (.cells #[.bool (fN (pT neg xs exp)), .slice A3 n3 c3, .int .i64 (fX (pT neg xs exp))] 24)).heap.size ≤ b ∧ b < w5.heap.size) b → b < w8.heap.size := fun b h => by have := HS7.out b h; have := hb8.size; omega
      have r9 := (HR7.out.below hb8 HS7.out).below hal hS8
      have r8 := hr8.rd.below hal (fun b h => h.2)
      have hn8 : n8 ≤ 9223372036854775807 := by have := hr8.n_le; unfold maxLen at this; omega
      have hS9 : ∀ b, (fun b => (w3.alloc (.cells #[.bool (fN (pT neg xs exp)), .slice A3 n3 c3, .int .i64 (fX (pT neg xs exp))] 24)).heap.size ≤ b ∧ b < w5.heap.size) b → b < (w8.alloc (.cells #[.bool NS, .slice A8 n8 c8, .int .i64 XS] 24)).heap.size := fun b h => by have := hS8 b h; simp; omega
      have hCk := DCheck_c (c := c5) NS XS (w8.alloc (.cells #[.bool NS, .slice A8 n8 c8, .int .i64 XS] 24)) r9 hS9 hn5
      rw [HOE.out] at hCk
      have hSm := fun V (hb : Below (w8.alloc (.cells #[.bool NS, .slice A8 n8 c8, .int .i64 XS] 24)).heap.size (w8.alloc (.cells #[.bool NS, .slice A8 n8 c8, .int .i64 XS] 24)) V) => DSame_c (c := c5) (d := c8) NS NS XS XS V (r9.below hb hS9) (r8.below hb (fun b h => by have := h.2; simp; omega)) (fun b h => by have := hS9 b h; have := hb.size; omega) (fun b h => by have h2 : b < w8.heap.size := h.2; have := hb.size; simp at this; omega) hn5 hn8
      rw [decide_eq_true (show NS = NS ∧ XS = XS ∧ ZS = ZS from ⟨rfl, rfl, rfl⟩)] at hSm
      unfold dv at hCk hSm
      obtain ⟨q0, q1, q2⟩ := (⟨cell_of m9 rfl, cell_of m9 rfl, cell_of m9 rfl⟩ : (w8.alloc (.cells #[.bool NS, .slice A8 n8 c8, .int .i64 XS] 24)).cell? ⟨w5.heap.size, 0, none⟩ = some (.bool NS) ∧ (w8.alloc (.cells #[.bool NS, .slice A8 n8 c8, .int .i64 XS] 24)).cell? ⟨w5.heap.size, 1, none⟩ = some (.slice A5 n5 c5) ∧ (w8.alloc (.cells #[.bool NS, .slice A8 n8 c8, .int .i64 XS] 24)).cell? ⟨w5.heap.size, 2, none⟩ = some (.int .i64 XS))
      have HCK := Lib.hid hCk
      have HSM := Lib.hid hSm
      have HW9 := Lib.hid hw9
      have HM9 := Lib.hid m9
      have HZ9 := Lib.hid z9
      clear hCk hSm hw9 m9 z9 hw8 hal hS8 r9 r8 hS9 hb8 hr8
      go_wp2_with (go_at_call 18; refine (num2_c _ _).mono ?_; rintro e w' ⟨rfl, rfl⟩)
      refine HCK.out.mono ?_
      rintro e w10 ⟨rfl, hb10⟩
      have m10 := heldB hb10 HM9.out
      have z10 := heldB hb10 HZ9.out
      obtain ⟨y0, y1, y2⟩ := (⟨cell_of m10 rfl, cell_of m10 rfl, cell_of m10 rfl⟩ : w10.cell? ⟨w5.heap.size, 0, none⟩ = some (.bool NS) ∧ w10.cell? ⟨w5.heap.size, 1, none⟩ = some (.slice A5 n5 c5) ∧ w10.cell? ⟨w5.heap.size, 2, none⟩ = some (.int .i64 XS))
      obtain ⟨x0, x1, x2⟩ := (⟨cell_of z10 rfl, cell_of z10 rfl, cell_of z10 rfl⟩ : w10.cell? ⟨w8.heap.size, 0, none⟩ = some (.bool NS) ∧ w10.cell? ⟨w8.heap.size, 1, none⟩ = some (.slice A8 n8 c8) ∧ w10.cell? ⟨w8.heap.size, 2, none⟩ = some (.int .i64 XS))
      have HSM2 := Lib.hid (HSM.out w10 hb10)
      have HW10 := Lib.hid (HW9.out.trans (hb10.mono HW9.out.size))
      clear q0 q1 q2 m10 z10 hb10
      go_wp2_with (go_at_call 18; refine (num2_c _ _).mono ?_; rintro e w' ⟨rfl, rfl⟩)
      refine HSM2.out.mono ?_
      rintro e w11 ⟨rfl, hb11⟩
      have HW11 := Lib.hid (HW10.out.trans (hb11.mono HW10.out.size))
      clear y0 y1 y2 x0 x1 x2 hb11
      go_wp2
      go_ret
      exact ⟨rfl, HW11.out⟩
    · have hne : ((ES : Int) != 0) = true := by rw [bne_iff_ne]; omega
      have hne2 : ((ES : Int) == 0) = false := by rw [beq_eq_false_iff_ne]; omega
      have HPU := Lib.hid hPU
      clear hPU hes
      go_wp2_with fail
      refine HPU.out.mono ?_
      rintro e w8 ⟨A8, n8, c8, rfl, hr8, hb8⟩
      have hw8 := HW7.out.trans (hb8.mono HW7.out.size)
      have HW9 := Lib.hid (hw8.alloc hw8.size (.cells #[.bool (fN (pT NS ZS XS)), .slice A8 n8 c8, .int .i64 (fX (pT NS ZS XS))] 24))
      clear hw8 hb8 hr8
      go_wp2_with (go_at_call 18; refine (num2_c _ _).mono ?_; rintro e w' ⟨rfl, rfl⟩)
      go_ret
      exact ⟨rfl, HW9.out⟩
end Go.Proofs.YtjhaoncganoaaaaGreatDoor
