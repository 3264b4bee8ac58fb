/-
  The walk of the law DecInts: it returns true, whatever the two numbers are.
-/
import Derived.Test.YtkcejhjhpbgjaaaGreatDoorDint
import Derived.Test.YtkcejhjhpbgjaaaGreatDoorDwhole
import Derived.Test.YtkcejhjhpbgjaaaGreatDoorDsumw
set_option linter.unusedVariables false
set_option linter.unusedSimpArgs false
namespace Go.Proofs.YtkcejhjhpbgjaaaGreatDoor
open Go.RowKit

theorem sg_prod (na nb : Bool) (x y : Nat) : sg (na != nb) (x * y) = sg na x * sg nb y := by
  cases na <;> cases nb <;> simp [sg, Int.neg_mul, Int.mul_neg]
theorem sg_abs (z : Int) : sg (decide (z < 0)) z.natAbs = z := by
  by_cases h : z < 0
  · rw [decide_eq_true h]; show -((z.natAbs : Nat) : Int) = z; omega
  · rw [decide_eq_false h]; show ((z.natAbs : Nat) : Int) = z; omega
theorem sp_nat (k : Nat) : sp (k : Int) = 10 ^ k * sp 0 := by
  have := sp_add (e := 0) (p := k) (by omega)
  rwa [Int.zero_add] at this
/-- A number as a decimal. -/
theorem int_of {z : Int} (h : z.natAbs < 10 ^ 40) : ∃ k : Nat, stX z.natAbs 0 = (k : Int) ∧ okB (stN (decide (z < 0)) z.natAbs 0) (stZ z.natAbs 0) (k : Int) = true ∧ L32 (stZ z.natAbs 0) ∧ sg (stN (decide (z < 0)) z.natAbs 0) (val (stZ z.natAbs 0) * 10 ^ k) = z := by
  obtain ⟨q1, q2, q3, q4⟩ := settle_may (s := decide (z < 0)) (lo := 0) (Z := z.natAbs) (by omega) (stE_small h)
  have hx : 0 ≤ stX z.natAbs 0 := by
    rcases Nat.eq_zero_or_pos z.natAbs with h0 | h0
    · rw [h0, (st_zero false 0).2.2.1]; omega
    · exact q4 h0
  obtain ⟨k, hk⟩ : ∃ k : Nat, stX z.natAbs 0 = (k : Int) := ⟨(stX z.natAbs 0).toNat, by omega⟩
  rw [hk] at q1 q3
  refine ⟨k, hk, q1, q2, ?_⟩
  have h1 : sg (stN (decide (z < 0)) z.natAbs 0) (val (stZ z.natAbs 0) * 10 ^ k) * (sp 0 : Int) = z * (sp 0 : Int) := by
    rw [← sg_mul, Nat.mul_assoc, ← sp_nat]
    refine Eq.trans q3 ?_
    rw [sg_abs]
  have hp := sp_pos 0
  exact Int.eq_of_mul_eq_mul_right (by omega) h1
theorem int_sv {N : Bool} {v k : Nat} {z : Int} (h : sg N (v * 10 ^ k) = z) : sv N v (k : Int) = z * (sp 0 : Int) := by
  unfold sv
  rw [sp_nat, ← Nat.mul_assoc, sg_mul, h]
theorem addi_int {na nb nc : Bool} {za zb zc : List Nat} {a b : Int} {ka kb kc : Nat} (hc : okB nc zc (kc : Int) = true) (lc : L32 zc)
    (ha1 : sg na (val za * 10 ^ ka) = a) (hb1 : sg nb (val zb * 10 ^ kb) = b) (hc1 : sg nc (val zc * 10 ^ kc) = a + b) {s : Bool} {Z : Nat} {lo : Int} (h1 : s = addS na (val za) ka nb (val zb) kb) (h2 : Z = addZ na (val za) ka nb (val zb) kb) (h3 : lo = lo2 ka kb) :
    stE Z lo = 0 ∧ stN s Z lo = nc ∧ stX Z lo = kc ∧ stZ Z lo = zc := by
  refine settle_back lc hc (by rw [h3]; unfold lo2; omega) ?_
  rw [h1, h2, h3, add_sv _ _ _ _ _ _ (by omega) (by omega), int_sv ha1, int_sv hb1, int_sv hc1, Int.add_mul]
theorem muli_int {na nb nc : Bool} {za zb zc : List Nat} {a b : Int} {ka kb kc : Nat} (hc : okB nc zc (kc : Int) = true) (lc : L32 zc)
    (ha1 : sg na (val za * 10 ^ ka) = a) (hb1 : sg nb (val zb * 10 ^ kb) = b) (hc1 : sg nc (val zc * 10 ^ kc) = a * b) {lo : Int} (h3 : lo = (ka : Int) + (kb : Int)) :
    stE (val za * val zb) lo = 0 ∧ stN (na != nb) (val za * val zb) lo = nc ∧ stX (val za * val zb) lo = kc ∧ stZ (val za * val zb) lo = zc := by
  refine settle_back lc hc (by omega) ?_
  have h : val za * val zb * 10 ^ (ka + kb) = val za * 10 ^ ka * (val zb * 10 ^ kb) := by rw [Nat.pow_add]; ac_rfl
  rw [int_sv hc1, h3, show (ka : Int) + (kb : Int) = ((ka + kb : Nat) : Int) by omega, ← sg_mul, sp_nat, ← Nat.mul_assoc, h, sg_mul, sg_prod, ha1, hb1]

set_option maxRecDepth 100000 in
set_option maxHeartbeats 4000000 in
theorem DecInts_c (a0 b0 : Int) (w : World) :
    Calls Tryz.prog 8 #[.int .i64 a0, .int .i64 b0] w fun e w' => e = .returned (.bool true) ∧ Below w.heap.size w w' := by
  obtain ⟨a, ha⟩ : ∃ a, a0.tmod 67108864 = a := ⟨_, rfl⟩
  obtain ⟨b, hb⟩ : ∃ b, b0.tmod 67108864 = b := ⟨_, rfl⟩
  have hab : -67108864 < a ∧ a < 67108864 := by
    rw [← ha]
    have h1 := Int.tmod_lt_of_pos a0 (show (0 : Int) < 67108864 by omega)
    have h2 := Int.lt_tmod_of_pos a0 (show (0 : Int) < 67108864 by omega)
    omega
  have hbb : -67108864 < b ∧ b < 67108864 := by
    rw [← hb]
    have h1 := Int.tmod_lt_of_pos b0 (show (0 : Int) < 67108864 by omega)
    have h2 := Int.lt_tmod_of_pos b0 (show (0 : Int) < 67108864 by omega)
    omega
  obtain ⟨pr, hpr⟩ : ∃ pr, a * b = pr := ⟨_, rfl⟩
  have hprb : pr.natAbs ≤ 4503599627370496 := by
    rw [← hpr, Int.natAbs_mul]
    have h1 : a.natAbs ≤ 67108864 := by omega
    have h2 : b.natAbs ≤ 67108864 := by omega
    exact Nat.mul_le_mul h1 h2
  have hpr1 : -4503599627370496 ≤ pr ∧ pr ≤ 4503599627370496 := by omega
  have big : ∀ z : Int, z.natAbs ≤ 4503599627370496 → z.natAbs < 10 ^ 40 := fun z h => by have := ten19; omega
  obtain ⟨ka, xa, oa, la, va⟩ := int_of (big a (by omega))
  obtain ⟨kb, xb, ob, lb, vb⟩ := int_of (big b (by omega))
  obtain ⟨ks, xs, os, ls, vs⟩ := int_of (big (a + b) (by omega))
  obtain ⟨kp, xp, op, lp, vp⟩ := int_of (big pr hprb)
  have hia := fun W => DInt_c a W (by omega) (by omega)
  have hib := fun W => DInt_c b W (by omega) (by omega)
  have his := fun W => DInt_c (a + b) W (by omega) (by omega)
  rw [xa] at hia
  rw [xb] at hib
  rw [xs] at his
  generalize stN (decide (a < 0)) a.natAbs 0 = Na at *
  generalize stZ a.natAbs 0 = Za at *
  generalize stN (decide (b < 0)) b.natAbs 0 = Nb at *
  generalize stZ b.natAbs 0 = Zb at *
  generalize stN (decide (a + b < 0)) (a + b).natAbs 0 = Ns at *
  generalize stZ (a + b).natAbs 0 = Zs at *
  generalize stN (decide (pr < 0)) pr.natAbs 0 = Np at *
  generalize stZ pr.natAbs 0 = Zp at *
  have okab : okE2 Na Za ka Nb Zb kb = 0 := okE2_zero.2 ⟨oa, ob⟩
  obtain ⟨s1, s2, s3, s4⟩ := addi_int os ls va vb vs rfl rfl rfl
  obtain ⟨t1, t2, t3, t4⟩ := muli_int op lp va vb (vp.trans hpr.symm) rfl
  have hadd := fun V (S : Nat → Prop) A n c B m d (h1 : Rd V S A n Za) (h2 : Rd V S B m Zb) hs hn hm => (DAdd_v (c := c) (d := d) Na Nb ka kb V h1 h2 hs hn hm).mono fun e w' ⟨h, hb⟩ => (⟨h.answ (N := Ns) (X := ks) (L := Zs) (F := 0) (by rw [okab]; exact s2) (by rw [okab]; exact s3) (by rw [okab]; exact s4) (by rw [okab]; exact s1), hb⟩ : Answ e w' V.heap.size Ns ks Zs 0 ∧ Below V.heap.size V w')
  have hmul := fun V (S : Nat → Prop) A n c B m d (h1 : Rd V S A n Za) (h2 : Rd V S B m Zb) hs hn hm => (DMul_v (c := c) (d := d) Na Nb ka kb V h1 h2 hs hn hm).mono fun e w' ⟨h, hb⟩ => (⟨h.answ (N := Np) (X := kp) (L := Zp) (F := 0) (by rw [okab]; exact t2) (by rw [okab]; exact t3) (by rw [okab]; exact t4) (by rw [okab]; exact t1), hb⟩ : Answ e w' V.heap.size Np kp Zp 0 ∧ Below V.heap.size V w')
  have hcv : cmpV Na Za ka Nb Zb kb = cmpI a b := by
    unfold cmpV
    rw [if_pos okab, int_sv va, int_sv vb, cmpI_mul (sp_pos 0)]
  have hcmp := fun V (S : Nat → Prop) A n c B m d (h1 : Rd V S A n Za) (h2 : Rd V S B m Zb) hs hn hm => DCompare_v (c := c) (d := d) Na Nb ka kb V h1 h2 hs hn hm
  rw [okab, hcv] at hcmp
  have hwv : val Zp * 10 ^ kp ≤ 9007199254740992 := by
    have h1 : (sg Np (val Zp * 10 ^ kp)).natAbs ≤ 9007199254740992 := by rw [vp]; omega
    rwa [sg_natAbs] at h1
  have hwh := fun V (S : Nat → Prop) A n c (h1 : Rd V S A n Zp) hs hn => DWhole_ok (c := c) (p := kp) Np V h1 hs hn op hwv
  rw [vp] at hwh
  have hsam := fun V (S1 S2 : Nat → Prop) A1 n1 c1 A2 n2 c2 (h1 : Rd V S1 A1 n1 Zs) (h2 : Rd V S2 A2 n2 Zs) hS1 hS2 hn1 hn2 => DSame_eq (c := c1) (d := c2) Ns ks V h1 h2 hS1 hS2 hn1 hn2
  unfold Answ at hadd hmul
  unfold dv at hia hib his hadd hmul hcmp hwh hsam
  have hords : (cmpI a b = -1 ∧ a < b) ∨ (cmpI a b = 0 ∧ a = b) ∨ (cmpI a b = 1 ∧ b < a) := by
    rcases cmpI_three a b with ⟨h, e⟩ | ⟨h, e⟩ | ⟨h, e⟩
    · exact .inl ⟨e, h⟩
    · exact .inr (.inl ⟨e, h⟩)
    · exact .inr (.inr ⟨e, h⟩)
  obtain ⟨cm, hcm⟩ : ∃ z, cmpI a b = z := ⟨_, rfl⟩
  rw [hcm] at hcmp hords
  have hltb : (decide (cm < 0) == decide (a < b)) = true := by
    rcases hords with ⟨h, e⟩ | ⟨h, e⟩ | ⟨h, e⟩
    · rw [h, decide_eq_true e]; rfl
    · rw [h, decide_eq_false (show ¬ a < b by omega)]; rfl
    · rw [h, decide_eq_false (show ¬ a < b by omega)]; rfl
  have heqb : ((cm == 0) == (a == b)) = true := by
    rcases hords with ⟨h, e⟩ | ⟨h, e⟩ | ⟨h, e⟩
    · rw [h, show (a == b) = false by rw [beq_eq_false_iff_ne]; omega]; rfl
    · rw [h, show (a == b) = true by rw [beq_iff_eq]; exact e]; rfl
    · rw [h, show (a == b) = false by rw [beq_eq_false_iff_ne]; omega]; rfl
  have hwadd : IntKind.i64.wrap (a + b) = a + b := IntWalk.i64_in _ (by omega)
  have hwmul : IntKind.i64.wrap (a * b) = pr := by rw [hpr]; exact IntWalk.i64_in _ (by omega)
  have IA := Lib.hid hia
  have IB := Lib.hid hib
  have IS := Lib.hid his
  have ADD := Lib.hid hadd
  have MUL := Lib.hid hmul
  have CMP := Lib.hid hcmp
  have WH := Lib.hid hwh
  have SAM := Lib.hid hsam
  have HLT := Lib.hid hltb
  have HEQ := Lib.hid heqb
  have HWA := Lib.hid hwadd
  have HWM := Lib.hid hwmul
  clear hia hib his hadd hmul hcmp hwh hsam hltb heqb hwadd hwmul hords hcm hcv hwv okab s1 s2 s3 s4 t1 t2 t3 t4 va vb vs vp oa ob os op la lb ls lp xa xb xs xp big hpr hprb
  obtain ⟨hab1, hab2⟩ := hab
  obtain ⟨hbb1, hbb2⟩ := hbb
  go_enter Tryz.func8, Tryz.ntmps8
  go_wp2_with fail
  refine (alive2_c w).mono ?_
  rintro e w1 ⟨rfl, hb1⟩
  have hw := hb1
  go_wp2_with fail
  clear ha hb
  refine (IA.out _).mono ?_
  rintro e u1 ⟨Aa1, na1, ca1, rfl, ra, hbu⟩
  have hw := hw.trans (hbu.mono hw.size)
  clear hbu
  go_wp2_with fail
  refine (IB.out _).mono ?_
  rintro e v1 ⟨Ab1, nb1, cb1, rfl, rb, hbu⟩
  have ra := ra.below hbu (Nat.le_refl _)
  have hw := hw.trans (hbu.mono hw.size)
  clear hbu
  go_wp2_with fail
  refine (ADD.out _ (fun b => b < v1.heap.size) _ _ _ _ _ _ (ra.rd.more (fun b h => h.2)) (rb.rd.more (fun b h => h.2)) (fun b h => h) ra.lt rb.lt).mono ?_
  rintro e x1 ⟨⟨As, ns, cs, rfl, rs⟩, hbu⟩
  have hw := hw.trans (hbu.mono hw.size)
  clear hbu ra rb
  go_wp2_with fail
  have ms := World.alloc_heap_new x1 (.cells #[.bool Ns, .slice As ns cs, .int .i64 (ks : Int)] 24)
  have rs := rs.below ((Below.refl x1.heap.size x1).alloc (Nat.le_refl _) (.cells #[.bool Ns, .slice As ns cs, .int .i64 (ks : Int)] 24)) (Nat.le_refl _)
  have hw := hw.alloc hw.size (.cells #[.bool Ns, .slice As ns cs, .int .i64 (ks : Int)] 24)
  generalize hV1 : (x1.alloc (.cells #[.bool Ns, .slice As ns cs, .int .i64 (ks : Int)] 24)) = y1 at *
  clear hV1
  refine (IA.out _).mono ?_
  rintro e u2 ⟨Aa2, na2, ca2, rfl, ra, hbu⟩
  have rs := rs.below hbu (Nat.le_refl _)
  have ms := heldz hbu ms
  have hw := hw.trans (hbu.mono hw.size)
  clear hbu
  go_wp2_with fail
  refine (IB.out _).mono ?_
  rintro e v2 ⟨Ab2, nb2, cb2, rfl, rb, hbu⟩
  have ra := ra.below hbu (Nat.le_refl _)
  have rs := rs.below hbu (Nat.le_refl _)
  have ms := heldz hbu ms
  have hw := hw.trans (hbu.mono hw.size)
  clear hbu
  go_wp2_with fail
  refine (MUL.out _ (fun b => b < v2.heap.size) _ _ _ _ _ _ (ra.rd.more (fun b h => h.2)) (rb.rd.more (fun b h => h.2)) (fun b h => h) ra.lt rb.lt).mono ?_
  rintro e x2 ⟨⟨Ap, np, cp, rfl, rp⟩, hbu⟩
  have rs := rs.below hbu (Nat.le_refl _)
  have ms := heldz hbu ms
  have hw := hw.trans (hbu.mono hw.size)
  clear hbu ra rb
  go_wp2_with fail
  have ms := heldA (.cells #[.bool Np, .slice Ap np cp, .int .i64 (kp : Int)] 24) ms
  have mp := World.alloc_heap_new x2 (.cells #[.bool Np, .slice Ap np cp, .int .i64 (kp : Int)] 24)
  have rs := rs.below ((Below.refl x2.heap.size x2).alloc (Nat.le_refl _) (.cells #[.bool Np, .slice Ap np cp, .int .i64 (kp : Int)] 24)) (Nat.le_refl _)
  have rp := rp.below ((Below.refl x2.heap.size x2).alloc (Nat.le_refl _) (.cells #[.bool Np, .slice Ap np cp, .int .i64 (kp : Int)] 24)) (Nat.le_refl _)
  have hw := hw.alloc hw.size (.cells #[.bool Np, .slice Ap np cp, .int .i64 (kp : Int)] 24)
  generalize hV2 : (x2.alloc (.cells #[.bool Np, .slice Ap np cp, .int .i64 (kp : Int)] 24)) = y2 at *
  clear hV2
  refine (IA.out _).mono ?_
  rintro e u3 ⟨Aa3, na3, ca3, rfl, ra, hbu⟩
  have rs := rs.below hbu (Nat.le_refl _)
  have rp := rp.below hbu (Nat.le_refl _)
  have ms := heldz hbu ms
  have mp := heldz hbu mp
  have hw := hw.trans (hbu.mono hw.size)
  clear hbu
  go_wp2_with fail
  refine (IB.out _).mono ?_
  rintro e v3 ⟨Ab3, nb3, cb3, rfl, rb, hbu⟩
  have ra := ra.below hbu (Nat.le_refl _)
  have rs := rs.below hbu (Nat.le_refl _)
  have rp := rp.below hbu (Nat.le_refl _)
  have ms := heldz hbu ms
  have mp := heldz hbu mp
  have hw := hw.trans (hbu.mono hw.size)
  clear hbu
  go_wp2_with fail
  refine (CMP.out _ (fun b => b < v3.heap.size) _ _ _ _ _ _ (ra.rd.more (fun b h => h.2)) (rb.rd.more (fun b h => h.2)) (fun b h => h) ra.lt rb.lt).mono ?_
  rintro e x3 ⟨rfl, hbu⟩
  have rs := rs.below hbu (Nat.le_refl _)
  have rp := rp.below hbu (Nat.le_refl _)
  have ms := heldz hbu ms
  have mp := heldz hbu mp
  have hw := hw.trans (hbu.mono hw.size)
  clear hbu ra rb
  obtain ⟨q0, q1, q2⟩ := box3_of mp
  go_wp2_with fail
  refine (WH.out _ (fun b => b < x3.heap.size) _ _ _ (rp.rd.more (fun b h => h.2)) (fun b h => h) rp.lt).mono ?_
  rintro e w4 ⟨rfl, hb4⟩
  have ms := heldz hb4 ms
  have rs := rs.below hb4 (Nat.le_refl _)
  have hw := hw.trans (hb4.mono hw.size)
  clear q0 q1 q2 mp rp hb4
  obtain ⟨k0, k1, k2⟩ := box3_of ms
  go_wp2
  have hltb := HLT.out
  have heqb := HEQ.out
  have hwa := HWA.out
  have hwm := HWM.out
  refine wp_region_held_drew (S := fun w' => w'.cell? ⟨x1.heap.size, 0, none⟩ = some (.bool Ns) ∧ w'.cell? ⟨x1.heap.size, 1, none⟩ = some (.slice As ns cs) ∧ w'.cell? ⟨x1.heap.size, 2, none⟩ = some (.int .i64 (ks : Int))) (by kernel_rfl) ⟨k0, k1, k2⟩ (fun hHeld => ?_)
  (try simp only [List.size_toArray, List.length_cons, List.length_nil, Nat.reduceAdd, Array.replicate_succ, Array.replicate_zero, List.push_toArray, List.append_toArray, List.nil_append, List.cons_append])
  refine wpAnyH_take (i := 0) (oi := ⟨_, _, _, _, _, _⟩) (v := ?_) rfl (by kernel_rfl) (by kernel_rfl) (by kernel_rfl) (fun _ _ _ h => h) (Or.inl ⟨by rfl, ?_⟩) (by assumption) ?_
  rotate_left
  · intro w hSw
    (try dsimp only at hSw)
    go_simp
    try with_reducible rfl
  try simp only [Act.put, List.setIfInBounds_toArray, List.set_cons_zero, List.set_cons_succ]
  refine wpAnyH_take (i := 2) (oi := ⟨_, _, _, _, _, _⟩) (v := ?_) rfl (by kernel_rfl) (by kernel_rfl) (by kernel_rfl) (fun _ _ _ h => h) (Or.inl ⟨by rfl, ?_⟩) (by assumption) ?_
  rotate_left
  · intro w hSw
    (try dsimp only at hSw)
    go_simp
    try with_reducible rfl
  try simp only [Act.put, List.setIfInBounds_toArray, List.set_cons_zero, List.set_cons_succ]
  refine wpAnyH_take (i := 5) (oi := ⟨_, _, _, _, _, _⟩) (v := ?_) rfl (by kernel_rfl) (by kernel_rfl) (by kernel_rfl) (fun _ _ _ h => h) (Or.inl ⟨by rfl, ?_⟩) (by assumption) ?_
  rotate_left
  · intro w hSw
    (try dsimp only at hSw)
    go_simp
    try with_reducible rfl
  try simp only [Act.put, List.setIfInBounds_toArray, List.set_cons_zero, List.set_cons_succ]
  refine wpAnyH_take (i := 8) (oi := ⟨_, _, _, _, _, _⟩) (v := ?_) rfl (by kernel_rfl) (by kernel_rfl) (by kernel_rfl) (fun _ _ _ h => h) (Or.inl ⟨by rfl, ?_⟩) (by assumption) ?_
  rotate_left
  · intro w hSw
    (try dsimp only at hSw)
    go_simp
    try with_reducible rfl
  try simp only [Act.put, List.setIfInBounds_toArray, List.set_cons_zero, List.set_cons_succ]
  refine wpAnyH_ready (rs := [1]) (by kernel_rfl) (by simp) (AllReadyH.cons (o := ⟨_, _, _, _, _, _⟩) rfl (fun K hK => ?_) AllReadyH.nil)
  go_simp
  refine (num2_c _ _).mono ?_
  rintro e w' ⟨rfl, rfl⟩
  (try dsimp only)
  refine hK.out _ _ hHeld (fun _ => ?_)
  clear hK K
  try simp only [Act.put, List.setIfInBounds_toArray, List.set_cons_zero, List.set_cons_succ]
  refine wpAnyH_ready (rs := [3]) (by kernel_rfl) (by simp) (AllReadyH.cons (o := ⟨_, _, _, _, _, _⟩) rfl (fun K hK => ?_) AllReadyH.nil)
  go_simp
  refine (num2_c _ _).mono ?_
  rintro e w' ⟨rfl, rfl⟩
  (try dsimp only)
  refine hK.out _ _ hHeld (fun _ => ?_)
  clear hK K
  try simp only [Act.put, List.setIfInBounds_toArray, List.set_cons_zero, List.set_cons_succ]
  refine wpAnyH_take (i := 4) (oi := ⟨_, _, _, _, _, _⟩) (v := ?_) rfl (by kernel_rfl) (by kernel_rfl) (by kernel_rfl) (fun _ _ _ h => h) (Or.inl ⟨by rfl, ?_⟩) (by assumption) ?_
  rotate_left
  · intro w hSw
    (try dsimp only at hSw)
    go_simp
    try with_reducible rfl
  try simp only [Act.put, List.setIfInBounds_toArray, List.set_cons_zero, List.set_cons_succ]
  refine wpAnyH_ready (rs := [6]) (by kernel_rfl) (by simp) (AllReadyH.cons (o := ⟨_, _, _, _, _, _⟩) rfl (fun K hK => ?_) AllReadyH.nil)
  go_simp
  refine (num2_c _ _).mono ?_
  rintro e w' ⟨rfl, rfl⟩
  (try dsimp only)
  refine hK.out _ _ hHeld (fun _ => ?_)
  clear hK K
  try simp only [Act.put, List.setIfInBounds_toArray, List.set_cons_zero, List.set_cons_succ]
  refine wpAnyH_take (i := 7) (oi := ⟨_, _, _, _, _, _⟩) (v := ?_) rfl (by kernel_rfl) (by kernel_rfl) (by kernel_rfl) (fun _ _ _ h => h) (Or.inl ⟨by rfl, ?_⟩) (by assumption) ?_
  rotate_left
  · intro w hSw
    (try dsimp only at hSw)
    go_simp
    try with_reducible rfl
  try simp only [Act.put, List.setIfInBounds_toArray, List.set_cons_zero, List.set_cons_succ]
  refine wpAnyH_ready (rs := [9]) (by kernel_rfl) (by simp) (AllReadyH.cons (o := ⟨_, _, _, _, _, _⟩) rfl (fun K hK => ?_) AllReadyH.nil)
  go_simp
  refine (num2_c _ _).mono ?_
  rintro e w' ⟨rfl, rfl⟩
  (try dsimp only)
  refine hK.out _ _ hHeld (fun _ => ?_)
  clear hK K
  try simp only [Act.put, List.setIfInBounds_toArray, List.set_cons_zero, List.set_cons_succ]
  refine wpAnyH_take (i := 10) (oi := ⟨_, _, _, _, _, _⟩) (v := ?_) rfl (by kernel_rfl) (by kernel_rfl) (by kernel_rfl) (fun _ _ _ h => h) (Or.inl ⟨by rfl, ?_⟩) (by assumption) ?_
  rotate_left
  · intro w hSw
    (try dsimp only at hSw)
    go_simp
    try with_reducible rfl
  try simp only [Act.put, List.setIfInBounds_toArray, List.set_cons_zero, List.set_cons_succ]
  refine wpAnyH_take (i := 11) (oi := ⟨_, _, _, _, _, _⟩) (v := ?_) rfl (by kernel_rfl) (by kernel_rfl) (by kernel_rfl) (fun _ _ _ h => h) (Or.inl ⟨by rfl, ?_⟩) (by assumption) ?_
  rotate_left
  · intro w hSw
    (try dsimp only at hSw)
    go_simp
    try with_reducible rfl
  try simp only [Act.put, List.setIfInBounds_toArray, List.set_cons_zero, List.set_cons_succ]
  refine wpAnyH_take (i := 12) (oi := ⟨_, _, _, _, _, _⟩) (v := ?_) rfl (by kernel_rfl) (by kernel_rfl) (by kernel_rfl) (fun _ _ _ h => h) (Or.inl ⟨by rfl, ?_⟩) (by assumption) ?_
  rotate_left
  · intro w hSw
    (try dsimp only at hSw)
    go_simp
    try with_reducible rfl
  try simp only [Act.put, List.setIfInBounds_toArray, List.set_cons_zero, List.set_cons_succ]
  obtain ⟨hh0, hh1, hh2⟩ := hHeld
  have hHeld : (fun w' : World => w'.cell? ⟨x1.heap.size, 0, none⟩ = some (.bool Ns) ∧ w'.cell? ⟨x1.heap.size, 1, none⟩ = some (.slice As ns cs) ∧ w'.cell? ⟨x1.heap.size, 2, none⟩ = some (.int .i64 (ks : Int))) w4.drew := ⟨hh0, hh1, hh2⟩
  refine wpAnyH_take (i := 13) (oi := ⟨_, _, _, _, _, _⟩) (v := ?_) rfl (by kernel_rfl) (by kernel_rfl) (by kernel_rfl) (fun _ _ _ h => h) (Or.inl ⟨by rfl, ?_⟩) (by assumption) ?_
  rotate_left
  · intro w hSw
    (try dsimp only at hSw)
    obtain ⟨hs0, hs1, hs2⟩ := hSw
    go_simp
    try with_reducible rfl
  try simp only [Act.put, List.setIfInBounds_toArray, List.set_cons_zero, List.set_cons_succ]
  refine wpAnyH_take (i := 14) (oi := ⟨_, _, _, _, _, _⟩) (v := ?_) rfl (by kernel_rfl) (by kernel_rfl) (by kernel_rfl) (fun _ _ _ h => h) (Or.inl ⟨by rfl, ?_⟩) (by assumption) ?_
  rotate_left
  · intro w hSw
    (try dsimp only at hSw)
    go_simp
    try with_reducible rfl
  try simp only [Act.put, List.setIfInBounds_toArray, List.set_cons_zero, List.set_cons_succ]
  refine wpAnyH_take (i := 15) (oi := ⟨_, _, _, _, _, _⟩) (v := ?_) rfl (by kernel_rfl) (by kernel_rfl) (by kernel_rfl) (fun _ _ _ h => h) (Or.inl ⟨by rfl, ?_⟩) (by assumption) ?_
  rotate_left
  · intro w hSw
    (try dsimp only at hSw)
    go_simp
    try with_reducible rfl
  try simp only [Act.put, List.setIfInBounds_toArray, List.set_cons_zero, List.set_cons_succ]
  refine wpAnyH_take (i := 16) (oi := ⟨_, _, _, _, _, _⟩) (v := ?_) rfl (by kernel_rfl) (by kernel_rfl) (by kernel_rfl) (fun _ _ _ h => h) (Or.inl ⟨by rfl, ?_⟩) (by assumption) ?_
  rotate_left
  · intro w hSw
    (try dsimp only at hSw)
    go_simp
    try with_reducible rfl
  try simp only [Act.put, List.setIfInBounds_toArray, List.set_cons_zero, List.set_cons_succ]
  refine wpAnyH_ready (rs := [17]) (by kernel_rfl) (by simp) (AllReadyH.cons (o := ⟨_, _, _, _, _, _⟩) rfl (fun K hK => ?_) AllReadyH.nil)
  go_simp
  refine (IS.out _).mono ?_
  rintro e w5 ⟨A5, n5, c5, rfl, r5, hb5⟩
  have hx1 : x1.heap.size < w4.heap.size := (Array.getElem?_eq_some_iff.1 ms).1
  have ms5 := held hb5 hx1 ms
  have rs5 := (rs.keep (w' := w4.drew) (fun _ _ => rfl)).below hb5 (Nat.le_refl _)
  have hw5 := (only_drewB hw).trans (hb5.mono (show w.heap.size ≤ w4.heap.size from hw.size))
  (try dsimp only)
  refine hK.out _ _ (box3_of ms5) (fun hHeld2 => ?_)
  clear hK K hHeld hh0 hh1 hh2
  try simp only [Act.put, List.setIfInBounds_toArray, List.set_cons_zero, List.set_cons_succ]
  refine wpAnyH_ready (rs := [18]) (by kernel_rfl) (by simp) (AllReadyH.cons (o := ⟨_, _, _, _, _, _⟩) rfl (fun K hK => ?_) AllReadyH.nil)
  go_simp
  refine (SAM.out _ _ _ _ _ _ _ _ _ rs5.rd r5.rd (fun b h => h.2) (fun b h => h.2) rs5.lt r5.lt).mono ?_
  rintro e w6 ⟨rfl, hb6⟩
  have ms6 := heldz hb6 ms5
  have hw6 := hw5.trans (hb6.mono hw5.size)
  (try dsimp only)
  refine hK.out _ _ (box3_of ms6) (fun hHeld3 => ?_)
  clear hK K hHeld2
  try simp only [Act.put, List.setIfInBounds_toArray, List.set_cons_zero, List.set_cons_succ]
  refine wpAnyH_take (i := 19) (oi := ⟨_, _, _, _, _, _⟩) (v := ?_) rfl (by kernel_rfl) (by kernel_rfl) (by kernel_rfl) (fun _ _ _ h => h) (Or.inl ⟨by rfl, ?_⟩) (by assumption) ?_
  rotate_left
  · intro w hSw
    (try dsimp only at hSw)
    go_simp
    try with_reducible rfl
  try simp only [Act.put, List.setIfInBounds_toArray, List.set_cons_zero, List.set_cons_succ]
  refine wpAnyH_take (i := 20) (oi := ⟨_, _, _, _, _, _⟩) (v := ?_) rfl (by kernel_rfl) (by kernel_rfl) (by kernel_rfl) (fun _ _ _ h => h) (Or.inl ⟨by rfl, ?_⟩) (by assumption) ?_
  rotate_left
  · intro w hSw
    (try dsimp only at hSw)
    go_simp
    try with_reducible rfl
  try simp only [Act.put, List.setIfInBounds_toArray, List.set_cons_zero, List.set_cons_succ]
  refine wpAnyH_take (i := 21) (oi := ⟨_, _, _, _, _, _⟩) (v := ?_) rfl (by kernel_rfl) (by kernel_rfl) (by kernel_rfl) (fun _ _ _ h => h) (Or.inl ⟨by rfl, ?_⟩) (by assumption) ?_
  rotate_left
  · intro w hSw
    (try dsimp only at hSw)
    go_simp
    try with_reducible rfl
  try simp only [Act.put, List.setIfInBounds_toArray, List.set_cons_zero, List.set_cons_succ]
  refine wpAnyH_take (i := 22) (oi := ⟨_, _, _, _, _, _⟩) (v := ?_) rfl (by kernel_rfl) (by kernel_rfl) (by kernel_rfl) (fun _ _ _ h => h) (Or.inl ⟨by rfl, ?_⟩) (by assumption) ?_
  rotate_left
  · intro w hSw
    (try dsimp only at hSw)
    go_simp
    try with_reducible rfl
  try simp only [Act.put, List.setIfInBounds_toArray, List.set_cons_zero, List.set_cons_succ]
  refine wpAnyH_take (i := 23) (oi := ⟨_, _, _, _, _, _⟩) (v := ?_) rfl (by kernel_rfl) (by kernel_rfl) (by kernel_rfl) (fun _ _ _ h => h) (Or.inl ⟨by rfl, ?_⟩) (by assumption) ?_
  rotate_left
  · intro w hSw
    (try dsimp only at hSw)
    go_simp
    try with_reducible rfl
  try simp only [Act.put, List.setIfInBounds_toArray, List.set_cons_zero, List.set_cons_succ]
  refine wpAnyH_take (i := 24) (oi := ⟨_, _, _, _, _, _⟩) (v := ?_) rfl (by kernel_rfl) (by kernel_rfl) (by kernel_rfl) (fun _ _ _ h => h) (Or.inl ⟨by rfl, ?_⟩) (by assumption) ?_
  rotate_left
  · intro w hSw
    (try dsimp only at hSw)
    go_simp
    try with_reducible rfl
  try simp only [Act.put, List.setIfInBounds_toArray, List.set_cons_zero, List.set_cons_succ]
  refine wpAnyH_take (i := 25) (oi := ⟨_, _, _, _, _, _⟩) (v := ?_) rfl (by kernel_rfl) (by kernel_rfl) (by kernel_rfl) (fun _ _ _ h => h) (Or.inl ⟨by rfl, ?_⟩) (by assumption) ?_
  rotate_left
  · intro w hSw
    (try dsimp only at hSw)
    go_simp
    try with_reducible rfl
  try simp only [Act.put, List.setIfInBounds_toArray, List.set_cons_zero, List.set_cons_succ]
  refine wpAnyH_take (i := 26) (oi := ⟨_, _, _, _, _, _⟩) (v := ?_) rfl (by kernel_rfl) (by kernel_rfl) (by kernel_rfl) (fun _ _ _ h => h) (Or.inl ⟨by rfl, ?_⟩) (by assumption) ?_
  rotate_left
  · intro w hSw
    (try dsimp only at hSw)
    go_simp
    try with_reducible rfl
  try simp only [Act.put, List.setIfInBounds_toArray, List.set_cons_zero, List.set_cons_succ]
  refine wpAnyH_take (i := 27) (oi := ⟨_, _, _, _, _, _⟩) (v := ?_) rfl (by kernel_rfl) (by kernel_rfl) (by kernel_rfl) (fun _ _ _ h => h) (Or.inl ⟨by rfl, ?_⟩) (by assumption) ?_
  rotate_left
  · intro w hSw
    (try dsimp only at hSw)
    go_simp
    try with_reducible rfl
  try simp only [Act.put, List.setIfInBounds_toArray, List.set_cons_zero, List.set_cons_succ]
  refine wpAnyH_take (i := 28) (oi := ⟨_, _, _, _, _, _⟩) (v := ?_) rfl (by kernel_rfl) (by kernel_rfl) (by kernel_rfl) (fun _ _ _ h => h) (Or.inl ⟨by rfl, ?_⟩) (by assumption) ?_
  rotate_left
  · intro w hSw
    (try dsimp only at hSw)
    go_simp
    try with_reducible rfl
  try simp only [Act.put, List.setIfInBounds_toArray, List.set_cons_zero, List.set_cons_succ]
  refine wpAnyH_take (i := 29) (oi := ⟨_, _, _, _, _, _⟩) (v := ?_) rfl (by kernel_rfl) (by kernel_rfl) (by kernel_rfl) (fun _ _ _ h => h) (Or.inl ⟨by rfl, ?_⟩) (by assumption) ?_
  rotate_left
  · intro w hSw
    (try dsimp only at hSw)
    go_simp
    try with_reducible rfl
  try simp only [Act.put, List.setIfInBounds_toArray, List.set_cons_zero, List.set_cons_succ]
  refine wpAnyH_take (i := 30) (oi := ⟨_, _, _, _, _, _⟩) (v := ?_) rfl (by kernel_rfl) (by kernel_rfl) (by kernel_rfl) (fun _ _ _ h => h) (Or.inl ⟨by rfl, ?_⟩) (by assumption) ?_
  rotate_left
  · intro w hSw
    (try dsimp only at hSw)
    go_simp
    try with_reducible rfl
  try simp only [Act.put, List.setIfInBounds_toArray, List.set_cons_zero, List.set_cons_succ]
  refine wpAnyH_take (i := 31) (oi := ⟨_, _, _, _, _, _⟩) (v := ?_) rfl (by kernel_rfl) (by kernel_rfl) (by kernel_rfl) (fun _ _ _ h => h) (Or.inl ⟨by rfl, ?_⟩) (by assumption) ?_
  rotate_left
  · intro w hSw
    (try dsimp only at hSw)
    go_simp
    try with_reducible rfl
  try simp only [Act.put, List.setIfInBounds_toArray, List.set_cons_zero, List.set_cons_succ]
  refine wpAnyH_take (i := 32) (oi := ⟨_, _, _, _, _, _⟩) (v := ?_) rfl (by kernel_rfl) (by kernel_rfl) (by kernel_rfl) (fun _ _ _ h => h) (Or.inl ⟨by rfl, ?_⟩) (by assumption) ?_
  rotate_left
  · intro w hSw
    (try dsimp only at hSw)
    go_simp
    try with_reducible rfl
  try simp only [Act.put, List.setIfInBounds_toArray, List.set_cons_zero, List.set_cons_succ]
  refine wpAnyH_take (i := 33) (oi := ⟨_, _, _, _, _, _⟩) (v := ?_) rfl (by kernel_rfl) (by kernel_rfl) (by kernel_rfl) (fun _ _ _ h => h) (Or.inl ⟨by rfl, ?_⟩) (by assumption) ?_
  rotate_left
  · intro w hSw
    (try dsimp only at hSw)
    go_simp
    try with_reducible rfl
  try simp only [Act.put, List.setIfInBounds_toArray, List.set_cons_zero, List.set_cons_succ]
  refine wpAnyH_take (i := 34) (oi := ⟨_, _, _, _, _, _⟩) (v := ?_) rfl (by kernel_rfl) (by kernel_rfl) (by kernel_rfl) (fun _ _ _ h => h) (Or.inl ⟨by rfl, ?_⟩) (by assumption) ?_
  rotate_left
  · intro w hSw
    (try dsimp only at hSw)
    go_simp
    try with_reducible rfl
  try simp only [Act.put, List.setIfInBounds_toArray, List.set_cons_zero, List.set_cons_succ]
  refine wpAnyH_take (i := 35) (oi := ⟨_, _, _, _, _, _⟩) (v := ?_) rfl (by kernel_rfl) (by kernel_rfl) (by kernel_rfl) (fun _ _ _ h => h) (Or.inl ⟨by rfl, ?_⟩) (by assumption) ?_
  rotate_left
  · intro w hSw
    (try dsimp only at hSw)
    go_simp
    try with_reducible rfl
  try simp only [Act.put, List.setIfInBounds_toArray, List.set_cons_zero, List.set_cons_succ]
  refine wpAnyH_take (i := 36) (oi := ⟨_, _, _, _, _, _⟩) (v := ?_) rfl (by kernel_rfl) (by kernel_rfl) (by kernel_rfl) (fun _ _ _ h => h) (Or.inl ⟨by rfl, ?_⟩) (by assumption) ?_
  rotate_left
  · intro w hSw
    (try dsimp only at hSw)
    go_simp
    try with_reducible rfl
  try simp only [Act.put, List.setIfInBounds_toArray, List.set_cons_zero, List.set_cons_succ]
  refine wpAnyH_take (i := 37) (oi := ⟨_, _, _, _, _, _⟩) (v := ?_) rfl (by kernel_rfl) (by kernel_rfl) (by kernel_rfl) (fun _ _ _ h => h) (Or.inl ⟨by rfl, ?_⟩) (by assumption) ?_
  rotate_left
  · intro w hSw
    (try dsimp only at hSw)
    go_simp
    try with_reducible rfl
  try simp only [Act.put, List.setIfInBounds_toArray, List.set_cons_zero, List.set_cons_succ]
  refine wpAnyH_take (i := 38) (oi := ⟨_, _, _, _, _, _⟩) (v := ?_) rfl (by kernel_rfl) (by kernel_rfl) (by kernel_rfl) (fun _ _ _ h => h) (Or.inl ⟨by rfl, ?_⟩) (by assumption) ?_
  rotate_left
  · intro w hSw
    (try dsimp only at hSw)
    go_simp
    try with_reducible rfl
  try simp only [Act.put, List.setIfInBounds_toArray, List.set_cons_zero, List.set_cons_succ]
  refine wpAnyH_take (i := 39) (oi := ⟨_, _, _, _, _, _⟩) (v := ?_) rfl (by kernel_rfl) (by kernel_rfl) (by kernel_rfl) (fun _ _ _ h => h) (Or.inl ⟨by rfl, ?_⟩) (by assumption) ?_
  rotate_left
  · intro w hSw
    (try dsimp only at hSw)
    go_simp
    try with_reducible rfl
  try simp only [Act.put, List.setIfInBounds_toArray, List.set_cons_zero, List.set_cons_succ]
  refine wpAnyH_take (i := 40) (oi := ⟨_, _, _, _, _, _⟩) (v := ?_) rfl (by kernel_rfl) (by kernel_rfl) (by kernel_rfl) (fun _ _ _ h => h) (Or.inl ⟨by rfl, ?_⟩) (by assumption) ?_
  rotate_left
  · intro w hSw
    (try dsimp only at hSw)
    go_simp
    try with_reducible rfl
  try simp only [Act.put, List.setIfInBounds_toArray, List.set_cons_zero, List.set_cons_succ]
  refine wpAnyH_take (i := 41) (oi := ⟨_, _, _, _, _, _⟩) (v := ?_) rfl (by kernel_rfl) (by kernel_rfl) (by kernel_rfl) (fun _ _ _ h => h) (Or.inl ⟨by rfl, ?_⟩) (by assumption) ?_
  rotate_left
  · intro w hSw
    (try dsimp only at hSw)
    go_simp
    try with_reducible rfl
  try simp only [Act.put, List.setIfInBounds_toArray, List.set_cons_zero, List.set_cons_succ]
  refine wpAnyH_take (i := 42) (oi := ⟨_, _, _, _, _, _⟩) (v := ?_) rfl (by kernel_rfl) (by kernel_rfl) (by kernel_rfl) (fun _ _ _ h => h) (Or.inl ⟨by rfl, ?_⟩) (by assumption) ?_
  rotate_left
  · intro w hSw
    (try dsimp only at hSw)
    go_simp
    try with_reducible rfl
  try simp only [Act.put, List.setIfInBounds_toArray, List.set_cons_zero, List.set_cons_succ]
  refine wpAnyH_take (i := 43) (oi := ⟨_, _, _, _, _, _⟩) (v := ?_) rfl (by kernel_rfl) (by kernel_rfl) (by kernel_rfl) (fun _ _ _ h => h) (Or.inl ⟨by rfl, ?_⟩) (by assumption) ?_
  rotate_left
  · intro w hSw
    (try dsimp only at hSw)
    go_simp
    try with_reducible rfl
  try simp only [Act.put, List.setIfInBounds_toArray, List.set_cons_zero, List.set_cons_succ]
  refine wpAnyH_take (i := 44) (oi := ⟨_, _, _, _, _, _⟩) (v := ?_) rfl (by kernel_rfl) (by kernel_rfl) (by kernel_rfl) (fun _ _ _ h => h) (Or.inl ⟨by rfl, ?_⟩) (by assumption) ?_
  rotate_left
  · intro w hSw
    (try dsimp only at hSw)
    go_simp
    try with_reducible rfl
  try simp only [Act.put, List.setIfInBounds_toArray, List.set_cons_zero, List.set_cons_succ]
  refine wpAnyH_take (i := 45) (oi := ⟨_, _, _, _, _, _⟩) (v := ?_) rfl (by kernel_rfl) (by kernel_rfl) (by kernel_rfl) (fun _ _ _ h => h) (Or.inl ⟨by rfl, ?_⟩) (by assumption) ?_
  rotate_left
  · intro w hSw
    (try dsimp only at hSw)
    go_simp
    try with_reducible rfl
  try simp only [Act.put, List.setIfInBounds_toArray, List.set_cons_zero, List.set_cons_succ]
  refine wpAnyH_take (i := 46) (oi := ⟨_, _, _, _, _, _⟩) (v := ?_) rfl (by kernel_rfl) (by kernel_rfl) (by kernel_rfl) (fun _ _ _ h => h) (Or.inl ⟨by rfl, ?_⟩) (by assumption) ?_
  rotate_left
  · intro w hSw
    (try dsimp only at hSw)
    go_simp
    try with_reducible rfl
  try simp only [Act.put, List.setIfInBounds_toArray, List.set_cons_zero, List.set_cons_succ]
  refine wpAnyH_done (by kernel_rfl) ?_ _
  go_wp2
  go_ret
  exact ⟨rfl, hw6⟩
end Go.Proofs.YtkcejhjhpbgjaaaGreatDoor
