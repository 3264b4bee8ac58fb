/-
  Contracts of the reference's fits, From, Compare, Add, Sub, Mul and Div: what they answer of any two slices that read as limbs.
-/
import Derived.Test.YtdlphdbojkdfoaaRefg
import Derived.Test.YtdlphdbojkdfoaaDiv
set_option linter.unusedVariables false
set_option linter.unusedSimpArgs false
namespace Go.Proofs.Ytdlphdbojkdfoaa
open Go.RowKit

/-- Digits, and how many at most. -/
theorem Digits_k {S : Nat → Prop} {n c : Nat} {A : Option Addr} {xs : List Nat} (w : World) (h : Rd w S A n xs) (hS : ∀ b, S b → b < w.heap.size) (hn : n ≤ 256) :
    Calls Try.prog 35 #[.slice A n c] w fun e w' => ∃ A' n' c' ds, e = .returned (.slice A' n' c') ∧ ResI w' w.heap.size A' n' c' ds ∧ DCan ds ∧ dval ds = val xs ∧ n' ≤ 2731 ∧ Below w.heap.size w w' := by
  refine (Digits_c w h hS hn).mono ?_
  rintro e w' ⟨A', n', c', ds, rfl, hr, hc, hv, hb⟩
  refine ⟨A', n', c', ds, rfl, hr, hc, hv, ?_, hb⟩
  obtain ⟨m, hm0, hm, hlt⟩ := bp_lt_ten (n := n) (v := dval ds) hn (by rw [hv]; have := val_lt h.l32; rwa [h.len] at this)
  have := hc.len_le hlt
  rw [hr.len] at this
  omega

def fitE (v : Nat) : Nat := if bp 256 ≤ v then 51 else 0
def fitZ (v : Nat) : List Nat := if fitE v = 0 then lim v else []
theorem bin_fit {xs ys : List Nat} (h0 : chk2 xs ys = 0) (v : Nat) : binE xs ys v = fitE v ∧ binZ xs ys v = fitZ v := by
  have e : binE xs ys v = fitE v := if_pos h0
  refine ⟨e, ?_⟩
  unfold binZ fitZ
  rw [e]

theorem fits_c {S : Nat → Prop} {n c : Nat} {A : Option Addr} {xs : List Nat} (w : World) (h : RdI w S A n xs) (hS : ∀ b, S b → b < w.heap.size) (hx : DCan xs) (hn : n ≤ 100000) :
    Calls Try.prog 38 #[.slice A n c] w fun e w' => ∃ A' n' c', e = .returned (.tuple #[.slice A' n' c', .int .i64 (fitE (dval xs) : Int)]) ∧ Res w' w.heap.size A' n' c' (fitZ (dval xs)) ∧ Below w.heap.size w w' := by
  go_enter Try.func38, Try.ntmps38
  go_wp2_with fail
  refine (Limbs_c w h hS hx hn).mono ?_
  rintro e w1 ⟨A', n', c', zs, rfl, hres, hcan, hval, hbel⟩
  have hl := Lib.hid (long_iff hcan)
  have hz := Lib.hid (eq_lim hcan)
  have HV := Lib.hid hval
  clear hval
  by_cases hlong : 256 < n'
  · go_wp2
    go_ret2
    have h1 := hl.out.1 (by rw [hres.len]; exact hlong)
    rw [HV.out] at h1
    have e : fitE (dval xs) = 51 := if_pos h1
    have e2 : fitZ (dval xs) = [] := if_neg (by rw [e]; omega)
    rw [e, e2]
    exact ⟨none, 0, 0, rfl, Res.nil _ _, hbel⟩
  · go_wp2
    go_ret2
    have e : fitE (dval xs) = 0 := if_neg (fun h1 => by
      rw [← HV.out] at h1
      have := hl.out.2 h1
      rw [hres.len] at this
      exact hlong this)
    have e2 : fitZ (dval xs) = zs := by
      have : fitZ (dval xs) = lim (dval xs) := if_pos e
      rw [this, ← HV.out]
      exact hz.out.symm
    rw [e, e2]
    exact ⟨_, _, _, rfl, hres, hbel⟩

set_option maxRecDepth 100000 in
theorem rFrom_c (x : Nat) (w : World) (hx : x < 18446744073709551616) :
    Calls Try.prog 20 #[.int .u64 x] w fun e w' => ∃ A n c, e = .returned (.slice A n c) ∧ Res w' w.heap.size A n c (lim x) ∧ n ≤ 2 ∧ Below w.heap.size w w' := by
  by_cases h0 : x = 0
  · subst h0
    go_enter Try.func20, Try.ntmps20
    go_wp2
    go_ret
    exact ⟨none, 0, 0, rfl, Res.nil _ _, by omega, Below.refl _ _⟩
  · have hb0 : ((x : Int) == 0) = false := by rw [beq_eq_false_iff_ne]; omega
    by_cases h1 : x < 4294967296
    · have hr := Res.lit w [x] 1 rfl (L32.cons.2 ⟨h1, L32.nil⟩) (by omega)
      have hq : (u32s [x]).toArray = #[Value.int .u32 (x : Int)] := by simp [u32s]
      rw [hq] at hr
      have he : Hid (lim x = [x]) := (Can.inj ⟨L32.cons.2 ⟨h1, L32.nil⟩, .inr (by simpa [nth] using h0)⟩ (lim_can x) (by rw [lim_val]; simp [val])).symm
      have hd1 : decide ((x : Int) < 4294967296) = true := by rw [decide_eq_true_eq]; omega
      have HR := Lib.hid hr
      clear h0 hq hr
      go_enter Try.func20, Try.ntmps20
      go_wp2
      go_ret
      rw [he.out]
      exact ⟨_, _, _, rfl, HR.out, by omega, (Below.refl _ _).alloc (Nat.le_refl _) _⟩
    · have hr := Res.lit w [x % 4294967296, x / 4294967296] 2 rfl (L32.cons.2 ⟨by omega, L32.cons.2 ⟨by omega, L32.nil⟩⟩) (by omega)
      have hq : (u32s [x % 4294967296, x / 4294967296]).toArray = #[Value.int .u32 ((x : Int) % 4294967296), Value.int .u32 ((x : Int) / 4294967296)] := by
        simp [u32s]
      rw [hq] at hr
      have he : Hid (lim x = [x % 4294967296, x / 4294967296]) := (Can.inj ⟨L32.cons.2 ⟨by omega, L32.cons.2 ⟨by omega, L32.nil⟩⟩, .inr (by simp [nth]; omega)⟩ (lim_can x) (by rw [lim_val]; simp [val]; omega)).symm
      have hd1 : decide ((x : Int) < 4294967296) = false := by rw [decide_eq_false_iff_not]; omega
      have HR := Lib.hid hr
      clear h0 hq hr
      go_enter Try.func20, Try.ntmps20
      go_wp2
      go_ret
      rw [he.out]
      exact ⟨_, _, _, rfl, HR.out, by omega, (Below.refl _ _).alloc (Nat.le_refl _) _⟩

/-- Order told by limbs. -/
theorem dcmp_cmp {xs ys ds es : List Nat} (hx : Can xs) (hy : Can ys) (h1 : dval ds = val xs) (h2 : dval es = val ys) : dcmp ds es = cmp xs ys := by
  rw [cmp_val hx hy]; unfold dcmp; rw [h1, h2]
/-- What Sub answers. -/
def subE (xs ys : List Nat) : Nat := if chk2 xs ys = 0 then (if val xs < val ys then 4 else 0) else chk2 xs ys
def subZ (xs ys : List Nat) : List Nat := if subE xs ys = 0 then lim (val xs - val ys) else []

set_option maxRecDepth 100000 in
theorem rAdd_c {S S' : Nat → Prop} {n m c d : Nat} {A B : Option Addr} {xs ys : List Nat} (w : World) (ha : Rd w S A n xs) (hb : Rd w S' B m ys) (hS : ∀ b, S b → b < w.heap.size) (hS' : ∀ b, S' b → b < w.heap.size) (hn : n ≤ 9223372036854775807) (hm : m ≤ 9223372036854775807) :
    Calls Try.prog 10 #[.slice A n c, .slice B m d] w fun e w' => ∃ A' n' c', e = .returned (.tuple #[.slice A' n' c', .int .i64 (binE xs ys (val xs + val ys) : Int)]) ∧ Res w' w.heap.size A' n' c' (binZ xs ys (val xs + val ys)) ∧ Below w.heap.size w w' := by
  have h1 := rchecks_c (c := c) (d := d) w ha hb hn hm
  by_cases h0 : chk2 xs ys = 0
  · obtain ⟨⟨hcx, hlx⟩, hcy, hly⟩ := can_of_chk2 ha.l32 hb.l32 h0
    have HB := Lib.hid (bin_fit h0 (val xs + val ys))
    rw [h0] at h1
    have H1 := Lib.hid h1
    have hn2 : n ≤ 256 := by rw [← ha.len]; exact hlx
    have hm2 : m ≤ 256 := by rw [← hb.len]; exact hly
    clear h1 h0
    go_enter Try.func10, Try.ntmps10
    go_wp2_with fail
    refine H1.out.mono ?_
    rintro e w' ⟨rfl, rfl⟩
    go_wp2_with fail
    refine (Digits_k w ha hS hn2).mono ?_
    rintro e w1 ⟨A1, n1, c1, ds, rfl, hr1, hc1, hv1, hl1, hb1⟩
    have HV1 := Lib.hid hv1
    clear hv1
    go_wp2_with fail
    refine (Digits_k w1 (hb.below hb1 hS') (fun b h => by have := hS' b h; have := hb1.size; omega) hm2).mono ?_
    rintro e w2 ⟨A2, n2, c2, es, rfl, hr2, hc2, hv2, hl2, hb2⟩
    have HV2 := Lib.hid hv2
    clear hv2
    have hr1' := hr1.below hb2 (Nat.le_refl _)
    go_wp2_with fail
    refine (Plus_c w2 hr1'.rd hr2.rd (fun b h => h.2) (fun b h => h.2) hc1.1 hc2.1 (by omega) (by omega)).mono ?_
    rintro e w3 ⟨A3, n3, c3, os, rfl, hr3, hc3, hv3, hb3⟩
    have HV3 : Hid (dval os = val xs + val ys) := by show _ = _; rw [hv3, HV1.out, HV2.out]
    clear hv3
    have hl3 : n3 ≤ 100000 := by
      have h1 := dval_lt hc1.1
      have h2 := dval_lt hc2.1
      rw [hr1.len] at h1
      rw [hr2.len] at h2
      have h3 := dp_mono hl1
      have h4 := dp_mono hl2
      have h6 : dp 2732 = 10 * dp 2731 := dp_succ 2731
      have h7 := hc3.len_le (m := 2732) (by show _ < dp 2732; rw [HV3.out, ← HV1.out, ← HV2.out]; omega)
      rw [hr3.len] at h7
      omega
    have hbel : Below w.heap.size w w3 := (hb1.trans (hb2.mono hb1.size)).trans (hb3.mono (by have := hb1.size; have := hb2.size; omega))
    go_wp2_with fail
    refine (fits_c w3 hr3.rd (fun b h => h.2) hc3 hl3).mono ?_
    rintro e w4 ⟨A4, n4, c4, rfl, hr4, hb4⟩
    go_wp2
    go_ret2
    rw [HV3.out] at hr4 ⊢
    rw [HB.out.1, HB.out.2]
    exact ⟨_, _, _, rfl, hr4.more hbel.size, hbel.trans (hb4.mono hbel.size)⟩
  · have e2 : binE xs ys (val xs + val ys) = chk2 xs ys := if_neg h0
    have e3 := binZ_err (xs := xs) (ys := ys) (v := val xs + val ys) (by rw [e2]; exact h0)
    rw [e2, e3]
    have hb : (((chk2 xs ys : Nat) : Int) != 0) = true := by rw [bne_iff_ne]; omega
    have H1 := Lib.hid h1
    clear h1 h0 e2 e3
    go_enter Try.func10, Try.ntmps10
    go_wp2_with fail
    refine H1.out.mono ?_
    rintro e w' ⟨rfl, rfl⟩
    go_wp2
    go_ret2
    exact ⟨none, 0, 0, rfl, Res.nil _ _, Below.refl _ _⟩

set_option maxRecDepth 100000 in
theorem rMul_c {S S' : Nat → Prop} {n m c d : Nat} {A B : Option Addr} {xs ys : List Nat} (w : World) (ha : Rd w S A n xs) (hb : Rd w S' B m ys) (hS : ∀ b, S b → b < w.heap.size) (hS' : ∀ b, S' b → b < w.heap.size) (hn : n ≤ 9223372036854775807) (hm : m ≤ 9223372036854775807) :
    Calls Try.prog 14 #[.slice A n c, .slice B m d] w fun e w' => ∃ A' n' c', e = .returned (.tuple #[.slice A' n' c', .int .i64 (binE xs ys (val xs * val ys) : Int)]) ∧ Res w' w.heap.size A' n' c' (binZ xs ys (val xs * val ys)) ∧ Below w.heap.size w w' := by
  have h1 := rchecks_c (c := c) (d := d) w ha hb hn hm
  by_cases h0 : chk2 xs ys = 0
  · obtain ⟨⟨hcx, hlx⟩, hcy, hly⟩ := can_of_chk2 ha.l32 hb.l32 h0
    have HB := Lib.hid (bin_fit h0 (val xs * val ys))
    rw [h0] at h1
    have H1 := Lib.hid h1
    have hn2 : n ≤ 256 := by rw [← ha.len]; exact hlx
    have hm2 : m ≤ 256 := by rw [← hb.len]; exact hly
    clear h1 h0
    go_enter Try.func14, Try.ntmps14
    go_wp2_with fail
    refine H1.out.mono ?_
    rintro e w' ⟨rfl, rfl⟩
    go_wp2_with fail
    refine (Digits_k w ha hS hn2).mono ?_
    rintro e w1 ⟨A1, n1, c1, ds, rfl, hr1, hc1, hv1, hl1, hb1⟩
    have HV1 := Lib.hid hv1
    clear hv1
    go_wp2_with fail
    refine (Digits_k w1 (hb.below hb1 hS') (fun b h => by have := hS' b h; have := hb1.size; omega) hm2).mono ?_
    rintro e w2 ⟨A2, n2, c2, es, rfl, hr2, hc2, hv2, hl2, hb2⟩
    have HV2 := Lib.hid hv2
    clear hv2
    have hr1' := hr1.below hb2 (Nat.le_refl _)
    go_wp2_with fail
    refine (Product_c w2 hr1'.rd hr2.rd (fun b h => h.2) (fun b h => h.2) hc1.1 hc2.1 (by omega) (by omega)).mono ?_
    rintro e w3 ⟨A3, n3, c3, os, rfl, hr3, hc3, hv3, hb3⟩
    have HV3 : Hid (dval os = val xs * val ys) := by show _ = _; rw [hv3, HV1.out, HV2.out]
    clear hv3
    have hl3 : n3 ≤ 100000 := by
      have h1 := dval_lt hc1.1
      have h2 := dval_lt hc2.1
      rw [hr1.len] at h1
      rw [hr2.len] at h2
      have h3 := dp_mono hl1
      have h4 := dp_mono hl2
      have h6 : dval ds * dval es < dp 2731 * dp 2731 := Nat.mul_lt_mul_of_le_of_lt (by omega) (by omega) (dp_pos _)
      rw [← dp_add] at h6
      have h7 := hc3.len_le (m := 2731 + 2731) (by show _ < dp (2731 + 2731); rw [HV3.out, ← HV1.out, ← HV2.out]; exact h6)
      rw [hr3.len] at h7
      omega
    have hbel : Below w.heap.size w w3 := (hb1.trans (hb2.mono hb1.size)).trans (hb3.mono (by have := hb1.size; have := hb2.size; omega))
    go_wp2_with fail
    refine (fits_c w3 hr3.rd (fun b h => h.2) hc3 hl3).mono ?_
    rintro e w4 ⟨A4, n4, c4, rfl, hr4, hb4⟩
    go_wp2
    go_ret2
    rw [HV3.out] at hr4 ⊢
    rw [HB.out.1, HB.out.2]
    exact ⟨_, _, _, rfl, hr4.more hbel.size, hbel.trans (hb4.mono hbel.size)⟩
  · have e2 : binE xs ys (val xs * val ys) = chk2 xs ys := if_neg h0
    have e3 := binZ_err (xs := xs) (ys := ys) (v := val xs * val ys) (by rw [e2]; exact h0)
    rw [e2, e3]
    have hb : (((chk2 xs ys : Nat) : Int) != 0) = true := by rw [bne_iff_ne]; omega
    have H1 := Lib.hid h1
    clear h1 h0 e2 e3
    go_enter Try.func14, Try.ntmps14
    go_wp2_with fail
    refine H1.out.mono ?_
    rintro e w' ⟨rfl, rfl⟩
    go_wp2
    go_ret2
    exact ⟨none, 0, 0, rfl, Res.nil _ _, Below.refl _ _⟩

set_option maxRecDepth 100000 in
theorem rCompare_c {S S' : Nat → Prop} {n m c d : Nat} {A B : Option Addr} {xs ys : List Nat} (w : World) (ha : Rd w S A n xs) (hb : Rd w S' B m ys) (hS : ∀ b, S b → b < w.heap.size) (hS' : ∀ b, S' b → b < w.heap.size) (hn : n ≤ 9223372036854775807) (hm : m ≤ 9223372036854775807) :
    Calls Try.prog 8 #[.slice A n c, .slice B m d] w fun e w' => e = .returned (.tuple #[.int .i64 (if chk2 xs ys = 0 then cmp xs ys else 0), .int .i64 (chk2 xs ys : Int)]) ∧ Below w.heap.size w w' := by
  have h1 := rchecks_c (c := c) (d := d) w ha hb hn hm
  by_cases h0 : chk2 xs ys = 0
  · rw [if_pos h0]
    obtain ⟨⟨hcx, hlx⟩, hcy, hly⟩ := can_of_chk2 ha.l32 hb.l32 h0
    rw [h0] at h1 ⊢
    have H1 := Lib.hid h1
    have hn2 : n ≤ 256 := by rw [← ha.len]; exact hlx
    have hm2 : m ≤ 256 := by rw [← hb.len]; exact hly
    clear h1 h0
    go_enter Try.func8, Try.ntmps8
    go_wp2_with fail
    refine H1.out.mono ?_
    rintro e w' ⟨rfl, rfl⟩
    go_wp2_with fail
    refine (Digits_k w ha hS hn2).mono ?_
    rintro e w1 ⟨A1, n1, c1, ds, rfl, hr1, hc1, hv1, hl1, hb1⟩
    have HV1 := Lib.hid hv1
    clear hv1
    go_wp2_with fail
    refine (Digits_k w1 (hb.below hb1 hS') (fun b h => by have := hS' b h; have := hb1.size; omega) hm2).mono ?_
    rintro e w2 ⟨A2, n2, c2, es, rfl, hr2, hc2, hv2, hl2, hb2⟩
    have hr1' := hr1.below hb2 (Nat.le_refl _)
    have hO := Order_c (c := c1) (d := c2) w2 hr1'.rd hr2.rd hc1 hc2 (by omega) (by omega)
    rw [dcmp_cmp hcx hcy HV1.out hv2] at hO
    have HO := Lib.hid hO
    clear hO hv2
    go_wp2_with fail
    refine HO.out.mono ?_
    rintro e w3 ⟨rfl, q, rfl⟩
    go_wp2
    go_ret2
    exact ⟨rfl, below_drewN (hb1.trans (hb2.mono hb1.size)) q⟩
  · rw [if_neg h0]
    have hb : (((chk2 xs ys : Nat) : Int) != 0) = true := by rw [bne_iff_ne]; omega
    have H1 := Lib.hid h1
    clear h1 h0
    go_enter Try.func8, Try.ntmps8
    go_wp2_with fail
    refine H1.out.mono ?_
    rintro e w' ⟨rfl, rfl⟩
    go_wp2
    go_ret2
    exact ⟨rfl, Below.refl _ _⟩

set_option maxRecDepth 100000 in
theorem rSub_c {S S' : Nat → Prop} {n m c d : Nat} {A B : Option Addr} {xs ys : List Nat} (w : World) (ha : Rd w S A n xs) (hb : Rd w S' B m ys) (hS : ∀ b, S b → b < w.heap.size) (hS' : ∀ b, S' b → b < w.heap.size) (hn : n ≤ 9223372036854775807) (hm : m ≤ 9223372036854775807) :
    Calls Try.prog 12 #[.slice A n c, .slice B m d] w fun e w' => ∃ A' n' c', e = .returned (.tuple #[.slice A' n' c', .int .i64 (subE xs ys : Int)]) ∧ Res w' w.heap.size A' n' c' (subZ xs ys) ∧ Below w.heap.size w w' := by
  have h1 := rchecks_c (c := c) (d := d) w ha hb hn hm
  by_cases h0 : chk2 xs ys = 0
  · obtain ⟨⟨hcx, hlx⟩, hcy, hly⟩ := can_of_chk2 ha.l32 hb.l32 h0
    have HE : Hid (subE xs ys = if val xs < val ys then 4 else 0) := if_pos h0
    rw [h0] at h1
    have H1 := Lib.hid h1
    have hn2 : n ≤ 256 := by rw [← ha.len]; exact hlx
    have hm2 : m ≤ 256 := by rw [← hb.len]; exact hly
    clear h1 h0
    go_enter Try.func12, Try.ntmps12
    go_wp2_with fail
    refine H1.out.mono ?_
    rintro e w' ⟨rfl, rfl⟩
    go_wp2_with fail
    refine (Digits_k w ha hS hn2).mono ?_
    rintro e w1 ⟨A1, n1, c1, ds, rfl, hr1, hc1, hv1, hl1, hb1⟩
    have HV1 := Lib.hid hv1
    clear hv1
    go_wp2_with fail
    refine (Digits_k w1 (hb.below hb1 hS') (fun b h => by have := hS' b h; have := hb1.size; omega) hm2).mono ?_
    rintro e w2 ⟨A2, n2, c2, es, rfl, hr2, hc2, hv2, hl2, hb2⟩
    have HV2 := Lib.hid hv2
    clear hv2
    have hr1' := hr1.below hb2 (Nat.le_refl _)
    have hbel : Below w.heap.size w w2 := hb1.trans (hb2.mono hb1.size)
    have hO := Order_c (c := c1) (d := c2) w2 hr1'.rd hr2.rd hc1 hc2 (by omega) (by omega)
    by_cases hlt : dval ds < dval es
    · rw [dcmp_lt hlt] at hO
      have HO := Lib.hid hO
      have hE : Hid (subE xs ys = 4) := by show _ = _; rw [HE.out, if_pos (by rw [← HV1.out, ← HV2.out]; exact hlt)]
      clear hO hlt
      go_wp2_with fail
      refine HO.out.mono ?_
      rintro e w3 ⟨rfl, q, rfl⟩
      go_wp2
      go_ret2
      have hZ : subZ xs ys = [] := if_neg (by rw [hE.out]; omega)
      rw [hE.out, hZ]
      exact ⟨none, 0, 0, rfl, Res.nil _ _, below_drewN hbel q⟩
    · have hge : 0 ≤ dcmp ds es := by unfold dcmp; rw [if_neg hlt]; split <;> omega
      obtain ⟨z, hz⟩ : ∃ z, z = dcmp ds es := ⟨_, rfl⟩
      rw [← hz] at hO hge
      have HO := Lib.hid hO
      have HGE : Hid (dval es ≤ dval ds) := Nat.le_of_not_lt hlt
      have hE : Hid (subE xs ys = 0) := by show _ = _; rw [HE.out, if_neg (by rw [← HV1.out, ← HV2.out]; exact hlt)]
      clear hO hlt hz
      go_wp2_with fail
      refine HO.out.mono ?_
      rintro e w3 ⟨rfl, q, rfl⟩
      go_wp2_with fail
      refine (Minus_c (w2.drewN q) (hr1'.rd.drewN q) (hr2.rd.drewN q) (fun b h => h.2) (fun b h => h.2) hc1.1 hc2 HGE.out (by omega) (by omega)).mono ?_
      rintro e w4 ⟨A4, n4, c4, os, rfl, hr4, hc4, hv4, hb4⟩
      have HV4 := Lib.hid hv4
      clear hv4
      have hbel4 : Below w.heap.size w w4 := (below_drewN hbel q).trans (hb4.mono hbel.size)
      have hl4 : n4 ≤ 2731 := by
        obtain ⟨M, hm0, hm, hlt⟩ := bp_lt_ten (n := n) (v := dval os) hn2 (by have h1 := val_lt ha.l32; rw [ha.len] at h1; have h2 := HV4.out; have h3 := HV1.out; omega)
        have := hc4.len_le hlt
        rw [hr4.len] at this
        omega
      go_wp2_with fail
      refine (Limbs_c w4 hr4.rd (fun b h => h.2) hc4 (by omega)).mono ?_
      rintro e w5 ⟨A5, n5, c5, zs, rfl, hr5, hc5, hv5, hb5⟩
      have HV5 := Lib.hid hv5
      clear hv5
      go_wp2
      go_ret2
      have hZ : subZ xs ys = zs := by
        have e1 : subZ xs ys = lim (val xs - val ys) := if_pos hE.out
        rw [e1, eq_lim hc5]
        congr 1
        have h1 := HV5.out; have h2 := HV4.out; have h3 := HV1.out; have h4 := HV2.out
        omega
      rw [hE.out, hZ]
      exact ⟨_, _, _, rfl, hr5.more hbel4.size, hbel4.trans (hb5.mono hbel4.size)⟩
  · have e2 : subE xs ys = chk2 xs ys := if_neg h0
    have e3 : subZ xs ys = [] := if_neg (by rw [e2]; exact h0)
    rw [e2, e3]
    have hb : (((chk2 xs ys : Nat) : Int) != 0) = true := by rw [bne_iff_ne]; omega
    have H1 := Lib.hid h1
    clear h1 h0 e2 e3
    go_enter Try.func12, Try.ntmps12
    go_wp2_with fail
    refine H1.out.mono ?_
    rintro e w' ⟨rfl, rfl⟩
    go_wp2
    go_ret2
    exact ⟨none, 0, 0, rfl, Res.nil _ _, Below.refl _ _⟩

set_option maxRecDepth 100000 in
theorem rDiv_c {S S' : Nat → Prop} {n m c d : Nat} {A B : Option Addr} {xs ys : List Nat} (w : World) (ha : Rd w S A n xs) (hb : Rd w S' B m ys)
    (hS : ∀ b, S b → b < w.heap.size) (hS' : ∀ b, S' b → b < w.heap.size) (hn : n ≤ 9223372036854775807) (hm : m ≤ 9223372036854775807) :
    Calls Try.prog 30 #[.slice A n c, .slice B m d] w fun e w' => ∃ A1 n1 c1 qs A2 n2 c2 rs, e = .returned (.tuple #[.slice A1 n1 c1, .slice A2 n2 c2, .int .i64 (divE xs ys : Int)]) ∧
      Res w' w.heap.size A1 n1 c1 qs ∧ Res w' w.heap.size A2 n2 c2 rs ∧ (divE xs ys ≠ 0 → n1 = 0 ∧ n2 = 0) ∧ (divE xs ys = 0 → Can qs ∧ Can rs ∧ val xs = val qs * val ys + val rs ∧ val rs < val ys) ∧ Below w.heap.size w w' := by
  have h1 := rchecks_c (c := c) (d := d) w ha hb hn hm
  by_cases h0 : chk2 xs ys = 0
  · obtain ⟨⟨hcx, hlx⟩, hcy, hly⟩ := can_of_chk2 ha.l32 hb.l32 h0
    have HE : Hid (divE xs ys = if ys.length = 0 then 53 else 0) := if_pos h0
    rw [h0] at h1
    have H1 := Lib.hid h1
    have hn2 : n ≤ 256 := by rw [← ha.len]; exact hlx
    have hm2 : m ≤ 256 := by rw [← hb.len]; exact hly
    clear h1 h0
    by_cases hm0 : m = 0
    · have hE : Hid (divE xs ys = 53) := by show _ = _; rw [HE.out, if_pos (by rw [hb.len]; exact hm0)]
      subst hm0
      go_enter Try.func30, Try.ntmps30
      go_wp2_with fail
      refine H1.out.mono ?_
      rintro e w' ⟨rfl, rfl⟩
      go_wp2
      go_ret3
      rw [hE.out]
      exact ⟨none, 0, 0, [], none, 0, 0, [], rfl, Res.nil _ _, Res.nil _ _, fun _ => ⟨rfl, rfl⟩, fun h => by omega, Below.refl _ _⟩
    · have hE : Hid (divE xs ys = 0) := by show _ = _; rw [HE.out, if_neg (by rw [hb.len]; exact hm0)]
      have hmb : ((m : Int) == 0) = false := by rw [beq_eq_false_iff_ne]; omega
      have hpos : Hid (0 < val ys) := by
        show _ < _
        rcases Nat.eq_zero_or_pos (val ys) with h | h
        · have := hcy.val_zero h
          have h2 := hb.len
          rw [this] at h2
          exact absurd h2.symm hm0
        · exact h
      clear hm0
      go_enter Try.func30, Try.ntmps30
      go_wp2_with fail
      refine H1.out.mono ?_
      rintro e w' ⟨rfl, rfl⟩
      go_wp2_with fail
      refine (Digits_k w ha hS hn2).mono ?_
      rintro e w1 ⟨A1, n1, c1, ds, rfl, hr1, hc1, hv1, hl1, hb1⟩
      have HV1 := Lib.hid hv1
      clear hv1
      go_wp2_with fail
      refine (Digits_k w1 (hb.below hb1 hS') (fun b h => by have := hS' b h; have := hb1.size; omega) hm2).mono ?_
      rintro e w2 ⟨A2, n2, c2, es, rfl, hr2, hc2, hv2, hl2, hb2⟩
      have HV2 := Lib.hid hv2
      clear hv2
      have hr1' := hr1.below hb2 (Nat.le_refl _)
      have hbel : Below w.heap.size w w2 := hb1.trans (hb2.mono hb1.size)
      go_wp2_with fail
      refine (Quotient_c w2 hr1'.rd hr2.rd (fun b h => h.2) (fun b h => h.2) hc1.1 hc2 (by rw [HV2.out]; exact hpos.out) (by omega) (by omega)).mono ?_
      rintro e w3 ⟨A3, n3, c3, A4, n4, c4, qs, rs, rfl, hr3, hr4, hc3, hc4, hv3, hv4, hl3, hl4, hb3⟩
      have HV3 := Lib.hid hv3
      have HV4 := Lib.hid hv4
      clear hv3 hv4
      have hbel3 : Below w.heap.size w w3 := hbel.trans (hb3.mono hbel.size)
      go_wp2_with fail
      refine (Limbs_c w3 hr3.rd (fun b h => h.2) hc3 (by omega)).mono ?_
      rintro e w5 ⟨A5, n5, c5, zs, rfl, hr5, hc5, hv5, hb5⟩
      have HV5 := Lib.hid hv5
      clear hv5
      have hr4' := hr4.below hb5 (Nat.le_refl _)
      go_wp2_with fail
      refine (Limbs_c w5 hr4'.rd (fun b h => h.2) hc4 (by omega)).mono ?_
      rintro e w6 ⟨A6, n6, c6, us, rfl, hr6, hc6, hv6, hb6⟩
      have HV6 := Lib.hid hv6
      clear hv6
      go_wp2
      go_ret3
      rw [hE.out]
      have hs3 := hbel3.size
      have hs5 := hb5.size
      refine ⟨_, _, _, zs, _, _, _, us, rfl, (hr5.below hb6 (Nat.le_refl _)).more hs3, hr6.more (by omega), fun h => absurd rfl h, fun _ => ⟨hc5, hc6, ?_, ?_⟩, (hbel3.trans (hb5.mono hs3)).trans (hb6.mono (by omega))⟩
      · rw [HV5.out, HV6.out, ← HV1.out, ← HV2.out]; exact HV3.out
      · rw [HV6.out, ← HV2.out]; exact HV4.out
  · have e2 : divE xs ys = chk2 xs ys := if_neg h0
    rw [e2]
    have hb : (((chk2 xs ys : Nat) : Int) != 0) = true := by rw [bne_iff_ne]; omega
    have H1 := Lib.hid h1
    have H0 := Lib.hid h0
    clear h1 h0 e2
    go_enter Try.func30, Try.ntmps30
    go_wp2_with fail
    refine H1.out.mono ?_
    rintro e w' ⟨rfl, rfl⟩
    go_wp2
    go_ret3
    exact ⟨none, 0, 0, [], none, 0, 0, [], rfl, Res.nil _ _, Res.nil _ _, fun _ => ⟨rfl, rfl⟩, fun h => absurd h H0.out, Below.refl _ _⟩
end Go.Proofs.Ytdlphdbojkdfoaa
