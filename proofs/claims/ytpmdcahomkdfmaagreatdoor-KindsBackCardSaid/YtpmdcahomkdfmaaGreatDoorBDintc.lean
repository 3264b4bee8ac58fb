/-
  What an operation of decimals answers, in numbers; what a decimal that may be is; numbers of so many digits. Plain words and lemmas.
  Contract of dec's Int (its Settle ahead of it).
-/
import Derived.Test.YtpmdcahomkdfmaaGreatDoorBDset
import Derived.PlainAid
set_option linter.unusedVariables false
set_option linter.unusedSimpArgs false
namespace Go.Proofs.YtpmdcahomkdfmaaGreatDoor
open Go.RowKit

theorem ten_two (m : Nat) : (10 : Nat) ^ (3 * m) ≤ 2 ^ (10 * m) := by
  rw [Nat.pow_mul, Nat.pow_mul]
  exact Nat.pow_le_pow_left (by decide) m
theorem bp_two (n : Nat) : bp n = 2 ^ (32 * n) := by unfold bp; rw [Nat.pow_mul]
/-- Numbers of so many digits have so many limbs. -/
theorem lt_bp {v p m n : Nat} (h : v < 10 ^ p) (hp : p ≤ 3 * m) (hm : 10 * m ≤ 32 * n) : v < bp n := by
  have h1 : (10 : Nat) ^ p ≤ 10 ^ (3 * m) := Nat.pow_le_pow_right (by omega) hp
  have h2 := ten_two m
  have h3 : (2 : Nat) ^ (10 * m) ≤ 2 ^ (32 * n) := Nat.pow_le_pow_right (by omega) hm
  rw [bp_two]
  exact Nat.lt_of_lt_of_le h (Nat.le_trans h1 (Nat.le_trans h2 h3))
theorem isDec_dig {v : Nat} {s : ByteArray} (h : IsDec v s) : allDig (octs s) = true ∧ pnum (octs s) = v := ⟨(isDec_octs h).1, (isDec_octs h).2.1⟩
theorem pow_le10 {p q : Nat} (h : p ≤ q) : dp p ≤ 10 ^ q := Nat.pow_le_pow_right (by omega) h
/-- What a decimal that may be is, in numbers. -/
theorem okB_true {neg : Bool} {xs : List Nat} {exp : Int} (hl : L32 xs) (h : okB neg xs exp = true) : Can xs ∧ xs.length ≤ 256 ∧ val xs < 10 ^ 300 ∧ (-1000 ≤ exp ∧ exp ≤ 1000) ∧ (xs.length = 0 → neg = false ∧ exp = 0) ∧ (xs.length ≠ 0 → nth (dOf (val xs)) 0 ≠ 0) := by
  unfold okB at h
  rw [Bool.and_eq_true, Bool.and_eq_true, decide_eq_true_eq, decide_eq_true_eq] at h
  obtain ⟨h1, h2, h3⟩ := h
  obtain ⟨c1, c2⟩ := can_of_chk hl h1
  have hv : val xs < 10 ^ 300 := by
    have h4 := dval_lt (dOf_can (val xs)).1
    rw [dOf_val] at h4
    obtain ⟨T, hT⟩ : ∃ T, T = 300 := ⟨_, rfl⟩
    rw [← hT] at h2 ⊢
    exact Nat.lt_of_lt_of_le h4 (pow_le10 h2)
  by_cases h0 : xs.length = 0
  · rw [if_pos h0, Bool.and_eq_true] at h3
    obtain ⟨h5, h6⟩ := h3
    have h7 : exp = 0 := by simpa using h6
    have h8 : neg = false := by simpa using h5
    exact ⟨c1, c2, hv, by omega, fun _ => ⟨h8, h7⟩, fun h => absurd h0 h⟩
  · rw [if_neg h0, Bool.and_eq_true, Bool.and_eq_true, decide_eq_true_eq, decide_eq_true_eq, decide_eq_true_eq] at h3
    exact ⟨c1, c2, hv, h3.2, fun h => absurd h h0, fun _ => h3.1⟩
/-- What is answered: the error of the check, else the number settled. -/
def opE (E Z : Nat) (lo : Int) : Nat := if E = 0 then stE Z lo else E
def opN (E : Nat) (s : Bool) (Z : Nat) (lo : Int) : Bool := if E = 0 then stN s Z lo else false
def opX (E Z : Nat) (lo : Int) : Int := if E = 0 then stX Z lo else 0
def opZ (E Z : Nat) (lo : Int) : List Nat := if E = 0 then stZ Z lo else []
/-- The answer of an operation in the one form. -/
def Told (e : Ending) (w' : World) (base E : Nat) (s : Bool) (Z : Nat) (lo : Int) : Prop :=
  ∃ A' n' c', e = .returned (.tuple #[dv (opN E s Z lo) A' n' c' (opX E Z lo), .int .i64 (opE E Z lo : Int)]) ∧ Res w' base A' n' c' (opZ E Z lo)
theorem told_of {e : Ending} {w' : World} {base E : Nat} {s : Bool} {Z : Nat} {lo : Int}
    (hbad : E ≠ 0 → e = .returned (.tuple #[dv false none 0 0 0, .int .i64 (E : Int)]))
    (hgood : E = 0 → ∃ A' n' c', e = .returned (.tuple #[dv (stN s Z lo) A' n' c' (stX Z lo), .int .i64 (stE Z lo : Int)]) ∧ Res w' base A' n' c' (stZ Z lo)) : Told e w' base E s Z lo := by
  unfold Told opE opN opX opZ
  by_cases h : E = 0
  · rw [if_pos h, if_pos h, if_pos h, if_pos h]; exact hgood h
  · rw [if_neg h, if_neg h, if_neg h, if_neg h]; exact ⟨none, 0, 0, hbad h, Res.nil _ _⟩
theorem box3_of {w : World} {b : Nat} {v0 v1 v2 : Value} {t : TypeId} (h : w.heap[b]? = some (.cells #[v0, v1, v2] t)) : w.cell? ⟨b, 0, none⟩ = some v0 ∧ w.cell? ⟨b, 1, none⟩ = some v1 ∧ w.cell? ⟨b, 2, none⟩ = some v2 :=
  ⟨cell_of h rfl, cell_of h rfl, cell_of h rfl⟩
theorem heldz {w w' : World} {b : Nat} {vs : Array Value} {t : TypeId} (hb : Below w.heap.size w w') (h : w.heap[b]? = some (.cells vs t)) : w'.heap[b]? = some (.cells vs t) := held hb (Array.getElem?_eq_some_iff.1 h).1 h
theorem heldA {w : World} {b : Nat} {vs : Array Value} {t : TypeId} (o : Obj) (h : w.heap[b]? = some (.cells vs t)) : (w.alloc o).heap[b]? = some (.cells vs t) := (Below.heap_alloc _ _ _ (Array.getElem?_eq_some_iff.1 h).1).trans h
end Go.Proofs.YtpmdcahomkdfmaaGreatDoor

namespace Go.Proofs.YtpmdcahomkdfmaaGreatDoor
open Go.RowKit

theorem stE_small {v : Nat} (h : v < 10 ^ 40) : stE v 0 = 0 := by
  by_cases h0 : v = 0
  · rw [h0]; exact (st_zero false 0).1
  · have hl : (dOf v).length ≤ 40 := by
      rcases Nat.lt_or_ge 40 (dOf v).length with h1 | h1
      · exfalso
        have h2 := (dOf_can v).ge (dOf_ne (by omega))
        rw [dOf_val] at h2
        have h3 : 10 ^ 40 ≤ dp ((dOf v).length - 1) := Nat.pow_le_pow_right (by omega) (by omega)
        omega
      · exact h1
    have h3 := lz_le (dOf v)
    unfold stE cf
    rw [if_neg h0, List.length_drop, if_neg (by omega), if_pos (by omega)]
theorem ten19 : (18446744073709551616 : Nat) < 10 ^ 40 := by decide
/-- The error of Settle ahead of settling. -/
def seEi (xs : List Nat) (exp : Int) : Nat := if chk xs = 0 then (if -4000 ≤ exp ∧ exp ≤ 4000 then 0 else 52) else chk xs

set_option maxRecDepth 100000 in
set_option maxHeartbeats 1000000 in
theorem DSettleI_v {S : Nat → Prop} {n c : Nat} {A : Option Addr} {xs : List Nat} (neg : Bool) (exp : Int) (w : World) (ha : Rd w S A n xs) (hS : ∀ b, S b → b < w.heap.size) (hn : n ≤ 9223372036854775807) :
    Calls Tryz.prog 52 #[.bool neg, .slice A n c, .int .i64 exp] w fun e w' => Told e w' w.heap.size (seEi xs exp) neg (val xs) exp ∧ Below w.heap.size w w' := by
  have hb0 : ∀ o, Below w.heap.size w (w.alloc o) := fun o => (Below.refl _ _).alloc (Nat.le_refl _) _
  have hW := hb0 (.cells #[.bool false, .slice none 0 0, .int .i64 0] 24)
  have m0 := World.alloc_heap_new w (.cells #[.bool false, .slice none 0 0, .int .i64 0] 24)
  have hsz : (w.alloc (.cells #[.bool false, .slice none 0 0, .int .i64 0] 24)).heap.size = w.heap.size + 1 := by simp
  have HM0 := Lib.hid m0
  clear m0
  obtain ⟨E, hE⟩ : ∃ E : Nat, Hid (seEi xs exp = E) := ⟨_, Lib.hid rfl⟩
  rw [hE.out]
  go_enter Tryz.func52, Tryz.ntmps52
  go_wp2_with fail
  have m0 := HM0.out
  clear HM0
  generalize (w.alloc (.cells #[.bool false, .slice none 0 0, .int .i64 0] 24)) = W at m0 hW hsz ⊢
  refine (Print_c (c := c) W (ha.below hW hS) (fun b h => by have := hS b h; omega) hn).mono ?_
  rintro e w1 ⟨s, rfl, hs1, _, hsz1, hb1⟩
  have hw1 := hW.trans (hb1.mono (by omega))
  have m1 := held hb1 (by omega) m0
  have y0 : w1.cell? ⟨w.heap.size, 0, none⟩ = some (.bool false) := cell_of m1 rfl
  have y1 : w1.cell? ⟨w.heap.size, 1, none⟩ = some (.slice none 0 0) := cell_of m1 rfl
  have y2 : w1.cell? ⟨w.heap.size, 2, none⟩ = some (.int .i64 0) := cell_of m1 rfl
  have f0 := frozen_of 0 m1
  have f1 := frozen_of 1 m1
  have f2 := frozen_of 2 m1
  have hs1' := hb1.size
  have hend : Below w.heap.size w (((w1.setCell ⟨w.heap.size, 0, none⟩ (.bool false)).setCell ⟨w.heap.size, 1, none⟩ (.slice none 0 0)).setCell ⟨w.heap.size, 2, none⟩ (.int .i64 0)) :=
    ((hw1.setCell (p := ⟨w.heap.size, 0, none⟩) (Nat.le_refl _) _).setCell (p := ⟨w.heap.size, 1, none⟩) (Nat.le_refl _) _).setCell (p := ⟨w.heap.size, 2, none⟩) (Nat.le_refl _) _
  by_cases h0 : chk xs = 0
  · have hce : (((chk xs : Nat) : Int) != 0) = false := by rw [h0]; rfl
    have HS := Lib.hid (hs1 h0).2
    by_cases hx : -4000 ≤ exp ∧ exp ≤ 4000
    · have hE0 : Hid (E = 0) := by show _ = _; rw [← hE.out]; unfold seEi; rw [if_pos h0, if_pos hx]
      obtain ⟨hx1, hx2⟩ := hx
      obtain ⟨d1, d2⟩ := isDec_dig HS.out
      have D2 := Lib.hid d2
      have hS3 := settle_c neg none 0 0 exp s w1 (by omega) d1 (by omega)
      rw [D2.out] at hS3
      unfold rv at hS3
      have HS3 := Lib.hid hS3
      have H0 := Lib.hid h0
      clear hs1 h0 d1 d2 hS3 y0 y1 y2 f0 f1 f2
      go_wp2_with fail
      refine HS3.out.mono ?_
      rintro e w3 ⟨A', n', c', rfl, hr3, hb3⟩
      have m3 := held hb3 (by omega) m1
      have y0 : w3.cell? ⟨w.heap.size, 0, none⟩ = some (.bool false) := cell_of m3 rfl
      have y1 : w3.cell? ⟨w.heap.size, 1, none⟩ = some (.slice none 0 0) := cell_of m3 rfl
      have y2 : w3.cell? ⟨w.heap.size, 2, none⟩ = some (.int .i64 0) := cell_of m3 rfl
      have f0 := frozen_of 0 m3
      have f1 := frozen_of 1 m3
      have f2 := frozen_of 2 m3
      have hw3 := hw1.trans (hb3.mono hw1.size)
      have hlt : w.heap.size < w1.heap.size := by omega
      clear m3 m1 m0
      dsimp only [dv]
      go_wp2
      refine bodyPost_ret (v := .tuple #[.agg #[.bool (stN neg (val xs) exp), .slice A' n' c', .int .i64 (stX (val xs) exp)], .int .i64 (stE (val xs) exp : Int)]) (by simp [results, Tryz.results52, go_sem, y0, y1, y2]) rfl ?_
      refine ⟨told_of (fun h => absurd hE0.out h) (fun _ => ⟨A', n', c', rfl, ?_⟩), ?_⟩
      · exact (((hr3.setOther (p := ⟨w.heap.size, 0, none⟩) hlt _).setOther (p := ⟨w.heap.size, 1, none⟩) hlt _).setOther (p := ⟨w.heap.size, 2, none⟩) hlt _).more hw1.size
      · exact ((hw3.setCell (p := ⟨w.heap.size, 0, none⟩) (Nat.le_refl _) _).setCell (p := ⟨w.heap.size, 1, none⟩) (Nat.le_refl _) _).setCell (p := ⟨w.heap.size, 2, none⟩) (Nat.le_refl _) _
    · have hE0 : Hid (E = 52) := by show _ = _; rw [← hE.out]; unfold seEi; rw [if_pos h0, if_neg hx]
      have hxx : exp < -4000 ∨ 4000 < exp := by omega
      clear hs1 h0 hx
      rcases hxx with hx | hx
      all_goals
        go_wp2
        refine bodyPost_ret (v := .tuple #[.agg #[.bool false, .slice none 0 0, .int .i64 0], .int .i64 52]) (by simp [results, Tryz.results52, go_sem, y0, y1, y2]) rfl ?_
        refine ⟨told_of (fun h => by rw [hE0.out]; rfl) (fun h => absurd (hE0.out.symm.trans h) (by decide)), hend⟩
  · have hce : (((chk xs : Nat) : Int) != 0) = true := by rw [bne_iff_ne]; omega
    have hE0 : Hid (E = chk xs) := by show _ = _; rw [← hE.out]; unfold seEi; rw [if_neg h0]
    have H0 := Lib.hid h0
    clear hs1 h0
    go_wp2
    refine bodyPost_ret (v := .tuple #[.agg #[.bool false, .slice none 0 0, .int .i64 0], .int .i64 (chk xs : Int)]) (by simp [results, Tryz.results52, go_sem, y0, y1, y2]) rfl ?_
    refine ⟨told_of (fun h => by rw [hE0.out]; rfl) (fun h => absurd (hE0.out.symm.trans h) H0.out), hend⟩

-- A number of so many limbs settles.
set_option maxRecDepth 100000 in
set_option maxHeartbeats 1000000 in
theorem DInt_c (z : Int) (w : World) (h1 : -9223372036854775808 ≤ z) (h2 : z ≤ 9223372036854775807) :
    Calls Tryz.prog 49 #[.int .i64 z] w fun e w' => ∃ A n c, e = .returned (dv (stN (decide (z < 0)) z.natAbs 0) A n c (stX z.natAbs 0)) ∧ Res w' w.heap.size A n c (stZ z.natAbs 0) ∧ Below w.heap.size w w' := by
  have hb0 : ∀ o, Below w.heap.size w (w.alloc o) := fun o => (Below.refl _ _).alloc (Nat.le_refl _) _
  have hW := hb0 (.cells #[.bool false, .slice none 0 0, .int .i64 0] 24)
  have m0 := World.alloc_heap_new w (.cells #[.bool false, .slice none 0 0, .int .i64 0] 24)
  have hsz : (w.alloc (.cells #[.bool false, .slice none 0 0, .int .i64 0] 24)).heap.size = w.heap.size + 1 := by simp
  obtain ⟨u, hu⟩ : ∃ u : Nat, u = z.natAbs := ⟨_, rfl⟩
  rw [← hu]
  have hub : u < 18446744073709551616 := by omega
  obtain ⟨b, hb⟩ : ∃ b, b = decide (z < 0) := ⟨_, rfl⟩
  rw [← hb]
  have hE := stE_small (v := u) (by have := ten19; omega)
  have hset : ∀ V A n c zs, Res V V.heap.size A n c zs → True := fun _ _ _ _ _ _ => trivial
  have HM0 := Lib.hid m0
  have HE := Lib.hid hE
  have HU := Lib.hid hu
  have HB := Lib.hid hb
  clear m0 hE hu hb hset
  -- the walk behind the size
  have hend : ∀ (W w1 : World) (A : Option Addr) (n c : Nat) (zs : List Nat), Res w1 W.heap.size A n c zs → Can zs → val zs = u → Below W.heap.size W w1 → Calls Tryz.prog 52 #[.bool b, .slice A n c, .int .i64 0] w1 fun e w' => ∃ A' n' c', e = .returned (.tuple #[.agg #[.bool (stN b u 0), .slice A' n' c', .int .i64 (stX u 0)], .int .i64 0]) ∧ Res w' w1.heap.size A' n' c' (stZ u 0) ∧ Below w1.heap.size w1 w' := by
    intro W w1 A n c zs hr hc hv hb1
    refine (DSettleI_v (c := c) b 0 w1 hr.rd (fun b h => h.2) hr.lt).mono ?_
    rintro e w' ⟨⟨A', n', c', rfl, hr'⟩, hb'⟩
    have hcl : zs.length ≤ 256 := by
      rcases Nat.lt_or_ge 256 zs.length with h | h
      · have := (long_iff hc).1 h
        have h3 : (18446744073709551616 : Nat) < bp 256 := lt_bp (m := 20) (v := 18446744073709551616) ten19 (by omega) (by omega)
        omega
      · exact h
    have hse : seEi zs 0 = 0 := by unfold seEi; rw [if_pos (chk_can hc hcl), if_pos (by omega)]
    rw [hse, hv] at hr'
    rw [hse, hv]
    have e1 : opE 0 u 0 = 0 := HE.out
    rw [e1]
    exact ⟨A', n', c', rfl, hr', hb'⟩
  have HEND := Lib.hid hend
  clear hend
  by_cases hz : z < 0
  · have hbb : b = true := by rw [HB.out]; exact decide_eq_true hz
    have hw1 : IntKind.u64.wrap z = z + 18446744073709551616 := by rw [IntKind.wrap]; simp [IntKind.signed, IntKind.bits]; omega
    have hw2 : IntKind.u64.wrap (-(z + 18446744073709551616)) = (u : Int) := by have := HU.out; rw [IntKind.wrap]; simp [IntKind.signed, IntKind.bits]; omega
    subst hbb
    go_enter Tryz.func49, Tryz.ntmps49
    go_wp2_with fail
    have m0 := HM0.out
    clear HM0
    generalize (w.alloc (.cells #[.bool false, .slice none 0 0, .int .i64 0] 24)) = W at m0 hW hsz ⊢
    refine (From_c u W hub).mono ?_
    rintro e w1 ⟨A1, n1, c1, zs, rfl, hr1, hc1, hv1, hb1⟩
    have HC1 := Lib.hid hc1
    have HV1 := Lib.hid hv1
    have m1 := held hb1 (by omega) m0
    have hw1' := hW.trans (hb1.mono (by omega))
    have hs1 := hb1.size
    clear hc1 hv1 m0
    go_wp2_with fail
    refine (HEND.out W w1 A1 n1 c1 zs hr1 HC1.out HV1.out hb1).mono ?_
    rintro e w2 ⟨A2, n2, c2, rfl, hr2, hb2⟩
    have m2 := held hb2 (by omega) m1
    have hw2' := hw1'.trans (hb2.mono hw1'.size)
    have hs2 := hb2.size
    have m3 : (w2.alloc (.cells #[.bool (stN true u 0), .slice A2 n2 c2, .int .i64 (stX u 0)] 24)).heap[w.heap.size]? = some (.cells #[.bool false, .slice none 0 0, .int .i64 0] 24) := (Below.heap_alloc _ _ _ (by omega)).trans m2
    have y0 : (w2.alloc (.cells #[.bool (stN true u 0), .slice A2 n2 c2, .int .i64 (stX u 0)] 24)).cell? ⟨w.heap.size, 0, none⟩ = some (.bool false) := cell_of m3 rfl
    have y1 : (w2.alloc (.cells #[.bool (stN true u 0), .slice A2 n2 c2, .int .i64 (stX u 0)] 24)).cell? ⟨w.heap.size, 1, none⟩ = some (.slice none 0 0) := cell_of m3 rfl
    have y2 : (w2.alloc (.cells #[.bool (stN true u 0), .slice A2 n2 c2, .int .i64 (stX u 0)] 24)).cell? ⟨w.heap.size, 2, none⟩ = some (.int .i64 0) := cell_of m3 rfl
    have f0 := frozen_of 0 m3
    have f1 := frozen_of 1 m3
    have f2 := frozen_of 2 m3
    have hlt : w.heap.size < w1.heap.size := by omega
    have hr3 := hr2.below (B := w2.heap.size) ((Below.refl _ w2).alloc (Nat.le_refl _) (.cells #[.bool (stN true u 0), .slice A2 n2 c2, .int .i64 (stX u 0)] 24)) (Nat.le_refl _)
    have hw3 := hw2'.alloc hw2'.size (.cells #[.bool (stN true u 0), .slice A2 n2 c2, .int .i64 (stX u 0)] 24)
    clear m1 m2 m3 hr1 hr2
    go_wp2
    refine bodyPost_ret (v := .agg #[.bool (stN true u 0), .slice A2 n2 c2, .int .i64 (stX u 0)]) (by simp [results, Tryz.results49, go_sem, y0, y1, y2]) rfl ?_
    exact ⟨A2, n2, c2, rfl, (((hr3.setOther (p := ⟨w.heap.size, 0, none⟩) hlt _).setOther (p := ⟨w.heap.size, 1, none⟩) hlt _).setOther (p := ⟨w.heap.size, 2, none⟩) hlt _).more hw1'.size,
      ((hw3.setCell (p := ⟨w.heap.size, 0, none⟩) (Nat.le_refl _) _).setCell (p := ⟨w.heap.size, 1, none⟩) (Nat.le_refl _) _).setCell (p := ⟨w.heap.size, 2, none⟩) (Nat.le_refl _) _⟩
  · have hbb : b = false := by rw [HB.out]; exact decide_eq_false hz
    have hw1 : IntKind.u64.wrap z = (u : Int) := by have := HU.out; rw [IntKind.wrap]; simp [IntKind.signed, IntKind.bits]; omega
    have hzu : z = (u : Int) := by have := HU.out; omega
    subst hzu
    subst hbb
    go_enter Tryz.func49, Tryz.ntmps49
    go_wp2_with fail
    have m0 := HM0.out
    clear HM0
    generalize (w.alloc (.cells #[.bool false, .slice none 0 0, .int .i64 0] 24)) = W at m0 hW hsz ⊢
    refine (From_c u W hub).mono ?_
    rintro e w1 ⟨A1, n1, c1, zs, rfl, hr1, hc1, hv1, hb1⟩
    have HC1 := Lib.hid hc1
    have HV1 := Lib.hid hv1
    have m1 := held hb1 (by omega) m0
    have hw1' := hW.trans (hb1.mono (by omega))
    have hs1 := hb1.size
    clear hc1 hv1 m0
    go_wp2_with fail
    refine (HEND.out W w1 A1 n1 c1 zs hr1 HC1.out HV1.out hb1).mono ?_
    rintro e w2 ⟨A2, n2, c2, rfl, hr2, hb2⟩
    have m2 := held hb2 (by omega) m1
    have hw2' := hw1'.trans (hb2.mono hw1'.size)
    have hs2 := hb2.size
    have m3 : (w2.alloc (.cells #[.bool (stN false u 0), .slice A2 n2 c2, .int .i64 (stX u 0)] 24)).heap[w.heap.size]? = some (.cells #[.bool false, .slice none 0 0, .int .i64 0] 24) := (Below.heap_alloc _ _ _ (by omega)).trans m2
    have y0 : (w2.alloc (.cells #[.bool (stN false u 0), .slice A2 n2 c2, .int .i64 (stX u 0)] 24)).cell? ⟨w.heap.size, 0, none⟩ = some (.bool false) := cell_of m3 rfl
    have y1 : (w2.alloc (.cells #[.bool (stN false u 0), .slice A2 n2 c2, .int .i64 (stX u 0)] 24)).cell? ⟨w.heap.size, 1, none⟩ = some (.slice none 0 0) := cell_of m3 rfl
    have y2 : (w2.alloc (.cells #[.bool (stN false u 0), .slice A2 n2 c2, .int .i64 (stX u 0)] 24)).cell? ⟨w.heap.size, 2, none⟩ = some (.int .i64 0) := cell_of m3 rfl
    have f0 := frozen_of 0 m3
    have f1 := frozen_of 1 m3
    have f2 := frozen_of 2 m3
    have hlt : w.heap.size < w1.heap.size := by omega
    have hr3 := hr2.below (B := w2.heap.size) ((Below.refl _ w2).alloc (Nat.le_refl _) (.cells #[.bool (stN false u 0), .slice A2 n2 c2, .int .i64 (stX u 0)] 24)) (Nat.le_refl _)
    have hw3 := hw2'.alloc hw2'.size (.cells #[.bool (stN false u 0), .slice A2 n2 c2, .int .i64 (stX u 0)] 24)
    clear m1 m2 m3 hr1 hr2
    go_wp2
    refine bodyPost_ret (v := .agg #[.bool (stN false u 0), .slice A2 n2 c2, .int .i64 (stX u 0)]) (by simp [results, Tryz.results49, go_sem, y0, y1, y2]) rfl ?_
    exact ⟨A2, n2, c2, rfl, (((hr3.setOther (p := ⟨w.heap.size, 0, none⟩) hlt _).setOther (p := ⟨w.heap.size, 1, none⟩) hlt _).setOther (p := ⟨w.heap.size, 2, none⟩) hlt _).more hw1'.size,
      ((hw3.setCell (p := ⟨w.heap.size, 0, none⟩) (Nat.le_refl _) _).setCell (p := ⟨w.heap.size, 1, none⟩) (Nat.le_refl _) _).setCell (p := ⟨w.heap.size, 2, none⟩) (Nat.le_refl _) _⟩
end Go.Proofs.YtpmdcahomkdfmaaGreatDoor
