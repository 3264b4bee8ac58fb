/-
  Decimals as values; when one may be, in numbers. Plain words and lemmas, and the contracts of dec's mayStand, mayBe and Check.
-/
import Derived.Test.YtpmdcahomkdfmaaGreatDoorBNrefe
set_option linter.unusedVariables false
set_option linter.unusedSimpArgs false
namespace Go.Proofs.YtpmdcahomkdfmaaGreatDoor
open Go.RowKit

/-- A decimal's value. -/
def dv (neg : Bool) (A : Option Addr) (n c : Nat) (exp : Int) : Value := .agg #[.bool neg, .slice A n c, .int .i64 exp]

/-- The digits of a number, the lowest first. -/
def dgOf : Nat → Nat → List Nat
  | 0, _ => []
  | f + 1, v => if v = 0 then [] else v % 10 :: dgOf f (v / 10)
def dOf (v : Nat) : List Nat := dgOf v v
theorem dgOf_ok : ∀ (f v : Nat), v ≤ f → DCan (dgOf f v) ∧ dval (dgOf f v) = v
  | 0, v, h => by
    have e : v = 0 := by omega
    rw [e]
    exact ⟨DCan.nil, rfl⟩
  | f + 1, v, h => by
    unfold dgOf
    by_cases h0 : v = 0
    · rw [if_pos h0, h0]; exact ⟨DCan.nil, rfl⟩
    · rw [if_neg h0]
      obtain ⟨hc, hv⟩ := dgOf_ok f (v / 10) (by omega)
      refine ⟨⟨D10.cons.2 ⟨by omega, hc.1⟩, .inr ?_⟩, by rw [dval_cons, hv]; omega⟩
      rcases hc.2 with e | e
      · rw [e] at hv ⊢
        rw [dval_nil] at hv
        simp [nth]
        omega
      · have hl : 0 < (dgOf f (v / 10)).length := by
          rcases Nat.eq_zero_or_pos (dgOf f (v / 10)).length with h1 | h1
          · rw [nth_none (by omega)] at e; exact absurd rfl e
          · exact h1
        rw [List.length_cons, show (dgOf f (v / 10)).length + 1 - 1 = ((dgOf f (v / 10)).length - 1) + 1 by omega, nth_cons_succ]
        exact e
theorem dOf_can (v : Nat) : DCan (dOf v) := (dgOf_ok v v (Nat.le_refl _)).1
theorem dOf_val (v : Nat) : dval (dOf v) = v := (dgOf_ok v v (Nat.le_refl _)).2
theorem eq_dOf {ds : List Nat} (h : DCan ds) : ds = dOf (dval ds) := h.inj (dOf_can _) (dOf_val _).symm
theorem dOf_zero : dOf 0 = [] := rfl
theorem dOf_ne {v : Nat} (h : 0 < v) : dOf v ≠ [] := fun e => by
  have := dOf_val v
  rw [e, dval_nil] at this
  omega
theorem isDec_txt {v : Nat} {s : ByteArray} (h : IsDec v s) (hv : 0 < v) : s = txt (chars (dOf v)).reverse := by
  rcases h with ⟨h0, _⟩ | ⟨_, ds, hc, hd, rfl⟩
  · omega
  · have e := eq_dOf hc
    rw [hd] at e
    rw [← e]; rfl
theorem isDec_octs2 {v : Nat} {s : ByteArray} (h : IsDec v s) (hv : 0 < v) : octs s = (chars (dOf v)).reverse := by
  rw [isDec_txt h hv]
  exact octs_txt (fun x hx => chars_l8 (dOf_can v).1 x (List.mem_reverse.1 hx))
theorem isDec_len {v : Nat} {s : ByteArray} (h : IsDec v s) (hv : 0 < v) : s.size = (dOf v).length := by
  rw [← octs_length, isDec_octs2 h hv, List.length_reverse]
  simp [chars]
theorem isDec_last {v : Nat} {s : ByteArray} (h : IsDec v s) (hv : 0 < v) : nth (octs s) (s.size - 1) = nth (dOf v) 0 + 48 := by
  have hl := isDec_len h hv
  have hp : 0 < (dOf v).length := List.length_pos_iff.2 (dOf_ne hv)
  rw [isDec_octs2 h hv, hl]
  obtain ⟨x, r, e⟩ : ∃ x r, dOf v = x :: r := by
    cases hd : dOf v with
    | nil => exact absurd hd (dOf_ne hv)
    | cons x r => exact ⟨x, r, rfl⟩
  rw [e]
  simp [chars, nth]

/-- May a decimal be? -/
def okB (neg : Bool) (xs : List Nat) (exp : Int) : Bool :=
  decide (chk xs = 0) && (decide ((dOf (val xs)).length ≤ 300) && (if xs.length = 0 then (!neg && exp == 0) else (decide (nth (dOf (val xs)) 0 ≠ 0) && (decide (-1000 ≤ exp) && decide (exp ≤ 1000)))))

theorem mayStand_c (z : Int) (w : World) : Calls Tryz.prog 106 #[.int .i64 z] w fun e w' => e = .returned (.bool (decide (-1000 ≤ z) && decide (z ≤ 1000))) ∧ w = w' := by
  by_cases h1 : -1000 ≤ z
  · have hd1 : decide (-1000 ≤ z) = true := decide_eq_true h1
    by_cases h2 : z ≤ 1000
    · have hd2 : decide (z ≤ 1000) = true := decide_eq_true h2
      go_enter Tryz.func106, Tryz.ntmps106
      go_wp2
      go_ret
      exact ⟨by first | rfl | (rw [hd1, hd2]; rfl), rfl⟩
    · have hd2 : decide (z ≤ 1000) = false := decide_eq_false h2
      go_enter Tryz.func106, Tryz.ntmps106
      go_wp2
      go_ret
      exact ⟨by first | rfl | (rw [hd1, hd2]; rfl), rfl⟩
  · have hd1 : decide (-1000 ≤ z) = false := decide_eq_false h1
    go_enter Tryz.func106, Tryz.ntmps106
    go_wp2
    go_ret
    exact ⟨by first | rfl | (rw [hd1]; rfl), rfl⟩

/-- The cells of a block of three that is laid. -/
theorem box3 (w : World) (v0 v1 v2 : Value) (t : TypeId) : (w.alloc (.cells #[v0, v1, v2] t)).cell? ⟨w.heap.size, 0, none⟩ = some v0 ∧ (w.alloc (.cells #[v0, v1, v2] t)).cell? ⟨w.heap.size, 1, none⟩ = some v1 ∧ (w.alloc (.cells #[v0, v1, v2] t)).cell? ⟨w.heap.size, 2, none⟩ = some v2 := by
  refine ⟨?_, ?_, ?_⟩ <;> (rw [World.cell?_alloc_at _ _ _ _ rfl]; rfl)

set_option maxRecDepth 100000 in
theorem mayBe_c {S : Nat → Prop} {n c : Nat} {A : Option Addr} {xs : List Nat} (neg : Bool) (exp : Int) (w : World) (ha : Rd w S A n xs) (hS : ∀ b, S b → b < w.heap.size) (hn : n ≤ 9223372036854775807) :
    Calls Tryz.prog 100 #[dv neg A n c exp] w fun e w' => e = .returned (.bool (okB neg xs exp)) ∧ Below w.heap.size w w' := by
  unfold dv
  obtain ⟨g0, g1, g2⟩ := box3 w (.bool neg) (.slice A n c) (.int .i64 exp) 24
  have hb0 : Below w.heap.size w (w.alloc (.cells #[.bool neg, .slice A n c, .int .i64 exp] 24)) := (Below.refl _ _).alloc (Nat.le_refl _) _
  have hP := Print_c (c := c) _ (ha.below hb0 hS) (fun b h => by have := hS b h; simp; omega) hn
  have HP := Lib.hid hP
  clear hP
  by_cases h0 : chk xs = 0
  · obtain ⟨hcx, hlx⟩ := can_of_chk ha.l32 h0
    have hlen := ha.len
    by_cases hn0 : n = 0
    · have hx : xs = [] := List.eq_nil_of_length_eq_zero (by omega)
      have HOK : Hid (okB neg xs exp = (!neg && exp == 0)) := by show _ = _; rw [hx]; simp [okB, chk, val, dOf_zero]
      have HV : Hid (val xs = 0) := by show _ = _; rw [hx]; rfl
      have H0 := Lib.hid h0
      clear h0 hx hcx hlx hlen
      subst hn0
      go_enter Tryz.func100, Tryz.ntmps100
      go_wp2_with fail
      refine HP.out.mono ?_
      rintro e w1 ⟨s, rfl, hs1, _, _, hb1⟩
      have hk0 := (hb1.cell (p := ⟨w.heap.size, 0, none⟩) (by simp)).trans g0
      have hk1 := (hb1.cell (p := ⟨w.heap.size, 1, none⟩) (by simp)).trans g1
      have hk2 := (hb1.cell (p := ⟨w.heap.size, 2, none⟩) (by simp)).trans g2
      have hsz : s.size = 1 := by
        rcases (hs1 H0.out).2 with ⟨_, e⟩ | ⟨h, _⟩
        · rw [e]; rfl
        · rw [HV.out] at h; omega
      have hsz2 : s.size ≤ 1 := by omega
      have hce : (((chk xs : Nat) : Int) != 0) = false := by rw [H0.out]; rfl
      have hw1 : Below w.heap.size w w1 := hb0.trans (hb1.mono (by simp))
      clear hs1 hsz g0 g1 g2
      cases neg
      · by_cases he : exp = 0
        · have heb : (exp == 0) = true := by rw [he]; rfl
          have HE : Hid (okB false xs exp = true) := by show _ = _; rw [HOK.out, heb]; rfl
          clear he
          go_wp2
          go_ret
          rw [HE.out]
          exact ⟨rfl, hw1⟩
        · have heb : (exp == 0) = false := by rw [beq_eq_false_iff_ne]; exact he
          have HE : Hid (okB false xs exp = false) := by show _ = _; rw [HOK.out, heb]; rfl
          clear he
          go_wp2
          go_ret
          rw [HE.out]
          exact ⟨rfl, hw1⟩
      · have HE : Hid (okB true xs exp = false) := by show _ = _; rw [HOK.out]; rfl
        go_wp2
        go_ret
        rw [HE.out]
        exact ⟨rfl, hw1⟩
    · have hv0 : 0 < val xs := by
        rcases Nat.eq_zero_or_pos (val xs) with h | h
        · have := hcx.val_zero h
          rw [this] at hlen
          exact absurd hlen.symm hn0
        · exact h
      have hnb : ((n : Int) == 0) = false := by rw [beq_eq_false_iff_ne]; omega
      have HOK : Hid (okB neg xs exp = (decide ((dOf (val xs)).length ≤ 300) && (decide (nth (dOf (val xs)) 0 ≠ 0) && (decide (-1000 ≤ exp) && decide (exp ≤ 1000))))) := by
        show _ = _
        unfold okB
        rw [if_neg (by omega), decide_eq_true h0, Bool.true_and]
      have H0 := Lib.hid h0
      have HV0 := Lib.hid hv0
      clear h0 hv0 hcx hlx hn0
      go_enter Tryz.func100, Tryz.ntmps100
      go_wp2_with fail
      refine HP.out.mono ?_
      rintro e w1 ⟨s, rfl, hs1, _, _, hb1⟩
      have hk0 := (hb1.cell (p := ⟨w.heap.size, 0, none⟩) (by simp)).trans g0
      have hk1 := (hb1.cell (p := ⟨w.heap.size, 1, none⟩) (by simp)).trans g1
      have hk2 := (hb1.cell (p := ⟨w.heap.size, 2, none⟩) (by simp)).trans g2
      have hd := (hs1 H0.out).2
      have hsl := isDec_len hd HV0.out
      have hso := isDec_last hd HV0.out
      have hsp : 0 < s.size := by rw [hsl]; exact List.length_pos_iff.2 (dOf_ne HV0.out)
      have hce : (((chk xs : Nat) : Int) != 0) = false := by rw [H0.out]; rfl
      have hw1 : Below w.heap.size w w1 := hb0.trans (hb1.mono (by simp))
      have HOK2 : Hid (okB neg xs exp = (decide (s.size ≤ 300) && (decide (nth (dOf (val xs)) 0 ≠ 0) && (decide (-1000 ≤ exp) && decide (exp ≤ 1000))))) := by
        show _ = _
        rw [HOK.out, hsl]
      clear hs1 hd g0 g1 g2 hsl
      by_cases hbig : 300 < s.size
      · have HE : Hid (okB neg xs exp = false) := by show _ = _; rw [HOK2.out, decide_eq_false (by omega)]; rfl
        clear hso
        go_wp2
        go_ret
        rw [HE.out]
        exact ⟨rfl, hw1⟩
      · rw [octs_get s (s.size - 1) (by omega)] at hso
        have hlast : (s[s.size - 1].toNat : Int) = (nth (dOf (val xs)) 0 : Int) + 48 := by omega
        clear hso
        by_cases hz : nth (dOf (val xs)) 0 = 0
        · have HE : Hid (okB neg xs exp = false) := by show _ = _; rw [HOK2.out, decide_eq_true (by omega), decide_eq_false (fun h => h hz)]; rfl
          have hl2 : (s[s.size - 1].toNat : Int) = 48 := by omega
          clear hlast hz
          go_wp2
          go_ret
          rw [HE.out]
          exact ⟨rfl, hw1⟩
        · have HE : Hid (okB neg xs exp = (decide (-1000 ≤ exp) && decide (exp ≤ 1000))) := by show _ = _; rw [HOK2.out, decide_eq_true (by omega), decide_eq_true hz]; rfl
          have hl2 : ((s[s.size - 1].toNat : Int) != 48) = true := by rw [bne_iff_ne]; omega
          clear hlast hz
          go_wp2_with fail
          refine (mayStand_c _ _).mono ?_
          rintro e w2 ⟨rfl, rfl⟩
          go_wp2
          all_goals
            go_ret
            rw [HE.out]
            exact ⟨by first | rfl | simp_all, hw1⟩
  · have e1 : okB neg xs exp = false := by unfold okB; rw [decide_eq_false h0]; rfl
    rw [e1]
    have hce : (((chk xs : Nat) : Int) != 0) = true := by rw [bne_iff_ne]; omega
    clear h0 e1
    go_enter Tryz.func100, Tryz.ntmps100
    go_wp2_with fail
    refine HP.out.mono ?_
    rintro e w1 ⟨s, rfl, _, _, _, hb1⟩
    go_wp2
    go_ret
    exact ⟨rfl, hb0.trans (hb1.mono (by simp))⟩

/-- The number of Check's error. -/
def okE (neg : Bool) (xs : List Nat) (exp : Int) : Nat := if okB neg xs exp = true then 0 else 9
theorem DCheck_c {S : Nat → Prop} {n c : Nat} {A : Option Addr} {xs : List Nat} (neg : Bool) (exp : Int) (w : World) (ha : Rd w S A n xs) (hS : ∀ b, S b → b < w.heap.size) (hn : n ≤ 9223372036854775807) :
    Calls Tryz.prog 75 #[dv neg A n c exp] w fun e w' => e = .returned (.int .i64 (okE neg xs exp : Int)) ∧ Below w.heap.size w w' := by
  have hb0 : Below w.heap.size w (w.alloc (.cells #[.bool neg, .slice A n c, .int .i64 exp] 24)) := (Below.refl _ _).alloc (Nat.le_refl _) _
  have hP := mayBe_c (c := c) neg exp _ (ha.below hb0 hS) (fun b h => by have := hS b h; simp; omega) hn
  unfold dv at hP
  unfold okE
  unfold dv
  by_cases h : okB neg xs exp = true
  · rw [if_pos h]
    rw [h] at hP
    have HP := Lib.hid hP
    clear h hP
    go_enter Tryz.func75, Tryz.ntmps75
    go_wp2_with fail
    refine HP.out.mono ?_
    rintro e w1 ⟨rfl, hb1⟩
    go_wp2
    go_ret
    exact ⟨rfl, hb0.trans (hb1.mono (by simp))⟩
  · rw [if_neg h]
    rw [show okB neg xs exp = false by simpa using h] at hP
    have HP := Lib.hid hP
    clear h hP
    go_enter Tryz.func75, Tryz.ntmps75
    go_wp2_with fail
    refine HP.out.mono ?_
    rintro e w1 ⟨rfl, hb1⟩
    go_wp2
    go_ret
    exact ⟨rfl, hb0.trans (hb1.mono (by simp))⟩
end Go.Proofs.YtpmdcahomkdfmaaGreatDoor
