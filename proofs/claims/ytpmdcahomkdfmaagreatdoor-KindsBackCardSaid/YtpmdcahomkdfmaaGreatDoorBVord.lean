/-
  Contracts of the reference's Of (a decimal's digits), of decimals.
  Contract of the reference's Made: a decimal of digits, settled.
  Signed numbers: a decimal as a whole number; a decimal is told by its number. Plain mathematics.
  How two trees stand to each other is one order: the other way round the other way, 0 just of the same, and goes on. Pure, no program.
-/
import Derived.Test.YtpmdcahomkdfmaaGreatDoorBDset
import Derived.Test.YtpmdcahomkdfmaaGreatDoorBDintc
import Derived.Test.YtpmdcahomkdfmaaGreatDoorBVprt
import Derived.Sort.Walk0
set_option linter.unusedVariables false
set_option linter.unusedSimpArgs false
namespace Go.Proofs.YtpmdcahomkdfmaaGreatDoor
open Go.RowKit

theorem ResI.setOther {w : World} {base n c : Nat} {A : Option Addr} {zs : List Nat} (h : ResI w base A n c zs) {p : Addr} (hp : p.block < base) (u : Value) : ResI (w.setCell p u) base A n c zs :=
  h.keep fun g e => by
    rcases h.form with ⟨h1, _⟩ | ⟨g', h1, h2, _⟩
    · rw [h1] at e; cases e
    · rw [h1] at e; injection e with e; injection e with e
      exact Below.heap_setCell _ _ _ _ (by omega)
/-- The reference's number by its digits. -/
def nv (neg : Bool) (A : Option Addr) (n c : Nat) (exp : Int) : Value := .agg #[.bool neg, .slice A n c, .int .i64 exp]

end Go.Proofs.YtpmdcahomkdfmaaGreatDoor

namespace Go.Proofs.YtpmdcahomkdfmaaGreatDoor
open Go.RowKit

theorem RdI.drop {w : World} {S : Nat → Prop} {n k b off : Nat} {xs : List Nat} (h : RdI w S (some ⟨b, off, none⟩) n xs) (hk : k ≤ n) : RdI w S (some ⟨b, off + k, none⟩) (n - k) (xs.drop k) :=
  ⟨by rw [List.length_drop, h.len], fun x hx => h.li x (List.mem_of_mem_drop hx), fun h0 => by
    obtain ⟨b2, off2, e, hb, hc⟩ := h.cells (by omega)
    injection e with e
    injection e with e1 e2
    subst e1
    subst e2
    refine ⟨b, off + k, rfl, hb, fun j hj => ?_⟩
    rw [nth_drop, Nat.add_assoc]
    exact hc (k + j) (by omega)⟩
theorem set_cells {w : World} {b i : Nat} {vs : Array Value} {t : TypeId} (h : w.heap[b]? = some (.cells vs t)) (v : Value) : (w.setCell ⟨b, i, none⟩ v).heap[b]? = some (.cells (vs.setIfInBounds i v) t) := by
  simp [World.setCell, Array.getElem?_modify, h]
theorem set_other {w : World} {b b' i : Nat} {o : Option Obj} (h : w.heap[b]? = o) (hne : b ≠ b') (v : Value) : (w.setCell ⟨b', i, none⟩ v).heap[b]? = o := (Below.heap_setCell _ _ _ _ hne).trans h
theorem RdI.setOther {w : World} {S : Nat → Prop} {A : Option Addr} {n : Nat} {xs : List Nat} (h : RdI w S A n xs) {p : Addr} (hp : ¬ S p.block) (u : Value) : RdI (w.setCell p u) S A n xs := h.setCell hp u
theorem DCan.drop {xs : List Nat} (h : DCan xs) (k : Nat) : DCan (xs.drop k) := by
  refine ⟨h.1.drop k, ?_⟩
  by_cases hk : k < xs.length
  · right
    have h2 := h.2.resolve_left (by intro e; rw [e] at hk; simp at hk)
    rw [List.length_drop, nth_drop, show k + (xs.length - k - 1) = xs.length - 1 by omega]
    exact h2
  · left
    exact List.drop_of_length_le (by omega)

set_option maxRecDepth 100000 in
set_option maxHeartbeats 4000000 in
theorem Made_c {S : Nat → Prop} {n c : Nat} {A : Option Addr} {ds : List Nat} (neg : Bool) (exp : Int) (w : World) (ha : RdI w S A n ds) (hS : ∀ b, S b → b < w.heap.size) (hd : D10 ds) (hn : n ≤ 100000) (hnc : n ≤ c) (hcb : c ≤ 9223372036854775807) (he : -100000000 ≤ exp ∧ exp ≤ 100000000) :
    Calls Tryz.prog 57 #[nv neg A n c exp] w fun e w' => ∃ A' n' c', e = .returned (.tuple #[dv (stN neg (dval ds) exp) A' n' c' (stX (dval ds) exp), .int .i64 (stE (dval ds) exp : Int)]) ∧
      Res w' w.heap.size A' n' c' (stZ (dval ds) exp) ∧ Below w.heap.size w w' := by
  obtain ⟨hx1, hx2⟩ := he
  have HD := Lib.hid hd
  clear hd
  have hb0 : ∀ o1 o2, Below w.heap.size w ((w.alloc o1).alloc o2) := fun o1 o2 => ((Below.refl _ w).alloc (Nat.le_refl _) o1).alloc (by simp) o2
  unfold dv nv
  go_enter Tryz.func57, Tryz.ntmps57
  go_wp2_with fail
  obtain ⟨m0, m1⟩ := two_new w (.cells #[.bool neg, .slice A n c, .int .i64 exp] 87) (.cells #[.bool false, .slice none 0 0, .int .i64 0] 24)
  have hW := hb0 (.cells #[.bool neg, .slice A n c, .int .i64 exp] 87) (.cells #[.bool false, .slice none 0 0, .int .i64 0] 24)
  have hsz : ((w.alloc (.cells #[.bool neg, .slice A n c, .int .i64 exp] 87)).alloc (.cells #[.bool false, .slice none 0 0, .int .i64 0] 24)).heap.size = w.heap.size + 2 := by simp
  generalize ((w.alloc (.cells #[.bool neg, .slice A n c, .int .i64 exp] 87)).alloc (.cells #[.bool false, .slice none 0 0, .int .i64 0] 24)) = W at m0 m1 hW hsz ⊢
  have haW := ha.below hW hS
  refine (rTrim_c W haW hnc (by omega)).mono ?_
  rintro e w1 ⟨rfl, rfl⟩
  obtain ⟨L, hL⟩ : ∃ L, L = tl ds n := ⟨_, rfl⟩
  have hLn : L ≤ n := by rw [hL]; exact tl_le _ _
  have htr : trimmed ds = ds.take L := by unfold trimmed; rw [ha.len, hL]
  have hes : RdI W S A L (trimmed ds) := by rw [htr]; exact haW.take hLn
  rw [← hL]
  have hcan : DCan (trimmed ds) := trimmed_dcan HD.out
  have hval : dval (trimmed ds) = dval ds := trimmed_dval ds
  have hlen := hes.len
  generalize trimmed ds = es at hes hcan hval hlen
  clear htr hL haW
  have y0 : W.cell? ⟨w.heap.size + 1, 0, none⟩ = some (.bool false) := cell_of m1 rfl
  have y1 : W.cell? ⟨w.heap.size + 1, 1, none⟩ = some (.slice none 0 0) := cell_of m1 rfl
  have y2 : W.cell? ⟨w.heap.size + 1, 2, none⟩ = some (.int .i64 0) := cell_of m1 rfl
  have f0 := frozen_of 0 m1
  have f1 := frozen_of 1 m1
  have f2 := frozen_of 2 m1
  have HV := Lib.hid hval
  have HC := Lib.hid hcan
  have HL := Lib.hid hlen
  clear hval hcan hlen
  by_cases h0 : L = 0
  · subst h0
    have hv0 : Hid (dval ds = 0) := by
      show _ = _
      rw [← HV.out, List.eq_nil_of_length_eq_zero HL.out]; rfl
    go_wp2
    refine bodyPost_ret (v := .tuple #[.agg #[.bool false, .slice none 0 0, .int .i64 0], .int .i64 0]) (by simp [results, Tryz.results57, go_sem, y0, y1, y2]) rfl ?_
    obtain ⟨z1, z2, z3, z4⟩ := st_zero neg exp
    rw [hv0.out, z1, z2, z3, z4]
    exact ⟨none, 0, 0, rfl, Res.nil _ _, ((hW.setCell (p := ⟨w.heap.size + 1, 0, none⟩) (by simp) _).setCell (p := ⟨w.heap.size + 1, 1, none⟩) (by simp) _).setCell (p := ⟨w.heap.size + 1, 2, none⟩) (by simp) _⟩
  · obtain ⟨b, off, rfl, hSb, _⟩ := hes.cells (by omega)
    have hLb : ((L : Int) == 0) = false := by rw [beq_eq_false_iff_ne]; omega
    have hvp : Hid (0 < dval es) := by
      show _ < _
      rcases Nat.eq_zero_or_pos (dval es) with h | h
      · have := HC.out.dval_zero h
        have h2 := HL.out
        rw [this] at h2
        exact absurd h2.symm h0
      · exact h
    have hLp : 0 < L := by omega
    clear h0 y0 y1 y2 f0 f1 f2
    go_wp2
    go_loopw [4] (fun sv wr => ∃ (k o m q : Nat), sv = .slice (some ⟨b, o, none⟩) m q ∧ o = off + k ∧ m + k = L ∧ q + k = c ∧ 0 < m ∧ wr.heap[w.heap.size]? = some (.cells #[.bool neg, .slice (some ⟨b, off, none⟩) n c, .int .i64 (exp + (k : Int))] 87) ∧
        wr.heap[w.heap.size + 1]? = some (.cells #[.bool false, .slice none 0 0, .int .i64 0] 24) ∧ Hid (dval es = dp k * dval (es.drop k)) ∧ RdI wr S (some ⟨b, off, none⟩) L es ∧ wr.heap.size = w.heap.size + 2 ∧ Below w.heap.size w wr) (fun sv _ => lenOf sv)
    case atStart => exact ⟨0, off, L, c, rfl, rfl, rfl, rfl, by omega, by simpa using m0, m1, by show _ = _; simp [dp], hes, hsz, hW⟩
    case round =>
      clear m0 m1 hsz hW hes
      obtain ⟨k, o, m, q, rfl, rfl, hm, hq, hm0, m0, m1, hv, hes, hsz, hbel⟩ := hrel
      have hcell : wr.cell? ⟨b, off + k, none⟩ = some (.int .i64 (nth es k : Int)) := by
        obtain ⟨b2, off2, e, _, hc⟩ := hes.cells hLp
        injection e with e
        injection e with e1 e2
        subst e1
        subst e2
        exact hc k (by omega)
      have z0 : wr.cell? ⟨w.heap.size, 0, none⟩ = some (.bool neg) := cell_of m0 rfl
      have z1 : wr.cell? ⟨w.heap.size, 1, none⟩ = some (.slice (some ⟨b, off, none⟩) n c) := cell_of m0 rfl
      have z2 : wr.cell? ⟨w.heap.size, 2, none⟩ = some (.int .i64 (exp + (k : Int))) := cell_of m0 rfl
      have fz := frozen_of 2 m0
      have hmq : m ≤ q := by omega
      have hkb : k ≤ 100000 := by omega
      have hx9 := dth_lt HC.out.1 k
      have hdk : Hid (dval (es.drop k) = nth es k + 10 * dval (es.drop (k + 1))) := dval_drop k
      by_cases hz : nth es k = 0
      · have hm1 : 1 < m := by
          rcases Nat.lt_or_ge 1 m with h | h
          · exact h
          · exfalso
            have h1 : es.drop (k + 1) = [] := List.drop_of_length_le (by rw [HL.out]; omega)
            have h2 := hdk.out
            rw [h1, dval_nil, hz] at h2
            have h3 := hv.out
            have h4 := hvp.out
            rw [h3, h2] at h4
            simp at h4
        have hv2 : Hid (dval es = dp (k + 1) * dval (es.drop (k + 1))) := by
          show _ = _
          rw [hv.out, hdk.out, hz, dp_succ, Nat.zero_add, Nat.mul_left_comm, Nat.mul_assoc, Nat.mul_left_comm]
        obtain ⟨m', rfl⟩ : ∃ m', m = m' + 1 := ⟨m - 1, by omega⟩
        obtain ⟨q', rfl⟩ : ∃ q', q = q' + 1 := ⟨q - 1, by omega⟩
        rw [hz] at hcell
        clear hv hdk hz
        have hnm := hbel.size
        have hnS : ¬ S w.heap.size := fun h => by have := hS _ h; omega
        go_wp2
        refine ⟨⟨k + 1, off + k + 1, m', q', rfl, by omega, by omega, by omega, by omega, (set_cells m0 _).trans (by simp [Int.add_assoc]), set_other m1 (by omega) _, hv2, hes.setOther hnS _, by simpa [World.setCell] using hsz, hbel.setCell (p := ⟨w.heap.size, 2, none⟩) (Nat.le_refl _) _⟩, by simp [lenOf]⟩
      · have hzb : (((nth es k : Nat) : Int) == 0) = false := by rw [beq_eq_false_iff_ne]; omega
        have hh : Hid (nth (es.drop k) 0 ≠ 0) := by show _ ≠ _; rw [nth_drop]; exact hz
        have hrd := RdI.drop hes (k := k) (by omega)
        have hfl : Hid ((es.drop k).length = m) := by show _ = _; rw [List.length_drop, HL.out]; omega
        have hV : Hid (dval ds = dp k * dval (es.drop k)) := by show _ = _; rw [← HV.out]; exact hv.out
        rw [show L - k = m by omega] at hrd
        clear hz hdk hv
        by_cases hbig : 300 < m
        · have hE : Hid (stE (dval ds) exp = 51) := st_long (HC.out.drop k) hh.out hV.out (by rw [hfl.out]; exact hbig)
          have y0 : wr.cell? ⟨w.heap.size + 1, 0, none⟩ = some (.bool false) := cell_of m1 rfl
          have y1 : wr.cell? ⟨w.heap.size + 1, 1, none⟩ = some (.slice none 0 0) := cell_of m1 rfl
          have y2 : wr.cell? ⟨w.heap.size + 1, 2, none⟩ = some (.int .i64 0) := cell_of m1 rfl
          have f0 := frozen_of 0 m1
          have f1 := frozen_of 1 m1
          have f2 := frozen_of 2 m1
          go_wp2
          refine bodyPost_ret (v := .tuple #[.agg #[.bool false, .slice none 0 0, .int .i64 0], .int .i64 51]) (by simp [results, Tryz.results57, go_sem, y0, y1, y2]) rfl ?_
          obtain ⟨u2, u3, u4⟩ := st_bad neg (show stE (dval ds) exp ≠ 0 by rw [hE.out]; omega)
          rw [hE.out, u2, u3, u4]
          exact ⟨none, 0, 0, rfl, Res.nil _ _, ((hbel.setCell (p := ⟨w.heap.size + 1, 0, none⟩) (by simp) _).setCell (p := ⟨w.heap.size + 1, 1, none⟩) (by simp) _).setCell (p := ⟨w.heap.size + 1, 2, none⟩) (by simp) _⟩
        · by_cases hx : -1000 ≤ exp + (k : Int) ∧ exp + (k : Int) ≤ 1000
          · obtain ⟨q1, q2, q3, q4⟩ := st_ok (exp := exp) neg (HC.out.drop k) hh.out hV.out (by rw [hfl.out]; omega) hx
            have Q1 := Lib.hid q1
            have Q2 := Lib.hid q2
            have Q3 := Lib.hid q3
            have Q4 := Lib.hid q4
            clear q1 q2 q3 q4
            obtain ⟨hxa, hxb⟩ := hx
            have hSW : ∀ b, S b → b < wr.heap.size := fun b h => by have := hS b h; omega
            have hcd := HC.out.drop k
            have HCD := Lib.hid hcd
            clear hcd
            go_wp2_with fail
            go_region_with (first
              | (go_at_call 82; refine (Limbs_c wr.drew hrd.drew (fun b h => hSW b h) HCD.out (by omega)).mono ?_; rintro e w1 ⟨A1, n1, c1, us, rfl, hr1, hc1, hv1, hb1⟩; have q0 := held hb1 (show w.heap.size < wr.heap.size by omega) m0; have q1 := held hb1 (show w.heap.size + 1 < wr.heap.size by omega) m1;
                 have p0 : w1.cell? ⟨w.heap.size, 0, none⟩ = some (.bool neg) := cell_of q0 rfl; have p2 : w1.cell? ⟨w.heap.size, 2, none⟩ = some (.int .i64 (exp + (k : Int))) := cell_of q0 rfl;
                 have y0 : w1.cell? ⟨w.heap.size + 1, 0, none⟩ = some (.bool false) := cell_of q1 rfl; have y1 : w1.cell? ⟨w.heap.size + 1, 1, none⟩ = some (.slice none 0 0) := cell_of q1 rfl; have y2 : w1.cell? ⟨w.heap.size + 1, 2, none⟩ = some (.int .i64 0) := cell_of q1 rfl;
                 have f0 := frozen_of 0 q1; have f1 := frozen_of 1 q1; have f2 := frozen_of 2 q1))
            all_goals
              go_wp2
              refine bodyPost_ret (v := .tuple #[.agg #[.bool neg, .slice A1 n1 c1, .int .i64 (exp + (k : Int))], .int .i64 0]) (by simp [results, Tryz.results57, go_sem, y0, y1, y2]) rfl ?_
              have hlt : w.heap.size + 1 < wr.drew.heap.size := show w.heap.size + 1 < wr.heap.size by omega
              have hz : us = lim (dval (es.drop k)) := (eq_lim hc1).trans (congrArg lim hv1)
              rw [hz] at hr1
              rw [Q1.out, Q2.out, Q3.out, Q4.out]
              exact ⟨A1, n1, c1, rfl, (((hr1.setOther (p := ⟨w.heap.size + 1, 0, none⟩) hlt _).setOther (p := ⟨w.heap.size + 1, 1, none⟩) hlt _).setOther (p := ⟨w.heap.size + 1, 2, none⟩) hlt _).more (show w.heap.size ≤ wr.heap.size by omega),
                ((((only_drewB hbel).trans (hb1.mono (show w.heap.size ≤ wr.heap.size by omega))).setCell (p := ⟨w.heap.size + 1, 0, none⟩) (by simp) _).setCell (p := ⟨w.heap.size + 1, 1, none⟩) (by simp) _).setCell (p := ⟨w.heap.size + 1, 2, none⟩) (by simp) _⟩
          · have hE : Hid (stE (dval ds) exp = 52) := st_out (HC.out.drop k) hh.out hV.out (by rw [hfl.out]; omega) hx
            have y0 : wr.cell? ⟨w.heap.size + 1, 0, none⟩ = some (.bool false) := cell_of m1 rfl
            have y1 : wr.cell? ⟨w.heap.size + 1, 1, none⟩ = some (.slice none 0 0) := cell_of m1 rfl
            have y2 : wr.cell? ⟨w.heap.size + 1, 2, none⟩ = some (.int .i64 0) := cell_of m1 rfl
            have f0 := frozen_of 0 m1
            have f1 := frozen_of 1 m1
            have f2 := frozen_of 2 m1
            have hxx : exp + (k : Int) < -1000 ∨ 1000 < exp + (k : Int) := by omega
            clear hx
            rcases hxx with hx | hx
            all_goals
              go_wp2
              refine bodyPost_ret (v := .tuple #[.agg #[.bool false, .slice none 0 0, .int .i64 0], .int .i64 52]) (by simp [results, Tryz.results57, go_sem, y0, y1, y2]) rfl ?_
              obtain ⟨u2, u3, u4⟩ := st_bad neg (show stE (dval ds) exp ≠ 0 by rw [hE.out]; omega)
              rw [hE.out, u2, u3, u4]
              exact ⟨none, 0, 0, rfl, Res.nil _ _, ((hbel.setCell (p := ⟨w.heap.size + 1, 0, none⟩) (by simp) _).setCell (p := ⟨w.heap.size + 1, 1, none⟩) (by simp) _).setCell (p := ⟨w.heap.size + 1, 2, none⟩) (by simp) _⟩
end Go.Proofs.YtpmdcahomkdfmaaGreatDoor

namespace Go.Proofs.YtpmdcahomkdfmaaGreatDoor

/-- A signed size as a number. -/
def sg (neg : Bool) (v : Nat) : Int := if neg = true then -(v : Int) else (v : Int)
/-- The power of ten by which a decimal of this exponent is made whole. -/
def sp (e : Int) : Nat := 10 ^ (e + 5000).toNat
/-- A decimal as a whole number. -/
def sv (neg : Bool) (v : Nat) (e : Int) : Int := sg neg (v * sp e)
theorem sp_add {e : Int} {p : Nat} (h : -5000 ≤ e) : sp (e + (p : Int)) = 10 ^ p * sp e := by
  unfold sp
  rw [show (e + (p : Int) + 5000).toNat = p + (e + 5000).toNat by omega, Nat.pow_add]
theorem sg_zero (neg : Bool) : sg neg 0 = 0 := by cases neg <;> rfl
theorem sg_mul (neg : Bool) (v k : Nat) : sg neg (v * k) = sg neg v * (k : Int) := by
  cases neg
  · show ((v * k : Nat) : Int) = (v : Int) * (k : Int); simp
  · show -((v * k : Nat) : Int) = -(v : Int) * (k : Int); simp [Int.neg_mul]
/-- What is settled may be, and tells the number. -/
theorem settle_may {s : Bool} {lo : Int} {Z : Nat} (hlo : -5000 ≤ lo) (h : stE Z lo = 0) :
    okB (stN s Z lo) (stZ Z lo) (stX Z lo) = true ∧ L32 (stZ Z lo) ∧ sv (stN s Z lo) (val (stZ Z lo)) (stX Z lo) = sg s Z * (sp lo : Int) ∧ (0 < Z → lo ≤ stX Z lo) := by
  by_cases hZ : Z = 0
  · obtain ⟨z1, z2, z3, z4⟩ := st_zero s lo
    rw [hZ, z2, z3, z4, sg_zero]
    refine ⟨by decide, L32.nil, by simp [sv, val, sg], fun h => absurd h (by omega)⟩
  · have hg : stG Z lo = true := by unfold stG; rw [decide_eq_true hZ, decide_eq_true h]; rfl
    unfold stE at h
    rw [if_neg hZ] at h
    by_cases hb : 300 < (cf Z).length
    · rw [if_pos hb] at h; omega
    · rw [if_neg hb] at h
      by_cases hx : -1000 ≤ lo + (lz (dOf Z) : Int) ∧ lo + (lz (dOf Z) : Int) ≤ 1000
      · have hc : DCan (cf Z) := (dOf_can Z).drop _
        have hv : Z = dp (lz (dOf Z)) * dval (cf Z) := by
          have := lz_drop (dOf Z)
          rw [dOf_val] at this
          exact this
        have hh : nth (cf Z) 0 ≠ 0 := lz_head (dOf Z) (by rw [dOf_val]; omega)
        have hp : 0 < dval (cf Z) := by
          rcases Nat.eq_zero_or_pos (dval (cf Z)) with h0 | h0
          · rw [h0] at hv; omega
          · exact h0
        have hlt : dval (cf Z) < 10 ^ 300 := by
          have h4 := dval_lt hc.1
          obtain ⟨T, hT⟩ : ∃ T, T = 300 := ⟨_, rfl⟩
          rw [← hT] at hb ⊢
          exact Nat.lt_of_lt_of_le h4 (pow_le10 (by omega))
        have hbp : dval (cf Z) < bp 256 := lt_bp (m := 100) hlt (by omega) (by omega)
        have e1 : stN s Z lo = s := if_pos hg
        have e2 : stX Z lo = lo + (lz (dOf Z) : Int) := if_pos hg
        have e3 : stZ Z lo = lim (dval (cf Z)) := if_pos hg
        rw [e1, e2, e3, lim_val]
        refine ⟨?_, (lim_can _).1, ?_, fun _ => by omega⟩
        · unfold okB
          rw [chk_can (lim_can _) (lim_len hbp), lim_val, ← eq_dOf hc, decide_eq_true hh, decide_eq_true (show (cf Z).length ≤ 300 by omega), decide_eq_true hx.1, decide_eq_true hx.2, if_neg]
          · rfl
          · intro h0
            have : lim (dval (cf Z)) = [] := List.eq_nil_of_length_eq_zero h0
            have h5 := lim_val (dval (cf Z))
            rw [this] at h5
            simp [val] at h5
            omega
        · unfold sv
          rw [sp_add hlo, ← sg_mul, ← Nat.mul_assoc]
          congr 2
          rw [Nat.mul_comm]
          exact hv.symm
      · rw [if_neg hx] at h; omega
end Go.Proofs.YtpmdcahomkdfmaaGreatDoor

namespace Go.Proofs.YtpmdcahomkdfmaaGreatDoor
open Go.RowKit Go.Deep

theorem ba_eq {a b : ByteArray} (h : a.toList = b.toList) : a = b := by
  rw [Lib.toList_data, Lib.toList_data] at h
  cases a; cases b
  congr 1
  exact Array.toList_inj.1 h

/-- What a kind does not use is zero. -/
theorem alone_fit {x : VT} (h : alone x = 0) : 0 ≤ x.kind ∧ x.kind ≤ 6 ∧ fitV x = true := by
  unfold alone at h
  repeat' split at h
  all_goals first
    | (exfalso; revert h; decide)
    | skip
  rename_i h1 _ _ _ h2
  exact ⟨by omega, by omega, h2⟩
end Go.Proofs.YtpmdcahomkdfmaaGreatDoor
