/-
  Contract of the reference's Word: digits as a text.
  Contracts of the reference's zeros and plain.
  Contracts of the reference's Check and checks, of decimals.
  Rows of values of one cell each: one of the call's own, and a slice that reads as one; how both abide what happens beside them. No condition.
  Contract of utf.Slice.
  Contract of utf.Text.
-/
import Derived.Test.YtpjllcengnolkaaGreatDoorMDa
import Derived.Test.YtpjllcengnolkaaGreatDoorMDsgn
import Derived.Lib.ItoaLen
import Derived.Test.YtpjllcengnolkaaGreatDoorMDpar
import Derived.Test.YtpjllcengnolkaaGreatDoorMDop
import Derived.Laws.AppendOwnNone
import Derived.Maps.OwnIn
import Derived.Maps.AppendAt
import Derived.Laws.BytesArg
import Derived.WalkSpells
import Derived.WalkLawsBesides
import Derived.Deep.Draws
import Derived.BigRegion
import Derived.Deep.RegionWith
set_option linter.unusedVariables false
set_option linter.unusedSimpArgs false
namespace Go.Proofs.YtpjllcengnolkaaGreatDoor
open Go.RowKit

set_option maxRecDepth 100000 in
theorem Word_c {S : Nat → Prop} {n c : Nat} {A : Option Addr} {ds : List Nat} (w : World) (h : RdI w S A n ds) (hS : ∀ b, S b → b < w.heap.size) (hx : DCan ds) (hn : n ≤ 100000) :
    Calls Tryz.prog 24 #[.slice A n c] w fun e w' => ∃ s, e = .returned (.string s) ∧ IsDec (dval ds) s ∧ Below w.heap.size w w' := by
  have HL := Lib.hid h.len
  have HX := Lib.hid hx
  clear hx
  obtain ⟨i0, hi, hz0, hz1, hz2⟩ := info_parts info8
  go_enter Tryz.func24, Tryz.ntmps24
  go_wp2
  go_loopw [3, 4] (fun bv iv wr => ∃ (k no co : Nat) (Ao : Option Addr), k ≤ n ∧ no + k = n ∧ iv = .int .i64 ((k : Int) - 1) ∧ bv = .slice Ao no co ∧ ResB wr w.heap.size Ao no co (chars ((ds.drop k).reverse)) ∧ Below w.heap.size w wr)
    (fun _ iv _ => (intOf iv + 1).toNat)
  case atStart => exact ⟨n, 0, 0, none, Nat.le_refl _, by omega, rfl, rfl, by rw [List.drop_of_length_le (by rw [HL.out]; exact Nat.le_refl _)]; exact ResB.nil _ _, Below.refl _ _⟩
  case round =>
    obtain ⟨k, no, co, Ao, hk, hno, rfl, rfl, hres, hbel⟩ := hrel
    by_cases h0 : k = 0
    · subst h0
      rw [List.drop_zero] at hres
      by_cases hn0 : n = 0
      · have hd : Hid (dval ds = 0) := by
          have : ds = [] := List.eq_nil_of_length_eq_zero (by rw [HL.out]; exact hn0)
          show _ = _
          rw [this]; rfl
        obtain rfl : no = 0 := by omega
        clear hn0 hno
        go_wp2
        go_ret
        exact ⟨_, rfl, .inl ⟨hd.out, rfl⟩, hbel⟩
      · obtain ⟨g, hA⟩ : ∃ g, Ao = some ⟨g, 0, none⟩ := by
          rcases hres.form with ⟨_, h, _⟩ | ⟨g, h, _⟩
          · omega
          · exact ⟨g, h⟩
        subst hA
        have hcv := conv_txt hres
        have hnb : ((no : Int) == 0) = false := by rw [beq_eq_false_iff_ne]; omega
        have hpos : Hid (0 < dval ds) := by
          show _ < _
          rcases Nat.eq_zero_or_pos (dval ds) with h | h
          · have := HX.out.dval_zero h
            have h2 := HL.out
            rw [this] at h2
            exact absurd h2.symm hn0
          · exact h
        clear hn0 hno
        go_wp2
        go_ret
        refine ⟨_, rfl, .inr ⟨hpos.out, ds, HX.out, rfl, ?_⟩, hbel⟩
        unfold chars
        rw [List.map_reverse]
    · obtain ⟨j, rfl⟩ : ∃ j, k = j + 1 := ⟨k - 1, by omega⟩
      obtain ⟨b, off, rfl, hSb, hcell0⟩ := h.at_ (k := j) (by omega)
      have hcell : wr.cell? ⟨b, off + j, none⟩ = some (.int .i64 (nth ds j : Int)) := (hbel.cell (p := ⟨b, off + j, none⟩) (hS _ hSb)).trans hcell0
      have hx9 := dth_lt HX.out.1 j
      have hro : ∀ o, (wr.alloc o).ownsRow w.heap.size 5 1 (.slice Ao no co) no (u8s (chars ((ds.drop (j + 1)).reverse))) := fun o => hres.own.alloc o
      obtain ⟨t, ht⟩ : ∃ t, t = nth ds j + 48 := ⟨_, rfl⟩
      have hti : 48 + (nth ds j : Int) = (t : Int) := by omega
      have htb : t ≤ 57 := by omega
      have HT := Lib.hid ht
      clear ht h0
      go_wp2_with (at_builtin; refine wpList_append_own_at _ rfl (.tmp 12) (.tmp 19) _ rfl w.heap.size 5 i0 (.int .u8 0) 1 1 Tryz.underlying22 hi hz0 hz1 hz2 rfl (by decide) (.slice Ao no co) no (u8s (chars ((ds.drop (j + 1)).reverse))) rfl (hro _) ⟨wr.heap.size, 0, none⟩ 1 1 [.int .u8 (t : Int)] rfl rfl (cell_new1 _ _ _ _ rfl) (by simp [Value.oneCell']) (by unfold maxLen; omega) (by omega) (by simp; have := hbel.size; omega) ?_; intro v1 w1 hown1 hg1 _ hat1)
      obtain ⟨g', cap', hv'⟩ := ownsRow_succ hown1
      subst hv'
      have hs := ResB.snoc hres.len hres.l32 (by omega) hown1
      rw [HT.out, ← chars_rev ds (by rw [HL.out]; omega)] at hs
      exact ⟨⟨j, no + 1, _, _, by omega, by omega, by go_num, rfl, hs, hres.below_append hbel hbel.size hg1⟩, by simp [intOf]⟩

end Go.Proofs.YtpjllcengnolkaaGreatDoor

namespace Go.Proofs.YtpjllcengnolkaaGreatDoor
open Go.RowKit

theorem ResB.one (w : World) (x : Nat) (hx : x < 256) : ResB (w.alloc (.cells #[.int .u8 (x : Int)] 5)) w.heap.size (some ⟨w.heap.size, 0, none⟩) 1 1 [x] := by
  refine ⟨rfl, L8.one hx, ?_⟩
  have h := World.ownsRow_lit (base := w.heap.size) (e := 5) (size := 1) w #[.int .u8 (x : Int)] 1 (Nat.le_refl _) (by unfold maxLen; omega) (by simp)
  show World.ownsRow _ _ _ _ _ _ [Value.int .u8 (x : Int)]
  simpa using h
end Go.Proofs.YtpjllcengnolkaaGreatDoor

namespace Go.Proofs.YtpjllcengnolkaaGreatDoor
open Go.RowKit

theorem long_no {xs : List Nat} (h : Can xs) (hl : 40 < xs.length) : ¬ (dOf (val xs)).length ≤ 300 := by
  intro h1
  have h2 := dval_lt (dOf_can (val xs)).1
  rw [dOf_val] at h2
  have h3 : val xs < bp 40 := by
    obtain ⟨T, hT⟩ : ∃ T, T = 300 := ⟨_, rfl⟩
    rw [← hT] at h1
    have h6 : dp (dOf (val xs)).length ≤ dp T := Nat.pow_le_pow_right (by omega) h1
    refine lt_bp (m := 100) (p := T) ?_ (by omega) (by omega)
    exact Nat.lt_of_lt_of_le h2 h6
  have h4 := h.ge (by intro e; rw [e] at hl; simp at hl)
  have h5 : bp 40 ≤ bp (xs.length - 1) := by unfold bp; exact Nat.pow_le_pow_right (by omega) (by omega)
  omega

set_option maxRecDepth 100000 in
set_option maxHeartbeats 4000000 in
theorem RCheck_c {S : Nat → Prop} {n c : Nat} {A : Option Addr} {xs : List Nat} (neg : Bool) (exp : Int) (w : World) (ha : Rd w S A n xs) (hS : ∀ b, S b → b < w.heap.size) (hn : n ≤ 9223372036854775807) :
    Calls Tryz.prog 44 #[dv neg A n c exp] w fun e w' => e = .returned (.int .i64 (okE neg xs exp : Int)) ∧ Below w.heap.size w w' := by
  have hb0 : Below w.heap.size w (w.alloc (.cells #[.bool neg, .slice A n c, .int .i64 exp] 31)) := (Below.refl _ _).alloc (Nat.le_refl _) _
  have hck := rCheck_c (c := c) (w.alloc (.cells #[.bool neg, .slice A n c, .int .i64 exp] 31)) (ha.below hb0 hS) hn
  by_cases h0 : chk xs = 0
  · obtain ⟨hcx, hlx⟩ := can_of_chk ha.l32 h0
    have hlen := ha.len
    rw [h0] at hck
    by_cases h40 : 40 < n
    · have hE : okE neg xs exp = 9 := by
        unfold okE
        rw [if_neg]
        intro h
        exact long_no hcx (by omega) (okB_len h)
      rw [hE]
      have HCK := Lib.hid hck
      clear hck h0 hE hlen hcx hlx
      unfold dv
      go_enter Tryz.func44, Tryz.ntmps44
      go_wp2_with fail
      refine HCK.out.mono ?_
      rintro e w1 ⟨rfl, rfl⟩
      go_wp2
      go_ret
      exact ⟨rfl, hb0⟩
    · have hof := Of_c (c := c) neg exp (w.alloc (.cells #[.bool neg, .slice A n c, .int .i64 exp] 31)) (ha.below hb0 hS) (fun b h => by have := hS b h; simp; omega) (by omega)
      have hok : okB neg xs exp = (decide ((dOf (val xs)).length ≤ 300) && (if xs.length = 0 then (!neg && exp == 0) else (decide (nth (dOf (val xs)) 0 ≠ 0) && (decide (-1000 ≤ exp) && decide (exp ≤ 1000))))) := by
        unfold okB
        rw [decide_eq_true h0, Bool.true_and]
      have hz : xs.length = 0 ↔ (dOf (val xs)).length = 0 := by
        constructor
        · intro h
          rw [List.eq_nil_of_length_eq_zero h]; rfl
        · intro h
          have h1 := dOf_val (val xs)
          rw [List.eq_nil_of_length_eq_zero h] at h1
          have h2 := hcx.val_zero h1.symm
          rw [h2]; rfl
      obtain ⟨E, hE⟩ : ∃ E : Nat, E = okE neg xs exp := ⟨_, rfl⟩
      rw [← hE]
      have hEE : E = if (decide ((dOf (val xs)).length ≤ 300) && (if (dOf (val xs)).length = 0 then (!neg && exp == 0) else (decide (nth (dOf (val xs)) 0 ≠ 0) && (decide (-1000 ≤ exp) && decide (exp ≤ 1000))))) = true then 0 else 9 := by
        rw [hE]
        unfold okE
        rw [hok]
        simp only [hz]
      unfold dv at hof ⊢
      unfold nv at hof
      have HCK := Lib.hid hck
      have HOF := Lib.hid hof
      have HE := Lib.hid hEE
      clear hck hof h0 hok hz hE hEE hlen hcx hlx
      have m0 := World.alloc_heap_new w (.cells #[.bool neg, .slice A n c, .int .i64 exp] 31)
      have hsz : (w.alloc (.cells #[.bool neg, .slice A n c, .int .i64 exp] 31)).heap.size = w.heap.size + 1 := by simp
      have HM := Lib.hid m0
      clear m0
      go_enter Tryz.func44, Tryz.ntmps44
      go_wp2_with fail
      refine HCK.out.mono ?_
      rintro e w1 ⟨rfl, rfl⟩
      go_wp2_with fail
      refine HOF.out.mono ?_
      rintro e w2 ⟨A1, n1, c1, ds, rfl, hr1, hc1, hv1, hl1, hb1⟩
      have hds := eq_dOf hc1
      rw [hv1] at hds
      have hn1 := hr1.len
      have m1 := held hb1 (by omega) HM.out
      have hw2 := hb0.trans (hb1.mono (by omega))
      have m2 := heldA (.cells #[.bool neg, .slice A1 n1 c1, .int .i64 exp] 52) m1
      have m3 := World.alloc_heap_new w2 (.cells #[.bool neg, .slice A1 n1 c1, .int .i64 exp] 52)
      have hr2 : ResI (w2.alloc (.cells #[.bool neg, .slice A1 n1 c1, .int .i64 exp] 52)) _ A1 n1 c1 ds := hr1.below ((Below.refl w2.heap.size w2).alloc (Nat.le_refl _) _) (Nat.le_refl _)
      have hw3 := hw2.alloc hw2.size (.cells #[.bool neg, .slice A1 n1 c1, .int .i64 exp] 52)
      obtain ⟨p0, p1, p2⟩ := box3_of m2
      obtain ⟨q0, q1, q2⟩ := box3_of m3
      have HE2 := HE.out
      rw [← hds, hn1] at HE2
      have HE3 := Lib.hid HE2
      have HN1 := Lib.hid hn1
      clear hds hv1 HE2 HE HOF HCK HM m1 m2 m3
      by_cases hn0 : n1 = 0
      · subst hn0
        cases neg
        · by_cases he : exp = 0
          · have heb : (exp != 0) = false := by rw [he]; rfl
            have hE0 : E = 0 := by rw [HE3.out, he]; rfl
            subst hE0
            clear he
            go_wp2
            go_ret
            exact ⟨rfl, hw3⟩
          · have heb : (exp != 0) = true := by rw [bne_iff_ne]; exact he
            have heb2 : (exp == 0) = false := by rw [beq_eq_false_iff_ne]; exact he
            have hE0 : E = 9 := by rw [HE3.out, heb2]; rfl
            subst hE0
            clear he
            go_wp2
            go_ret
            exact ⟨rfl, hw3⟩
        · have hE0 : E = 9 := by rw [HE3.out]; rfl
          subst hE0
          go_wp2
          go_ret
          exact ⟨rfl, hw3⟩
      · have hnb : ((n1 : Int) == 0) = false := by rw [beq_eq_false_iff_ne]; omega
        have hn1p : 0 < n1 := by omega
        obtain ⟨b, off, hA, _, hcell⟩ := hr2.rd.cells hn1p
        subst hA
        have hc0 := hcell 0 hn1p
        rw [Nat.add_zero] at hc0
        have hE4 : E = if (decide (n1 ≤ 300) && (decide (nth ds 0 ≠ 0) && (decide (-1000 ≤ exp) && decide (exp ≤ 1000)))) = true then 0 else 9 := by
          rw [HE3.out, if_neg hn0]
        have HE4 := Lib.hid hE4
        clear hn0 hE4 hcell
        by_cases hd0 : nth ds 0 = 0
        · have hE0 : E = 9 := by rw [HE4.out, decide_eq_false (show ¬ nth ds 0 ≠ 0 from fun h => h hd0)]; simp
          subst hE0
          rw [hd0] at hc0
          clear hd0
          go_wp2
          go_ret
          exact ⟨rfl, hw3⟩
        · have hdb : ((nth ds 0 : Int) == 0) = false := by rw [beq_eq_false_iff_ne]; omega
          have HD := Lib.hid hd0
          clear hd0
          by_cases h3 : 300 < n1
          · have hE0 : E = 9 := by rw [HE4.out, decide_eq_false (by omega)]; rfl
            subst hE0
            go_wp2
            go_ret
            exact ⟨rfl, hw3⟩
          · by_cases hx1 : exp < -1000
            · have hE0 : E = 9 := by rw [HE4.out, decide_eq_false (show ¬ -1000 ≤ exp by omega)]; simp
              subst hE0
              go_wp2
              go_ret
              exact ⟨rfl, hw3⟩
            · by_cases hx2 : 1000 < exp
              · have hE0 : E = 9 := by rw [HE4.out, decide_eq_false (show ¬ exp ≤ 1000 by omega)]; simp
                subst hE0
                go_wp2
                go_ret
                exact ⟨rfl, hw3⟩
              · have hE0 : E = 0 := by rw [HE4.out, decide_eq_true (show n1 ≤ 300 by omega), decide_eq_true HD.out, decide_eq_true (show -1000 ≤ exp by omega), decide_eq_true (show exp ≤ 1000 by omega)]; rfl
                subst hE0
                go_wp2
                go_ret
                exact ⟨rfl, hw3⟩
  · have hE : okE neg xs exp = 9 := by
      unfold okE okB
      rw [decide_eq_false h0]; rfl
    have hce : (((chk xs : Nat) : Int) != 0) = true := by rw [bne_iff_ne]; omega
    rw [hE]
    have HCK := Lib.hid hck
    clear hck h0 hE
    unfold dv
    go_enter Tryz.func44, Tryz.ntmps44
    go_wp2_with fail
    refine HCK.out.mono ?_
    rintro e w1 ⟨rfl, rfl⟩
    go_wp2
    go_ret
    exact ⟨rfl, hb0⟩

end Go.Proofs.YtpjllcengnolkaaGreatDoor

namespace Go.Proofs.YtpjllcengnolkaaGreatDoor
open Go.RowKit Go.Lib

/-- The slice value '.slice A n c' is a row of the call's own, from block base on, and holds vs. -/
structure RowV (w : World) (base : Nat) (t : TypeId) (A : Option Addr) (n c : Nat) (vs : List Value) : Prop where
  len : vs.length = n
  own : w.ownsRow base t 1 (.slice A n c) n vs
/-- The slice value '.slice A n c' reads as vs in world w, in blocks of S. -/
structure RdV (w : World) (S : Nat → Prop) (A : Option Addr) (n : Nat) (vs : List Value) : Prop where
  len : vs.length = n
  cells : 0 < n → ∃ b off, A = some ⟨b, off, none⟩ ∧ S b ∧ ∀ (j : Nat) v, vs[j]? = some v → w.cell? ⟨b, off + j, none⟩ = some v

section
variable {w w' : World} {base n c : Nat} {t : TypeId} {A : Option Addr} {vs : List Value} {S S' : Nat → Prop}
theorem RowV.nil (w : World) (base : Nat) (t : TypeId) : RowV w base t none 0 0 [] := ⟨rfl, World.ownsRow_nil w base _ 1⟩
theorem RowV.form (h : RowV w base t A n c vs) : (A = none ∧ n = 0 ∧ c = 0) ∨ ∃ g, A = some ⟨g, 0, none⟩ ∧ base ≤ g ∧ g < w.heap.size := by
  rcases h.own.2 with ⟨e, h0⟩ | ⟨g, cap, cur, e, hb, hh, _⟩
  · injection e with e1 e2 e3; exact .inl ⟨e1, e2, e3⟩
  · injection e with e1 e2 e3; exact .inr ⟨g, e1, hb, (Array.getElem?_eq_some_iff.1 hh).1⟩
theorem RowV.n_le (h : RowV w base t A n c vs) : n ≤ c ∧ c ≤ maxLen := by
  rcases h.own.2 with ⟨e, h0⟩ | ⟨g, cap, cur, e, hb, hh, h1, h2, _⟩
  · injection e with e1 e2 e3; subst e3; exact ⟨by omega, Nat.zero_le _⟩
  · injection e with e1 e2 e3; subst e3; exact ⟨h1, h2⟩
theorem RowV.more {base' : Nat} (h : RowV w base t A n c vs) (hb : base' ≤ base) : RowV w base' t A n c vs := by
  refine ⟨h.len, h.own.1, ?_⟩
  rcases h.own.2 with h0 | ⟨g, cap, cur, e, hb', rest⟩
  · exact .inl h0
  · exact .inr ⟨g, cap, cur, e, by omega, rest⟩
theorem RowV.keep (h : RowV w base t A n c vs) (hk : ∀ g, A = some ⟨g, 0, none⟩ → w'.heap[g]? = w.heap[g]?) : RowV w' base t A n c vs := by
  refine ⟨h.len, h.own.1, ?_⟩
  rcases h.own.2 with h0 | ⟨g, cap, cur, e, hb', hh, rest⟩
  · exact .inl h0
  · refine .inr ⟨g, cap, cur, e, hb', ?_, rest⟩
    injection e with e1 e2 e3
    rw [hk g e1]; exact hh
theorem RowV.below {B : Nat} (h : RowV w base t A n c vs) (hb : Below B w w') (hB : w.heap.size ≤ B) : RowV w' base t A n c vs :=
  h.keep fun g e => by
    rcases h.form with ⟨h0, _⟩ | ⟨g', e', _, hlt⟩
    · rw [h0] at e; cases e
    · rw [e'] at e; injection e with e; injection e with e; subst e; exact hb.block g' (by omega)
theorem RowV.grown {row : Option Nat} (h : RowV w base t A n c vs) (hg : w.grownBy w' row) (hr : ∀ g, A = some ⟨g, 0, none⟩ → some g ≠ row) : RowV w' base t A n c vs :=
  h.keep fun g e => by
    rcases h.form with ⟨h0, _⟩ | ⟨g', e', _, hlt⟩
    · rw [h0] at e; cases e
    · have : g' = g := by rw [e'] at e; injection e with e; injection e
      subst this; exact hg.block g' hlt (hr _ e)
theorem RowV.drew (h : RowV w base t A n c vs) : RowV w.drew base t A n c vs := h.keep fun _ _ => rfl
theorem RowV.alloc (h : RowV w base t A n c vs) (o : Obj) : RowV (w.alloc o) base t A n c vs := h.below ((Below.refl w.heap.size w).alloc (Nat.le_refl _) o) (Nat.le_refl _)
theorem RowV.rd (h : RowV w base t A n c vs) : RdV w (fun b => base ≤ b ∧ b < w.heap.size) A n vs := by
  refine ⟨h.len, fun hn => ?_⟩
  rcases h.form with ⟨_, h0, _⟩ | ⟨g, rfl, hb, hlt⟩
  · omega
  · refine ⟨g, 0, rfl, ⟨hb, hlt⟩, fun j v hv => ?_⟩
    have hj := (List.getElem?_eq_some_iff.1 hv).1
    rw [h.len] at hj
    rw [Nat.zero_add, h.own.cellAt j (by omega), hv]
theorem RdV.keep (h : RdV w S A n vs) (hk : ∀ p : Addr, S p.block → w'.cell? p = w.cell? p) : RdV w' S A n vs :=
  ⟨h.len, fun hn => by
    obtain ⟨b, off, e, hb, hc⟩ := h.cells hn
    exact ⟨b, off, e, hb, fun j v hv => (hk _ hb).trans (hc j v hv)⟩⟩
theorem RdV.more (h : RdV w S A n vs) (hS : ∀ b, S b → S' b) : RdV w S' A n vs :=
  ⟨h.len, fun hn => by
    obtain ⟨b, off, e, hb, hc⟩ := h.cells hn
    exact ⟨b, off, e, hS b hb, hc⟩⟩
theorem RdV.drew (h : RdV w S A n vs) : RdV w.drew S A n vs := h.keep fun _ _ => rfl
theorem RdV.below {B : Nat} (h : RdV w S A n vs) (hb : Below B w w') (hS : ∀ b, S b → b < B) : RdV w' S A n vs := h.keep fun _ hp => hb.cell (hS _ hp)
theorem RdV.grown {row : Option Nat} (h : RdV w S A n vs) (hg : w.grownBy w' row) (hr : ∀ b, S b → b < w.heap.size ∧ some b ≠ row) : RdV w' S A n vs :=
  h.keep fun p hp => World.cell?_of_block (hg.block p.block (hr _ hp).1 (hr _ hp).2)
theorem RdV.at_ {k : Nat} {v : Value} (h : RdV w S A n vs) (hv : vs[k]? = some v) : ∃ b off, A = some ⟨b, off, none⟩ ∧ S b ∧ w.cell? ⟨b, off + k, none⟩ = some v := by
  have hk := (List.getElem?_eq_some_iff.1 hv).1
  rw [h.len] at hk
  obtain ⟨b, off, e, hb, hc⟩ := h.cells (by omega)
  exact ⟨b, off, e, hb, hc k v hv⟩
theorem RdV.nil (w : World) (S : Nat → Prop) (A : Option Addr) : RdV w S A 0 [] := ⟨rfl, fun h => absurd h (by omega)⟩
theorem RdV.cellsAt {ad : Addr} (h : RdV w S (some ad) n vs) : ∀ (j : Nat) u, vs[j]? = some u → w.cell? (ad.add j) = some u := by
  intro j u hu
  have hj := (List.getElem?_eq_some_iff.1 hu).1
  rw [h.len] at hj
  obtain ⟨b, off, e, _, hc⟩ := h.cells (by omega)
  injection e with e
  subst e
  rw [Addr.add_lit]
  exact hc j u hu
/-- What lies below stays, where a row of the call's own is appended to. -/
theorem RowV.below_append {B k : Nat} {W w1 : World} {os : List Value} {o : Obj} (hbel : Below B W w) (hB : B ≤ w.heap.size) (hres : RowV w B t A k c os) (hg : (w.alloc o).grownBy w1 (Value.slice A k c).ownBlock) : Below B W w1 :=
  (hbel.alloc hB _).grown hg (by simp; omega) (by
    intro q hq
    rcases hres.form with ⟨h1, _⟩ | ⟨g1, h1, h2, _⟩
    · rw [h1] at hq; simp [Value.ownBlock] at hq
    · rw [h1] at hq; simp [Value.ownBlock] at hq; omega)
end

def bs8 (l : List UInt8) : List Value := l.map fun b => Value.int .u8 (b.toNat : Int)
theorem bs8_length (l : List UInt8) : (bs8 l).length = l.length := by simp [bs8]
theorem runeCells_bs8 (c : Int) : runeCells c = bs8 (encodeRune c) := by
  unfold runeCells bs8 encodeRune
  rw [List.map_map]
  refine List.map_congr_left fun x hx => ?_
  have := encodeRuneZ_byte c x hx
  show Value.int .u8 x = Value.int .u8 _
  rw [toU8_toNat this.1 this.2]
  congr 1
  omega
end Go.Proofs.YtpjllcengnolkaaGreatDoor

namespace Go.Proofs.YtpjllcengnolkaaGreatDoor
open Go.RowKit Go.Lib

/-- A text of octets. -/
def mk8 (l : List UInt8) : ByteArray := ⟨l.toArray⟩
theorem mk8_L (l : List UInt8) : (mk8 l).data.toList = l := rfl
theorem mk8_size (l : List UInt8) : (mk8 l).size = l.length := by show l.toArray.size = _; simp
theorem mk8_of (s : ByteArray) : mk8 s.data.toList = s := by cases s; simp [mk8]
end Go.Proofs.YtpjllcengnolkaaGreatDoor

namespace Go.Proofs.YtpjllcengnolkaaGreatDoor
open Go.RowKit Go.Lib

theorem RdV.conv {w : World} {S : Nat → Prop} {A : Option Addr} {n c : Nat} {l : List UInt8} (h : RdV w S A n (bs8 l)) : (convert 22 9 (.slice A n c)).run Tryz.prog w = .ok (.string (mk8 l)) w := by
  have hl : l.length = n := by rw [← h.len, bs8_length]
  cases A with
  | none =>
    have h0 : n = 0 := by
      rcases Nat.eq_zero_or_pos n with e | e
      · exact e
      · obtain ⟨b, off, e2, _⟩ := h.cells e; cases e2
    have hl0 : l = [] := List.eq_nil_of_length_eq_zero (by omega)
    have h1 := run_convert_bytes_nil (P := Tryz.prog) w 22 5 Tryz.underlying22 Tryz.underlying5 n c 9 Tryz.underlying9
    rw [h1, hl0]; rfl
  | some ad =>
    have hm : bs8 l = (l.map fun x => (x.toNat : Int)).map (Value.int .u8) := by unfold bs8; rw [List.map_map]; rfl
    have hld : (loadCells ad n).run Tryz.prog w = .ok ((l.map fun x => (x.toNat : Int)).map (Value.int .u8)).toArray w := by
      have := run_loadCells_list (P := Tryz.prog) w ad (bs8 l) (fun j v hj => h.cellsAt j v hj)
      rw [bs8_length, hl, hm] at this
      exact this
    rw [run_convert_bytes_string w 22 9 5 _ n c Tryz.underlying22 Tryz.underlying5 Tryz.underlying9, run_bytesToString w _ n c (l.map fun x => (x.toNat : Int)) hld, foldl_push_bytes]
    congr 1
    congr 1
    unfold mk8
    congr 1
    rw [List.map_map]
    show ByteArray.empty.data ++ _ = _
    have : (l.map ((fun n : Int => UInt8.ofNat n.toNat) ∘ fun x : UInt8 => (x.toNat : Int))) = l := by
      conv => rhs; rw [← List.map_id l]
      refine List.map_congr_left fun x _ => ?_
      simp
    rw [this]
    simp

end Go.Proofs.YtpjllcengnolkaaGreatDoor
