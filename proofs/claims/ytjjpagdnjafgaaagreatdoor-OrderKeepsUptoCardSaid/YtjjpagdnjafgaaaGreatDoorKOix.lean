/-
  What OrderKeeps wants, without a program: a list in order is in order again as it is; as many stand in it as stood anywhere.
  Contracts of order.Index, where no value has an error, and of the reference's SameAll.
-/
import Derived.Test.YtjjpagdnjafgaaaGreatDoorKOsor
import Derived.Test.YtjjpagdnjafgaaaGreatDoorKVsame
import Derived.Test.YtjjpagdnjafgaaaGreatDoorKOal
set_option linter.unusedVariables false
set_option linter.unusedSimpArgs false
namespace Go.Proofs.YtjjpagdnjafgaaaGreatDoor
open Go.RowKit

theorem items_of {l : List VT} (h : ∀ x ∈ l, errV x = 0) : itemsE l l = 0 := by
  have h0 : firstE (l ++ l) = 0 := firstE_zero.2 fun x hx => by
    rcases List.mem_append.1 hx with hx | hx <;> exact h x hx
  unfold itemsE
  rw [if_pos h0, if_pos rfl]
/-- How many of a list stand like a value. -/
def countZ (v : VT) : List VT → Nat
  | [] => 0
  | x :: r => (if ordV x v = 0 then 1 else 0) + countZ v r
theorem countZ_perm {v : VT} {l m : List VT} (h : l.Perm m) : countZ v l = countZ v m := by
  induction h with
  | nil => rfl
  | cons x _ ih => simp only [countZ, ih]
  | swap x y l => simp only [countZ]; omega
  | trans _ _ h1 h2 => exact h1.trans h2
theorem pickV_get {l : List VT} {ps : List Nat} {i : Nat} {x : VT} (h : Placed l ps) (hx : (pickV l ps)[i]? = some x) : ∃ p, ps[i]? = some p ∧ l[p]? = some x := by
  unfold pickV at hx
  rw [List.getElem?_map] at hx
  cases hp : ps[i]? with
  | none => rw [hp] at hx; simp at hx
  | some p =>
    rw [hp] at hx
    have hlt := h.lt (List.mem_of_getElem? hp)
    have hl : l[p]? = some l[p] := List.getElem?_eq_getElem hlt
    simp only [Option.map_some, Option.some.injEq, hl, Option.getD_some] at hx
    exact ⟨p, rfl, by rw [hl, hx]⟩
theorem placed_le {l : List VT} {ps : List Nat} (h : Placed l ps) {i j : Nat} (hij : i < j) {x y : VT} (hx : (pickV l ps)[i]? = some x) (hy : (pickV l ps)[j]? = some y) : ordV x y ≤ 0 := by
  obtain ⟨p, hp, hx2⟩ := pickV_get h hx
  obtain ⟨q, hq, hy2⟩ := pickV_get h hy
  obtain ⟨hp2, hpe⟩ := List.getElem?_eq_some_iff.1 hp
  obtain ⟨hq2, hqe⟩ := List.getElem?_eq_some_iff.1 hq
  have := List.pairwise_iff_getElem.1 h.2 i j hp2 hq2 hij x y (by rw [hpe]; exact hx2) (by rw [hqe]; exact hy2)
  omega
theorem placed_again {l : List VT} {ps : List Nat} (h : Placed l ps) : Placed (pickV l ps) (List.range (pickV l ps).length) := by
  refine ⟨List.Perm.refl _, List.pairwise_iff_getElem.2 fun i j hi hj hij x y hx hy => ?_⟩
  rw [List.getElem_range] at hx hy
  have := placed_le h hij hx hy
  rw [List.getElem_range, List.getElem_range]
  omega
/-- A list and a value behind it: no error if none has one. -/
theorem first_behind {l : List VT} {v : VT} (h : ∀ x ∈ l, errV x = 0) (hv : errV v = 0) : firstE (l ++ [v]) = 0 := firstE_zero.2 fun x hx => by
  rcases List.mem_append.1 hx with hx | hx
  · exact h x hx
  · rw [List.mem_singleton] at hx; rw [hx]; exact hv
end Go.Proofs.YtjjpagdnjafgaaaGreatDoor

namespace Go.Proofs.YtjjpagdnjafgaaaGreatDoor
open Go.RowKit Go.Lib

/-- A list as a value. -/
def listV (l : List VT) : VT := .mk 5 false [] 0 ⟨#[]⟩ l []
theorem listV_in {w : World} {S : Nat → Prop} {A : Option Addr} {n c : Nat} {l : List VT} (h : RdL w S A n l) (hn : n ≤ 1256584717458) (hc : n ≤ c) : VIn w S (listV l) [.int .i64 5, .bool false, .slice none 0 0, .int .i64 0, .string ⟨#[]⟩, .slice A n c, .slice none 0 0] := by
  obtain ⟨h1, h2, cs, h3, h4⟩ := h
  exact .mk (cs := cs) (Rd.nil w S none) (by omega) (by decide) ⟨rfl, fun h0 => absurd h0 (by omega)⟩ (by omega) h1 hn hc h3 h4
theorem buildL (A : Option Addr) (n c : Nat) (w : World) : (Instr.build 53 #[(0, .int .i64 5), (3, .slice A n c)]).run Tryz.prog w = .ok (.agg #[.int .i64 5, .bool false, .slice none 0 0, .int .i64 0, .string ⟨#[]⟩, .slice A n c, .slice none 0 0]) w := run_build w 53 _ _ (by kernel_rfl)

set_option maxRecDepth 100000 in
set_option maxHeartbeats 1000000 in
theorem sameAll_c {S S' : Nat → Prop} {A B : Option Addr} {n c m d : Nat} {l r : List VT} (w : World) (hl : RdL w S A n l) (hr : RdL w S' B m r) (hS : ∀ b, S b → b < w.heap.size) (hS' : ∀ b, S' b → b < w.heap.size) (hn : n ≤ 1256584717458) (hm : m ≤ 1256584717458) (hc : n ≤ c) (hd : m ≤ d) :
    Calls Tryz.prog 46 #[.slice A n c, .slice B m d] w fun e w' => e = .returned (.bool (sameV (listV l) (listV r))) ∧ Below w.heap.size w w' := by
  have HC := same_c (listV l) (listV r) S S' _ _ w (listV_in hl hn hc) (listV_in hr hm hd) hS hS'
  obtain ⟨R, hR⟩ : ∃ R, sameV (listV l) (listV r) = R := ⟨_, rfl⟩
  rw [hR] at HC ⊢
  have hb1 := fun W => buildL A n c W
  have hb2 := fun W => buildL B m d W
  clear hR hl hr hS hS'
  go_enter Tryz.func46, Tryz.ntmps46
  go_wp2_with fail
  refine HC.mono ?_
  rintro e' w1 ⟨rfl, hb⟩
  clear HC
  go_wp2_with fail
  go_ret
  exact ⟨rfl, hb⟩

set_option maxRecDepth 100000 in
set_option maxHeartbeats 1000000 in
theorem oindex_c {A : Option Addr} {n c : Nat} {l : List VT} {v : VT} {vs : List Value} (w : World) (hT : Tabs w) (hl : RdL w (fun b => b < w.heap.size) A n l) (hv : VIn w (fun b => b < w.heap.size) v vs) (h0 : firstE (l ++ [v]) = 0) (hnb : n ≤ 21474836) :
    Calls Tryz.prog 44 #[.slice A n c, .agg vs.toArray] w fun e w' => ∃ P co, e = .returned (.tuple #[.slice P (countZ v l) co, .int .i64 0]) ∧ Below w.heap.size w w' := by
  obtain ⟨i0, hi, hz0, hz1, hz2⟩ := info_parts infoI
  obtain ⟨R, hR⟩ : ∃ R, countZ v l = R := ⟨_, rfl⟩
  rw [hR]
  obtain ⟨k1, neg1, A1, n1, c1, e1, t1, LA1, ln1, lc1, KA1, kn1, kc1, rfl⟩ := hv.seven
  have HR := Lib.hid hR
  have HT := Lib.hid hT
  have HL := Lib.hid hl
  have HV := Lib.hid hv
  have H0 := Lib.hid h0
  have HLN := Lib.hid hl.1
  clear hR hT hl hv h0
  have hm1 := World.alloc_heap_new w (.cells #[.int .i64 k1, .bool neg1, .slice A1 n1 c1, .int .i64 e1, .string t1, .slice LA1 ln1 lc1, .slice KA1 kn1 kc1] 53)
  have hb1 : Below w.heap.size w (w.alloc (.cells #[.int .i64 k1, .bool neg1, .slice A1 n1 c1, .int .i64 e1, .string t1, .slice LA1 ln1 lc1, .slice KA1 kn1 kc1] 53)) := (Below.refl _ w).alloc (Nat.le_refl _) _
  have hs1 : (w.alloc (.cells #[.int .i64 k1, .bool neg1, .slice A1 n1 c1, .int .i64 e1, .string t1, .slice LA1 ln1 lc1, .slice KA1 kn1 kc1] 53)).heap.size = w.heap.size + 1 := by simp
  go_enter Tryz.func44, Tryz.ntmps44
  go_upto_region 1 with fail
  generalize (w.alloc (.cells #[.int .i64 k1, .bool neg1, .slice A1 n1 c1, .int .i64 e1, .string t1, .slice LA1 ln1 lc1, .slice KA1 kn1 kc1] 53)) = W1 at *
  have HM1 := Lib.hid hm1
  obtain ⟨x0, x1, x2, x3, x4, x5, x6⟩ := box7_of hm1
  have hm2 := World.alloc_heap_new W1 (.cells #[.int .i64 k1, .bool neg1, .slice A1 n1 c1, .int .i64 e1, .string t1, .slice LA1 ln1 lc1, .slice KA1 kn1 kc1] 53)
  have hb2 : Below W1.heap.size W1 (W1.alloc (.cells #[.int .i64 k1, .bool neg1, .slice A1 n1 c1, .int .i64 e1, .string t1, .slice LA1 ln1 lc1, .slice KA1 kn1 kc1] 53)) := (Below.refl _ W1).alloc (Nat.le_refl _) _
  have hs2 : (W1.alloc (.cells #[.int .i64 k1, .bool neg1, .slice A1 n1 c1, .int .i64 e1, .string t1, .slice LA1 ln1 lc1, .slice KA1 kn1 kc1] 53)).heap.size = W1.heap.size + 1 := by simp
  obtain ⟨W2, hW2⟩ : ∃ W2, W1.alloc (.cells #[.int .i64 k1, .bool neg1, .slice A1 n1 c1, .int .i64 e1, .string t1, .slice LA1 ln1 lc1, .slice KA1 kn1 kc1] 53) = W2 := ⟨_, rfl⟩
  rw [hW2] at hm2 hb2 hs2
  have hm3 := World.alloc_heap_new W2 (.cells #[.slice A n c, .slice (some ⟨W1.heap.size, 0, none⟩) 1 1] 50)
  have hb3 : Below W2.heap.size W2 (W2.alloc (.cells #[.slice A n c, .slice (some ⟨W1.heap.size, 0, none⟩) 1 1] 50)) := (Below.refl _ W2).alloc (Nat.le_refl _) _
  have hs3 : (W2.alloc (.cells #[.slice A n c, .slice (some ⟨W1.heap.size, 0, none⟩) 1 1] 50)).heap.size = W2.heap.size + 1 := by simp
  obtain ⟨W3, hW3⟩ : ∃ W3, W2.alloc (.cells #[.slice A n c, .slice (some ⟨W1.heap.size, 0, none⟩) 1 1] 50) = W3 := ⟨_, rfl⟩
  rw [hW3] at hm3 hb3 hs3
  have hb13 : Below W1.heap.size W1 W3 := hb2.trans (hb3.mono (by omega))
  have hb03 : Below w.heap.size w W3 := hb1.trans (hb13.mono (by omega))
  have hm23 := (hb3.block _ (by omega)).trans hm2
  have hm13 := (hb13.block _ (by omega)).trans hm1
  obtain ⟨p0, p1, p2, p3, p4, p5, p6⟩ := box7_of hm23
  have hvv : RdL W3 (fun b => b < W3.heap.size) (some ⟨W1.heap.size, 0, none⟩) 1 [v] := ⟨rfl, by omega, fun _ => [.int .i64 k1, .bool neg1, .slice A1 n1 c1, .int .i64 e1, .string t1, .slice LA1 ln1 lc1, .slice KA1 kn1 kc1], fun _ => ⟨W1.heap.size, 0, rfl, (by show W1.heap.size < W3.heap.size; omega), fun i hi => by
      have : i = 0 := by omega
      subst this
      exact ⟨rfl, fun t ht => by
        match t, ht with
        | 0, _ => exact p0
        | 1, _ => exact p1
        | 2, _ => exact p2
        | 3, _ => exact p3
        | 4, _ => exact p4
        | 5, _ => exact p5
        | 6, _ => exact p6⟩⟩, fun i x hi => by
      match i, hi with
      | 0, hi => injection hi with hi; subst hi; exact (HV.out.keep fun p hp => hb03.cell hp).more fun b hb => Nat.lt_of_lt_of_le hb hb03.size⟩
  have HC := ocheck_c (S := fun b => b < W3.heap.size) (g := W2.heap.size) (m := 2) (rs := [⟨A, n, c, l⟩, ⟨some ⟨W1.heap.size, 0, none⟩, 1, 1, [v]⟩]) W3 (HT.out.below hb03) rfl (by omega) (by omega) (fun i r hi => by
    match i, hi with
    | 0, hi => injection hi with hi; subst hi; exact ⟨cell_at hm3 rfl, (HL.out.stay hb03 fun b h => h).more fun b hb => Nat.lt_of_lt_of_le hb hb03.size⟩
    | 1, hi => injection hi with hi; subst hi; exact ⟨cell_at hm3 rfl, hvv⟩) (fun b hb => hb)
  have hall : allL [⟨A, n, c, l⟩, ⟨some ⟨W1.heap.size, 0, none⟩, 1, 1, [v]⟩] = l ++ [v] := by simp [allL]
  rw [hall, H0.out] at HC
  have HB03 := Lib.hid hb03
  have HM13 := Lib.hid hm13
  clear hall hvv hm1 hm2 hm3 hm23 hm13 hb2 hb3 hb13 hb03 p0 p1 p2 p3 p4 p5 p6
  rw [hs1] at hW3
  rw [hs2, hs1] at HC
  go_wp2_with fail
  try rw [hW2]
  try rw [hW3]
  refine HC.mono ?_
  rintro e' W4 ⟨rfl, hb4⟩
  have hb04 := HB03.out.trans (hb4.mono HB03.out.size)
  have hm14 := (hb4.block w.heap.size (by omega)).trans HM13.out
  have HM14 := Lib.hid hm14
  have HB04 := Lib.hid hb04
  have hs4 : w.heap.size < W4.heap.size := by have := hb4.size; omega
  clear HC hb4 hm14 hb04 x0 x1 x2 x3 x4 x5 x6
  go_wp2_with fail
  go_loopw [7, 20] (fun ov iv wr => ∃ (j m : Nat) (Ao : Option Addr) (co : Nat) (os : List Nat), j ≤ n ∧ m ≤ j ∧ iv = .int .i64 (j : Int) ∧ ov = .slice Ao m co ∧ ResI wr W4.heap.size Ao m co os ∧ Hid (m + countZ v (l.drop j) = R) ∧ Below W4.heap.size W4 wr) (fun _ iv _ => n - (RowKit.intOf iv).toNat)
  case atStart => exact ⟨0, 0, none, 0, [], Nat.zero_le _, Nat.zero_le _, rfl, rfl, ResI.nil _ _, by (show _ = _); rw [List.drop_zero, Nat.zero_add]; exact HR.out, Below.refl _ _⟩
  case round =>
    obtain ⟨j, m, Ao, co, os, hj, hmj, rfl, rfl, hres, hcn, hbel⟩ := hrel
    have hb0r := HB04.out.trans (hbel.mono HB04.out.size)
    by_cases hjn : j < n
    · have hjlt : (j : Int) < (n : Int) := by omega
      have hj0 : (0 : Int) ≤ (j : Int) := by omega
      have hjt : ((j : Int)).toNat = j := by omega
      have hjw : IntKind.i64.wrap ((j : Int) + 1) = (j : Int) + 1 := IntWalk.i64_in _ (by omega)
      obtain ⟨b, off, x, cs, rfl, hSb, hx, h7, hcells, hvx⟩ := HL.out.at_ hjn
      obtain ⟨k2, neg2, A2, n2, c2, e2, t2, LA2, ln2, lc2, KA2, kn2, kc2, rfl⟩ := hvx.seven
      have hcw : ∀ a, a < 7 → wr.cell? ⟨b, off + (j * 7 + a), none⟩ = _ := fun a ha => (hb0r.cell (p := ⟨b, off + (j * 7 + a), none⟩) hSb).trans (hcells a ha)
      have d0 : wr.cell? ⟨b, off + j * 7, none⟩ = some (.int .i64 k2) := hcw 0 (by omega)
      have d1 : wr.cell? ⟨b, off + j * 7 + 1, none⟩ = some (.bool neg2) := hcw 1 (by omega)
      have d2 : wr.cell? ⟨b, off + j * 7 + 2, none⟩ = some (.slice A2 n2 c2) := hcw 2 (by omega)
      have d3 : wr.cell? ⟨b, off + j * 7 + 3, none⟩ = some (.int .i64 e2) := hcw 3 (by omega)
      have d4 : wr.cell? ⟨b, off + j * 7 + 4, none⟩ = some (.string t2) := hcw 4 (by omega)
      have d5 : wr.cell? ⟨b, off + j * 7 + 5, none⟩ = some (.slice LA2 ln2 lc2) := hcw 5 (by omega)
      have d6 : wr.cell? ⟨b, off + j * 7 + 6, none⟩ = some (.slice KA2 kn2 kc2) := hcw 6 (by omega)
      have hdr : l.drop j = x :: l.drop (j + 1) := by
        obtain ⟨hjl, e⟩ := List.getElem?_eq_some_iff.1 hx
        rw [← e]
        exact List.drop_eq_getElem_cons hjl
      have hcn2 := hcn.out
      rw [hdr] at hcn2
      simp only [countZ] at hcn2
      obtain ⟨E, hE⟩ : ∃ E, ordV x v = E := ⟨_, rfl⟩
      rw [hE] at hcn2
      have HE := Lib.hid hE
      have HCN := Lib.hid hcn2
      have hall0 := firstE_zero.1 H0.out
      have hfx := fine_ok hvx (hall0 x (List.mem_append_left _ (List.mem_of_getElem? hx)))
      have hfv := fine_ok HV.out (hall0 v (List.mem_append_right _ (List.mem_singleton.2 rfl)))
      have HFX := Lib.hid hfx
      have HFV := Lib.hid hfv
      have HVX := Lib.hid hvx
      have HRES := Lib.hid hres
      have hw1 := (hbel.block w.heap.size (by omega)).trans HM14.out
      clear hcw hcells hE hcn2 hcn hdr hx h7 hvx hall0 hfx hfv hres
      go_upto_region 8 with fail
      have hm5 := World.alloc_heap_new wr (.cells #[.int .i64 k2, .bool neg2, .slice A2 n2 c2, .int .i64 e2, .string t2, .slice LA2 ln2 lc2, .slice KA2 kn2 kc2] 53)
      have hb5 : Below W4.heap.size W4 (wr.alloc (.cells #[.int .i64 k2, .bool neg2, .slice A2 n2 c2, .int .i64 e2, .string t2, .slice LA2 ln2 lc2, .slice KA2 kn2 kc2] 53)) := hbel.alloc hbel.size _
      have hb5r : Below wr.heap.size wr (wr.alloc (.cells #[.int .i64 k2, .bool neg2, .slice A2 n2 c2, .int .i64 e2, .string t2, .slice LA2 ln2 lc2, .slice KA2 kn2 kc2] 53)) := (Below.refl _ wr).alloc (Nat.le_refl _) _
      have hs5 : (wr.alloc (.cells #[.int .i64 k2, .bool neg2, .slice A2 n2 c2, .int .i64 e2, .string t2, .slice LA2 ln2 lc2, .slice KA2 kn2 kc2] 53)).heap.size = wr.heap.size + 1 := by simp
      generalize (wr.alloc (.cells #[.int .i64 k2, .bool neg2, .slice A2 n2 c2, .int .i64 e2, .string t2, .slice LA2 ln2 lc2, .slice KA2 kn2 kc2] 53)) = W5 at *
      obtain ⟨x0, x1, x2, x3, x4, x5, x6⟩ := box7_of hm5
      have hw5 := (hb5r.block w.heap.size (by have := hbel.size; omega)).trans hw1
      obtain ⟨y0, y1, y2, y3, y4, y5, y6⟩ := box7_of hw5
      have hb05 := HB04.out.trans (hb5.mono HB04.out.size)
      have HC := compareO_c x v (fun b => b < W5.heap.size) _ _ W5 HFX.out HFV.out ((HVX.out.keep fun p hp => hb05.cell hp).more fun b hb => Nat.lt_of_lt_of_le hb hb05.size) ((HV.out.keep fun p hp => hb05.cell hp).more fun b hb => Nat.lt_of_lt_of_le hb hb05.size) (fun b hb => hb)
      rw [HE.out] at HC
      have HRES5 := Lib.hid (HRES.out.below hb5r (Nat.le_refl _))
      have HB5 := Lib.hid hb5
      clear d0 d1 d2 d3 d4 d5 d6 hm5 hb5 hb5r hw1 hw5 hb05 hbel hb0r HRES
      by_cases hE0 : E = 0
      · subst hE0
        have HCN2 : Hid (m + 1 + countZ v (l.drop (j + 1)) = R) := by
          show _ = _
          have := HCN.out
          rw [if_pos rfl] at this
          omega
        go_wp2_with fail
        refine HC.mono ?_
        rintro e' W6 ⟨rfl, hb6⟩
        have hbel := HB5.out.trans (hb6.mono HB5.out.size)
        have hres := HRES5.out.below hb6 (Nat.le_refl _)
        clear HC hb6 x0 x1 x2 x3 x4 x5 x6 y0 y1 y2 y3 y4 y5 y6
        have hro : ∀ o, (W6.alloc o).ownsRow W4.heap.size 3 1 (.slice Ao m co) m (i64s os) := fun o => hres.own.alloc o
        go_wp2_with (at_builtin; refine wpList_append_own_at _ rfl (.tmp 29) (.tmp 31) _ rfl W4.heap.size 3 i0 (.int .i64 0) 1 8 Tryz.underlying67 hi hz0 hz1 hz2 rfl (by decide) (.slice Ao m co) m (i64s os) rfl (hro _) ⟨W6.heap.size, 0, none⟩ 1 1 [.int .i64 ((j : Nat) : Int)] rfl rfl (cell_new1 _ _ _ _ rfl) (by simp [Value.oneCell']) (by unfold maxLen; omega) (by omega) (by simp; have := hbel.size; omega) ?_; intro v1 w1 hown1 hg1 _ hat1)
        obtain ⟨g', cap', hv'⟩ := ownsRow_succ hown1
        subst hv'
        go_wp2_with fail
        go_roundw
        case rel => exact ⟨j + 1, m + 1, _, _, os ++ [j], by omega, by omega, by go_num, rfl, ResI.snoc hres.len hres.l32 (by omega) hown1, HCN2, hres.below_append hbel hbel.size hg1⟩
        case measure => simp [RowKit.intOf]; omega
      · have HCN2 : Hid (m + countZ v (l.drop (j + 1)) = R) := by
          show _ = _
          have := HCN.out
          rw [if_neg hE0] at this
          omega
        have hE1 : (E == 0) = false := by rw [beq_eq_false_iff_ne]; exact hE0
        go_wp2_with fail
        refine HC.mono ?_
        rintro e' W6 ⟨rfl, hb6⟩
        have hbel := HB5.out.trans (hb6.mono HB5.out.size)
        have hres := HRES5.out.below hb6 (Nat.le_refl _)
        clear HC hb6 x0 x1 x2 x3 x4 x5 x6 y0 y1 y2 y3 y4 y5 y6
        go_wp2_with fail
        go_roundw
        case rel => exact ⟨j + 1, m, Ao, co, os, by omega, by omega, by go_num, rfl, hres, HCN2, hbel⟩
        case measure => simp [RowKit.intOf]; omega
    · have hjn2 : ¬ (j : Int) < (n : Int) := by omega
      have hcn2 := hcn.out
      rw [List.drop_eq_nil_of_le (by have := HLN.out; omega)] at hcn2
      have hmR : m = R := hcn2
      subst hmR
      clear hcn2 hcn
      go_wp2_with fail
      go_ret2
      first | exact ⟨_, _, rfl, hb0r⟩ | exact ⟨⟨_, _, rfl⟩, hb0r⟩
end Go.Proofs.YtjjpagdnjafgaaaGreatDoor
