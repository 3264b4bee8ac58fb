/-
  Contract of at: the values that stand at places of a list.
  Contracts of check, checkItems, rank, pick.
  Contracts of checkItems, rank, pick, SortBy, Sort.
  Contracts of SortBy and Sort.
-/
import Derived.Test.YtjjpagdnjafgaaaGreatDoorGOpla
import Derived.Test.YtjjpagdnjafgaaaGreatDoorGVcpy
import Derived.Test.YtjjpagdnjafgaaaGreatDoorGVchk
import Derived.Laws.EntriesVeiled
set_option linter.unusedVariables false
set_option linter.unusedSimpArgs false
namespace Go.Proofs.YtjjpagdnjafgaaaGreatDoor
open Go.RowKit

/-- Seven cells of a block, set. -/
theorem sevenO_at {w : World} {b o : Nat} {cur : Array Value} {t : TypeId} (h : w.heap[b]? = some (.cells cur t)) (ho : o + 7 ≤ cur.size) (v0 v1 v2 v3 v4 v5 v6 : Value) :
    ∃ cur', (((((((w.setCell ⟨b, o, none⟩ v0).setCell ⟨b, o + 1, none⟩ v1).setCell ⟨b, o + 2, none⟩ v2).setCell ⟨b, o + 3, none⟩ v3).setCell ⟨b, o + 4, none⟩ v4).setCell ⟨b, o + 5, none⟩ v5).setCell ⟨b, o + 6, none⟩ v6).heap[b]? = some (.cells cur' t) ∧ cur'.size = cur.size ∧ (∀ a, a < 7 → cur'[o + a]? = [v0, v1, v2, v3, v4, v5, v6][a]?) ∧ ∀ i, (i < o ∨ o + 7 ≤ i) → cur'[i]? = cur[i]? := by
  refine ⟨(((((((cur.setIfInBounds o v0).setIfInBounds (o + 1) v1).setIfInBounds (o + 2) v2).setIfInBounds (o + 3) v3).setIfInBounds (o + 4) v4).setIfInBounds (o + 5) v5).setIfInBounds (o + 6) v6), ?_, ?_, ?_, ?_⟩
  · exact heap_setCell_same _ _ _ _ _ _ (heap_setCell_same _ _ _ _ _ _ (heap_setCell_same _ _ _ _ _ _ (heap_setCell_same _ _ _ _ _ _ (heap_setCell_same _ _ _ _ _ _ (heap_setCell_same _ _ _ _ _ _ (heap_setCell_same _ _ _ _ _ _ h))))))
  · simp
  · intro a ha
    have : a = 0 ∨ a = 1 ∨ a = 2 ∨ a = 3 ∨ a = 4 ∨ a = 5 ∨ a = 6 := by omega
    rcases this with rfl | rfl | rfl | rfl | rfl | rfl | rfl <;> simp [Array.getElem?_setIfInBounds] <;> omega
  · intro i hi
    simp only [Array.getElem?_setIfInBounds]
    repeat rw [if_neg (by omega)]
theorem below_sevenO {a w : World} {B b o : Nat} (h : Below B a w) (hb : B ≤ b) (v0 v1 v2 v3 v4 v5 v6 : Value) : Below B a (((((((w.setCell ⟨b, o, none⟩ v0).setCell ⟨b, o + 1, none⟩ v1).setCell ⟨b, o + 2, none⟩ v2).setCell ⟨b, o + 3, none⟩ v3).setCell ⟨b, o + 4, none⟩ v4).setCell ⟨b, o + 5, none⟩ v5).setCell ⟨b, o + 6, none⟩ v6) :=
  ((((((h.setCell hb v0).setCell hb v1).setCell hb v2).setCell hb v3).setCell hb v4).setCell hb v5).setCell hb v6
/-- The values at places. -/
def pickV (l : List VT) (ps : List Nat) : List VT := ps.map fun p => l[p]?.getD (.mk 0 false [] 0 ⟨#[]⟩ [] [])
theorem pickV_at {l : List VT} {ps : List Nat} {k p : Nat} {x : VT} (h : ps[k]? = some p) (hx : l[p]? = some x) : (pickV l ps)[k]? = some x := by
  unfold pickV
  rw [List.getElem?_map, h]
  simp [hx]
theorem makeVL_at {z : Int} (n : Nat) (e : z = (n : Int)) (h : n ≤ 1099511627776) (w : World) : (Instr.makeSlice 50 (.int IntKind.i64 z) (.int IntKind.i64 z)).run Tryz.prog w =
    .ok (.slice (some ⟨w.heap.size, 0, none⟩) n n) (w.alloc (.cells (madeCells #[.int .i64 0, .bool false, .slice none 0 0, .int .i64 0, .string ⟨#[]⟩, .slice none 0 0, .slice none 0 0] (n * 7)) 53)) := by
  subst e
  obtain ⟨i0, hi, hz0, hz1, hz2⟩ := info_parts infoV7
  have hr := run_make (P := Tryz.prog) w 50 53 i0 (.agg #[.int .i64 0, .bool false, .slice none 0 0, .int .i64 0, .string ⟨#[]⟩, .slice none 0 0, .slice none 0 0]) Tryz.underlying50 hi hz0 IntKind.i64 IntKind.i64 n n (by omega) (Int.le_refl _) (by rw [hz2]; omega) (by omega)
  rw [Int.toNat_natCast, hz1] at hr
  exact hr

/-- A row of places, from somewhere in a block on. -/
def RowQ (w : World) (B : Option Addr) (ps : List Nat) : Prop := 0 < ps.length → ∃ g o : Nat, B = some ⟨g, o, none⟩ ∧ g < w.heap.size ∧ ∀ (k p : Nat), ps[k]? = some p → w.cell? ⟨g, o + k, none⟩ = some (.int .i64 (p : Int))
theorem RowP.q {w : World} {bp : Nat} {B : Option Addr} {ps : List Nat} (h : RowP w bp B ps) : RowQ w B ps := by
  obtain ⟨g, e, -, h1, h2⟩ := h
  exact fun _ => ⟨g, 0, e, h1, fun k p hk => by rw [Nat.zero_add]; exact h2 k p hk⟩

set_option maxRecDepth 100000 in
set_option maxHeartbeats 400000 in
theorem at_c {S : Nat → Prop} {A : Option Addr} {n c m d : Nat} {l : List VT} {ps : List Nat} {B : Option Addr} (w : World) (hl : RdL w S A n l) (hS : ∀ b, S b → b < w.heap.size) (hp : RowQ w B ps) (hm : ps.length = m) (hmb : m ≤ 1099511627776) (hlt : ∀ p ∈ ps, p < n) :
    Calls Tryz.prog 135 #[.slice A n c, .slice B m d] w fun e w' => e = .returned (.slice (some ⟨w.heap.size, 0, none⟩) m m) ∧ RdL w' (fun b => S b ∨ b = w.heap.size) (some ⟨w.heap.size, 0, none⟩) m (pickV l ps) ∧ Below w.heap.size w w' ∧ w.heap.size < w'.heap.size := by
  obtain ⟨hln, hn, cs, hrow, hall⟩ := hl
  have HLN := Lib.hid hln
  have HROW := Lib.hid hrow
  have HALL := Lib.hid hall
  have HS := Lib.hid hS
  have HM := Lib.hid hm
  have HLT := Lib.hid hlt
  have HPQ := Lib.hid hp
  clear hln hrow hall hS hm hlt hp
  have hmk := fun W => makeVL_at (z := (m : Int)) m rfl hmb W
  go_enter Tryz.func135, Tryz.ntmps135
  go_upto_region 2 with fail
  have hm2 := World.alloc_heap_new w (.cells (madeCells #[.int .i64 0, .bool false, .slice none 0 0, .int .i64 0, .string ⟨#[]⟩, .slice none 0 0, .slice none 0 0] (m * 7)) 53)
  have hw2 : Below w.heap.size w (w.alloc (.cells (madeCells #[.int .i64 0, .bool false, .slice none 0 0, .int .i64 0, .string ⟨#[]⟩, .slice none 0 0, .slice none 0 0] (m * 7)) 53)) := (Below.refl _ w).alloc (Nat.le_refl _) _
  clear hmk
  go_upto_region 3 with fail
  go_loopw [13] (fun i wr => ∃ (k : Nat) (cur : Array Value), k ≤ m ∧ i = .int .i64 (k : Int) ∧ wr.heap[w.heap.size]? = some (.cells cur 53) ∧ Hid (cur.size = m * 7) ∧ Hid (∀ j p : Nat, j < k → ps[j]? = some p → ∀ a, a < 7 → cur[j * 7 + a]? = (cs p)[a]?) ∧ Below w.heap.size w wr) (fun i _ => m - (RowKit.intOf i).toNat)
  case atStart =>
    refine ⟨0, _, Nat.zero_le _, rfl, hm2, ?_, ?_, hw2⟩
    · show _ = _
      exact size_madeCells _ _
    · intro j p hj; omega
  case round =>
    obtain ⟨k, cur, hkm, rfl, hcur, hcz, hcj, hbel⟩ := hrel
    clear hm2 hw2
    have hgr : w.heap.size < wr.heap.size := (Array.getElem?_eq_some_iff.1 hcur).1
    by_cases hk : k < m
    · have hklt : (k : Int) < (m : Int) := by omega
      have hk0 : (0 : Int) ≤ (k : Int) := by omega
      have hkt : ((k : Int)).toNat = k := by omega
      have hkw : IntKind.i64.wrap ((k : Int) + 1) = (k : Int) + 1 := IntWalk.i64_in _ (by omega)
      obtain ⟨p, hpk⟩ : ∃ p, ps[k]? = some p := ⟨_, List.getElem?_eq_getElem (by rw [HM.out]; exact hk)⟩
      have hpn := HLT.out p (List.mem_of_getElem? hpk)
      have hplt : (p : Int) < (n : Int) := by omega
      have hp0 : (0 : Int) ≤ (p : Int) := by omega
      have hpt : ((p : Int)).toNat = p := by omega
      obtain ⟨g, o, rfl, hgs, hgc⟩ := HPQ.out (by rw [HM.out]; omega)
      have hgk : wr.cell? ⟨g, o + k, none⟩ = some (.int .i64 (p : Int)) := (hbel.cell (p := ⟨g, o + k, none⟩) hgs).trans (hgc k p hpk)
      clear hgc
      obtain ⟨b, off, rfl, hSb, hcells⟩ := HROW.out (by omega)
      obtain ⟨h7, hcp⟩ := hcells p hpn
      obtain ⟨x, hxp⟩ : ∃ x, l[p]? = some x := ⟨_, List.getElem?_eq_getElem (by rw [HLN.out]; exact hpn)⟩
      have hvx := HALL.out p x hxp
      obtain ⟨k2, neg2, xs2, e2, t2, li2, ks2, hx2⟩ : ∃ k2 neg2 xs2 e2 t2 li2 ks2, x = VT.mk k2 neg2 xs2 e2 t2 li2 ks2 := by cases x; exact ⟨_, _, _, _, _, _, _, rfl⟩
      rw [hx2] at hvx
      obtain ⟨A2, n2, c2, LA2, ln2, lc2, KA2, kn2, kc2, hcs, -⟩ := hvx.parts
      clear hvx hx2 hxp
      have HCS := Lib.hid hcs
      rw [hcs] at hcp
      have hcw : ∀ j, j < 7 → wr.cell? ⟨b, off + (p * 7 + j), none⟩ = _ := fun j hj => (hbel.cell (p := ⟨b, off + (p * 7 + j), none⟩) (HS.out _ hSb)).trans (hcp j hj)
      have d0 : wr.cell? ⟨b, off + p * 7, none⟩ = some (.int .i64 k2) := hcw 0 (by omega)
      have d1 : wr.cell? ⟨b, off + p * 7 + 1, none⟩ = some (.bool neg2) := hcw 1 (by omega)
      have d2 : wr.cell? ⟨b, off + p * 7 + 2, none⟩ = some (.slice A2 n2 c2) := hcw 2 (by omega)
      have d3 : wr.cell? ⟨b, off + p * 7 + 3, none⟩ = some (.int .i64 e2) := hcw 3 (by omega)
      have d4 : wr.cell? ⟨b, off + p * 7 + 4, none⟩ = some (.string t2) := hcw 4 (by omega)
      have d5 : wr.cell? ⟨b, off + p * 7 + 5, none⟩ = some (.slice LA2 ln2 lc2) := hcw 5 (by omega)
      have d6 : wr.cell? ⟨b, off + p * 7 + 6, none⟩ = some (.slice KA2 kn2 kc2) := hcw 6 (by omega)
      have hfz : ∀ j, wr.frozen? ⟨w.heap.size, j, none⟩ = false := fun j => frozen_of_row wr _ j _ _ hcur
      obtain ⟨cur', s1, s2, s3, s4⟩ := sevenO_at (o := k * 7) hcur (by rw [hcz.out]; omega) (.int .i64 k2) (.bool neg2) (.slice A2 n2 c2) (.int .i64 e2) (.string t2) (.slice LA2 ln2 lc2) (.slice KA2 kn2 kc2)
      have hcc : ∀ j, j < m * 7 → ∃ v, wr.cell? ⟨w.heap.size, j, none⟩ = some v := fun j hj => ⟨_, cell_at hcur (Array.getElem?_eq_getElem (by rw [hcz.out]; exact hj))⟩
      obtain ⟨u0, z0⟩ := hcc (k * 7) (by omega)
      obtain ⟨u1, z1⟩ := hcc (k * 7 + 1) (by omega)
      obtain ⟨u2, z2⟩ := hcc (k * 7 + 2) (by omega)
      obtain ⟨u3, z3⟩ := hcc (k * 7 + 3) (by omega)
      obtain ⟨u4, z4⟩ := hcc (k * 7 + 4) (by omega)
      obtain ⟨u5, z5⟩ := hcc (k * 7 + 5) (by omega)
      obtain ⟨u6, z6⟩ := hcc (k * 7 + 6) (by omega)
      have f0 := hfz (k * 7)
      have f1 := hfz (k * 7 + 1)
      have f2 := hfz (k * 7 + 2)
      have f3 := hfz (k * 7 + 3)
      have f4 := hfz (k * 7 + 4)
      have f5 := hfz (k * 7 + 5)
      have f6 := hfz (k * 7 + 6)
      have hbW := below_sevenO (o := k * 7) hbel (Nat.le_refl _) (.int .i64 k2) (.bool neg2) (.slice A2 n2 c2) (.int .i64 e2) (.string t2) (.slice LA2 ln2 lc2) (.slice KA2 kn2 kc2)
      have S1 := Lib.hid s1
      have S3 := Lib.hid s3
      have S4 := Lib.hid s4
      have HBW := Lib.hid hbW
      have HCUR := Lib.hid hcur
      clear hcc hcw hcp hcells hfz hcs s1 s3 s4 hbW hcur
      go_upto_region 6 with fail
      generalize (((((((wr.setCell ⟨w.heap.size, k * 7, none⟩ (.int .i64 k2)).setCell ⟨w.heap.size, k * 7 + 1, none⟩ (.bool neg2)).setCell ⟨w.heap.size, k * 7 + 2, none⟩ (.slice A2 n2 c2)).setCell ⟨w.heap.size, k * 7 + 3, none⟩ (.int .i64 e2)).setCell ⟨w.heap.size, k * 7 + 4, none⟩ (.string t2)).setCell ⟨w.heap.size, k * 7 + 5, none⟩ (.slice LA2 ln2 lc2)).setCell ⟨w.heap.size, k * 7 + 6, none⟩ (.slice KA2 kn2 kc2)) = W2 at *
      clear d0 d1 d2 d3 d4 d5 d6 f0 f1 f2 f3 f4 f5 f6 hgk z0 z1 z2 z3 z4 z5 z6
      go_wp2_with fail
      go_roundw
      case rel =>
        refine ⟨k + 1, cur', by omega, by go_num, S1.out, ?_, ?_, HBW.out⟩
        · show _ = _
          rw [s2]; exact hcz.out
        · intro j q hj hq a ha
          by_cases hjk : j = k
          · subst hjk
            rw [hpk] at hq
            injection hq with hq
            subst hq
            rw [HCS.out]
            exact S3.out a ha
          · rw [S4.out _ (by omega)]
            exact hcj.out j q (by omega) hq a ha
      case measure => first | (simp [RowKit.intOf]; omega) | (show _ - _ < _ - _; simp only [RowKit.intOf]; omega)
    · have hnk : ¬ (k : Int) < (m : Int) := by omega
      have hkn2 : k = m := by omega
      subst hkn2
      go_wp2_with fail
      go_ret
      refine ⟨rfl, ⟨by unfold pickV; rw [List.length_map]; exact HM.out, by omega, fun j => ((ps[j]?.map cs).getD []), fun h0 => ⟨w.heap.size, 0, rfl, Or.inr rfl, fun i hi => ?_⟩, fun i x hx => ?_⟩, hbel, hgr⟩
      · obtain ⟨p, hpk⟩ : ∃ p, ps[i]? = some p := ⟨_, List.getElem?_eq_getElem (by rw [HM.out]; exact hi)⟩
        have hpn := HLT.out p (List.mem_of_getElem? hpk)
        obtain ⟨b, off, -, hSb, hcells⟩ := HROW.out (by omega)
        dsimp only
        rw [hpk]
        refine ⟨(hcells p hpn).1, fun a ha => ?_⟩
        have h1 := hcj.out i p hi hpk a ha
        rw [Nat.zero_add]
        show _ = (cs p)[a]?
        rw [← h1]
        obtain ⟨v, hv⟩ : ∃ v, cur[i * 7 + a]? = some v := ⟨_, Array.getElem?_eq_getElem (by rw [hcz.out]; omega)⟩
        rw [hv]
        exact cell_at hcur hv
      · have hil : i < ps.length := by
          have := (List.getElem?_eq_some_iff.1 hx).1
          simpa [pickV] using this
        have hpk : ps[i]? = some ps[i] := List.getElem?_eq_getElem hil
        have hpn := HLT.out _ (List.mem_of_getElem? hpk)
        have hlx : l[ps[i]]? = some (l[ps[i]]'(by rw [HLN.out]; exact hpn)) := List.getElem?_eq_getElem _
        have hx2 := pickV_at hpk hlx
        rw [hx] at hx2
        dsimp only
        rw [hpk]
        have hv := HALL.out _ _ hlx
        rw [← Option.some.inj hx2] at hv
        exact (hv.keep fun p hp => hbel.cell (HS.out _ hp)).more fun b hb => Or.inl hb
end Go.Proofs.YtjjpagdnjafgaaaGreatDoor

namespace Go.Proofs.YtjjpagdnjafgaaaGreatDoor
open Go.RowKit

/-- The error of the first value that has one. -/
def firstE : List VT → Nat
  | [] => 0
  | x :: r => if errV x = 0 then firstE r else errV x
theorem firstE_zero {l : List VT} : firstE l = 0 ↔ ∀ x ∈ l, errV x = 0 := by
  induction l with
  | nil => simp [firstE]
  | cons a r ih =>
    by_cases h : errV a = 0
    · simp [firstE, h, ih]
    · simp [firstE, h]
/-- A list that is handed in. -/
structure Lst where
  A : Option Addr
  n : Nat
  c : Nat
  l : List VT
/-- All values of lists. -/
def allL : List Lst → List VT
  | [] => []
  | r :: rs => r.l ++ allL rs

set_option maxRecDepth 100000 in
set_option maxHeartbeats 1000000 in
theorem ocheck_c {S : Nat → Prop} {g m : Nat} {rs : List Lst} (w : World) (hT : Tabs w) (hm : rs.length = m) (hmb : m ≤ 1000) (hg : g < w.heap.size) (hrs : ∀ (i : Nat) (r : Lst), rs[i]? = some r → w.cell? ⟨g, i, none⟩ = some (.slice r.A r.n r.c) ∧ RdL w S r.A r.n r.l) (hS : ∀ b, S b → b < w.heap.size) :
    Calls Tryz.prog 89 #[.slice (some ⟨g, 0, none⟩) m m] w fun e w' => e = .returned (.int .i64 ((firstE (allL rs) : Nat) : Int)) ∧ Below w.heap.size w w' := by
  obtain ⟨R, hR⟩ : ∃ R, firstE (allL rs) = R := ⟨_, rfl⟩
  rw [hR]
  have HR := Lib.hid hR
  have HM := Lib.hid hm
  have HRS := Lib.hid hrs
  have HS := Lib.hid hS
  have HT := Lib.hid hT
  clear hR hm hrs hS hT
  go_enter Tryz.func89, Tryz.ntmps89
  go_upto_region 2 with fail
  go_loopw [10] (fun i wr => ∃ (k : Nat), k ≤ m ∧ i = .int .i64 (k : Int) ∧ Hid (firstE (allL (rs.drop k)) = R) ∧ Below w.heap.size w wr) (fun i _ => m - (RowKit.intOf i).toNat)
  case atStart => exact ⟨0, Nat.zero_le _, rfl, HR, Below.refl _ _⟩
  case round =>
    obtain ⟨k, hkm, rfl, hd, hbel⟩ := hrel
    by_cases hk : k < m
    · have hklt : (k : Int) < (m : Int) := by omega
      have hk0 : (0 : Int) ≤ (k : Int) := by omega
      have hkt : ((k : Int)).toNat = k := by omega
      have hkw : IntKind.i64.wrap ((k : Int) + 1) = (k : Int) + 1 := IntWalk.i64_in _ (by omega)
      have hr : rs[k]? = some (rs[k]'(by rw [HM.out]; exact hk)) := List.getElem?_eq_getElem _
      have hdr : rs.drop k = (rs[k]'(by rw [HM.out]; exact hk)) :: rs.drop (k + 1) := List.drop_eq_getElem_cons (by rw [HM.out]; exact hk)
      obtain ⟨hrc, hrl⟩ := HRS.out k _ hr
      have hd2 := hd.out
      rw [hdr] at hd2
      generalize (rs[k]'(by rw [HM.out]; exact hk)) = r at *
      obtain ⟨A, n, c, l⟩ := r
      dsimp only [allL] at hrc hrl hd2
      have hcw : wr.cell? ⟨g, k, none⟩ = some (.slice A n c) := (hbel.cell (p := ⟨g, k, none⟩) hg).trans hrc
      have HD2 := Lib.hid hd2
      have HRL := Lib.hid hrl
      have HNL := Lib.hid hrl.1
      have hnb := hrl.2.1
      have HDR := Lib.hid hdr
      clear hr hd2 hrl hd hdr hrc
      go_upto_region 5 with fail
      go_loopw [16] (fun i wr => ∃ (j : Nat), j ≤ n ∧ i = .int .i64 (j : Int) ∧ Hid (firstE (l.drop j ++ allL (rs.drop (k + 1))) = R) ∧ Below w.heap.size w wr) (fun i _ => n - (RowKit.intOf i).toNat)
      case atStart => exact ⟨0, Nat.zero_le _, rfl, HD2, hbel⟩
      case round =>
        clear hbel hcw
        obtain ⟨j, hjn, rfl, hdj, hbel⟩ := hrel
        by_cases hj : j < n
        · have hjlt : (j : Int) < (n : Int) := by omega
          have hj0 : (0 : Int) ≤ (j : Int) := by omega
          have hjt : ((j : Int)).toNat = j := by omega
          have hjw : IntKind.i64.wrap ((j : Int) + 1) = (j : Int) + 1 := IntWalk.i64_in _ (by omega)
          obtain ⟨b, off, x, cs, rfl, hSb, hx, h7, hcells, hvx⟩ := HRL.out.at_ hj
          have hvx1 := hvx.keep (w' := wr) fun p hp => hbel.cell (HS.out _ hp)
          obtain ⟨k2, neg2, xs2, e2, t2, li2, ks2, hx2⟩ : ∃ k2 neg2 xs2 e2 t2 li2 ks2, x = VT.mk k2 neg2 xs2 e2 t2 li2 ks2 := by cases x; exact ⟨_, _, _, _, _, _, _, rfl⟩
          have hvx2 := hvx
          rw [hx2] at hvx2
          obtain ⟨A2, n2, c2, LA2, ln2, lc2, KA2, kn2, kc2, rfl, -⟩ := hvx2.parts
          have hcw : ∀ a, a < 7 → wr.cell? ⟨b, off + (j * 7 + a), none⟩ = _ := fun a ha => (hbel.cell (p := ⟨b, off + (j * 7 + a), none⟩) (HS.out _ hSb)).trans (hcells a ha)
          have d0 : wr.cell? ⟨b, off + j * 7, none⟩ = some (.int .i64 k2) := hcw 0 (by omega)
          have d1 : wr.cell? ⟨b, off + j * 7 + 1, none⟩ = some (.bool neg2) := hcw 1 (by omega)
          have d2 : wr.cell? ⟨b, off + j * 7 + 2, none⟩ = some (.slice A2 n2 c2) := hcw 2 (by omega)
          have d3 : wr.cell? ⟨b, off + j * 7 + 3, none⟩ = some (.int .i64 e2) := hcw 3 (by omega)
          have d4 : wr.cell? ⟨b, off + j * 7 + 4, none⟩ = some (.string t2) := hcw 4 (by omega)
          have d5 : wr.cell? ⟨b, off + j * 7 + 5, none⟩ = some (.slice LA2 ln2 lc2) := hcw 5 (by omega)
          have d6 : wr.cell? ⟨b, off + j * 7 + 6, none⟩ = some (.slice KA2 kn2 kc2) := hcw 6 (by omega)
          have hdrj : l.drop j = x :: l.drop (j + 1) := by
            obtain ⟨hjl, e⟩ := List.getElem?_eq_some_iff.1 hx
            rw [← e]
            exact List.drop_eq_getElem_cons hjl
          have hdj2 := hdj.out
          rw [hdrj] at hdj2
          have hdj3 : (if errV x = 0 then firstE (l.drop (j + 1) ++ allL (rs.drop (k + 1))) else errV x) = R := hdj2
          have HDJ := Lib.hid hdj3
          have HX := Lib.hid hx2
          have HVX := Lib.hid hvx
          clear hcw hcells hvx1 hvx2 hdj2 hdj3 hdrj hdj hx hx2 h7 hvx
          go_upto_region 7 with fail
          have hm1 := World.alloc_heap_new wr (.cells #[.int .i64 k2, .bool neg2, .slice A2 n2 c2, .int .i64 e2, .string t2, .slice LA2 ln2 lc2, .slice KA2 kn2 kc2] 53)
          have hb1 : Below w.heap.size w (wr.alloc (.cells #[.int .i64 k2, .bool neg2, .slice A2 n2 c2, .int .i64 e2, .string t2, .slice LA2 ln2 lc2, .slice KA2 kn2 kc2] 53)) := hbel.alloc hbel.size _
          generalize (wr.alloc (.cells #[.int .i64 k2, .bool neg2, .slice A2 n2 c2, .int .i64 e2, .string t2, .slice LA2 ln2 lc2, .slice KA2 kn2 kc2] 53)) = W1 at *
          obtain ⟨x0, x1, x2, x3, x4, x5, x6⟩ := box7_of hm1
          have HC := VCheck_c W1 (HT.out.below hb1) (HVX.out.keep fun p hp => hb1.cell (HS.out _ hp)) (fun b hb => Nat.lt_of_lt_of_le (HS.out b hb) hb1.size)
          obtain ⟨E, hE⟩ : ∃ E, errV x = E := ⟨_, rfl⟩
          rw [hE] at HC
          have HE := Lib.hid hE
          have HB1 := Lib.hid hb1
          clear hE d0 d1 d2 d3 d4 d5 d6 hm1 hb1 hbel
          by_cases hE0 : E = 0
          · subst hE0
            have HN : Hid (firstE (l.drop (j + 1) ++ allL (rs.drop (k + 1))) = R) := Lib.hid (by have := HDJ.out; rwa [if_pos HE.out] at this)
            go_wp2_with fail
            refine HC.mono ?_
            rintro e' W2 ⟨rfl, hb2⟩
            have hb3 := HB1.out.trans (hb2.mono HB1.out.size)
            clear HC hb2 x0 x1 x2 x3 x4 x5 x6
            go_wp2_with fail
            go_roundw
            case rel => exact ⟨j + 1, by omega, by go_num, HN, hb3⟩
            case measure => simp [RowKit.intOf]; omega
          · have HN : Hid (E = R) := Lib.hid (by have := HDJ.out; rw [HE.out, if_neg hE0] at this; exact this)
            have hE1 : ((E : Int) == 0) = false := by rw [beq_eq_false_iff_ne]; omega
            go_wp2_with fail
            refine HC.mono ?_
            rintro e' W2 ⟨rfl, hb2⟩
            have hb3 := HB1.out.trans (hb2.mono HB1.out.size)
            clear HC hb2 x0 x1 x2 x3 x4 x5 x6
            go_wp2_with fail
            go_ret
            refine ⟨?_, hb3⟩
            rw [← HN.out]; rfl
        · have hnj : ¬ (j : Int) < (n : Int) := by omega
          have hjn2 : j = n := by omega
          subst hjn2
          have HN : Hid (firstE (allL (rs.drop (k + 1))) = R) := Lib.hid (by
            have := hdj.out
            rw [List.drop_eq_nil_of_le (by rw [HNL.out]; omega)] at this
            exact this)
          clear hdj
          go_wp2_with fail
          go_roundw
          case rel => exact ⟨k + 1, by omega, by go_num, HN, hbel⟩
          case measure => simp [RowKit.intOf]; omega
    · have hnk : ¬ (k : Int) < (m : Int) := by omega
      have HN : Hid (R = 0) := Lib.hid (by
        have := hd.out
        rw [List.drop_eq_nil_of_le (by rw [HM.out]; omega)] at this
        exact this.symm)
      go_wp2_with fail
      go_ret
      refine ⟨?_, hbel⟩
      rw [HN.out]; rfl
end Go.Proofs.YtjjpagdnjafgaaaGreatDoor

namespace Go.Proofs.YtjjpagdnjafgaaaGreatDoor
open Go.RowKit

/-- The error of items: of a value or a key, or of their counts. -/
def itemsE (l keys : List VT) : Nat := if firstE (l ++ keys) = 0 then (if l.length = keys.length then 0 else 3) else firstE (l ++ keys)
theorem itemsE_zero {l keys : List VT} (h : itemsE l keys = 0) : (∀ x ∈ l, errV x = 0) ∧ (∀ x ∈ keys, errV x = 0) ∧ l.length = keys.length := by
  unfold itemsE at h
  by_cases h0 : firstE (l ++ keys) = 0
  · rw [if_pos h0] at h
    have := firstE_zero.1 h0
    refine ⟨fun x hx => this x (List.mem_append_left _ hx), fun x hx => this x (List.mem_append_right _ hx), ?_⟩
    by_cases hl : l.length = keys.length
    · exact hl
    · rw [if_neg hl] at h; omega
  · rw [if_neg h0] at h; exact absurd h h0

set_option maxRecDepth 100000 in
set_option maxHeartbeats 1000000 in
theorem checkItems_c {S : Nat → Prop} {A B : Option Addr} {n c m d : Nat} {l keys : List VT} (w : World) (hT : Tabs w) (hl : RdL w S A n l) (hk : RdL w S B m keys) (hS : ∀ b, S b → b < w.heap.size) :
    Calls Tryz.prog 91 #[.slice A n c, .slice B m d] w fun e w' => e = .returned (.int .i64 ((itemsE l keys : Nat) : Int)) ∧ Below w.heap.size w w' := by
  have hln := hl.1
  have hkn := hk.1
  have hb0 : Below w.heap.size w (w.alloc (.cells #[.slice A n c, .slice B m d] 50)) := (Below.refl _ w).alloc (Nat.le_refl _) _
  have hm0 := World.alloc_heap_new w (.cells #[.slice A n c, .slice B m d] 50)
  have hz0 : (w.alloc (.cells #[.slice A n c, .slice B m d] 50)).heap.size = w.heap.size + 1 := by simp
  have HC := ocheck_c (S := S) (g := w.heap.size) (m := 2) (rs := [⟨A, n, c, l⟩, ⟨B, m, d, keys⟩]) (w.alloc (.cells #[.slice A n c, .slice B m d] 50)) (hT.below hb0) rfl (by omega) (by rw [hz0]; omega) (fun i r hi => by
    match i, hi with
    | 0, hi => injection hi with hi; subst hi; exact ⟨cell_at hm0 rfl, hl.stay hb0 hS⟩
    | 1, hi => injection hi with hi; subst hi; exact ⟨cell_at hm0 rfl, hk.stay hb0 hS⟩) (fun b hb => Nat.lt_of_lt_of_le (hS b hb) hb0.size)
  have hall : allL [⟨A, n, c, l⟩, ⟨B, m, d, keys⟩] = l ++ keys := by simp [allL]
  rw [hall] at HC
  obtain ⟨E, hE⟩ : ∃ E, firstE (l ++ keys) = E := ⟨_, rfl⟩
  obtain ⟨R, hR⟩ : ∃ R, itemsE l keys = R := ⟨_, rfl⟩
  rw [hR]
  unfold itemsE at hR
  rw [hE, hln, hkn] at hR
  rw [hE] at HC
  clear hE hall hm0 hz0 hl hk hS hT hln hkn
  go_enter Tryz.func91, Tryz.ntmps91
  by_cases hE0 : E = 0
  · subst hE0
    rw [if_pos rfl] at hR
    by_cases hnm : n = m
    · subst hnm
      rw [if_pos rfl] at hR
      subst hR
      go_wp2_with fail
      refine HC.mono ?_
      rintro e' w1 ⟨rfl, hb1⟩
      go_wp2_with fail
      go_ret
      exact ⟨rfl, hb0.trans (hb1.mono hb0.size)⟩
    · rw [if_neg hnm] at hR
      subst hR
      have hnm2 : ((n : Int) == (m : Int)) = false := by rw [beq_eq_false_iff_ne]; omega
      go_wp2_with fail
      refine HC.mono ?_
      rintro e' w1 ⟨rfl, hb1⟩
      go_wp2_with fail
      go_ret
      exact ⟨rfl, hb0.trans (hb1.mono hb0.size)⟩
  · rw [if_neg hE0] at hR
    subst hR
    have hE1 : ((E : Int) == 0) = false := by rw [beq_eq_false_iff_ne]; omega
    go_wp2_with fail
    refine HC.mono ?_
    rintro e' w1 ⟨rfl, hb1⟩
    go_wp2_with fail
    go_ret
    exact ⟨rfl, hb0.trans (hb1.mono hb0.size)⟩

theorem field3V (k : Int) (neg : Bool) (A2 LA2 KA2 : Option Addr) (n2 c2 ln2 lc2 kn2 kc2 : Nat) (e : Int) (t : ByteArray) (w : World) :
    (Instr.field 53 (.agg #[.int .i64 k, .bool neg, .slice A2 n2 c2, .int .i64 e, .string t, .slice LA2 ln2 lc2, .slice KA2 kn2 kc2]) 3).run Tryz.prog w = .ok (.slice LA2 ln2 lc2) w := by
  kernel_rfl
theorem buildR (A : Option Addr) (n c : Nat) (w : World) : (Instr.build 121 #[(0, .slice A n c), (1, .func (.func 90) #[] #[])]).run Tryz.prog w = .ok (.agg #[.slice A n c, .func (.func 90) #[] #[]]) w := run_build w 121 _ _ (by kernel_rfl)

set_option maxRecDepth 100000 in
theorem rank_c {A : Option Addr} {n c : Nat} (w : World) : Calls Tryz.prog 92 #[.slice A n c] w fun e w' => e = .returned (.agg #[.slice A n c, .func (.func 90) #[] #[]]) ∧ Below w.heap.size w w' := by
  go_enter Tryz.func92, Tryz.ntmps92
  go_upto_region 1 with fail
  have hm := World.alloc_heap_new w (.cells #[.slice none 0 0, .nilFunc] 121)
  have hb : Below w.heap.size w (w.alloc (.cells #[.slice none 0 0, .nilFunc] 121)) := (Below.refl _ w).alloc (Nat.le_refl _) _
  generalize (w.alloc (.cells #[.slice none 0 0, .nilFunc] 121)) = W1 at *
  have z0 : W1.cell? ⟨w.heap.size, 0, none⟩ = some (.slice none 0 0) := cell_at hm rfl
  have z1 : W1.cell? ⟨w.heap.size, 1, none⟩ = some .nilFunc := cell_at hm rfl
  have fz : ∀ j, W1.frozen? ⟨w.heap.size, j, none⟩ = false := fun j => frozen_of_row W1 _ j _ _ hm
  have hbu := fun W => buildR A n c W
  clear hm
  go_wp2_with fail
  refine bodyPost_ret (v := .agg #[.slice A n c, .func (.func 90) #[] #[]]) (by simp [results, Tryz.results92, go_sem, z0, z1]) rfl ?_
  exact ⟨rfl, (hb.setCell (by show w.heap.size ≤ w.heap.size; omega) _).setCell (by show w.heap.size ≤ w.heap.size; omega) _⟩

set_option maxRecDepth 100000 in
set_option maxHeartbeats 1000000 in
theorem pick_c {S : Nat → Prop} {A : Option Addr} {n c m d : Nat} {l : List VT} {ps : List Nat} {B : Option Addr} (w : World) (hl : RdL w S A n l) (hS : ∀ b, S b → b < w.heap.size) (hp : RowQ w B ps) (hm : ps.length = m) (hmb : m ≤ 1099511627776) (hlt : ∀ p ∈ ps, p < n) (hsz : underL (pickV l ps) ≤ 21474836) :
    Calls Tryz.prog 94 #[.slice A n c, .slice B m d] w fun e w' => ∃ LA lc, e = .returned (.slice LA m lc) ∧ m ≤ lc ∧ RdL w' (Own' w.heap.size w') LA m (pickV l ps) ∧ Below w.heap.size w w' := by
  have HA := at_c (c := c) (d := d) w hl hS hp hm hmb hlt
  have HS := Lib.hid hS
  clear hl hp hlt hS
  go_enter Tryz.func94, Tryz.ntmps94
  go_wp2_with fail
  refine HA.mono ?_
  rintro e' w1 ⟨rfl, hr1, hb1, hg1⟩
  clear HA
  have HLC := list_c (c := m) w1 hr1 (by omega) (Nat.le_refl _) (fun b hb => hb.elim (fun h => Nat.lt_of_lt_of_le (HS.out b h) hb1.size) (fun h => by omega)) hsz
  have HB1 := Lib.hid hb1
  clear hr1 hb1
  go_wp2_with fail
  refine HLC.mono ?_
  rintro e' w2 ⟨cs', rfl, hv, hb2⟩
  obtain ⟨A2, n2, c2, LA2, ln2, lc2, KA2, kn2, kc2, rfl, -, -, -, hli, -, -, hlc⟩ := hv.parts
  have hln2 : ln2 = m := by rw [← hli.1]; unfold pickV; rw [List.length_map]; exact hm
  subst hln2
  have HLI := Lib.hid hli
  have HB2 := Lib.hid hb2
  clear HLC hv hli hb2
  have hfd := fun W => field3V 5 false A2 LA2 KA2 n2 c2 ln2 lc2 kn2 kc2 0 ⟨#[]⟩ W
  go_wp2_with fail
  go_ret
  exact ⟨LA2, lc2, rfl, hlc, HLI.out.more fun b hb => ⟨Nat.le_trans HB1.out.size hb.1, hb.2⟩, HB1.out.trans (HB2.out.mono HB1.out.size)⟩
end Go.Proofs.YtjjpagdnjafgaaaGreatDoor

namespace Go.Proofs.YtjjpagdnjafgaaaGreatDoor
open Go.RowKit

theorem underL_perm {l m : List VT} (h : l.Perm m) : underL l = underL m := by
  induction h with
  | nil => rfl
  | cons x _ ih => simp only [underL, ih]
  | swap x y l => simp only [underL]; omega
  | trans _ _ h1 h2 => exact h1.trans h2
theorem pickV_range (l : List VT) : pickV l (List.range l.length) = l := by
  unfold pickV
  apply List.ext_getElem
  · simp
  · intro i h1 h2
    simp [h2]
theorem pickV_perm {l : List VT} {ps : List Nat} (h : ps.Perm (List.range l.length)) : (pickV l ps).Perm l := by
  have h1 := h.map (fun p => l[p]?.getD (.mk 0 false [] 0 ⟨#[]⟩ [] []))
  have h2 := pickV_range l
  unfold pickV at *
  rwa [h2] at h1

/-- What sorting answers: an error alone, or the values in the order of their keys, in memory of their own. -/
def SortRes (B : Nat) (w' : World) (E n : Nat) (l keys : List VT) (e : Ending) : Prop :=
  (E ≠ 0 ∧ e = .returned (.tuple #[.slice none 0 0, .int .i64 ((E : Nat) : Int)])) ∨
      (E = 0 ∧ ∃ LA lc ps, e = .returned (.tuple #[.slice LA n lc, .int .i64 0]) ∧ Placed keys ps ∧ n ≤ lc ∧ RdL w' (Own' B w') LA n (pickV l ps))

set_option maxRecDepth 100000 in
set_option maxHeartbeats 1000000 in
theorem sortBy_c {S : Nat → Prop} {A B : Option Addr} {n c m d : Nat} {l keys : List VT} (w : World) (hT : Tabs w) (hl : RdL w S A n l) (hk : RdL w S B m keys) (hS : ∀ b, S b → b < w.heap.size) (hsz : underL l ≤ 21474836) :
    Calls Tryz.prog 48 #[.slice A n c, .slice B m d] w fun e w' => Below w.heap.size w w' ∧ SortRes w.heap.size w' (itemsE l keys) n l keys e := by
  have HC := checkItems_c (c := c) (d := d) w hT hl hk hS
  have hln := hl.1
  have hkn := hk.1
  have hlen := underL_len l
  have hz := @itemsE_zero l keys
  obtain ⟨E, hE⟩ : ∃ E, itemsE l keys = E := ⟨_, rfl⟩
  rw [hE] at HC hz
  rw [hE]
  have HL := Lib.hid hl
  have HK := Lib.hid hk
  have HS := Lib.hid hS
  have HZ := Lib.hid hz
  have HLN := Lib.hid hln
  have HKN := Lib.hid hkn
  have hnb : n ≤ 21474836 := by omega
  clear hE hl hk hS hT hz hlen hln hkn
  go_enter Tryz.func48, Tryz.ntmps48
  by_cases hE0 : E = 0
  · subst hE0
    go_wp2_with fail
    refine HC.mono ?_
    rintro e' w1 ⟨rfl, hb1⟩
    clear HC
    go_wp2_with fail
    refine (rank_c w1).mono ?_
    rintro e' w2 ⟨rfl, hb2⟩
    have hb2' := hb1.trans (hb2.mono hb1.size)
    clear hb1 hb2
    obtain ⟨ze1, ze2, ze3⟩ := HZ.out (by first | rfl | trivial)
    have hmn : m = n := by have h1 := HLN.out; have h2 := HKN.out; omega
    subst hmn
    have HP := places_c (c := d) w2 (HK.out.stay hb2' HS.out) (by omega) (fun b hb => Nat.lt_of_lt_of_le (HS.out b hb) hb2'.size) (fun x hx => by
      obtain ⟨i, hi⟩ := List.getElem?_of_mem hx
      obtain ⟨-, -, cs, -, hall⟩ := HK.out
      exact fine_ok (hall i x hi) (ze2 x hx))
    have ZE3 := Lib.hid ze3
    have HB2 := Lib.hid hb2'
    clear ze1 ze2 ze3 hb2' HZ
    go_wp2_with fail
    refine HP.mono ?_
    rintro e' w3 ⟨P, ps, rfl, hpl, hrp, hb3⟩
    have hb3' := HB2.out.trans (hb3.mono HB2.out.size)
    clear HP
    have hpm := hpl.1
    rw [← ZE3.out] at hpm
    have HPK := pick_c (c := c) (m := m) (d := m) w3 (HL.out.stay hb3' HS.out) (fun b hb => Nat.lt_of_lt_of_le (HS.out b hb) hb3'.size) hrp.q (by rw [hpl.len]; exact HKN.out) (show m ≤ 1099511627776 by omega) (fun p hp => by have := hpl.lt hp; rw [HKN.out] at this; exact this) (by rw [underL_perm (pickV_perm hpm)]; exact hsz)
    have HPL := Lib.hid hpl
    have HB3 := Lib.hid hb3'
    clear hpm hpl hrp hb3 hb3'
    go_wp2_with fail
    refine HPK.mono ?_
    rintro e' w4 ⟨LA, lc, rfl, hlc, hr4, hb4⟩
    have HR4 := Lib.hid hr4
    have HB4 := Lib.hid hb4
    clear HPK hr4 hb4
    go_wp2_with fail
    go_ret2
    exact ⟨HB3.out.trans (HB4.out.mono HB3.out.size), Or.inr ⟨rfl, LA, lc, ps, rfl, HPL.out, hlc, HR4.out.more fun b hb => ⟨Nat.le_trans HB3.out.size hb.1, hb.2⟩⟩⟩
  · have hE1 : ((E : Int) == 0) = false := by rw [beq_eq_false_iff_ne]; omega
    go_wp2_with fail
    refine HC.mono ?_
    rintro e' w1 ⟨rfl, hb1⟩
    clear HC
    go_wp2_with fail
    go_ret2
    exact ⟨hb1, Or.inl ⟨hE0, rfl⟩⟩

set_option maxRecDepth 100000 in
set_option maxHeartbeats 1000000 in
theorem sort_c {S : Nat → Prop} {A : Option Addr} {n c : Nat} {l : List VT} (w : World) (hT : Tabs w) (hl : RdL w S A n l) (hS : ∀ b, S b → b < w.heap.size) (hsz : underL l ≤ 21474836) :
    Calls Tryz.prog 42 #[.slice A n c] w fun e w' => Below w.heap.size w w' ∧ SortRes w.heap.size w' (itemsE l l) n l l e := by
  have HC := sortBy_c (c := c) (d := c) w hT hl hl hS hsz
  obtain ⟨E, hE⟩ : ∃ E, itemsE l l = E := ⟨_, rfl⟩
  rw [hE] at HC ⊢
  clear hE hl hS hT
  go_enter Tryz.func42, Tryz.ntmps42
  go_wp2_with fail
  refine HC.mono ?_
  rintro e' w1 ⟨hb1, (⟨h0, rfl⟩ | ⟨h0, LA, lc, ps, rfl, h1, h2, h3⟩)⟩
  · have HB := Lib.hid hb1
    clear HC hb1
    go_wp2_with fail
    go_ret2
    exact ⟨HB.out, Or.inl ⟨h0, rfl⟩⟩
  · have HB := Lib.hid hb1
    have H3 := Lib.hid h3
    have H1 := Lib.hid h1
    clear HC hb1 h3 h1
    subst h0
    go_wp2_with fail
    go_ret2
    exact ⟨HB.out, Or.inr ⟨rfl, LA, lc, ps, rfl, H1.out, h2, H3.out⟩⟩
end Go.Proofs.YtjjpagdnjafgaaaGreatDoor
