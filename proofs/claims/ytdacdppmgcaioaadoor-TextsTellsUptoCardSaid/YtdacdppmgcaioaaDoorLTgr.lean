/-
  Contracts of the library's Grow of no list, and of Concat of two lists of texts.
-/
import Derived.Test.YtdacdppmgcaioaaDoorLTcu
import Derived.Lib.AppendZerosOnto
import Derived.Laws.AppendOwnNone
import Derived.Lib.AppendZeros
set_option linter.unusedVariables false
set_option linter.unusedSimpArgs false
namespace Go.Proofs.YtdacdppmgcaioaaDoor
open Go.RowKit Go.Lib

set_option maxHeartbeats 2000000 in
set_option maxRecDepth 100000 in
theorem grow_cX (n : Nat) (w : World) (h0 : 0 < n) (hn : n * 16 ≤ 140737488355328) :
    Calls Tryd.prog 69 #[.slice none 0 0, .int .i64 (n : Int)] w fun e w' => ∃ cap, e = .returned (.slice (some ⟨w.heap.size, 0, none⟩) 0 cap) ∧ w'.ownsRow w.heap.size 9 1 (.slice (some ⟨w.heap.size, 0, none⟩) 0 cap) 0 [] ∧ Below w.heap.size w w' := by
  obtain ⟨i0, hi, hz0, hz1, hz2⟩ := info_parts infoStr
  obtain ⟨G, hG⟩ : ∃ G, G = grownCap w n 0 9 := ⟨_, rfl⟩
  have hGn : n ≤ G := by rw [hG]; exact grownCap_ge w _ _ _
  have hGm : G ≤ maxLen := by rw [hG]; exact grownCap_le_maxLen w n 0 9 (by unfold maxLen; omega)
  have hG63 : G ≤ 9223372036854775807 := by unfold maxLen at hGm; omega
  have hrz : ∀ ty, (Builtin.append_ #[22, 3] ty #[.slice none 0 0, .int .i64 (n : Int)]).run Tryd.prog w =
      .ok (.slice (some ⟨w.heap.size, 0, none⟩) n G) (w.drew.alloc (.cells (Builtin.zeroCells #[.string ⟨#[]⟩] n ++ Builtin.zeroCells #[.string ⟨#[]⟩] (G - n)) 9)) := fun ty => by
    have h := Lib.run_append_grow_zeros w 22 3 ty 9 i0 (.string ⟨#[]⟩) .i64 .i64 Tryd.underlying22 Tryd.underlying3 hi hz0 none 0 0 [] (run_firstCells_none _ _ _ _ _) n h0 (by omega) (by omega) (by omega) (by rw [hz2]; omega) (by rw [hz2]; exact growslice_fits (by omega) (by omega))
    rw [Nat.zero_add, ← hG] at h
    simpa [Value.cells] using h
  have hrow : (w.alloc (.cells (Builtin.zeroCells #[.string ⟨#[]⟩] n ++ Builtin.zeroCells #[.string ⟨#[]⟩] (G - n)) 9)).drew.ownsRow w.heap.size 9 1 (.slice (some ⟨w.heap.size, 0, none⟩) 0 G) 0 [] := by
    refine ⟨rfl, .inr ⟨w.heap.size, G, _, rfl, Nat.le_refl _, World.alloc_heap_new w _, Nat.zero_le _, hGm, ?_, by simp⟩⟩
    simp [Builtin.zeroCells, Value.cells]
    omega
  have hbel : Below w.heap.size w (w.alloc (.cells (Builtin.zeroCells #[.string ⟨#[]⟩] n ++ Builtin.zeroCells #[.string ⟨#[]⟩] (G - n)) 9)).drew := ((Below.refl _ w).alloc (Nat.le_refl _) _).drew
  have HR := Lib.hid hrow
  have HB := Lib.hid hbel
  clear hrow hbel hG
  have h1 : ¬ ((n : Int) < 0) := by omega
  have h2 : (0 : Int) < (n : Int) := by omega
  have h3 : IntKind.i64.wrap (n : Int) = (n : Int) := IntWalk.i64_in _ (by omega)
  go_enter Tryd.func69, Tryd.ntmps69
  go_wp2_with (at_builtin; refine Lib.wpList_append_run _ rfl _ _ _ _ rfl _ _ rfl rfl _ _ (hrz _) ?_)
  go_ret
  exact ⟨G, rfl, HR.out, HB.out⟩

theorem news_of {w : World} {B : Nat} {A : Option Addr} {xs : List ByteArray} (h : RdX w B A xs) {ad : Addr} (ha : A = some ad) : ∀ j u, (xs.map Value.string)[j]? = some u → w.cell? (ad.add j) = some u := by
  intro j u hj
  rw [List.getElem?_map] at hj
  cases hx : xs[j]? with
  | none => rw [hx] at hj; cases hj
  | some x =>
    rw [hx] at hj
    injection hj with hj
    subst hj
    obtain ⟨g, off, e, -, hc⟩ := h j x hx
    rw [ha] at e; injection e with e
    subst e
    by_cases h0 : j = 0
    · subst h0; simpa [Addr.add] using hc
    · simpa [Addr.add, h0] using hc
theorem one_cells (xs : List ByteArray) : ∀ u ∈ xs.map Value.string, u.oneCell' = true := by
  intro u hu
  obtain ⟨x, -, rfl⟩ := List.mem_map.1 hu
  rfl
set_option maxHeartbeats 4000000 in
set_option maxRecDepth 100000 in
theorem concat_c {A : Option Addr} {c sb q : Nat} {xs : List ByteArray} (sep : ByteArray) (w : World) (hx : RdX w w.heap.size A xs) (hA : A = none → xs.length = 0 ∧ c = 0) (hn : xs.length ≤ 4294967296)
    (hsb : w.heap[sb]? = some (.cells #[.slice A xs.length c, .slice (some ⟨q, 0, none⟩) 1 1] 22)) (hq : w.heap[q]? = some (.cells #[.string sep] 9)) :
    Calls Tryd.prog 40 #[.slice (some ⟨sb, 0, none⟩) 2 2] w fun e w' => ∃ g c', e = .returned (.slice (some ⟨g, 0, none⟩) (xs ++ [sep]).length c') ∧ w.heap.size ≤ g ∧ g < w'.heap.size ∧ RdX w' (g + 1) (some ⟨g, 0, none⟩) (xs ++ [sep]) ∧ Below w.heap.size w w' := by
  obtain ⟨i0, hi, hz0, hz1, hz2⟩ := info_parts infoStr
  obtain ⟨B, hB⟩ : ∃ B, w.heap.size = B := ⟨_, rfl⟩
  obtain ⟨n, hnl⟩ : ∃ n, xs.length = n := ⟨_, rfl⟩
  rw [hB] at hx ⊢
  rw [hnl] at hA hn hsb
  have hsbl := (Array.getElem?_eq_some_iff.1 hsb).1
  have hql := (Array.getElem?_eq_some_iff.1 hq).1
  have s0 : w.cell? ⟨sb, 0, none⟩ = some (.slice A n c) := cellT hsb rfl
  have s1 : w.cell? ⟨sb, 1, none⟩ = some (.slice (some ⟨q, 0, none⟩) 1 1) := cellT hsb rfl
  have hgrow := grow_cX (n + 1) w (by omega) (by omega)
  have HG := Lib.hid hgrow
  have HX := Lib.hid hx
  have HN := Lib.hid hnl
  have HB := Lib.hid hB
  have HQ := Lib.hid hq
  have HSB := Lib.hid hsb
  rw [hB] at hsbl hql
  clear hgrow hx hnl hB hq hsb
  go_enter Tryd.func40, Tryd.ntmps40
  go_wp2_with fail
  go_loopw [3, 11] (fun sv iv wr => ∃ i k : Nat, sv = .int .i64 (k : Int) ∧ iv = .int .i64 (i : Int) ∧ ((i = 0 ∧ k = 0) ∨ (i = 1 ∧ k = n) ∨ (i = 2 ∧ k = n + 1)) ∧ w = wr) (fun _ iv _ => 2 - (RowKit.intOf iv).toNat)
  case atStart => exact ⟨0, 0, rfl, rfl, .inl ⟨rfl, rfl⟩, rfl⟩
  case round =>
    obtain ⟨i, k, rfl, rfl, hik, rfl⟩ := hrel
    rcases hik with ⟨rfl, rfl⟩ | ⟨rfl, hk⟩ | ⟨rfl, rfl⟩
    · have hw : IntKind.i64.wrap ((0 : Int) + (n : Int)) = (n : Int) := by rw [IntWalk.i64_in _ (by omega)]; omega
      have hw2 : IntKind.i64.wrap (n : Int) = (n : Int) := IntWalk.i64_in _ (by omega)
      have hn0 : ¬ (n : Int) < 0 := by omega
      go_wp2_with fail
      go_roundw
      case rel => exact ⟨1, n, rfl, by go_num, .inr (.inl ⟨rfl, rfl⟩), trivial⟩
      case measure => simp [RowKit.intOf]
    · obtain rfl : n = k := hk.symm
      have hw : IntKind.i64.wrap ((n : Int) + 1) = ((n + 1 : Nat) : Int) := by rw [IntWalk.i64_in _ (by omega)]; omega
      have hn0 : ¬ ((n + 1 : Nat) : Int) < 0 := by omega
      go_wp2_with fail
      go_roundw
      case rel => exact ⟨2, n + 1, rfl, by go_num, .inr (.inr ⟨rfl, rfl⟩), trivial⟩
      case measure => simp [RowKit.intOf]
    · go_wp2_with fail
      refine HG.out.mono ?_
      rintro e w1 ⟨cap, rfl, hrow, hb1⟩
      have k0 : w1.cell? ⟨sb, 0, none⟩ = some (.slice A n c) := (hb1.cell (p := ⟨sb, 0, none⟩) (by have := HB.out; show sb < _; omega)).trans s0
      rw [HB.out] at hrow hb1 ⊢
      have hs1 : B ≤ w1.heap.size := by have := hb1.size; have := HB.out; omega
      have HR0 := Lib.hid hrow
      have HB1 := Lib.hid hb1
      clear hrow hb1 k0
      go_wp2_with fail
      go_loopw [6, 27] (fun v0 iv wr => ∃ (v : Value) (i : Nat), v = v0 ∧ iv = .int .i64 (i : Int) ∧ Hid ((i = 0 ∧ wr.ownsRow B 9 1 v 0 []) ∨ (i = 1 ∧ wr.ownsRow B 9 1 v n (xs.map Value.string)) ∨ (i = 2 ∧ wr.ownsRow B 9 1 v (n + 1) ((xs ++ [sep]).map Value.string))) ∧ i ≤ 2 ∧ Hid (Below B w wr) ∧ Hid (B ≤ wr.heap.size)) (fun _ iv _ => 2 - (RowKit.intOf iv).toNat)
      case atStart => exact ⟨_, 0, rfl, rfl, .inl ⟨rfl, HR0.out⟩, by omega, HB1.out, hs1⟩
      case round =>
        obtain ⟨v, i, rfl, rfl, hst, hi2, hbel, hsz⟩ := hrel
        have k0 : wr.cell? ⟨sb, 0, none⟩ = some (.slice A n c) := (hbel.out.cell (p := ⟨sb, 0, none⟩) hsbl).trans s0
        have k1 : wr.cell? ⟨sb, 1, none⟩ = some (.slice (some ⟨q, 0, none⟩) 1 1) := (hbel.out.cell (p := ⟨sb, 1, none⟩) hsbl).trans s1
        rcases hst.out with ⟨rfl, hrow⟩ | ⟨rfl, hrow⟩ | ⟨rfl, hrow⟩
        · have HRW := Lib.hid hrow
          have HBE := Lib.hid hbel.out
          have HSZ := Lib.hid hsz.out
          have HXR := Lib.hid (HX.out.below hbel.out)
          clear hrow hbel hsz hst
          cases A with
          | none =>
            obtain ⟨rfl, rfl⟩ := hA rfl
            have hxe : xs = [] := List.length_eq_zero_iff.1 HN.out
            go_wp2_with (at_builtin; refine wpList_append_own_none rfl (.tmp 31) (.tmp 32) _ rfl B 9 i0 1 Tryd.underlying22 hi v 0 [] rfl HRW.out rfl ?_)
            go_roundw
            case rel => exact ⟨v, _, _, ⟨1, rfl, .inr (.inl ⟨rfl, HRW.out⟩), by omega⟩, rfl, rfl, rfl⟩
            case measure => simp [RowKit.intOf]
          | some ad =>
            have hgrb : ∀ g, v.ownBlock = some g → B ≤ g := fun g e => by
              rcases HRW.out.2 with ⟨rfl, _⟩ | ⟨g2, cap, cur, rfl, e2, e3, _⟩
              · simp [Value.ownBlock] at e
              · simp only [Value.ownBlock, Option.some.injEq] at e
                omega
            go_wp2_with (at_builtin; refine wpList_append_own_at _ rfl (.tmp 31) (.tmp 32) _ rfl B 9 i0 (.string ⟨#[]⟩) 1 16 Tryd.underlying22 hi hz0 hz1 hz2 rfl (by decide) v 0 [] rfl HRW.out ad n c (xs.map Value.string) rfl (by rw [List.length_map, HN.out, Nat.mul_one]) (news_of HXR.out rfl) (one_cells xs) (by unfold maxLen; omega) (by omega) HSZ.out ?_; intro v1 w4 hown1 hg1 _ hat1)
            go_roundw
            case rel =>
              have hbel4 : Below B w w4 := HBE.out.grown hg1 HSZ.out (fun k hk => hgrb k hk)
              exact ⟨v1, 1, rfl, by go_num, .inr (.inl ⟨rfl, by simpa using hown1⟩), by omega, hbel4, by show _ ≤ _; have := hg1.size; have := HSZ.out; omega⟩
            case measure => simp [RowKit.intOf]
        · have HRW := Lib.hid hrow
          have HBE := Lib.hid hbel.out
          have HSZ := Lib.hid hsz.out
          have hqc : wr.cell? ⟨q, 0, none⟩ = some (.string sep) := (hbel.out.cell (p := ⟨q, 0, none⟩) hql).trans (cellT HQ.out rfl)
          have HQC := Lib.hid (show ∀ j u, ([Value.string sep] : List Value)[j]? = some u → wr.cell? ((⟨q, 0, none⟩ : Addr).add j) = some u from fun j u hj => by
            match j, hj with
            | 0, hj =>
              simp at hj
              subst hj
              simpa [Addr.add] using hqc
            | j + 1, hj => simp at hj)
          clear hrow hbel hsz hst hqc
          have hgrb : ∀ g, v.ownBlock = some g → B ≤ g := fun g e => by
            rcases HRW.out.2 with ⟨rfl, _⟩ | ⟨g2, cap, cur, rfl, e2, e3, _⟩
            · simp [Value.ownBlock] at e
            · simp only [Value.ownBlock, Option.some.injEq] at e
              omega
          go_wp2_with (at_builtin; refine wpList_append_own_at _ rfl (.tmp 31) (.tmp 32) _ rfl B 9 i0 (.string ⟨#[]⟩) 1 16 Tryd.underlying22 hi hz0 hz1 hz2 rfl (by decide) v n (xs.map Value.string) rfl HRW.out ⟨q, 0, none⟩ 1 1 [.string sep] rfl rfl HQC.out (by simp [Value.oneCell']) (by unfold maxLen; omega) (by omega) HSZ.out ?_; intro v1 w4 hown1 hg1 _ hat1)
          go_roundw
          case rel =>
            have hbel4 : Below B w w4 := HBE.out.grown hg1 HSZ.out (fun k hk => hgrb k hk)
            exact ⟨v1, 2, rfl, by go_num, .inr (.inr ⟨rfl, by simpa using hown1⟩), by omega, hbel4, by show _ ≤ _; have := hg1.size; have := HSZ.out; omega⟩
          case measure => simp [RowKit.intOf]
        · obtain ⟨g, c', rfl, hgb, hgl⟩ : ∃ g c', v = .slice (some ⟨g, 0, none⟩) (n + 1) c' ∧ B ≤ g ∧ g < wr.heap.size := by
            rcases hrow.2 with ⟨_, hz⟩ | ⟨g, cap, cur, h1, h2, h3, _⟩
            · omega
            · exact ⟨g, cap, h1, h2, (Array.getElem?_eq_some_iff.1 h3).1⟩
          have HRD := Lib.hid (rdx_own hrow (by rw [List.length_append, HN.out]; rfl) hgl)
          have HBE := Lib.hid hbel.out
          clear hrow hbel hsz hst
          go_wp2_with fail
          go_ret
          exact ⟨g, c', by rw [List.length_append, HN.out]; rfl, hgb, hgl, HRD.out, HBE.out⟩
end Go.Proofs.YtdacdppmgcaioaaDoor
