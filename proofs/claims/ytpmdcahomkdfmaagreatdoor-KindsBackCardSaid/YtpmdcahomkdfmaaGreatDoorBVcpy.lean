/-
  A slice appended to nil: a copy in memory of the call's own, of whatever elements. Contract of value's fresh.
  Contract of value's fresh: a value in memory of its own, but for the values that it holds.
  Words for a tree that is copied row by row: what a row awaits, and what stays while rows are filled in. No function's contract.
  What holds between the rounds of value.copiedWithin, and how a round keeps it. No function's contract.
  Contract of value's copiedWithin: a value in memory of its own, whole where there is room.
  Contracts of value's copied, Text, Number and List: values in memory of their own.
-/
import Derived.Test.YtpmdcahomkdfmaaGreatDoorBVchk
import Derived.Laws.AppendOwnNone
import Derived.Maps.AppendAt
import Derived.Deep.RegionWith
import Derived.Deep.Cut
import Derived.Deep.RegionHeld3
import Derived.Deep.QuietTactic
import Derived.BigQuiet
import Derived.Deep.LoopGhost
set_option linter.unusedVariables false
set_option linter.unusedSimpArgs false
namespace Go.Proofs.YtpmdcahomkdfmaaGreatDoor
open Go.RowKit

theorem wp_copyG {t e : TypeId} {i0 : TypeInfo} {z : Value} {size bytes n c : Nat} {A : Option Addr} {news : List Value} {w : World} {o : Oper} {a : Act} {K : Act → World → Prop} {Q : Exit → Act → World → Prop} (x : Operand)
    (ht : Tryz.prog.underlying t = some (.slice e)) (hi : Tryz.prog.info? e = some i0) (hz : i0.zero = some z) (hs : i0.size = size) (hb : i0.bytes = bytes) (hzs : z.cells.size = size) (hsz : 0 < size)
    (ho : o.op = .call { callee := .builtin .append, args := #[.const (.slice none 0 0), x], argTypes := #[t, t] })
    (hx : a.eval x = .slice A n c) (hl : news.length = n * size) (hc : 0 < n → ∃ b off, A = some ⟨b, off, none⟩ ∧ ∀ j u, news[j]? = some u → w.cell? ⟨b, off + j, none⟩ = some u) (h1 : ∀ u ∈ news, u.oneCell' = true)
    (hn : n ≤ 140737488355328) (hn2 : n * bytes ≤ 140737488355328)
    (h : ∀ A' c' w', w'.ownsRow w.heap.size e size (.slice A' n c') n news → Below w.heap.size w w' → K (a.put o.dst (.slice A' n c')) w') :
    Oper.wp Tryz.prog o a w K Q := by
  have he : a.eval (.const (.slice none 0 0)) = .slice none 0 0 := rfl
  cases A with
  | none =>
    obtain rfl : n = 0 := by
      rcases Nat.eq_zero_or_pos n with h | h
      · exact h
      · obtain ⟨b, off, e, _⟩ := hc h; cases e
    obtain rfl : news = [] := List.eq_nil_of_length_eq_zero (by rw [hl, Nat.zero_mul])
    have hrun : (Builtin.append_ #[t, t] o.type #[.slice none 0 0, .slice none 0 c]).run Tryz.prog w = .ok (.slice none 0 0) w := by
      simp [Builtin.append_, run_underlying ht, sizeOf, typeInfo, hi, Builtin.lenOf, Builtin.firstCells]
    unfold Oper.wp
    simp [execOp, ho, resolve, invoke, builtin, he, hx, hrun, Result.andThen]
    exact h none 0 w (World.ownsRow_nil _ _ _ _) (Below.refl _ _)
  | some ad =>
    have hcells : ∀ j u, news[j]? = some u → w.cell? (ad.add j) = some u := by
      intro j u hj
      have hpos : 0 < n := by
        rcases Nat.eq_zero_or_pos n with h | h
        · rw [h, Nat.zero_mul] at hl
          rw [List.eq_nil_of_length_eq_zero hl] at hj
          simp at hj
        · exact h
      obtain ⟨b, off, e, h2⟩ := hc hpos
      rw [Option.some.injEq] at e
      subst e
      rw [Addr.add_lit]
      exact h2 j u hj
    obtain ⟨v', w', hr, h2, h3, _, _⟩ := run_append_own_at (P := Tryz.prog) w w.heap.size t o.type e i0 z size bytes ht hi hz hs hb hzs hsz (.slice none 0 0) 0 [] (World.ownsRow_nil _ _ _ _) ad n c news hl hcells h1 (by unfold maxLen; omega) (by rw [Nat.zero_add]; exact hn2) (Nat.le_refl _)
    rw [Nat.zero_add, List.nil_append] at h2
    have hform : ∃ A' c', v' = .slice A' n c' := by
      rcases h2.2 with ⟨e1, e2⟩ | ⟨g, cap, cur, e1, _⟩
      · exact ⟨none, 0, by rw [e1, e2]⟩
      · exact ⟨_, _, e1⟩
    obtain ⟨A', c', e⟩ := hform
    subst e
    unfold Oper.wp
    simp only [execOp, ho, resolve, invoke, builtin, Sem.run_bind, Sem.run_pure, Result.andThen_ok, List.map_toArray, List.map_cons, List.map_nil, he, hx, hr]
    exact h A' c' w' h2 ((Below.refl _ w).grown h3 (by simp) (by intro k hk; simp [Value.ownBlock] at hk))
theorem wpList_copyG {t e : TypeId} {i0 : TypeInfo} {z : Value} {size bytes n c : Nat} {A : Option Addr} {news : List Value} {w : World} {ops : Array Oper} {rest : List Oper} {o : Oper} {a : Act} {Q : Exit → Act → World → Prop} (hgd : o.guard = none) (x : Operand)
    (ht : Tryz.prog.underlying t = some (.slice e)) (hi : Tryz.prog.info? e = some i0) (hz : i0.zero = some z) (hs : i0.size = size) (hb : i0.bytes = bytes) (hzs : z.cells.size = size) (hsz : 0 < size)
    (ho : o.op = .call { callee := .builtin .append, args := #[.const (.slice none 0 0), x], argTypes := #[t, t] })
    (hx : a.eval x = .slice A n c) (hl : news.length = n * size) (hc : 0 < n → ∃ b off, A = some ⟨b, off, none⟩ ∧ ∀ j u, news[j]? = some u → w.cell? ⟨b, off + j, none⟩ = some u) (h1 : ∀ u ∈ news, u.oneCell' = true)
    (hn : n ≤ 140737488355328) (hn2 : n * bytes ≤ 140737488355328)
    (h : ∀ A' c' w', w'.ownsRow w.heap.size e size (.slice A' n c') n news → Below w.heap.size w w' → wpList Tryz.prog ops Q rest (a.put o.dst (.slice A' n c')) w') :
    wpList Tryz.prog ops Q (o :: rest) a w :=
  wpList_plain hgd fun _ hK => wp_copyG x ht hi hz hs hb hzs hsz ho hx hl hc h1 hn hn2 fun A' c' w' h1 h2 => hK _ _ (h A' c' w' h1 h2)

theorem infoS1 : (Tryz.prog.info? 9).map (fun i => (i.zero, i.size, i.bytes)) = some (some (.string ⟨#[]⟩), 1, 16) := by kernel_rfl
theorem infoV7 : (Tryz.prog.info? 28).map (fun i => (i.zero, i.size, i.bytes)) = some (some (.agg #[.int .i64 0, .bool false, .slice none 0 0, .int .i64 0, .string ⟨#[]⟩, .slice none 0 0, .slice none 0 0]), 7, 112) := by kernel_rfl
end Go.Proofs.YtpmdcahomkdfmaaGreatDoor

namespace Go.Proofs.YtpmdcahomkdfmaaGreatDoor
open Go.RowKit Go.Lib

/-- Texts as cells. -/
def strs (ks : List ByteArray) : List Value := ks.map .string
theorem setCell_box {w : World} {b j : Nat} {cs : Array Value} {t : TypeId} (h : w.heap[b]? = some (.cells cs t)) (u : Value) : (w.setCell ⟨b, j, none⟩ u).heap[b]? = some (.cells (cs.setIfInBounds j u) t) := heap_setCell_same w b j cs t u h
theorem RdT.cells {w : World} {S : Nat → Prop} {A : Option Addr} {n : Nat} {ks : List ByteArray} (h : RdT w S A n ks) : 0 < n → ∃ b off, A = some ⟨b, off, none⟩ ∧ ∀ j u, (strs ks)[j]? = some u → w.cell? ⟨b, off + j, none⟩ = some u := fun h0 => by
  obtain ⟨b, off, e, _, h2⟩ := h.2 h0
  refine ⟨b, off, e, fun j u hj => ?_⟩
  unfold strs at hj
  rw [List.getElem?_map, Option.map_eq_some_iff] at hj
  obtain ⟨s, hs, rfl⟩ := hj
  exact (h2 j s hs).1
theorem own_mono {w : World} {base base' : Nat} {e : TypeId} {size : Nat} {v : Value} {n : Nat} {xs : List Value} (h : w.ownsRow base e size v n xs) (hb : base' ≤ base) : w.ownsRow base' e size v n xs :=
  ⟨h.1, h.2.imp id fun ⟨g, cap, cur, e1, e2, e3⟩ => ⟨g, cap, cur, e1, Nat.le_trans hb e2, e3⟩⟩
theorem own_other {w : World} {base : Nat} {e e2 : TypeId} {size : Nat} {v : Value} {n : Nat} {xs : List Value} (h : w.ownsRow base e size v n xs) {g : Nat} {cur : Array Value} (hg : w.heap[g]? = some (.cells cur e2)) (hne : e ≠ e2) : v.ownBlock ≠ some g := by
  rcases h.2 with ⟨rfl, _⟩ | ⟨g2, cap, cur2, rfl, _, e3, _⟩
  · simp [Value.ownBlock]
  · intro he
    simp only [Value.ownBlock, Option.some.injEq] at he
    subst he
    rw [e3] at hg
    simp only [Option.some.injEq, Obj.cells.injEq] at hg
    exact hne hg.2.1
theorem own_seven {w : World} {base : Nat} {e : TypeId} {size : Nat} {v : Value} {n : Nat} {xs : List Value} (h : w.ownsRow base e size v n xs) {b : Nat} (hb : b < base) (v0 v1 v2 v3 v4 v5 v6 : Value) : (((((((w.setCell ⟨b, 0, none⟩ v0).setCell ⟨b, 1, none⟩ v1).setCell ⟨b, 2, none⟩ v2).setCell ⟨b, 3, none⟩ v3).setCell ⟨b, 4, none⟩ v4).setCell ⟨b, 5, none⟩ v5).setCell ⟨b, 6, none⟩ v6).ownsRow base e size v n xs :=
  ownsRow_setCell_below (ownsRow_setCell_below (ownsRow_setCell_below (ownsRow_setCell_below (ownsRow_setCell_below (ownsRow_setCell_below (ownsRow_setCell_below h hb v0) hb v1) hb v2) hb v3) hb v4) hb v5) hb v6
theorem below_seven {a w : World} {B b : Nat} (h : Below B a w) (hb : B ≤ b) (v0 v1 v2 v3 v4 v5 v6 : Value) : Below B a (((((((w.setCell ⟨b, 0, none⟩ v0).setCell ⟨b, 1, none⟩ v1).setCell ⟨b, 2, none⟩ v2).setCell ⟨b, 3, none⟩ v3).setCell ⟨b, 4, none⟩ v4).setCell ⟨b, 5, none⟩ v5).setCell ⟨b, 6, none⟩ v6) :=
  ((((((h.setCell hb v0).setCell hb v1).setCell hb v2).setCell hb v3).setCell hb v4).setCell hb v5).setCell hb v6
theorem one_strs (ks : List ByteArray) : ∀ u ∈ strs ks, u.oneCell' = true := by
  intro u hu
  unfold strs at hu
  obtain ⟨s, _, rfl⟩ := List.mem_map.1 hu
  rfl

set_option maxRecDepth 100000 in
set_option maxHeartbeats 4000000 in
theorem fresh_c {S : Nat → Prop} {k : Int} {neg : Bool} {A : Option Addr} {n c : Nat} {xs : List Nat} {e : Int} {t : ByteArray} {LA : Option Addr} {ln lc : Nat} {KA : Option Addr} {kn kc : Nat} {ks : List ByteArray} {cv : List Value} (w : World)
    (hr : Rd w S A n xs) (hn : n ≤ 35184372088832) (ht : t.size ≤ 140737488355328) (hcl : cv.length = ln * 7) (hcc : 0 < ln → ∃ b off, LA = some ⟨b, off, none⟩ ∧ ∀ j u, cv[j]? = some u → w.cell? ⟨b, off + j, none⟩ = some u) (hco : ∀ u ∈ cv, u.oneCell' = true) (hln : ln ≤ 1256584717458) (hks : RdT w S KA kn ks) (hkn : kn ≤ 8796093022208) (hS : ∀ b, S b → b < w.heap.size) (hcs : ∀ b off, 0 < ln → LA = some ⟨b, off, none⟩ → b < w.heap.size) :
    Calls Tryz.prog 97 #[vv k neg A n c e t LA ln lc KA kn kc] w fun e' w' => ∃ A1 c1 L1 lc1 K1 kc1, e' = .returned (vv k neg A1 n c1 e t L1 ln lc1 K1 kn kc1) ∧ Below w.heap.size w w' ∧ w'.ownsRow w.heap.size 72 1 (.slice A1 n c1) n (u32s xs) ∧ w'.ownsRow w.heap.size 28 7 (.slice L1 ln lc1) ln cv ∧ w'.ownsRow w.heap.size 9 1 (.slice K1 kn kc1) kn (strs ks) := by
  have hW : Below w.heap.size w ((w.alloc (.cells #[.int .i64 k, .bool neg, .slice A n c, .int .i64 e, .string t, .slice LA ln lc, .slice KA kn kc] 28)).alloc (.cells #[.int .i64 0, .bool false, .slice none 0 0, .int .i64 0, .string ⟨#[]⟩, .slice none 0 0, .slice none 0 0] 28)) := ((Below.refl _ w).alloc (Nat.le_refl _) _).alloc (by simp) _
  have hm1 : ((w.alloc (.cells #[.int .i64 k, .bool neg, .slice A n c, .int .i64 e, .string t, .slice LA ln lc, .slice KA kn kc] 28)).alloc (.cells #[.int .i64 0, .bool false, .slice none 0 0, .int .i64 0, .string ⟨#[]⟩, .slice none 0 0, .slice none 0 0] 28)).heap[w.heap.size]? = some (.cells #[.int .i64 k, .bool neg, .slice A n c, .int .i64 e, .string t, .slice LA ln lc, .slice KA kn kc] 28) := (Below.heap_alloc _ _ _ (by simp)).trans (World.alloc_heap_new w _)
  have hm2 : ((w.alloc (.cells #[.int .i64 k, .bool neg, .slice A n c, .int .i64 e, .string t, .slice LA ln lc, .slice KA kn kc] 28)).alloc (.cells #[.int .i64 0, .bool false, .slice none 0 0, .int .i64 0, .string ⟨#[]⟩, .slice none 0 0, .slice none 0 0] 28)).heap[w.heap.size + 1]? = some (.cells #[.int .i64 0, .bool false, .slice none 0 0, .int .i64 0, .string ⟨#[]⟩, .slice none 0 0, .slice none 0 0] 28) := by
    have := World.alloc_heap_new (w.alloc (.cells #[.int .i64 k, .bool neg, .slice A n c, .int .i64 e, .string t, .slice LA ln lc, .slice KA kn kc] 28)) (.cells #[.int .i64 0, .bool false, .slice none 0 0, .int .i64 0, .string ⟨#[]⟩, .slice none 0 0, .slice none 0 0] 28)
    rwa [World.size_alloc] at this
  have hz : ((w.alloc (.cells #[.int .i64 k, .bool neg, .slice A n c, .int .i64 e, .string t, .slice LA ln lc, .slice KA kn kc] 28)).alloc (.cells #[.int .i64 0, .bool false, .slice none 0 0, .int .i64 0, .string ⟨#[]⟩, .slice none 0 0, .slice none 0 0] 28)).heap.size = w.heap.size + 2 := by simp
  unfold vv
  obtain ⟨i1, hi1, hp1, hq1, hr1⟩ := info_parts info32
  obtain ⟨i7, hi7, hp7, hq7, hr7⟩ := info_parts infoV7
  obtain ⟨is, his, hps, hqs, hrs⟩ := info_parts infoS1
  go_enter Tryz.func97, Tryz.ntmps97
  go_upto_region 1 with fail
  generalize ((w.alloc (.cells #[.int .i64 k, .bool neg, .slice A n c, .int .i64 e, .string t, .slice LA ln lc, .slice KA kn kc] 28)).alloc (.cells #[.int .i64 0, .bool false, .slice none 0 0, .int .i64 0, .string ⟨#[]⟩, .slice none 0 0, .slice none 0 0] 28)) = W0 at *
  have hr0 := hr.below hW hS
  obtain ⟨x0, x1, x2, x3, x4, x5, x6⟩ := box7_of hm1
  have f1 : ∀ j, W0.frozen? ⟨w.heap.size, j, none⟩ = false := fun j => frozen_of_row W0 _ j _ _ hm1
  go_upto_region 2 with (at_builtin; refine wpList_copyG rfl (.tmp 7) Tryz.underlying22 hi1 hp1 hq1 hr1 rfl (by decide) rfl rfl (by rw [u32s_length, hr0.len, Nat.mul_one]) (fun h0 => by obtain ⟨b, off, e, _⟩ := hr0.cells h0; subst e; exact ⟨b, off, rfl, fun j u hj => by have := hr0.cellsAt j u hj; rwa [Addr.add_lit] at this⟩) (u32s_one xs) (by omega) (by omega) ?_; intro A1 c1 w1 hown1 hb1; have m1 := (hb1.block _ (by omega)).trans hm1; have g2 := (box7_of m1).2.2.1; have f2 : w1.frozen? ⟨w.heap.size, 2, none⟩ = false := frozen_of_row w1 _ _ _ _ m1)
  have hs1 := hb1.size
  have hw1 := (hW.trans (hb1.mono (by omega))).setCell (p := ⟨w.heap.size, 2, none⟩) (Nat.le_refl _) (.slice A1 n c1)
  have m2 : (w1.setCell ⟨w.heap.size, 2, none⟩ (.slice A1 n c1)).heap[w.heap.size]? = some (.cells #[.int .i64 k, .bool neg, .slice A1 n c1, .int .i64 e, .string t, .slice LA ln lc, .slice KA kn kc] 28) := setCell_box m1 _
  have r2 : (w1.setCell ⟨w.heap.size, 2, none⟩ (.slice A1 n c1)).heap[w.heap.size + 1]? = some (.cells #[.int .i64 0, .bool false, .slice none 0 0, .int .i64 0, .string ⟨#[]⟩, .slice none 0 0, .slice none 0 0] 28) := (Below.heap_setCell _ _ _ _ (by show w.heap.size + 1 ≠ w.heap.size; omega)).trans ((hb1.block _ (by omega)).trans hm2)
  have hO2 := ownsRow_setCell_below hown1 (a := ⟨w.heap.size, 2, none⟩) (by show w.heap.size < W0.heap.size; omega) (.slice A1 n c1)
  have hz2 : w.heap.size + 2 ≤ (w1.setCell ⟨w.heap.size, 2, none⟩ (.slice A1 n c1)).heap.size := by simp [World.setCell]; omega
  clear m1 g2 f2 hb1 hown1 x0 x1 x2 x3 x4 x5 x6 f1 hm1 hm2 hs1
  generalize (w1.setCell ⟨w.heap.size, 2, none⟩ (.slice A1 n c1)) = W2 at *
  have HO2 := Lib.hid hO2
  clear hO2
  obtain ⟨x0, x1, x2, x3, x4, x5, x6⟩ := box7_of m2
  go_upto_region 3 with (refine (clone_c t W2 (by omega)).mono ?_; rintro e' w3 ⟨rfl, hb3⟩; have m3 := (hb3.block _ (by omega)).trans m2; have g3 := (box7_of m3).2.2.2.2.1; have f3 : w3.frozen? ⟨w.heap.size, 4, none⟩ = false := frozen_of_row w3 _ _ _ _ m3)
  have hs3 := hb3.size
  have m3' : (w3.setCell ⟨w.heap.size, 4, none⟩ (.string t)).heap[w.heap.size]? = some (.cells #[.int .i64 k, .bool neg, .slice A1 n c1, .int .i64 e, .string t, .slice LA ln lc, .slice KA kn kc] 28) := setCell_box m3 _
  have r3 : (w3.setCell ⟨w.heap.size, 4, none⟩ (.string t)).heap[w.heap.size + 1]? = some (.cells #[.int .i64 0, .bool false, .slice none 0 0, .int .i64 0, .string ⟨#[]⟩, .slice none 0 0, .slice none 0 0] 28) := (Below.heap_setCell _ _ _ _ (by show w.heap.size + 1 ≠ w.heap.size; omega)).trans ((hb3.block _ (by omega)).trans r2)
  have hw3 := (hw1.trans (hb3.mono (by omega))).setCell (p := ⟨w.heap.size, 4, none⟩) (Nat.le_refl _) (.string t)
  have hz3 : w.heap.size + 2 ≤ (w3.setCell ⟨w.heap.size, 4, none⟩ (.string t)).heap.size := by simp [World.setCell]; omega
  have hO3 := ownsRow_setCell_below (own_keep HO2.out fun k _ h3 => hb3.block k h3) (a := ⟨w.heap.size, 4, none⟩) (by show w.heap.size < W0.heap.size; omega) (.string t)
  clear m3 g3 f3 hb3 x0 x1 x2 x3 x4 x5 x6 m2 r2 hs3 hw1 hz2 HO2
  generalize (w3.setCell ⟨w.heap.size, 4, none⟩ (.string t)) = W3 at *
  have HO3 := Lib.hid hO3
  clear hO3
  obtain ⟨x0, x1, x2, x3, x4, x5, x6⟩ := box7_of m3'
  have hcc3 : 0 < ln → ∃ b off, LA = some ⟨b, off, none⟩ ∧ ∀ j u, cv[j]? = some u → W3.cell? ⟨b, off + j, none⟩ = some u := fun h0 => by
    obtain ⟨b, off, e, h2⟩ := hcc h0
    exact ⟨b, off, e, fun j u hj => (hw3.cell (p := ⟨b, off + j, none⟩) (hcs b off h0 e)).trans (h2 j u hj)⟩
  go_upto_region 4 with (at_builtin; refine wpList_copyG rfl (.tmp 16) Tryz.underlying25 hi7 hp7 hq7 hr7 rfl (by decide) rfl rfl hcl hcc3 hco (by omega) (by omega) ?_; intro L1 lc1 w4 hown4 hb4; have m4 := (hb4.block _ (by omega)).trans m3'; have g4 := (box7_of m4).2.2.2.2.2.1; have f4 : w4.frozen? ⟨w.heap.size, 5, none⟩ = false := frozen_of_row w4 _ _ _ _ m4)
  have hs4 := hb4.size
  have m4' : (w4.setCell ⟨w.heap.size, 5, none⟩ (.slice L1 ln lc1)).heap[w.heap.size]? = some (.cells #[.int .i64 k, .bool neg, .slice A1 n c1, .int .i64 e, .string t, .slice L1 ln lc1, .slice KA kn kc] 28) := setCell_box m4 _
  have r4 : (w4.setCell ⟨w.heap.size, 5, none⟩ (.slice L1 ln lc1)).heap[w.heap.size + 1]? = some (.cells #[.int .i64 0, .bool false, .slice none 0 0, .int .i64 0, .string ⟨#[]⟩, .slice none 0 0, .slice none 0 0] 28) := (Below.heap_setCell _ _ _ _ (by show w.heap.size + 1 ≠ w.heap.size; omega)).trans ((hb4.block _ (by omega)).trans r3)
  have hw4 := (hw3.trans (hb4.mono (by omega))).setCell (p := ⟨w.heap.size, 5, none⟩) (Nat.le_refl _) (.slice L1 ln lc1)
  have hz4 : w.heap.size + 2 ≤ (w4.setCell ⟨w.heap.size, 5, none⟩ (.slice L1 ln lc1)).heap.size := by simp [World.setCell]; omega
  have hO4 := ownsRow_setCell_below (own_keep HO3.out fun k _ h3 => hb4.block k h3) (a := ⟨w.heap.size, 5, none⟩) (by show w.heap.size < W0.heap.size; omega) (.slice L1 ln lc1)
  have hL4 := own_mono (ownsRow_setCell_below hown4 (a := ⟨w.heap.size, 5, none⟩) (by show w.heap.size < W3.heap.size; omega) (.slice L1 ln lc1)) hz3
  clear m4 g4 f4 hb4 hown4 x0 x1 x2 x3 x4 x5 x6 m3' r3 hs4 hw3 hz3 HO3 hcc3
  generalize (w4.setCell ⟨w.heap.size, 5, none⟩ (.slice L1 ln lc1)) = W4 at *
  have HO4 := Lib.hid hO4
  have HL4 := Lib.hid hL4
  clear hO4 hL4
  obtain ⟨x0, x1, x2, x3, x4, x5, x6⟩ := box7_of m4'
  have hks4 := hks.stay hw4 hS
  go_upto_region 5 with (at_builtin; refine wpList_copyG rfl (.tmp 20) Tryz.underlying26 his hps hqs hrs rfl (by decide) rfl rfl (by unfold strs; rw [List.length_map, hks4.1, Nat.mul_one]) hks4.cells (one_strs ks) (by omega) (by omega) ?_; intro K1 kc1 w5 hown5 hb5; have m5 := (hb5.block _ (by omega)).trans m4'; have g5 := (box7_of m5).2.2.2.2.2.2; have f5 : w5.frozen? ⟨w.heap.size, 6, none⟩ = false := frozen_of_row w5 _ _ _ _ m5)
  have hs5 := hb5.size
  have m5' : (w5.setCell ⟨w.heap.size, 6, none⟩ (.slice K1 kn kc1)).heap[w.heap.size]? = some (.cells #[.int .i64 k, .bool neg, .slice A1 n c1, .int .i64 e, .string t, .slice L1 ln lc1, .slice K1 kn kc1] 28) := setCell_box m5 _
  have r5 : (w5.setCell ⟨w.heap.size, 6, none⟩ (.slice K1 kn kc1)).heap[w.heap.size + 1]? = some (.cells #[.int .i64 0, .bool false, .slice none 0 0, .int .i64 0, .string ⟨#[]⟩, .slice none 0 0, .slice none 0 0] 28) := (Below.heap_setCell _ _ _ _ (by show w.heap.size + 1 ≠ w.heap.size; omega)).trans ((hb5.block _ (by omega)).trans r4)
  have hw5 := (hw4.trans (hb5.mono (by omega))).setCell (p := ⟨w.heap.size, 6, none⟩) (Nat.le_refl _) (.slice K1 kn kc1)
  have hz5 : w.heap.size + 2 ≤ (w5.setCell ⟨w.heap.size, 6, none⟩ (.slice K1 kn kc1)).heap.size := by simp [World.setCell]; omega
  have hO5 := own_mono (base' := w.heap.size + 2) (ownsRow_setCell_below (own_keep HO4.out fun k _ h3 => hb5.block k h3) (a := ⟨w.heap.size, 6, none⟩) (by show w.heap.size < W0.heap.size; omega) (.slice K1 kn kc1)) (by omega)
  have hL5 := ownsRow_setCell_below (own_keep HL4.out fun k _ h3 => hb5.block k h3) (a := ⟨w.heap.size, 6, none⟩) (by show w.heap.size < w.heap.size + 2; omega) (.slice K1 kn kc1)
  have hK5 := own_mono (ownsRow_setCell_below hown5 (a := ⟨w.heap.size, 6, none⟩) (by show w.heap.size < W4.heap.size; omega) (.slice K1 kn kc1)) hz4
  clear m5 g5 f5 hb5 hown5 x0 x1 x2 x3 x4 x5 x6 m4' r4 hs5 hw4 hz4 HO4 HL4 hks4
  generalize (w5.setCell ⟨w.heap.size, 6, none⟩ (.slice K1 kn kc1)) = W5 at *
  have HO5 := Lib.hid hO5
  have HL5 := Lib.hid hL5
  have HK5 := Lib.hid hK5
  clear hO5 hL5 hK5
  obtain ⟨x0, x1, x2, x3, x4, x5, x6⟩ := box7_of m5'
  have hkl := hks.1
  go_wp2_with fail
  have HKS := Lib.hid hks
  clear hks hcc hcl hco x0 x1 x2 x3 x4 x5 x6 hr0
  go_loopw [26] (fun i wr => ∃ j : Nat, j ≤ kn ∧ i = .int .i64 (j : Int) ∧ wr.heap[w.heap.size]? = some (.cells #[.int .i64 k, .bool neg, .slice A1 n c1, .int .i64 e, .string t, .slice L1 ln lc1, .slice K1 kn kc1] 28) ∧ wr.heap[w.heap.size + 1]? = some (.cells #[.int .i64 0, .bool false, .slice none 0 0, .int .i64 0, .string ⟨#[]⟩, .slice none 0 0, .slice none 0 0] 28) ∧ Below w.heap.size w wr ∧ w.heap.size + 2 ≤ wr.heap.size ∧ wr.ownsRow (w.heap.size + 2) 72 1 (.slice A1 n c1) n (u32s xs) ∧ wr.ownsRow (w.heap.size + 2) 28 7 (.slice L1 ln lc1) ln cv ∧ wr.ownsRow (w.heap.size + 2) 9 1 (.slice K1 kn kc1) kn (strs ks)) (fun i _ => kn - (RowKit.intOf i).toNat)
  case atStart => exact ⟨0, Nat.zero_le _, rfl, m5', r5, hw5, hz5, HO5.out, HL5.out, HK5.out⟩
  case round =>
    clear m5' r5 hw5 hz5 HO5 HL5 HK5
    obtain ⟨j, hj, rfl, hm, hrr, hbel, hzz, hO, hL, hK⟩ := hrel
    by_cases hjn : j < kn
    · obtain ⟨s, hs⟩ : ∃ s, ks[j]? = some s := ⟨_, List.getElem?_eq_getElem (by omega)⟩
      have hssz := HKS.out.size hs
      have hst : (strs ks)[j]? = some (.string s) := by unfold strs; rw [List.getElem?_map, hs]; rfl
      obtain ⟨g, hgK, hgb⟩ : ∃ g, K1 = some ⟨g, 0, none⟩ ∧ w.heap.size + 2 ≤ g := by
        rcases hK.2 with ⟨e1, e2⟩ | ⟨g, cap, cur, e1, e2, _⟩
        · omega
        · injection e1 with e3; exact ⟨g, e3, e2⟩
      subst hgK
      have hcell : wr.cell? ⟨g, j, none⟩ = some (.string s) := by rw [hK.cellAt j (by omega)]; exact hst
      have hfrz := hK.frozenAt j
      have hgl := cell_lt2 hcell
      have hlt : (j : Int) < (kn : Int) := by omega
      have hj0 : (0 : Int) ≤ (j : Int) := by omega
      have hjt : ((j : Int)).toNat = j := by omega
      have hjw : IntKind.i64.wrap ((j : Int) + 1) = (j : Int) + 1 := IntWalk.i64_in _ (by omega)
      have HHO := Lib.hid hO
      have HHL := Lib.hid hL
      have HHK := Lib.hid hK
      have HM := Lib.hid hm
      have HRR := Lib.hid hrr
      have HBEL := Lib.hid hbel
      have HST := Lib.hid hst
      have hc6 := (box7_of hm).2.2.2.2.2.2
      have hc6d : wr.drew.cell? ⟨w.heap.size, 6, none⟩ = some (.slice (some ⟨g, 0, none⟩) kn kc1) := hc6
      clear hO hL hK hm hrr hbel hst
      go_upto_region 8 with fail
      refine wp_region_held_drew (S := fun w' => w'.cell? ⟨w.heap.size, 6, none⟩ = some (.slice (some ⟨g, 0, none⟩) kn kc1)) (by kernel_rfl) hc6d (fun hHeld => ?_)
      (try simp only [List.size_toArray, List.length_cons, List.length_nil, Nat.reduceAdd, Array.replicate_succ, Array.replicate_zero, List.push_toArray, List.append_toArray, List.nil_append, List.cons_append])
      refine wpAnyH_take (i := 0) (oi := ⟨_, _, _, _, _, _⟩) (v := ?_) rfl (by kernel_rfl) (by kernel_rfl) (by kernel_rfl) (fun _ _ _ h => h) (Or.inl ⟨by rfl, ?_⟩) (by assumption) ?_
      rotate_left
      · intro w hSw
        (try dsimp only at hSw)
        go_split_ands
        go_simp
        try with_reducible rfl
      try simp only [Act.put, List.setIfInBounds_toArray, List.set_cons_zero, List.set_cons_succ]
      refine wpAnyH_take (i := 1) (oi := ⟨_, _, _, _, _, _⟩) (v := ?_) rfl (by kernel_rfl) (by kernel_rfl) (by kernel_rfl) (fun _ _ _ h => h) (Or.inl ⟨by rfl, ?_⟩) (by assumption) ?_
      rotate_left
      · intro w hSw
        (try dsimp only at hSw)
        go_split_ands
        go_simp
        try with_reducible rfl
      try simp only [Act.put, List.setIfInBounds_toArray, List.set_cons_zero, List.set_cons_succ]
      refine wpAnyH_take (i := 2) (oi := ⟨_, _, _, _, _, _⟩) (v := ?_) rfl (by kernel_rfl) (by kernel_rfl) (by kernel_rfl) (fun _ _ _ h => h) (Or.inl ⟨by rfl, ?_⟩) (by assumption) ?_
      rotate_left
      · intro w hSw
        (try dsimp only at hSw)
        go_split_ands
        go_simp
        try with_reducible rfl
      try simp only [Act.put, List.setIfInBounds_toArray, List.set_cons_zero, List.set_cons_succ]
      refine wpAnyH_take (i := 3) (oi := ⟨_, _, _, _, _, _⟩) (v := ?_) rfl (by kernel_rfl) (by kernel_rfl) (by kernel_rfl) (fun _ _ _ h => h) (Or.inl ⟨by rfl, ?_⟩) (by assumption) ?_
      rotate_left
      · intro w hSw
        (try dsimp only at hSw)
        go_split_ands
        go_simp
        try with_reducible rfl
      try simp only [Act.put, List.setIfInBounds_toArray, List.set_cons_zero, List.set_cons_succ]
      refine wpAnyH_ready (rs := [4]) (by kernel_rfl) (by simp) (AllReadyH.cons (o := ⟨_, _, _, _, _, _⟩) rfl (fun K hK => ?_) AllReadyH.nil)
      go_simp
      refine (clone_c s wr.drew (by omega)).mono ?_
      rintro e' w6 ⟨rfl, hb6⟩
      have hc66 : w6.cell? ⟨w.heap.size, 6, none⟩ = some (.slice (some ⟨g, 0, none⟩) kn kc1) := (hb6.cell (p := ⟨w.heap.size, 6, none⟩) (by show w.heap.size < wr.heap.size; omega)).trans hc6d
      have hfrz6 : w6.frozen? ⟨g, j, none⟩ = false := (hb6.frozen (p := ⟨g, j, none⟩) hgl).trans hfrz
      have hcell6 : w6.cell? ⟨g, j, none⟩ = some (.string s) := (hb6.cell (p := ⟨g, j, none⟩) hgl).trans hcell
      (try dsimp only)
      refine hK.out _ _ hc66 (fun hHeld2 => ?_)
      clear hK K
      try simp only [Act.put, List.setIfInBounds_toArray, List.set_cons_zero, List.set_cons_succ]
      refine wpAnyH_take (i := 5) (oi := ⟨_, _, _, _, _, _⟩) (v := ?_) rfl (by kernel_rfl) (by kernel_rfl) (by kernel_rfl) (fun _ _ _ h => h) (Or.inl ⟨by rfl, ?_⟩) (by assumption) ?_
      rotate_left
      · intro w hSw
        (try dsimp only at hSw)
        go_split_ands
        go_simp
        try with_reducible rfl
      try simp only [Act.put, List.setIfInBounds_toArray, List.set_cons_zero, List.set_cons_succ]
      refine wpAnyH_ready (rs := [6]) (by kernel_rfl) (by simp) (AllReadyH.cons (o := ⟨_, _, _, _, _, _⟩) rfl (fun K hK => ?_) AllReadyH.nil)
      go_simp
      refine hK.out _ _ ?_ (fun hHeld3 => ?_)
      · exact (World.cell?_of_block (Below.heap_setCell _ _ _ _ (by show w.heap.size ≠ g; omega))).trans hc66
      clear hK K
      try simp only [Act.put, List.setIfInBounds_toArray, List.set_cons_zero, List.set_cons_succ]
      refine wpAnyH_done (by kernel_rfl) ?_ _
      have hb6' : Below wr.heap.size wr w6 := ⟨hb6.os, hb6.tape, hb6.output, hb6.size, hb6.block⟩
      have hk6 := own_keep HHK.out fun k _ h3 => hb6'.block k h3
      have hgrow : ∃ cur, w6.heap[g]? = some (.cells cur 9) := by
        rcases hk6.2 with ⟨e1, _⟩ | ⟨g2, cap, cur, e1, _, e2, _⟩
        · simp at e1
        · simp only [Value.slice.injEq, Option.some.injEq, Addr.mk.injEq, and_true, true_and] at e1
          obtain ⟨rfl, _⟩ := e1
          exact ⟨cur, e2⟩
      obtain ⟨cur, hcur⟩ := hgrow
      have n1 := (hk6.stored j (.string s)).1
      rw [show (strs ks).set j (.string s) = strs ks from by
        have h9 := HST.out
        obtain ⟨h10, h11⟩ := List.getElem?_eq_some_iff.1 h9
        rw [← h11]; exact List.set_getElem_self h10] at n1
      have n2 := ownsRow_setCell_other (own_keep HHO.out fun k _ h3 => hb6'.block k h3) (a := ⟨g, j, none⟩) (own_other (own_keep HHO.out fun k _ h3 => hb6'.block k h3) hcur (by decide)) (.string s)
      have n3 := ownsRow_setCell_other (own_keep HHL.out fun k _ h3 => hb6'.block k h3) (a := ⟨g, j, none⟩) (own_other (own_keep HHL.out fun k _ h3 => hb6'.block k h3) hcur (by decide)) (.string s)
      have n4 : (w6.setCell ⟨g, j, none⟩ (.string s)).heap[w.heap.size]? = _ := (Below.heap_setCell _ _ _ _ (by show w.heap.size ≠ g; omega)).trans ((hb6'.block _ (by omega)).trans HM.out)
      have n5 : (w6.setCell ⟨g, j, none⟩ (.string s)).heap[w.heap.size + 1]? = _ := (Below.heap_setCell _ _ _ _ (by show w.heap.size + 1 ≠ g; omega)).trans ((hb6'.block _ (by omega)).trans HRR.out)
      have n6 := (HBEL.out.trans (hb6'.mono (by omega))).setCell (p := ⟨g, j, none⟩) (by show w.heap.size ≤ g; omega) (.string s)
      have n7 : w.heap.size + 2 ≤ (w6.setCell ⟨g, j, none⟩ (.string s)).heap.size := by have := hb6'.size; simp [World.setCell]; omega
      generalize (w6.setCell ⟨g, j, none⟩ (.string s)) = W7 at *
      have N1 := Lib.hid n1
      have N2 := Lib.hid n2
      have N3 := Lib.hid n3
      have N4 := Lib.hid n4
      have N5 := Lib.hid n5
      clear n1 n2 n3 n4 n5 hb6 hb6' hk6 hcur hHeld hHeld2 hHeld3 hc66 hfrz6 hcell6
      go_wp2_with fail
      go_roundw
      case rel => exact ⟨j + 1, by omega, by go_num, N4.out, N5.out, n6, n7, N2.out, N3.out, N1.out⟩
      case measure => simp [RowKit.intOf]; omega
    · have hge : ¬ (j : Int) < (kn : Int) := by omega
      obtain ⟨x0, x1, x2, x3, x4, x5, x6⟩ := box7_of hm
      have HHO := Lib.hid hO
      have HHL := Lib.hid hL
      have HHK := Lib.hid hK
      have HRR := Lib.hid hrr
      clear hO hL hK
      have fz : ∀ j, wr.frozen? ⟨w.heap.size + 1, j, none⟩ = false := fun j => frozen_of_row wr _ j _ _ hrr
      obtain ⟨z0, z1, z2, z3, z4, z5, z6⟩ := box7_of hrr
      go_wp2_with fail
      refine bodyPost_ret (v := .agg #[.int .i64 k, .bool neg, .slice A1 n c1, .int .i64 e, .string t, .slice L1 ln lc1, .slice K1 kn kc1]) (by simp [results, Tryz.results97, go_sem, z0, z1, z2, z3, z4, z5, z6]) rfl ?_
      exact ⟨A1, c1, L1, lc1, K1, kc1, rfl, below_seven hbel (by omega) _ _ _ _ _ _ _, own_mono (own_seven HHO.out (by omega) _ _ _ _ _ _ _) (by omega), own_mono (own_seven HHL.out (by omega) _ _ _ _ _ _ _) (by omega), own_mono (own_seven HHK.out (by omega) _ _ _ _ _ _ _) (by omega)⟩
end Go.Proofs.YtpmdcahomkdfmaaGreatDoor

namespace Go.Proofs.YtpmdcahomkdfmaaGreatDoor
open Go.RowKit

mutual
/-- How many values stand in a value, whatever its kind. -/
def under : VT → Nat
  | .mk _ _ _ _ _ l _ => underL l
def underL : List VT → Nat
  | [] => 0
  | a :: r => 1 + under a + underL r
end
theorem underL_len (l : List VT) : l.length ≤ underL l := by
  induction l with
  | nil => simp [underL]
  | cons x r ih => simp only [List.length_cons, underL]; omega
/-- The blocks of the call's own. -/
def Own' (base : Nat) (w : World) : Nat → Prop := fun b => base ≤ b ∧ b < w.heap.size
/-- All blocks but those of P, and the stacks, are as they were. -/
def Agree (w w' : World) (P : Nat → Prop) : Prop := w.heap.size ≤ w'.heap.size ∧ ∀ b, b < w.heap.size → ¬ P b → (∀ cur, w.heap[b]? ≠ some (.cells cur 25)) → w'.heap[b]? = w.heap[b]?
theorem Agree.refl (w : World) (P : Nat → Prop) : Agree w w P := ⟨Nat.le_refl _, fun _ _ _ _ => rfl⟩

/-- A row of values that is to be filled in: its slice, and the trees that it holds. -/
structure Row where
  A : Option Addr
  n : Nat
  c : Nat
  l : List VT
def Row.val (r : Row) : Value := .slice r.A r.n r.c
/-- The block of a row that holds something. -/
def Row.at (r : Row) (b : Nat) : Prop := 0 < r.n ∧ r.A = some ⟨b, 0, none⟩
/-- The row still holds old values: in a block of the call's own, which is a row of values. -/
def RowO (w : World) (S : Nat → Prop) (base : Nat) (r : Row) : Prop :=
  r.l.length = r.n ∧ r.n ≤ r.c ∧ r.n ≤ 1256584717458 ∧ (0 < r.n → ∃ b cur cap, r.A = some ⟨b, 0, none⟩ ∧ base ≤ b ∧ w.heap[b]? = some (.cells cur 28) ∧ r.n ≤ cap ∧ cur.size = cap * 7) ∧ ∃ cs : Nat → List Value, (∀ b, r.A = some ⟨b, 0, none⟩ → ∀ i, i < r.n → (cs i).length = 7 ∧ ∀ j, j < 7 → w.cell? ⟨b, i * 7 + j, none⟩ = (cs i)[j]?) ∧ ∀ i x, r.l[i]? = some x → VIn w S x (cs i)
/-- The row is filled in: it holds its trees, if ok, in memory of the call's own. -/
def RowD (w : World) (base : Nat) (ok : Prop) (r : Row) : Prop := ∃ l', (ok → l' = r.l) ∧ RdL w (Own' base w) r.A r.n l'
/-- The blocks of the rows. -/
def Pend (st : List Row) : Nat → Prop := fun b => ∃ r ∈ st, r.at b

theorem RowO.keep {w w' : World} {S : Nat → Prop} {base : Nat} {r : Row} (h : RowO w S base r) (hb : ∀ b, r.at b → w'.heap[b]? = w.heap[b]?) (hS : ∀ p : Addr, S p.block → w'.cell? p = w.cell? p) : RowO w' S base r := by
  obtain ⟨h1, h2, h3, h4, cs, h5, h6⟩ := h
  refine ⟨h1, h2, h3, fun h0 => ?_, cs, fun b e i hi => ⟨(h5 b e i hi).1, fun j hj => ?_⟩, fun i x hx => (h6 i x hx).keep hS⟩
  · obtain ⟨b, cur, cap, e, hB, hh, hc⟩ := h4 h0
    exact ⟨b, cur, cap, e, hB, (hb b ⟨h0, e⟩).trans hh, hc⟩
  · exact (World.cell?_of_block (hb b ⟨by omega, e⟩)).trans ((h5 b e i hi).2 j hj)
theorem RowO.lt {w : World} {S : Nat → Prop} {base b : Nat} {r : Row} (h : RowO w S base r) (hb : r.at b) : base ≤ b ∧ b < w.heap.size ∧ ∃ cur, w.heap[b]? = some (.cells cur 28) := by
  obtain ⟨_, _, _, h4, _⟩ := h
  obtain ⟨b2, cur, cap, e, hB, hh, _⟩ := h4 hb.1
  have e2 := hb.2
  rw [e, Option.some.injEq, Addr.mk.injEq] at e2
  obtain ⟨rfl, -⟩ := e2
  exact ⟨hB, (Array.getElem?_eq_some_iff.1 hh).1, cur, hh⟩

/-- A row of the call's own hangs on its own block alone. -/
theorem own_at {w w' : World} {base : Nat} {e : TypeId} {size : Nat} {v : Value} {n : Nat} {xs : List Value} (h : w.ownsRow base e size v n xs) (hk : ∀ g cur, v.ownBlock = some g → w.heap[g]? = some (.cells cur e) → w'.heap[g]? = w.heap[g]?) : w'.ownsRow base e size v n xs := by
  obtain ⟨h1, h2⟩ := h
  refine ⟨h1, h2.imp id ?_⟩
  rintro ⟨g, cap, cur, e1, e2, e3, e4⟩
  subst e1
  exact ⟨g, cap, cur, rfl, e2, (hk g cur rfl e3).trans e3, e4⟩
theorem rdT_own {w : World} {base kn kc : Nat} {K : Option Addr} {ks : List ByteArray} (h : w.ownsRow base 9 1 (.slice K kn kc) kn (strs ks)) (hl : ks.length = kn) (hk : ∀ s ∈ ks, s.size ≤ 140737488355328) : RdT w (Own' base w) K kn ks := by
  refine ⟨hl, fun h0 => ?_⟩
  rcases h.2 with ⟨e1, e2⟩ | ⟨g, cap, cur, e1, e2, e3, e4⟩
  · omega
  · injection e1 with e1
    subst e1
    refine ⟨g, 0, rfl, ⟨e2, (Array.getElem?_eq_some_iff.1 e3).1⟩, fun i s hi => ⟨?_, hk s (List.mem_of_getElem? hi)⟩⟩
    have := h.cells (g := g) rfl i (.string s) (by unfold strs; rw [List.getElem?_map, hi]; rfl)
    rwa [Addr.add_lit] at this
/-- What fresh has made reads as a value as soon as its values do. -/
theorem fresh_vin {w w' : World} {P : Nat → Prop} {base b0 : Nat} (hA : Agree w w' P) (hP : ∀ b, P b → ∃ cur, w.heap[b]? = some (.cells cur 28)) {k : Int} {neg : Bool} {xs : List Nat} {e : Int} {t : ByteArray} {l : List VT} {ks : List ByteArray} {A1 L1 K1 : Option Addr} {n c1 ln lc1 kn kc1 : Nat}
    (hx : L32 xs) (hxl : xs.length = n) (hC : w.ownsRow b0 72 1 (.slice A1 n c1) n (u32s xs)) (hK : w.ownsRow b0 9 1 (.slice K1 kn kc1) kn (strs ks)) (hb0 : base ≤ b0) (hn : n ≤ 35184372088832) (ht : t.size ≤ 140737488355328) (hkn : kn ≤ 8796093022208) (hkl : ks.length = kn) (hks : ∀ s ∈ ks, s.size ≤ 140737488355328)
    (hL : RdL w' (Own' base w') L1 ln l) (hln : ln ≤ 1256584717458) (hlc : ln ≤ lc1) : VIn w' (Own' base w') (.mk k neg xs e t l ks) [.int .i64 k, .bool neg, .slice A1 n c1, .int .i64 e, .string t, .slice L1 ln lc1, .slice K1 kn kc1] := by
  have hsame : ∀ (e : TypeId) (g : Nat) (cur : Array Value), e ≠ 28 → e ≠ 25 → w.heap[g]? = some (.cells cur e) → w'.heap[g]? = w.heap[g]? := fun e g cur h1 h2 hg => by
    refine hA.2 g (Array.getElem?_eq_some_iff.1 hg).1 (fun hp => ?_) (fun cur2 h3 => ?_)
    · obtain ⟨cur2, h3⟩ := hP g hp
      rw [hg] at h3
      simp only [Option.some.injEq, Obj.cells.injEq] at h3
      exact h1 h3.2.1
    · rw [hg] at h3
      simp only [Option.some.injEq, Obj.cells.injEq] at h3
      exact h2 h3.2.1
  have hC' := own_mono (own_at hC fun g cur _ hg => hsame _ g cur (by decide) (by decide) hg) hb0
  have hK' := own_mono (own_at hK fun g cur _ hg => hsame _ g cur (by decide) (by decide) hg) hb0
  have hR : Res w' base A1 n c1 xs := ⟨hxl, hx, hC'⟩
  obtain ⟨h1, h2, cs, h3, h4⟩ := hL
  exact .mk hR.rd hn ht (rdT_own hK' hkl hks) hkn h1 hln hlc h3 h4

theorem Agree.go {w w2 w' : World} {P P2 : Nat → Prop} (h1 : Agree w w2 P) (h2 : Agree w2 w' P2) (hP : ∀ b, b < w.heap.size → P2 b → P b) : Agree w w' P :=
  ⟨Nat.le_trans h1.1 h2.1, fun b hb hp ht => (h2.2 b (Nat.lt_of_lt_of_le hb h1.1) (fun h => hp (hP b hb h)) (fun cur h => ht cur ((h1.2 b hb hp ht).symm.trans h))).trans (h1.2 b hb hp ht)⟩
/-- What a value will be, once the rows C are filled in. -/
def ElemW (w : World) (base : Nat) (ok : Prop) (P : Nat → Prop) (C : List Row) (x : VT) (cs : List Value) : Prop := ∀ w', Agree w w' P → (∀ r ∈ C, RowD w' base ok r) → ∃ x', (ok → x' = x) ∧ VIn w' (Own' base w') x' cs
theorem ElemW.go {w w2 : World} {base : Nat} {ok : Prop} {P P2 : Nat → Prop} {C C2 : List Row} {x : VT} {cs : List Value} (h : ElemW w base ok P C x cs) (h1 : Agree w w2 P) (hP : ∀ b, b < w.heap.size → P2 b → P b) (hC : ∀ r ∈ C, r ∈ C2) : ElemW w2 base ok P2 C2 x cs :=
  fun w' hA hD => h w' (h1.go hA hP) (fun r hr => hD r (hC r hr))
/-- What stands under the values of a row. -/
def unL : List VT → Nat
  | [] => 0
  | a :: r => under a + unL r
theorem underL_un (l : List VT) : underL l = l.length + unL l := by
  induction l with
  | nil => rfl
  | cons a r ih => simp only [underL, unL, List.length_cons, ih]; omega
def need (st : List Row) : Nat := (st.map fun r => unL r.l).sum
def msum (st : List Row) : Nat := (st.map fun r => underL r.l + 1).sum
theorem need_append (a b : List Row) : need (a ++ b) = need a + need b := by simp [need]
theorem msum_append (a b : List Row) : msum (a ++ b) = msum a + msum b := by simp [msum]
theorem unL_drop {l : List VT} {i : Nat} {y : VT} (h : l[i]? = some y) : unL (l.drop i) = under y + unL (l.drop (i + 1)) := by
  obtain ⟨h1, rfl⟩ := List.getElem?_eq_some_iff.1 h
  rw [List.drop_eq_getElem_cons h1]; rfl
theorem underL_drop {l : List VT} {i : Nat} {y : VT} (h : l[i]? = some y) : underL (l.drop i) = 1 + under y + underL (l.drop (i + 1)) := by
  obtain ⟨h1, rfl⟩ := List.getElem?_eq_some_iff.1 h
  rw [List.drop_eq_getElem_cons h1]; rfl

theorem VIn.one {w : World} {S : Nat → Prop} {x : VT} {cs : List Value} (h : VIn w S x cs) : cs.length = 7 ∧ ∀ u ∈ cs, u.oneCell' = true := by
  cases h with
  | mk => exact ⟨rfl, by intro u hu; simp only [List.mem_cons, List.not_mem_nil, or_false] at hu; rcases hu with rfl | rfl | rfl | rfl | rfl | rfl | rfl <;> rfl⟩
/-- A row's cells, one behind the other. -/
theorem RdL.flat {w : World} {S : Nat → Prop} {A : Option Addr} {n : Nat} {l : List VT} (h : RdL w S A n l) :
    ∃ (cv : List Value) (cs : Nat → List Value), cv.length = n * 7 ∧ (∀ i, i < n → (cs i).length = 7 ∧ ∀ j, j < 7 → cv[i * 7 + j]? = (cs i)[j]?) ∧ (0 < n → ∃ b off, A = some ⟨b, off, none⟩ ∧ S b ∧ ∀ j u, cv[j]? = some u → w.cell? ⟨b, off + j, none⟩ = some u) ∧ (∀ u ∈ cv, u.oneCell' = true) ∧ ∀ i x, l[i]? = some x → VIn w S x (cs i) := by
  obtain ⟨h1, _, cs, h3, h4⟩ := h
  have hlen : ∀ i, i < n → (cs i).length = 7 := fun i hi => (h4 i _ (List.getElem?_eq_getElem (by omega))).one.1
  have hcv : ∀ i j, i < n → j < 7 → ((List.range (n * 7)).map fun q => ((cs (q / 7))[q % 7]?).getD undef)[i * 7 + j]? = (cs i)[j]? := fun i j hi hj => by
    have hl := hlen i hi
    rw [List.getElem?_map, List.getElem?_range (by omega)]
    have e1 : (i * 7 + j) / 7 = i := by omega
    have e2 : (i * 7 + j) % 7 = j := by omega
    simp only [Option.map_some, e1, e2]
    rw [List.getElem?_eq_getElem (by omega)]; rfl
  have hat : ∀ q u, ((List.range (n * 7)).map fun q => ((cs (q / 7))[q % 7]?).getD undef)[q]? = some u → q / 7 < n ∧ q % 7 < 7 ∧ (cs (q / 7))[q % 7]? = some u := fun q u hq => by
    have hlt : q < n * 7 := by have := (List.getElem?_eq_some_iff.1 hq).1; simpa using this
    have e0 : q / 7 * 7 + q % 7 = q := by omega
    have h5 := hcv (q / 7) (q % 7) (by omega) (by omega)
    rw [e0, hq] at h5
    exact ⟨by omega, by omega, h5.symm⟩
  refine ⟨_, cs, by simp, fun i hi => ⟨hlen i hi, fun j hj => hcv i j hi hj⟩, fun h0 => ?_, fun u hu => ?_, h4⟩
  · obtain ⟨b, off, e, hS, h5⟩ := h3 h0
    refine ⟨b, off, e, hS, fun q u hq => ?_⟩
    obtain ⟨a1, a2, a3⟩ := hat q u hq
    have := (h5 (q / 7) a1).2 (q % 7) a2
    rw [show q / 7 * 7 + q % 7 = q by omega] at this
    rw [this, a3]
  · obtain ⟨q, hq⟩ := List.mem_iff_getElem?.1 hu
    obtain ⟨a1, a2, a3⟩ := hat q u hq
    exact (h4 (q / 7) _ (List.getElem?_eq_getElem (by omega))).one.2 u (List.mem_of_getElem? a3)
/-- The row that fresh has made still holds old values. -/
theorem rowO_fresh {w w2 : World} {S : Nat → Prop} {base b0 : Nat} {L1 : Option Addr} {ln lc1 : Nat} {cv : List Value} {cs : Nat → List Value} {l : List VT} (hO : w2.ownsRow b0 28 7 (.slice L1 ln lc1) ln cv) (hb : base ≤ b0) (hl : l.length = ln) (hln : ln ≤ 1256584717458)
    (hcs : ∀ i, i < ln → (cs i).length = 7 ∧ ∀ j, j < 7 → cv[i * 7 + j]? = (cs i)[j]?) (hv : ∀ i x, l[i]? = some x → VIn w S x (cs i)) (hk : ∀ p : Addr, S p.block → w2.cell? p = w.cell? p) : RowO w2 S base ⟨L1, ln, lc1, l⟩ := by
  refine ⟨hl, ?_, hln, fun h0 => ?_, cs, fun b e i hi => ⟨(hcs i hi).1, fun j hj => ?_⟩, fun i x hx => (hv i x hx).keep hk⟩
  · rcases hO.2 with ⟨e1, e2⟩ | ⟨g, cap, cur, e1, _, _, h5, _⟩
    · show ln ≤ lc1
      omega
    · injection e1 with _ _ e1
      show ln ≤ lc1
      omega
  · rcases hO.2 with ⟨e1, e2⟩ | ⟨g, cap, cur, e1, h2, h3, h5, h6, h7, _⟩
    · have : 0 < ln := h0
      omega
    · injection e1 with e1
      exact ⟨g, cur, cap, e1, Nat.le_trans hb h2, h3, h5, h7⟩
  · have e' : L1 = some ⟨b, 0, none⟩ := e
    subst e'
    have hi' : i < ln := hi
    rw [hO.cellAt (i * 7 + j) (by omega)]
    exact (hcs i hi').2 j hj
end Go.Proofs.YtpmdcahomkdfmaaGreatDoor

namespace Go.Proofs.YtpmdcahomkdfmaaGreatDoor
open Go.RowKit

theorem Agree.mono {w w' : World} {P P' : Nat → Prop} (h : Agree w w' P) (hP : ∀ b, P b → P' b) : Agree w w' P' := ⟨h.1, fun b hb hp => h.2 b hb fun h2 => hp (hP b h2)⟩
theorem cell_seven {w : World} {b : Nat} {p : Addr} (h : p.block ≠ b) (v0 v1 v2 v3 v4 v5 v6 : Value) : (((((((w.setCell ⟨b, 0, none⟩ v0).setCell ⟨b, 1, none⟩ v1).setCell ⟨b, 2, none⟩ v2).setCell ⟨b, 3, none⟩ v3).setCell ⟨b, 4, none⟩ v4).setCell ⟨b, 5, none⟩ v5).setCell ⟨b, 6, none⟩ v6).cell? p = w.cell? p :=
  World.cell?_of_block ((Below.heap_setCell _ _ _ _ h).trans ((Below.heap_setCell _ _ _ _ h).trans ((Below.heap_setCell _ _ _ _ h).trans ((Below.heap_setCell _ _ _ _ h).trans ((Below.heap_setCell _ _ _ _ h).trans ((Below.heap_setCell _ _ _ _ h).trans (Below.heap_setCell _ _ _ _ h)))))))
/-- Seven cells stored, one behind the other. -/
theorem seven_at {w : World} {g b0 : Nat} {cur : Array Value} {e : TypeId} (h : w.heap[g]? = some (.cells cur e)) (hs : b0 + 7 ≤ cur.size) (v0 v1 v2 v3 v4 v5 v6 : Value) :
    ∃ cur', (((((((w.setCell ⟨g, b0, none⟩ v0).setCell ⟨g, b0 + 1, none⟩ v1).setCell ⟨g, b0 + 2, none⟩ v2).setCell ⟨g, b0 + 3, none⟩ v3).setCell ⟨g, b0 + 4, none⟩ v4).setCell ⟨g, b0 + 5, none⟩ v5).setCell ⟨g, b0 + 6, none⟩ v6).heap[g]? = some (.cells cur' e) ∧ cur'.size = cur.size ∧ (∀ q, (q < b0 ∨ b0 + 7 ≤ q) → (((((((w.setCell ⟨g, b0, none⟩ v0).setCell ⟨g, b0 + 1, none⟩ v1).setCell ⟨g, b0 + 2, none⟩ v2).setCell ⟨g, b0 + 3, none⟩ v3).setCell ⟨g, b0 + 4, none⟩ v4).setCell ⟨g, b0 + 5, none⟩ v5).setCell ⟨g, b0 + 6, none⟩ v6).cell? ⟨g, q, none⟩ = w.cell? ⟨g, q, none⟩) ∧ (∀ j, j < 7 → (((((((w.setCell ⟨g, b0, none⟩ v0).setCell ⟨g, b0 + 1, none⟩ v1).setCell ⟨g, b0 + 2, none⟩ v2).setCell ⟨g, b0 + 3, none⟩ v3).setCell ⟨g, b0 + 4, none⟩ v4).setCell ⟨g, b0 + 5, none⟩ v5).setCell ⟨g, b0 + 6, none⟩ v6).cell? ⟨g, b0 + j, none⟩ = ([v0, v1, v2, v3, v4, v5, v6] : List Value)[j]?) ∧ (∀ b, b ≠ g → (((((((w.setCell ⟨g, b0, none⟩ v0).setCell ⟨g, b0 + 1, none⟩ v1).setCell ⟨g, b0 + 2, none⟩ v2).setCell ⟨g, b0 + 3, none⟩ v3).setCell ⟨g, b0 + 4, none⟩ v4).setCell ⟨g, b0 + 5, none⟩ v5).setCell ⟨g, b0 + 6, none⟩ v6).heap[b]? = w.heap[b]?) ∧ (((((((w.setCell ⟨g, b0, none⟩ v0).setCell ⟨g, b0 + 1, none⟩ v1).setCell ⟨g, b0 + 2, none⟩ v2).setCell ⟨g, b0 + 3, none⟩ v3).setCell ⟨g, b0 + 4, none⟩ v4).setCell ⟨g, b0 + 5, none⟩ v5).setCell ⟨g, b0 + 6, none⟩ v6).heap.size = w.heap.size := by
  have h7 := setCell_box (j := b0 + 6) (setCell_box (j := b0 + 5) (setCell_box (j := b0 + 4) (setCell_box (j := b0 + 3) (setCell_box (j := b0 + 2) (setCell_box (j := b0 + 1) (setCell_box (j := b0) h v0) v1) v2) v3) v4) v5) v6
  refine ⟨_, h7, by simp, fun q hq => ?_, fun j hj => ?_, fun b hb => ?_, by simp [World.setCell]⟩
  · rw [cell_of_row _ g q _ e (0, 0) h7, cell_of_row _ g q _ e (0, 0) h]
    simp only [Array.getElem?_setIfInBounds]
    repeat' split
    all_goals first | rfl | omega
  · rw [cell_of_row _ g (b0 + j) _ e (0, 0) h7]
    simp only [Array.getElem?_setIfInBounds, Array.size_setIfInBounds]
    match j, hj with
    | 0, _ => simp; omega
    | 1, _ => simp; omega
    | 2, _ => simp; omega
    | 3, _ => simp; omega
    | 4, _ => simp; omega
    | 5, _ => simp; omega
    | 6, _ => simp; omega
  · exact (Below.heap_setCell _ _ _ _ hb).trans ((Below.heap_setCell _ _ _ _ hb).trans ((Below.heap_setCell _ _ _ _ hb).trans ((Below.heap_setCell _ _ _ _ hb).trans ((Below.heap_setCell _ _ _ _ hb).trans ((Below.heap_setCell _ _ _ _ hb).trans (Below.heap_setCell _ _ _ _ hb))))))
/-- Zero cells of a value. -/
def zeroV : Array Value := #[.int .i64 0, .bool false, .slice none 0 0, .int .i64 0, .string ⟨#[]⟩, .slice none 0 0, .slice none 0 0]
/-- Between two rows. -/
structure OutI (w : World) (S : Nat → Prop) (ok : Prop) (x : VT) (csR : List Value) (ob : Nat) (wr : World) (lvv : Value) (R : Int) (st : List Row) : Prop where
  own : wr.ownsRow (w.heap.size + 2) 25 1 lvv st.length (st.map Row.val)
  nn : lvv ≠ .slice none 0 0
  rows : ∀ r ∈ st, RowO wr S (w.heap.size + 2) r
  apart : st.Pairwise (fun r s => ∀ b, r.at b → ¬ s.at b)
  root : ElemW wr (w.heap.size + 2) ok (Pend st) st x csR
  box : wr.heap[ob]? = some (.cells csR.toArray 28)
  nobox : ∀ r ∈ st, ¬ r.at ob
  res : wr.heap[w.heap.size + 1]? = some (.cells zeroV 28)
  below : Below w.heap.size w wr
  obl : w.heap.size + 2 ≤ ob
  room : ok → (need st : Int) ≤ R
  few : ok → (st.length : Int) + R ≤ 21474837
  rlo : -9223372036854775808 ≤ R
  rhi : R ≤ 21474836
/-- Within a row. -/
structure InI (w : World) (S : Nat → Prop) (ok : Prop) (csR : List Value) (ob : Nat) (wp : World) (st0 : List Row) (r : Row) (wr : World) (lvv : Value) (R : Int) (C : List Row) (i : Nat) (cs : Nat → List Value) : Prop where
  own : wr.ownsRow (w.heap.size + 2) 25 1 lvv (st0 ++ C).length ((st0 ++ C).map Row.val)
  nn : lvv ≠ .slice none 0 0
  rows : ∀ s ∈ st0 ++ C, RowO wr S (w.heap.size + 2) s
  apart : (st0 ++ C).Pairwise (fun r s => ∀ b, r.at b → ¬ s.at b)
  nog : ∀ s ∈ st0 ++ C, ∀ b, s.at b → ¬ r.at b
  newC : ∀ s ∈ C, ∀ b, s.at b → wp.heap.size ≤ b
  gtype : ∀ b, r.at b → w.heap.size + 2 ≤ b ∧ b < wp.heap.size ∧ ∃ cur cap, wr.heap[b]? = some (.cells cur 28) ∧ r.n ≤ cap ∧ cur.size = cap * 7
  cells : ∀ b, r.A = some ⟨b, 0, none⟩ → ∀ m, m < r.n → (cs m).length = 7 ∧ ∀ j, j < 7 → wr.cell? ⟨b, m * 7 + j, none⟩ = (cs m)[j]?
  done : ∀ m y, m < i → r.l[m]? = some y → ElemW wr (w.heap.size + 2) ok (fun b => Pend (st0 ++ C) b ∨ r.at b) C y (cs m)
  old : ∀ m y, i ≤ m → r.l[m]? = some y → VIn wr S y (cs m)
  agree : Agree wp wr (fun b => r.at b)
  box : wr.heap[ob]? = some (.cells csR.toArray 28)
  nobox : ∀ s ∈ st0 ++ C, ¬ s.at ob
  noboxr : ¬ r.at ob
  res : wr.heap[w.heap.size + 1]? = some (.cells zeroV 28)
  below : Below w.heap.size w wr
  obl : w.heap.size + 2 ≤ ob
  obp : ob < wp.heap.size
  room : ok → ((need (st0 ++ C) + unL (r.l.drop i) : Nat) : Int) ≤ R
  few : ok → ((st0 ++ C).length : Int) + R ≤ 21474837
  rlo : -9223372036854775808 ≤ R
  rhi : R ≤ 21474836
  meas : msum C + underL (r.l.drop i) ≤ underL r.l

/-- A row is taken off. -/
theorem OutI.pop {w : World} {S : Nat → Prop} {ok : Prop} {x : VT} {csR : List Value} {ob : Nat} {wr : World} {lvv lv2 : Value} {R : Int} {st0 : List Row} {r : Row} (h : OutI w S ok x csR ob wr lvv R (st0 ++ [r]))
    (hown : wr.ownsRow (w.heap.size + 2) 25 1 lv2 st0.length (st0.map Row.val)) (hnn : lv2 ≠ .slice none 0 0) : ∃ cs, InI w S ok csR ob wr st0 r wr lv2 R [] 0 cs := by
  have hr := h.rows r (by simp)
  obtain ⟨h1, h2, h3, h4, cs, h5, h6⟩ := hr
  have hap := List.pairwise_append.1 h.apart
  refine ⟨cs, ?_⟩
  refine { own := by rw [List.append_nil]; exact hown, nn := hnn, rows := ?_, apart := ?_, nog := ?_, newC := ?_, gtype := ?_, cells := ?_, done := ?_, old := ?_, agree := Agree.refl _ _, box := h.box, nobox := ?_, noboxr := h.nobox r (by simp), res := h.res, below := h.below, obl := h.obl, obp := (Array.getElem?_eq_some_iff.1 h.box).1, room := ?_, few := fun ho => by have := h.few ho; simp at this ⊢; omega, rlo := h.rlo, rhi := h.rhi, meas := ?_ }
  · intro s hs; rw [List.append_nil] at hs; exact h.rows s (by simp [hs])
  · rw [List.append_nil]; exact hap.1
  · intro s hs; rw [List.append_nil] at hs; exact hap.2.2 s hs r (by simp)
  · intro s hs; simp at hs
  · intro b hb
    obtain ⟨b2, cur, cap, e, hB, hh, hc⟩ := h4 hb.1
    have e2 := hb.2
    rw [e, Option.some.injEq, Addr.mk.injEq] at e2
    obtain ⟨rfl, -⟩ := e2
    exact ⟨hB, (Array.getElem?_eq_some_iff.1 hh).1, cur, cap, hh, hc⟩
  · exact h5
  · intro m y hm; exact absurd hm (Nat.not_lt_zero _)
  · intro m y _ hy; exact h6 m y hy
  · intro s hs; rw [List.append_nil] at hs; exact h.nobox s (by simp [hs])
  · intro ho
    have := h.room ho
    rw [need_append] at this
    rw [List.append_nil, List.drop_zero]
    simp [need] at this ⊢
    omega
  · simp [msum]
/-- A row is filled in. -/
theorem InI.done_row {w : World} {S : Nat → Prop} {ok : Prop} {x : VT} {csR : List Value} {ob : Nat} {wp wr : World} {lvv lv2 : Value} {R R2 : Int} {st0 C : List Row} {r : Row} {cs : Nat → List Value} (h : InI w S ok csR ob wp st0 r wr lv2 R2 C r.n cs) (hO : OutI w S ok x csR ob wp lvv R (st0 ++ [r])) :
    OutI w S ok x csR ob wr lv2 R2 (st0 ++ C) := by
  have hr := hO.rows r (by simp)
  have hlen : r.l.length = r.n := hr.1
  refine { own := h.own, nn := h.nn, rows := h.rows, apart := h.apart, root := ?_, box := h.box, nobox := h.nobox, res := h.res, below := h.below, obl := h.obl, room := ?_, few := h.few, rlo := h.rlo, rhi := h.rhi }
  · intro w' hA hD
    have hAp : Agree wp w' (Pend (st0 ++ [r])) := (h.agree.mono (fun b hb => ⟨r, by simp, hb⟩)).go hA (by
      rintro b hb ⟨s, hs, hsb⟩
      rcases List.mem_append.1 hs with hs | hs
      · exact ⟨s, by simp [hs], hsb⟩
      · have := h.newC s hs b hsb; omega)
    refine hO.root w' hAp ?_
    intro s hs
    rcases List.mem_append.1 hs with hs | hs
    · exact hD s (by simp [hs])
    · obtain rfl : s = r := by simpa using hs
      have hA2 : Agree wr w' (fun b => Pend (st0 ++ C) b ∨ s.at b) := hA.mono fun b hb => .inl hb
      have hall : ∀ m, m < s.n → ∃ y' : VT, (ok → s.l[m]? = some y') ∧ VIn w' (Own' (w.heap.size + 2) w') y' (cs m) := fun m hm => by
        have hy : s.l[m]? = some s.l[m] := List.getElem?_eq_getElem (by omega)
        obtain ⟨y', e1, e2⟩ := h.done m _ hm hy w' hA2 (fun q hq => hD q (by simp [hq]))
        exact ⟨y', fun ho => by rw [e1 ho]; exact hy, e2⟩
      have hdef : Inhabited VT := ⟨.mk 0 false [] 0 ⟨#[]⟩ [] []⟩
      obtain ⟨Y, hY⟩ := Go.Deep.choose_lt hall
      refine ⟨(List.range s.n).map Y, fun ho => ?_, by simp, by have := hr.2.2.1; omega, cs, fun h0 => ?_, fun i z hi => ?_⟩
      · apply List.ext_getElem (by simp [hlen])
        intro i h1 h2
        have h3 : i < s.n := by simpa using h1
        have h4 := (hY i h3).1 ho
        rw [List.getElem?_eq_getElem (by omega)] at h4
        injection h4 with h4
        simp [h4]
      · obtain ⟨b, cur0, cap0, e, hB, hh0, _⟩ := hr.2.2.2.1 h0
        have hat : s.at b := ⟨h0, e⟩
        obtain ⟨_, hlt, cur, cap, hh, _⟩ := h.gtype b hat
        have hsz : b < wr.heap.size := (Array.getElem?_eq_some_iff.1 hh).1
        have hsame : w'.heap[b]? = wr.heap[b]? := hA.2 b hsz (by
          rintro ⟨q, hq, hqb⟩
          exact h.nog q hq b hqb hat) (fun cur2 h5 => by
          rw [hh] at h5
          simp only [Option.some.injEq, Obj.cells.injEq] at h5
          exact absurd h5.2.1 (by decide))
        refine ⟨b, 0, e, ⟨hB, Nat.lt_of_lt_of_le hsz hA.1⟩, fun m hm => ⟨(h.cells b e m hm).1, fun j hj => ?_⟩⟩
        rw [Nat.zero_add]
        exact (World.cell?_of_block hsame).trans ((h.cells b e m hm).2 j hj)
      · obtain ⟨hi2, rfl⟩ := List.getElem?_eq_some_iff.1 hi
        have hil : i < s.n := by simpa using hi2
        simpa using (hY i hil).2
  · intro ho
    have := h.room ho
    rw [List.drop_of_length_le (by omega)] at this
    simp only [unL] at this
    omega

/-- A value of the row is filled in. -/
theorem InI.step {w : World} {S : Nat → Prop} {ok : Prop} {csR : List Value} {ob : Nat} {wp wr w4 w6 : World} {lvv lv2 : Value} {R R2 : Int} {st0 C D : List Row} {r : Row} {i g : Nat} {cs csl : Nat → List Value} {cv : List Value}
    {y : VT} {k : Int} {neg : Bool} {xs : List Nat} {e : Int} {t : ByteArray} {l : List VT} {ks : List ByteArray} {A1 L1 K1 : Option Addr} {n c1 ln lc1 kn kc1 : Nat}
    (h : InI w S ok csR ob wp st0 r wr lvv R C i cs) (hS : ∀ b, S b → b < w.heap.size) (hi : i < r.n) (hg : r.A = some ⟨g, 0, none⟩) (hy : r.l[i]? = some y) (hok : ok → y = .mk k neg xs e t l ks) (hun : underL l ≤ under y)
    (hb4 : Below wr.heap.size wr w4)
    (hx : L32 xs) (hxl : xs.length = n) (hC : w4.ownsRow wr.heap.size 72 1 (.slice A1 n c1) n (u32s xs)) (hK : w4.ownsRow wr.heap.size 9 1 (.slice K1 kn kc1) kn (strs ks)) (hL : w4.ownsRow wr.heap.size 28 7 (.slice L1 ln lc1) ln cv)
    (hn : n ≤ 35184372088832) (ht : t.size ≤ 140737488355328) (hkn : kn ≤ 8796093022208) (hkl : ks.length = kn) (hks : ∀ s ∈ ks, s.size ≤ 140737488355328) (hll : l.length = ln) (hln : ln ≤ 1256584717458)
    (hcs : ∀ i, i < ln → (csl i).length = 7 ∧ ∀ j, j < 7 → cv[i * 7 + j]? = (csl i)[j]?) (hvl : ∀ i x, l[i]? = some x → VIn w S x (csl i))
    (hs6 : w4.heap.size ≤ w6.heap.size) (h6 : ∀ b, b < w4.heap.size → b ≠ g → (∀ cur, w4.heap[b]? ≠ some (.cells cur 25)) → w6.heap[b]? = w4.heap[b]?)
    (hgt : ∃ cur cap, w6.heap[g]? = some (.cells cur 28) ∧ r.n ≤ cap ∧ cur.size = cap * 7)
    (hcell : ∀ m j, m < r.n → j < 7 → m ≠ i → w6.cell? ⟨g, m * 7 + j, none⟩ = w4.cell? ⟨g, m * 7 + j, none⟩)
    (hnew : ∀ j, j < 7 → w6.cell? ⟨g, i * 7 + j, none⟩ = ([.int .i64 k, .bool neg, .slice A1 n c1, .int .i64 e, .string t, .slice L1 ln lc1, .slice K1 kn kc1] : List Value)[j]?)
    (hb6 : Below w.heap.size w w6)
    (hD : (D = [] ∧ ln = 0) ∨ (D = [⟨L1, ln, lc1, l⟩] ∧ 0 < ln))
    (hown : w6.ownsRow (w.heap.size + 2) 25 1 lv2 (st0 ++ (C ++ D)).length ((st0 ++ (C ++ D)).map Row.val)) (hnn : lv2 ≠ .slice none 0 0)
    (hR : ok → R2 = R - (ln : Int)) (hlo : -9223372036854775808 ≤ R2) (hhi : R2 ≤ 21474836) :
    InI w S ok csR ob wp st0 r w6 lv2 R2 (C ++ D) (i + 1) (fun m => if m = i then [.int .i64 k, .bool neg, .slice A1 n c1, .int .i64 e, .string t, .slice L1 ln lc1, .slice K1 kn kc1] else cs m) := by
  have hat : r.at g := ⟨by omega, hg⟩
  obtain ⟨hgb, hgp, curg, capg, hgh, hgc, hgs⟩ := h.gtype g hat
  have hgw : g < wr.heap.size := (Array.getElem?_eq_some_iff.1 hgh).1
  have h4s := hb4.size
  have hwp : wp.heap.size ≤ wr.heap.size := h.agree.1
  have hSk : ∀ p : Addr, S p.block → w6.cell? p = wr.cell? p := fun p hp => (hb6.cell (hS _ hp)).trans (h.below.cell (hS _ hp)).symm
  have hatg : ∀ b, r.at b → b = g := fun b hb => by
    have := hb.2
    rw [hg, Option.some.injEq, Addr.mk.injEq] at this
    exact this.1.symm
  -- what is no stack and not g stays
  have hst : ∀ b, b < wr.heap.size → b ≠ g → (∀ cur, wr.heap[b]? ≠ some (.cells cur 25)) → w6.heap[b]? = wr.heap[b]? := fun b hb hne hty =>
    (h6 b (by omega) hne (fun cur h9 => hty cur ((hb4.block b hb).symm.trans h9))).trans (hb4.block b hb)
  have hnotstack : ∀ {b : Nat} {cur cur2 : Array Value} {W : World}, W.heap[b]? = some (.cells cur 28) → W.heap[b]? ≠ some (.cells cur2 25) := fun h1 h2 => by
    rw [h1] at h2
    simp only [Option.some.injEq, Obj.cells.injEq] at h2
    exact absurd h2.2.1 (by decide)
  have hrowkeep : ∀ s ∈ st0 ++ C, RowO w6 S (w.heap.size + 2) s := fun s hs => by
    refine (h.rows s hs).keep (fun b hb => ?_) hSk
    obtain ⟨_, hlt, cur, hh⟩ := (h.rows s hs).lt hb
    exact hst b hlt (fun e => h.nog s hs b hb (e ▸ hat)) (fun cur2 => hnotstack hh)
  have hDat : ∀ s ∈ D, ∀ b, s.at b → wr.heap.size ≤ b ∧ b < w4.heap.size := fun s hs b hb => by
    rcases hD with ⟨rfl, _⟩ | ⟨rfl, h0⟩
    · simp at hs
    · obtain rfl : s = ⟨L1, ln, lc1, l⟩ := by simpa using hs
      rcases hL.2 with ⟨e1, e2⟩ | ⟨q, cap, cur, e1, e2, e3, _⟩
      · omega
      · injection e1 with e1
        have e5 : L1 = some ⟨b, 0, none⟩ := hb.2
        rw [e5, Option.some.injEq, Addr.mk.injEq] at e1
        obtain ⟨rfl, -⟩ := e1
        exact ⟨e2, (Array.getElem?_eq_some_iff.1 e3).1⟩
  have hDrow : ∀ s ∈ D, RowO w6 S (w.heap.size + 2) s := fun s hs => by
    rcases hD with ⟨rfl, _⟩ | ⟨rfl, h0⟩
    · simp at hs
    · obtain rfl : s = ⟨L1, ln, lc1, l⟩ := by simpa using hs
      have hL6 : w6.ownsRow wr.heap.size 28 7 (.slice L1 ln lc1) ln cv := own_at hL fun q cur hq hh => h6 q (Array.getElem?_eq_some_iff.1 hh).1 (fun e => by
        have h9 : wr.heap.size ≤ q := by
          rcases hL.2 with ⟨e1, e2⟩ | ⟨q2, cap, cur2, e1, e2, e3, _⟩
          · omega
          · injection e1 with e1
            rw [e1] at hq
            simp only [Value.ownBlock, Option.some.injEq] at hq
            omega
        omega) (fun cur2 => hnotstack hh)
      exact rowO_fresh hL6 (by have := h.below.size; omega) hll hln hcs hvl (fun p hp => hb6.cell (hS _ hp))
  have hagree6 : Agree wr w6 (fun b => r.at b) := ⟨by omega, fun b hb hp hty => hst b hb (fun e => hp (e ▸ hat)) hty⟩
  refine { own := hown, nn := hnn, rows := ?_, apart := ?_, nog := ?_, newC := ?_, gtype := ?_, cells := ?_, done := ?_, old := ?_, agree := ?_, box := ?_, nobox := ?_, noboxr := h.noboxr, res := ?_, below := hb6, obl := h.obl, obp := h.obp, room := ?_, few := ?_, rlo := hlo, rhi := hhi, meas := ?_ }
  · intro s hs
    rw [← List.append_assoc] at hs
    rcases List.mem_append.1 hs with hs | hs
    · exact hrowkeep s hs
    · exact hDrow s hs
  · rw [← List.append_assoc]
    refine List.pairwise_append.2 ⟨h.apart, ?_, fun s hs q hq b hsb hqb => ?_⟩
    · rcases hD with ⟨rfl, _⟩ | ⟨rfl, _⟩
      · exact List.Pairwise.nil
      · exact List.pairwise_singleton _ _
    · have h1 := ((h.rows s hs).lt hsb).2.1
      have h2 := (hDat q hq b hqb).1
      omega
  · intro s hs b hsb
    rw [← List.append_assoc] at hs
    rcases List.mem_append.1 hs with hs | hs
    · exact h.nog s hs b hsb
    · intro hrb
      have h1 := (hDat s hs b hsb).1
      have h2 := hatg b hrb
      omega
  · intro s hs b hsb
    rcases List.mem_append.1 hs with hs | hs
    · exact h.newC s hs b hsb
    · have := (hDat s hs b hsb).1
      omega
  · intro b hb
    obtain rfl := hatg b hb
    obtain ⟨cur, cap, a1, a2, a3⟩ := hgt
    exact ⟨hgb, hgp, cur, cap, a1, a2, a3⟩
  · intro b hb m hm
    have hbg : b = g := hatg b ⟨by omega, hb⟩
    subst hbg
    by_cases hmi : m = i
    · subst hmi
      simp only [if_true]
      exact ⟨rfl, hnew⟩
    · simp only [if_neg hmi]
      refine ⟨(h.cells b hb m hm).1, fun j hj => ?_⟩
      rw [hcell m j hm hj hmi, hb4.cell (p := ⟨b, m * 7 + j, none⟩) hgw]
      exact (h.cells b hb m hm).2 j hj
  · intro m z hm hz
    by_cases hmi : m = i
    · subst hmi
      rw [hy] at hz
      injection hz with hz
      subst hz
      simp only [if_true]
      intro w' hA hDn
      have hsz6 : ∀ b, (Pend (st0 ++ (C ++ D)) b ∨ r.at b) → ∃ cur, w6.heap[b]? = some (.cells cur 28) := fun b hb => by
        rcases hb with ⟨s, hs, hsb⟩ | hb
        · rw [← List.append_assoc] at hs
          rcases List.mem_append.1 hs with hs | hs
          · exact ((hrowkeep s hs).lt hsb).2.2
          · exact ((hDrow s hs).lt hsb).2.2
        · obtain rfl := hatg b hb
          obtain ⟨cur, cap, a1, _⟩ := hgt
          exact ⟨cur, a1⟩
      have hup : ∀ {et : TypeId} {sz : Nat} {v : Value} {q : Nat} {zs : List Value}, et ≠ 28 → et ≠ 25 → w4.ownsRow wr.heap.size et sz v q zs → w6.ownsRow wr.heap.size et sz v q zs := fun h1 h2 ho => own_at ho fun b cur _ hh => h6 b (Array.getElem?_eq_some_iff.1 hh).1 (fun e => by
          subst e
          rw [hb4.block b hgw, hgh] at hh
          simp only [Option.some.injEq, Obj.cells.injEq] at hh
          exact h1 hh.2.1.symm) (fun cur2 h9 => by
          rw [hh] at h9
          simp only [Option.some.injEq, Obj.cells.injEq] at h9
          exact h2 h9.2.1)
      have hLd : ∃ l', (ok → l' = l) ∧ RdL w' (Own' (w.heap.size + 2) w') L1 ln l' ∧ l'.length = ln := by
        rcases hD with ⟨_, h0⟩ | ⟨rfl, _⟩
        · subst h0
          exact ⟨[], fun _ => (List.eq_nil_of_length_eq_zero hll).symm, RdL.nil _ _ _, rfl⟩
        · obtain ⟨l', a1, a2⟩ := hDn ⟨L1, ln, lc1, l⟩ (by simp)
          exact ⟨l', a1, a2, a2.1⟩
      obtain ⟨l', b1, b2, _⟩ := hLd
      have hlc : ln ≤ lc1 := by
        rcases hL.2 with ⟨e1, e2⟩ | ⟨q, cap, cur, e1, _, _, e5, _⟩
        · omega
        · injection e1 with _ _ e1
          omega
      refine ⟨.mk k neg xs e t l' ks, fun ho => by rw [b1 ho, hok ho], fresh_vin (P := fun b => Pend (st0 ++ (C ++ D)) b ∨ r.at b) hA hsz6 hx hxl (hup (by decide) (by decide) hC) (hup (by decide) (by decide) hK) (by have := h.below.size; have := h.obl; have := h.obp; omega) hn ht hkn hkl hks b2 hln hlc⟩
    · simp only [if_neg hmi]
      refine (h.done m z (by omega) hz).go (hagree6.mono fun b hb => .inr hb) (fun b hb hp => ?_) (fun s hs => by simp [hs])
      rcases hp with ⟨s, hs, hsb⟩ | hp
      · rw [← List.append_assoc] at hs
        rcases List.mem_append.1 hs with hs | hs
        · exact .inl ⟨s, hs, hsb⟩
        · have := (hDat s hs b hsb).1
          omega
      · exact .inr hp
  · intro m z hm hz
    have hmi : m ≠ i := by omega
    simp only [if_neg hmi]
    exact (h.old m z (by omega) hz).keep hSk
  · exact h.agree.go hagree6 (fun b _ hp => hp)
  · exact (hst ob (by have := h.obp; omega) (fun e => h.noboxr (e ▸ hat)) (fun cur => hnotstack h.box)).trans h.box
  · intro s hs
    rw [← List.append_assoc] at hs
    rcases List.mem_append.1 hs with hs | hs
    · exact h.nobox s hs
    · intro hb
      have := (hDat s hs ob hb).1
      have := h.obp
      omega
  · exact (hst _ (by have := h.obl; have := h.obp; omega) (by omega) (fun cur => hnotstack h.res)).trans h.res
  · intro ho
    have h1 := h.room ho
    have h2 := unL_drop hy
    have h3 := hR ho
    have h4 : under y = ln + unL l := by rw [hok ho]; simp only [under]; rw [underL_un, hll]
    rw [← List.append_assoc, need_append]
    have h5 : need D ≤ unL l := by
      rcases hD with ⟨rfl, _⟩ | ⟨rfl, _⟩
      · simp [need]
      · simp [need]
    omega
  · intro ho
    have h1 := h.few ho
    have h3 := hR ho
    rw [← List.append_assoc, List.length_append]
    have h5 : D.length ≤ ln := by
      rcases hD with ⟨rfl, _⟩ | ⟨rfl, h0⟩
      · exact Nat.zero_le _
      · exact h0
    omega
  · have h1 := h.meas
    have h2 := underL_drop hy
    rw [msum_append]
    have h5 : msum D ≤ underL l + 1 := by
      rcases hD with ⟨rfl, _⟩ | ⟨rfl, _⟩
      · simp [msum]
      · simp [msum]
    omega
end Go.Proofs.YtpmdcahomkdfmaaGreatDoor

namespace Go.Proofs.YtpmdcahomkdfmaaGreatDoor
open Go.RowKit

set_option maxRecDepth 100000 in
set_option maxHeartbeats 8000000 in
theorem copiedWithin_c {S : Nat → Prop} {x : VT} {cs : List Value} (w : World) (hx : VIn w S x cs) (hS : ∀ b, S b → b < w.heap.size) (hsz : under x ≤ 21474836) :
    Calls Tryz.prog 68 #[.int .i64 21474836, .agg cs.toArray] w fun e' w' => ∃ cs', e' = .returned (.agg cs'.toArray) ∧ VIn w' (Own' w.heap.size w') x cs' ∧ Below w.heap.size w w' := by
  obtain ⟨k, neg, xs, e, t, li, ks, hxk⟩ : ∃ k neg xs e t li ks, x = VT.mk k neg xs e t li ks := by cases x; exact ⟨_, _, _, _, _, _, _, rfl⟩
  have hx2 := hx
  rw [hxk] at hx2
  obtain ⟨A, n, c, LA, ln, lc, KA, kn, kc, rfl, a1, a2, a3, a4, a5, a6, a7⟩ := hx2.parts
  obtain ⟨bn, bk, bl⟩ := hx2.bounds
  obtain ⟨cv, csl, hcl, hcs, hcc, hco, hvl⟩ := a4.flat
  have hW : Below w.heap.size w ((w.alloc (.cells #[.int .i64 k, .bool neg, .slice A n c, .int .i64 e, .string t, .slice LA ln lc, .slice KA kn kc] 28)).alloc (.cells #[.int .i64 0, .bool false, .slice none 0 0, .int .i64 0, .string ⟨#[]⟩, .slice none 0 0, .slice none 0 0] 28)) := ((Below.refl _ w).alloc (Nat.le_refl _) _).alloc (by simp) _
  have hm1 : ((w.alloc (.cells #[.int .i64 k, .bool neg, .slice A n c, .int .i64 e, .string t, .slice LA ln lc, .slice KA kn kc] 28)).alloc (.cells #[.int .i64 0, .bool false, .slice none 0 0, .int .i64 0, .string ⟨#[]⟩, .slice none 0 0, .slice none 0 0] 28)).heap[w.heap.size]? = some (.cells #[.int .i64 k, .bool neg, .slice A n c, .int .i64 e, .string t, .slice LA ln lc, .slice KA kn kc] 28) := (Below.heap_alloc _ _ _ (by simp)).trans (World.alloc_heap_new w _)
  have hm2 : ((w.alloc (.cells #[.int .i64 k, .bool neg, .slice A n c, .int .i64 e, .string t, .slice LA ln lc, .slice KA kn kc] 28)).alloc (.cells #[.int .i64 0, .bool false, .slice none 0 0, .int .i64 0, .string ⟨#[]⟩, .slice none 0 0, .slice none 0 0] 28)).heap[w.heap.size + 1]? = some (.cells #[.int .i64 0, .bool false, .slice none 0 0, .int .i64 0, .string ⟨#[]⟩, .slice none 0 0, .slice none 0 0] 28) := by
    have := World.alloc_heap_new (w.alloc (.cells #[.int .i64 k, .bool neg, .slice A n c, .int .i64 e, .string t, .slice LA ln lc, .slice KA kn kc] 28)) (.cells #[.int .i64 0, .bool false, .slice none 0 0, .int .i64 0, .string ⟨#[]⟩, .slice none 0 0, .slice none 0 0] 28)
    rwa [World.size_alloc] at this
  have hz : ((w.alloc (.cells #[.int .i64 k, .bool neg, .slice A n c, .int .i64 e, .string t, .slice LA ln lc, .slice KA kn kc] 28)).alloc (.cells #[.int .i64 0, .bool false, .slice none 0 0, .int .i64 0, .string ⟨#[]⟩, .slice none 0 0, .slice none 0 0] 28)).heap.size = w.heap.size + 2 := by simp
  go_enter Tryz.func68, Tryz.ntmps68
  go_upto_region 1 with fail
  generalize ((w.alloc (.cells #[.int .i64 k, .bool neg, .slice A n c, .int .i64 e, .string t, .slice LA ln lc, .slice KA kn kc] 28)).alloc (.cells #[.int .i64 0, .bool false, .slice none 0 0, .int .i64 0, .string ⟨#[]⟩, .slice none 0 0, .slice none 0 0] 28)) = W0 at *
  have HF := fresh_c (k := k) (neg := neg) (c := c) (e := e) (t := t) (lc := lc) (kc := kc) (cv := cv) W0 (a1.below hW hS) bn a3 hcl (fun h0 => by
    obtain ⟨b, off, e, hSb, h2⟩ := hcc h0
    exact ⟨b, off, e, fun j u hj => (hW.cell (p := ⟨b, off + j, none⟩) (hS b hSb)).trans (h2 j u hj)⟩) hco bl (a5.stay hW hS) bk (fun b hb => by have := hS b hb; omega) (fun b off h0 e => by
    obtain ⟨b2, off2, e2, hSb, _⟩ := hcc h0
    rw [e, Option.some.injEq, Addr.mk.injEq] at e2
    have := hS b2 hSb
    omega)
  unfold vv at HF
  obtain ⟨x0, x1, x2, x3, x4, x5, x6⟩ := box7_of hm1
  go_wp2_with fail
  refine HF.mono ?_
  rintro e' w1 ⟨A1, c1, L1, lc1, K1, kc1, rfl, hb1, hO, hL, hK⟩
  have hzw1 := hb1.size
  have hmz := (hb1.block _ (by omega)).trans hm2
  have hw1 := hW.trans (hb1.mono (by omega))
  clear x0 x1 x2 x3 x4 x5 x6 hm1 hm2 HF
  go_upto_region 3 with fail
  have hob : (((w1.alloc (.cells #[.int .i64 k, .bool neg, .slice A1 n c1, .int .i64 e, .string t, .slice L1 ln lc1, .slice K1 kn kc1] 28)).alloc (.cells #[.slice L1 ln lc1] 25))).heap.size = w1.heap.size + 2 := by simp
  have hW2 : Below w1.heap.size w1 ((w1.alloc (.cells #[.int .i64 k, .bool neg, .slice A1 n c1, .int .i64 e, .string t, .slice L1 ln lc1, .slice K1 kn kc1] 28)).alloc (.cells #[.slice L1 ln lc1] 25)) := ((Below.refl _ w1).alloc (Nat.le_refl _) _).alloc (by simp) _
  have hbx : ((w1.alloc (.cells #[.int .i64 k, .bool neg, .slice A1 n c1, .int .i64 e, .string t, .slice L1 ln lc1, .slice K1 kn kc1] 28)).alloc (.cells #[.slice L1 ln lc1] 25)).heap[w1.heap.size]? = some (.cells #[.int .i64 k, .bool neg, .slice A1 n c1, .int .i64 e, .string t, .slice L1 ln lc1, .slice K1 kn kc1] 28) := (Below.heap_alloc _ _ _ (by simp)).trans (World.alloc_heap_new w1 _)
  have hown : ((w1.alloc (.cells #[.int .i64 k, .bool neg, .slice A1 n c1, .int .i64 e, .string t, .slice L1 ln lc1, .slice K1 kn kc1] 28)).alloc (.cells #[.slice L1 ln lc1] 25)).ownsRow (w.heap.size + 2) 25 1 (.slice (some ⟨w1.heap.size + 1, 0, none⟩) 1 1) 1 [.slice L1 ln lc1] := by
    have := World.ownsRow_lit (base := w.heap.size + 2) (e := 25) (size := 1) (w1.alloc (.cells #[.int .i64 k, .bool neg, .slice A1 n c1, .int .i64 e, .string t, .slice L1 ln lc1, .slice K1 kn kc1] 28)) #[.slice L1 ln lc1] 1 (by simp; omega) (by unfold maxLen; omega) rfl
    simpa using this
  generalize ((w1.alloc (.cells #[.int .i64 k, .bool neg, .slice A1 n c1, .int .i64 e, .string t, .slice L1 ln lc1, .slice K1 kn kc1] 28)).alloc (.cells #[.slice L1 ln lc1] 25)) = W2 at *
  have hw2 := hw1.trans (hW2.mono (by omega))
  have hO2 := own_keep hO fun k _ h3 => hW2.block k h3
  have hL2 := own_keep hL fun k _ h3 => hW2.block k h3
  have hK2 := own_keep hK fun k _ h3 => hW2.block k h3
  have hks : ∀ s ∈ ks, s.size ≤ 140737488355328 := fun s hs => by
    obtain ⟨q, hq⟩ := List.mem_iff_getElem?.1 hs
    exact a5.size hq
  have hrow : RowO W2 S (w.heap.size + 2) ⟨L1, ln, lc1, li⟩ := rowO_fresh hL2 (by omega) a4.1 bl hcs hvl (fun p hp => hw2.cell (hS _ hp))
  have hat : ∀ b, (Row.mk L1 ln lc1 li).at b → w.heap.size + 2 ≤ b ∧ b < w1.heap.size := fun b hb => by
    obtain ⟨h1, h2, _⟩ := hrow.lt hb
    refine ⟨h1, ?_⟩
    rcases hL.2 with ⟨e1, e2⟩ | ⟨q, cap, cur, e1, _, e3, _⟩
    · have := hb.1
      have : 0 < ln := hb.1
      omega
    · injection e1 with e1
      have e5 : L1 = some ⟨b, 0, none⟩ := hb.2
      rw [e5, Option.some.injEq, Addr.mk.injEq] at e1
      obtain ⟨rfl, -⟩ := e1
      exact (Array.getElem?_eq_some_iff.1 e3).1
  have hlc : ln ≤ lc1 := hrow.2.1
  have hroot : ElemW W2 (w.heap.size + 2) True (Pend [⟨L1, ln, lc1, li⟩]) [⟨L1, ln, lc1, li⟩] x [.int .i64 k, .bool neg, .slice A1 n c1, .int .i64 e, .string t, .slice L1 ln lc1, .slice K1 kn kc1] := by
    intro w' hA hD
    obtain ⟨l', d1, d2⟩ := hD ⟨L1, ln, lc1, li⟩ (by simp)
    refine ⟨.mk k neg xs e t l' ks, fun ho => by rw [d1 ho, hxk], fresh_vin hA (fun b hb => ?_) a1.l32 a1.len hO2 hK2 (by omega) bn a3 bk a5.1 hks d2 bl hlc⟩
    obtain ⟨s, hs, hsb⟩ := hb
    obtain rfl : s = ⟨L1, ln, lc1, li⟩ := by simpa using hs
    exact (hrow.lt hsb).2.2
  have hOut : OutI w S True x [.int .i64 k, .bool neg, .slice A1 n c1, .int .i64 e, .string t, .slice L1 ln lc1, .slice K1 kn kc1] w1.heap.size W2 (.slice (some ⟨w1.heap.size + 1, 0, none⟩) 1 1) 21474836 [⟨L1, ln, lc1, li⟩] := {
    own := hown, nn := by simp, rows := fun r hr => by
      obtain rfl : r = ⟨L1, ln, lc1, li⟩ := by simpa using hr
      exact hrow
    apart := List.pairwise_singleton _ _, root := hroot, box := hbx
    nobox := fun r hr hb => by
      obtain rfl : r = ⟨L1, ln, lc1, li⟩ := by simpa using hr
      have := (hat _ hb).2
      omega
    res := (hW2.block _ (by omega)).trans hmz, below := hw2, obl := by omega
    room := fun _ => by
      have ho := hsz
      rw [hxk] at ho
      simp only [under] at ho
      rw [underL_un] at ho
      simp [need]
      omega
    few := fun _ => by simp
    rlo := by omega, rhi := by omega }
  have HOUT := Lib.hid hOut
  clear hOut hroot hrow hlc hO2 hL2 hK2 hO hL hK hown hbx hW2 hmz hw1 hw2 hob hzw1 hb1 hat hks hcl hcs hcc hco hvl hz hW a1 a4 a5 hx hx2
  obtain ⟨OB, hOB⟩ : ∃ OB, w1.heap.size = OB := ⟨_, rfl⟩
  rw [hOB] at HOUT ⊢
  clear hOB
  go_loopg [0, 6] (msum [⟨L1, ln, lc1, li⟩]) (fun kk rv lv wr => ∃ R st, rv = .int .i64 R ∧ OutI w S True x [.int .i64 k, .bool neg, .slice A1 n c1, .int .i64 e, .string t, .slice L1 ln lc1, .slice K1 kn kc1] OB wr lv R st ∧ kk = msum st)
  case atStart => exact ⟨21474836, _, rfl, HOUT.out, rfl⟩
  case round =>
    obtain ⟨R, st, rfl, hO, rfl⟩ := hrel
    rcases List.eq_nil_or_concat st with rfl | ⟨st0, ⟨rA, rn, rc, rl⟩, hst⟩
    · rcases hO.own.2 with ⟨e1, _⟩ | ⟨q, cap, cur, rfl, _⟩
      · exact absurd e1 hO.nn
      obtain ⟨x', f1, f2⟩ := hO.root wr (Agree.refl _ _) (fun r hr => by simp at hr)
      have HO := Lib.hid hO
      obtain ⟨x0, x1, x2, x3, x4, x5, x6⟩ := box7_of hO.box
      have hres := hO.res
      unfold zeroV at hres
      obtain ⟨z0, z1, z2, z3, z4, z5, z6⟩ := box7_of hres
      have fz : ∀ j, wr.frozen? ⟨w.heap.size + 1, j, none⟩ = false := fun j => frozen_of_row wr _ j _ _ hres
      have HF1 := Lib.hid f1
      have HF2 := Lib.hid f2
      have hobl := hO.obl
      clear hO f1 f2 hres
      go_wp2_with fail
      refine bodyPost_ret (v := .agg #[.int .i64 k, .bool neg, .slice A1 n c1, .int .i64 e, .string t, .slice L1 ln lc1, .slice K1 kn kc1]) (by simp [results, Tryz.results68, go_sem, z0, z1, z2, z3, z4, z5, z6]) rfl ?_
      refine ⟨[.int .i64 k, .bool neg, .slice A1 n c1, .int .i64 e, .string t, .slice L1 ln lc1, .slice K1 kn kc1], rfl, ?_, below_seven HO.out.below (by omega) _ _ _ _ _ _ _⟩
      obtain rfl : x' = x := HF1.out trivial
      refine (HF2.out.keep fun p hp => ?_).more fun b hb => ⟨by have := hb.1; omega, ?_⟩
      · have h1 := hp.1
        exact cell_seven (by omega) _ _ _ _ _ _ _
      · have := hb.2
        simpa [World.setCell] using this
    · rw [List.concat_eq_append] at hst
      subst hst
      rcases hO.own.2 with ⟨e1, _⟩ | ⟨q, cap, cur, rfl, hqb, _, hqc, hqm, _⟩
      · exact absurd e1 hO.nn
      have hlen : (st0 ++ [Row.mk rA rn rc rl]).length = st0.length + 1 := by simp
      rw [hlen] at hqc ⊢
      have hown := hO.own
      rw [hlen, List.map_append] at hown
      have hcell : wr.cell? ⟨q, st0.length, none⟩ = some (.slice rA rn rc) := by
        have := hown.cells (g := q) rfl st0.length (.slice rA rn rc) (by simp [Row.val])
        rwa [Addr.add_lit, Nat.zero_add] at this
      have hpop := ownsRow_pop (xs := st0.map Row.val) (last := [Row.val (Row.mk rA rn rc rl)]) (by simp) hown
      obtain ⟨cs0, hI⟩ := hO.pop hpop (by simp)
      have hrr := hO.rows (Row.mk rA rn rc rl) (by simp)
      have hrn : rn ≤ 1256584717458 := hrr.2.2.1
      have hrl : rl.length = rn := hrr.1
      have hrA : 0 < rn → ∃ b, rA = some ⟨b, 0, none⟩ := fun h0 => by
        obtain ⟨b, _, _, h2, _⟩ := hrr.2.2.2.1 h0
        exact ⟨b, h2⟩
      have HO := Lib.hid hO
      have HI := Lib.hid hI
      have hj0 : (0 : Int) ≤ (st0.length : Int) := by omega
      have hj1 : ((st0.length : Int) + 1) - 1 = (st0.length : Int) := by omega
      have hwj : IntKind.i64.wrap (st0.length : Int) = (st0.length : Int) := IntWalk.i64_in _ (by unfold maxLen at hqm; omega)
      have hjt : (st0.length : Int) < (st0.length : Int) + 1 := by omega
      have hpos : (0 : Int) < (st0.length : Int) + 1 := by omega
      have hjc : st0.length ≤ cap := by omega
      have hjc2 : (st0.length : Int) ≤ (cap : Int) := by omega
      have hjn : ((st0.length : Int)).toNat = st0.length := by omega
      clear hO hI hown hpop hlen hrr
      go_upto_region 7 with fail
      clear hcell hj0 hj1 hwj hjt hpos hjc hjc2 hjn hqc hqm hqb
      obtain ⟨wp, rfl⟩ : ∃ wp, wp = wr := ⟨_, rfl⟩
      go_loopw [0, 6, 31] (fun rv lv iv w2 => ∃ (R2 : Int) (C : List Row) (i : Nat) (csi : Nat → List Value), rv = .int .i64 R2 ∧ iv = .int .i64 (i : Int) ∧ i ≤ rn ∧ InI w S True [.int .i64 k, .bool neg, .slice A1 n c1, .int .i64 e, .string t, .slice L1 ln lc1, .slice K1 kn kc1] OB wp st0 (Row.mk rA rn rc rl) w2 lv R2 C i csi) (fun _ _ iv _ => rn - (RowKit.intOf iv).toNat)
      case atStart => exact ⟨R, [], 0, cs0, rfl, rfl, Nat.zero_le _, HI.out⟩
      case round =>
        obtain ⟨R2, C, i, csi, rfl, rfl, hin, hIn⟩ := hrel
        have HIN := Lib.hid hIn
        clear hIn
        by_cases hi : i < rn
        · have hlt : (i : Int) < (rn : Int) := by omega
          have hi0 : (0 : Int) ≤ (i : Int) := by omega
          have hit : ((i : Int)).toNat = i := by omega
          have hiw : IntKind.i64.wrap ((i : Int) + 1) = (i : Int) + 1 := IntWalk.i64_in _ (by omega)
          obtain ⟨g, rfl⟩ := hrA (by omega)
          obtain ⟨y, hy⟩ : ∃ y, rl[i]? = some y := ⟨_, List.getElem?_eq_getElem (by omega)⟩
          have hvy := HIN.out.old i y (Nat.le_refl _) hy
          have hcc := (HIN.out.cells g rfl i hi).2
          obtain ⟨k2, neg2, xs2, e2, t2, li2, ks2, hyk⟩ : ∃ k neg xs e t li ks, y = VT.mk k neg xs e t li ks := by cases y; exact ⟨_, _, _, _, _, _, _, rfl⟩
          have hvy2 := hvy
          rw [hyk] at hvy2
          obtain ⟨A2, n2, c2, LA2, ln2, lc2, KA2, kn2, kc2, hce, b1, b2, b3, b4, b5, b6, b7⟩ := hvy2.parts
          rw [hce] at hvy2 hcc
          obtain ⟨bn2, bk2, bl2⟩ := hvy2.bounds
          obtain ⟨cv2, csl2, hcl2, hcs2, hcc2, hco2, hvl2⟩ := b4.flat
          have d0 : wr.cell? ⟨g, i * 7, none⟩ = some (.int .i64 k2) := hcc 0 (by omega)
          have d1 : wr.cell? ⟨g, i * 7 + 1, none⟩ = some (.bool neg2) := hcc 1 (by omega)
          have d2 : wr.cell? ⟨g, i * 7 + 2, none⟩ = some (.slice A2 n2 c2) := hcc 2 (by omega)
          have d3 : wr.cell? ⟨g, i * 7 + 3, none⟩ = some (.int .i64 e2) := hcc 3 (by omega)
          have d4 : wr.cell? ⟨g, i * 7 + 4, none⟩ = some (.string t2) := hcc 4 (by omega)
          have d5 : wr.cell? ⟨g, i * 7 + 5, none⟩ = some (.slice LA2 ln2 lc2) := hcc 5 (by omega)
          have d6 : wr.cell? ⟨g, i * 7 + 6, none⟩ = some (.slice KA2 kn2 kc2) := hcc 6 (by omega)
          have hroom := HIN.out.room trivial
          have hun := unL_drop hy
          have hle : ln2 ≤ under y := by
            rw [hyk]
            simp only [under]
            have h1 := underL_len li2
            have h2 := b4.1
            omega
          have hR2 : (ln2 : Int) ≤ R2 := by
            rw [hun] at hroom
            omega
          have hR2b := HIN.out.rhi
          have hww : IntKind.i64.wrap (R2 - (ln2 : Int)) = R2 - (ln2 : Int) := IntWalk.i64_in _ (by omega)
          have hneg : ¬ R2 - (ln2 : Int) < 0 := by omega
          have hm3 := World.alloc_heap_new wr (.cells #[.int .i64 k2, .bool neg2, .slice A2 n2 c2, .int .i64 e2, .string t2, .slice LA2 ln2 lc2, .slice KA2 kn2 kc2] 28)
          have hz3 : (wr.alloc (.cells #[.int .i64 k2, .bool neg2, .slice A2 n2 c2, .int .i64 e2, .string t2, .slice LA2 ln2 lc2, .slice KA2 kn2 kc2] 28)).heap.size = wr.heap.size + 1 := by simp
          have hW3 : Below wr.heap.size wr (wr.alloc (.cells #[.int .i64 k2, .bool neg2, .slice A2 n2 c2, .int .i64 e2, .string t2, .slice LA2 ln2 lc2, .slice KA2 kn2 kc2] 28)) := (Below.refl _ wr).alloc (Nat.le_refl _) _
          clear hroom hun
          go_upto_region 9 with fail
          generalize (wr.alloc (.cells #[.int .i64 k2, .bool neg2, .slice A2 n2 c2, .int .i64 e2, .string t2, .slice LA2 ln2 lc2, .slice KA2 kn2 kc2] 28)) = w3 at *
          have hSw : ∀ b, S b → b < wr.heap.size := fun b hb => Nat.lt_of_lt_of_le (hS b hb) HIN.out.below.size
          have HF := fresh_c (k := k2) (neg := neg2) (c := c2) (e := e2) (t := t2) (lc := lc2) (kc := kc2) (cv := cv2) w3 (b1.below hW3 hSw) bn2 b3 hcl2 (fun h0 => by
            obtain ⟨b, off, e, hSb, h2⟩ := hcc2 h0
            exact ⟨b, off, e, fun j u hj => (hW3.cell (p := ⟨b, off + j, none⟩) (hSw b hSb)).trans (h2 j u hj)⟩) hco2 bl2 (b5.stay hW3 hSw) bk2 (fun b hb => by have := hSw b hb; omega) (fun b off h0 e => by
            obtain ⟨b', off2, e2', hSb, _⟩ := hcc2 h0
            rw [e, Option.some.injEq, Addr.mk.injEq] at e2'
            have := hSw b' hSb
            omega)
          unfold vv at HF
          obtain ⟨x0, x1, x2, x3, x4, x5, x6⟩ := box7_of hm3
          clear d0 d1 d2 d3 d4 d5 d6
          have hgt := HIN.out.gtype g ⟨by show 0 < rn; omega, rfl⟩
          obtain ⟨_, hgp, gcur, gcap, hgh, hgc, hgs⟩ := hgt
          go_wp2_with fail
          refine HF.mono ?_
          rintro e' w4 ⟨A5, c5, L5, lc5, K5, kc5, rfl, hb4, hO4, hL4, hK4⟩
          have hb34 : Below wr.heap.size wr w4 := hW3.trans (hb4.mono (by omega))
          have hg4 := (hb34.block g (Array.getElem?_eq_some_iff.1 hgh).1).trans hgh
          have hfz4 : ∀ j, w4.frozen? ⟨g, j, none⟩ = false := fun j => frozen_of_row w4 _ j _ _ hg4
          have M4 := Lib.hid ((hb4.block _ (by omega)).trans hm3)
          have HG4 := Lib.hid hg4
          have HGH := Lib.hid hgh
          have HGS := Lib.hid hgs
          have HCC := Lib.hid hcc
          have HCS2 := Lib.hid hcs2
          have HVL2 := Lib.hid hvl2
          have HB4 := Lib.hid b4
          have HB5 := Lib.hid b5
          have HB1 := Lib.hid b1
          have HOK := Lib.hid hO4
          have HLK := Lib.hid hL4
          have HKK := Lib.hid hK4
          clear x0 x1 x2 x3 x4 x5 x6 HF hm3 hg4 hgh hgs hcc hcs2 hvl2 hcl2 hcc2 hco2 b4 b5 b1 hce hO4 hL4 hK4 hvy hvy2
          have z0 : w4.cell? ⟨g, i * 7, none⟩ = some (.int .i64 k2) := (hb34.cell (p := ⟨g, i * 7, none⟩) (Array.getElem?_eq_some_iff.1 HGH.out).1).trans (HCC.out 0 (by omega))
          have z1 : w4.cell? ⟨g, i * 7 + 1, none⟩ = some (.bool neg2) := (hb34.cell (p := ⟨g, i * 7 + 1, none⟩) (Array.getElem?_eq_some_iff.1 HGH.out).1).trans (HCC.out 1 (by omega))
          have z2 : w4.cell? ⟨g, i * 7 + 2, none⟩ = some (.slice A2 n2 c2) := (hb34.cell (p := ⟨g, i * 7 + 2, none⟩) (Array.getElem?_eq_some_iff.1 HGH.out).1).trans (HCC.out 2 (by omega))
          have z3 : w4.cell? ⟨g, i * 7 + 3, none⟩ = some (.int .i64 e2) := (hb34.cell (p := ⟨g, i * 7 + 3, none⟩) (Array.getElem?_eq_some_iff.1 HGH.out).1).trans (HCC.out 3 (by omega))
          have z4 : w4.cell? ⟨g, i * 7 + 4, none⟩ = some (.string t2) := (hb34.cell (p := ⟨g, i * 7 + 4, none⟩) (Array.getElem?_eq_some_iff.1 HGH.out).1).trans (HCC.out 4 (by omega))
          have z5 : w4.cell? ⟨g, i * 7 + 5, none⟩ = some (.slice LA2 ln2 lc2) := (hb34.cell (p := ⟨g, i * 7 + 5, none⟩) (Array.getElem?_eq_some_iff.1 HGH.out).1).trans (HCC.out 5 (by omega))
          have z6 : w4.cell? ⟨g, i * 7 + 6, none⟩ = some (.slice KA2 kn2 kc2) := (hb34.cell (p := ⟨g, i * 7 + 6, none⟩) (Array.getElem?_eq_some_iff.1 HGH.out).1).trans (HCC.out 6 (by omega))
          go_upto_region 13 with fail
          have hwpr : wp.heap.size ≤ wr.heap.size := HIN.out.agree.1
          have hwg : w.heap.size ≤ g := by omega
          have hs7 := seven_at (b0 := i * 7) HG4.out (by rw [HGS.out]; omega) (.int .i64 k2) (.bool neg2) (.slice A5 n2 c5) (.int .i64 e2) (.string t2) (.slice L5 ln2 lc5) (.slice K5 kn2 kc5)
          have hbel5 : Below w.heap.size w (((((((w4.setCell ⟨g, i * 7, none⟩ (.int .i64 k2)).setCell ⟨g, i * 7 + 1, none⟩ (.bool neg2)).setCell ⟨g, i * 7 + 2, none⟩ (.slice A5 n2 c5)).setCell ⟨g, i * 7 + 3, none⟩ (.int .i64 e2)).setCell ⟨g, i * 7 + 4, none⟩ (.string t2)).setCell ⟨g, i * 7 + 5, none⟩ (.slice L5 ln2 lc5)).setCell ⟨g, i * 7 + 6, none⟩ (.slice K5 kn2 kc5)) := (((((((((HIN.out.below.trans (hb34.mono HIN.out.below.size))).setCell hwg _).setCell hwg _).setCell hwg _).setCell hwg _).setCell hwg _).setCell hwg _).setCell hwg _)
          generalize (((((((w4.setCell ⟨g, i * 7, none⟩ (.int .i64 k2)).setCell ⟨g, i * 7 + 1, none⟩ (.bool neg2)).setCell ⟨g, i * 7 + 2, none⟩ (.slice A5 n2 c5)).setCell ⟨g, i * 7 + 3, none⟩ (.int .i64 e2)).setCell ⟨g, i * 7 + 4, none⟩ (.string t2)).setCell ⟨g, i * 7 + 5, none⟩ (.slice L5 ln2 lc5)).setCell ⟨g, i * 7 + 6, none⟩ (.slice K5 kn2 kc5)) = w5 at *
          obtain ⟨gcur5, g5h, g5s, g5q, g5c, g5b, g5z⟩ := hs7
          have hz54 := Nat.le_of_eq g5z
          have hz45 := Nat.le_of_eq g5z.symm
          clear g5z
          have M5 := (g5b _ (by omega)).trans M4.out
          obtain ⟨x0, x1, x2, x3, x4, x5, x6⟩ := box7_of M5
          have hs4 := hb34.size
          have hLc := g5c 5 (by omega)
          have G5H := Lib.hid g5h
          have G5S := Lib.hid g5s
          have G5Q := Lib.hid g5q
          have G5C := Lib.hid g5c
          have G5B := Lib.hid g5b
          have BEL5 := Lib.hid hbel5
          have hun2 : underL li2 ≤ under y := by rw [hyk]; simp [under]
          have hks2 : ∀ s ∈ ks2, s.size ≤ 140737488355328 := fun s hs => by
            obtain ⟨q, hq⟩ := List.mem_iff_getElem?.1 hs
            exact HB5.out.size hq
          have hu6 : ∀ b, b < w4.heap.size → (∀ cur, w4.heap[b]? ≠ some (.cells cur 25)) → u6.ownBlock ≠ some b := fun b hb hty e => by
            rcases HIN.out.own.2 with ⟨e1, _⟩ | ⟨q2, cap2, cur2, e1, _, e3, _⟩
            · exact absurd e1 HIN.out.nn
            · rw [e1] at e
              simp only [Value.ownBlock, Option.some.injEq] at e
              subst e
              exact hty cur2 ((hb34.block _ (Array.getElem?_eq_some_iff.1 e3).1).trans e3)
          have hown5 : w5.ownsRow (w.heap.size + 2) 25 1 u6 (st0 ++ C).length ((st0 ++ C).map Row.val) := own_at HIN.out.own fun q2 cur2 _ hh => by
            have hne : q2 ≠ g := fun e => by
              subst e
              rw [HGH.out] at hh
              simp only [Option.some.injEq, Obj.cells.injEq] at hh
              exact absurd hh.2.1 (by decide)
            exact (G5B.out _ hne).trans (hb34.block _ (Array.getElem?_eq_some_iff.1 hh).1)
          have HOWN5 := Lib.hid hown5
          clear M5 g5h g5s g5q g5c g5b hbel5 hown5
          by_cases hl0 : ln2 = 0
          · have hnp : ¬ (0 : Int) < (ln2 : Int) := by omega
            have HST := Lib.hid (HIN.out.step (w4 := w4) (w6 := w5) (lv2 := u6) (R2 := R2 - (ln2 : Int)) (D := []) hS hi rfl hy (fun _ => hyk) hun2 hb34 HB1.out.l32 HB1.out.len (own_mono HOK.out (by omega)) (own_mono HKK.out (by omega)) (own_mono HLK.out (by omega)) bn2 b3 bk2 HB5.out.1 hks2 HB4.out.1 bl2 HCS2.out (fun m z hz => (HVL2.out m z hz).keep fun p hp => (HIN.out.below.cell (hS _ hp)).symm)
              (by omega) (fun b hb hne _ => G5B.out b hne) ⟨gcur5, gcap, G5H.out, hgc, G5S.out.trans HGS.out⟩ (fun m j hm hj hmi => G5Q.out _ (by omega)) G5C.out BEL5.out (.inl ⟨rfl, hl0⟩) (by rw [List.append_nil]; exact HOWN5.out) HIN.out.nn (fun _ => rfl) (by omega) (by omega))
            go_wp2_with fail
            go_roundw
            case rel => exact ⟨_, _, i + 1, _, rfl, by simp, by omega, HST.out⟩
            case measure => first | (simp [RowKit.intOf]; omega) | (simp [RowKit.intOf]; omega) | omega | (unfold RowKit.intOf; omega) | (trace_state; fail)
          · have hnp : (0 : Int) < (ln2 : Int) := by omega
            have hfew := HIN.out.few trivial
            obtain ⟨iS, hiS, hpS, hqS, hrS⟩ := info_parts infoSV
            have hro : ∀ o, (w5.alloc o).ownsRow (w.heap.size + 2) 25 1 u6 (st0 ++ C).length ((st0 ++ C).map Row.val) := fun o => HOWN5.out.alloc o
            have hw5 : w.heap.size + 2 ≤ w5.heap.size := by omega
            go_upto_region 14 with fail
            clear x0 x1 x2 x3 x4 x5 x6
            go_upto_region 15 with (at_builtin; refine wpList_append_own_at _ rfl (.tmp 53) (.tmp 59) _ rfl (w.heap.size + 2) 25 iS (.slice none 0 0) 1 24 Tryz.underlying131 hiS hpS hqS hrS rfl (by decide) u6 (st0 ++ C).length ((st0 ++ C).map Row.val) rfl (hro _) ⟨w5.heap.size, 0, none⟩ 1 1 [.slice L5 ln2 lc5] rfl rfl (cell_one_new _ _ _) (by simp [Value.oneCell']) (by unfold maxLen; omega) (by omega) (by simp; omega) ?_; intro v' w6 hown6 hg6 hnn6 _)
            have HOWN6 := Lib.hid (hown6)
            have HG6 := Lib.hid hg6
            have HNN6 := Lib.hid hnn6
            clear hown6 hg6 hnn6 hro
            go_wp2_with fail
            go_roundw
            case rel =>
              have h65 : ∀ b, b < w4.heap.size → (∀ cur, w4.heap[b]? ≠ some (.cells cur 25)) → w6.heap[b]? = w5.heap[b]? := fun b hb hty =>
                (HG6.out.block b (by simp; omega) (fun e => hu6 b hb hty e.symm)).trans (Below.heap_alloc _ _ _ (by omega))
              have hg65 := h65 g (by omega) (fun cur h9 => by
                rw [HG4.out] at h9
                simp only [Option.some.injEq, Obj.cells.injEq] at h9
                exact absurd h9.2.1 (by decide))
              have hs6 := HG6.out.size
              have hbel6 : Below w.heap.size w w6 := (BEL5.out.alloc (by omega) _).grown HG6.out (by simp; omega) (fun k e => by
                rcases HIN.out.own.2 with ⟨e1, _⟩ | ⟨q2, cap2, cur2, e1, e2, e3, _⟩
                · exact absurd e1 HIN.out.nn
                · rw [e1] at e
                  simp only [Value.ownBlock, Option.some.injEq] at e
                  omega)
              exact ⟨_, _, i + 1, _, rfl, by simp, by omega, (HIN.out.step (w4 := w4) (w6 := w6) (lv2 := v') (R2 := R2 - (ln2 : Int)) (D := [⟨L5, ln2, lc5, li2⟩]) hS hi rfl hy (fun _ => hyk) hun2 hb34 HB1.out.l32 HB1.out.len (own_mono HOK.out (by omega)) (own_mono HKK.out (by omega)) (own_mono HLK.out (by omega)) bn2 b3 bk2 HB5.out.1 hks2 HB4.out.1 bl2 HCS2.out (fun m z hz => (HVL2.out m z hz).keep fun p hp => (HIN.out.below.cell (hS _ hp)).symm)
                (by simp at hs6; omega) (fun b hb hne hty => (h65 b hb hty).trans (G5B.out b hne)) ⟨gcur5, gcap, hg65.trans G5H.out, hgc, G5S.out.trans HGS.out⟩ (fun m j hm hj hmi => (World.cell?_of_block (a := ⟨g, m * 7 + j, none⟩) hg65).trans (G5Q.out _ (by omega))) (fun j hj => (World.cell?_of_block (a := ⟨g, i * 7 + j, none⟩) hg65).trans (G5C.out j hj)) hbel6 (.inr ⟨rfl, by omega⟩) (by rw [← List.append_assoc, List.map_append, List.length_append]; exact HOWN6.out) (fun e => by have := (HNN6.out.1 e).2; omega) (fun _ => rfl) (by omega) (by omega))⟩
            case measure => first | (simp [RowKit.intOf]; omega) | (simp [RowKit.intOf]; omega) | omega | (unfold RowKit.intOf; omega) | (trace_state; fail)
        · have hnlt : ¬ (i : Int) < (rn : Int) := by omega
          obtain rfl : i = rn := by omega
          have HDN := Lib.hid (HIN.out.done_row HO.out)
          have hmea := HIN.out.meas
          go_wp2_with fail
          go_roundg (msum (st0 ++ C))
          case measure =>
            rw [msum_append, msum_append]
            have h1 : msum [Row.mk rA i rc rl] = underL rl + 1 := by simp [msum]
            have h2 : msum C ≤ underL rl := by
              exact Nat.le_trans (Nat.le_add_right _ _) hmea
            omega
          case rel => exact ⟨R2, _, rfl, HDN.out, rfl⟩
end Go.Proofs.YtpmdcahomkdfmaaGreatDoor

namespace Go.Proofs.YtpmdcahomkdfmaaGreatDoor
open Go.RowKit

set_option maxRecDepth 100000 in
set_option maxHeartbeats 4000000 in
theorem copied_c {S : Nat → Prop} {x : VT} {cs : List Value} (w : World) (hx : VIn w S x cs) (hS : ∀ b, S b → b < w.heap.size) (hsz : under x ≤ 21474836) :
    Calls Tryz.prog 43 #[.agg cs.toArray] w fun e' w' => ∃ cs', e' = .returned (.agg cs'.toArray) ∧ VIn w' (Own' w.heap.size w') x cs' ∧ Below w.heap.size w w' := by
  obtain ⟨k, neg, xs, e, t, li, ks, rfl⟩ : ∃ k neg xs e t li ks, x = VT.mk k neg xs e t li ks := by cases x; exact ⟨_, _, _, _, _, _, _, rfl⟩
  obtain ⟨A, n, c, LA, ln, lc, KA, kn, kc, rfl, _⟩ := hx.parts
  have hW : Below w.heap.size w ((w.alloc (.cells #[.int .i64 k, .bool neg, .slice A n c, .int .i64 e, .string t, .slice LA ln lc, .slice KA kn kc] 28)).alloc (.cells #[.int .i64 0, .bool false, .slice none 0 0, .int .i64 0, .string ⟨#[]⟩, .slice none 0 0, .slice none 0 0] 28)) := ((Below.refl _ w).alloc (Nat.le_refl _) _).alloc (by simp) _
  have hm1 : ((w.alloc (.cells #[.int .i64 k, .bool neg, .slice A n c, .int .i64 e, .string t, .slice LA ln lc, .slice KA kn kc] 28)).alloc (.cells #[.int .i64 0, .bool false, .slice none 0 0, .int .i64 0, .string ⟨#[]⟩, .slice none 0 0, .slice none 0 0] 28)).heap[w.heap.size]? = some (.cells #[.int .i64 k, .bool neg, .slice A n c, .int .i64 e, .string t, .slice LA ln lc, .slice KA kn kc] 28) := (Below.heap_alloc _ _ _ (by simp)).trans (World.alloc_heap_new w _)
  have hm2 : ((w.alloc (.cells #[.int .i64 k, .bool neg, .slice A n c, .int .i64 e, .string t, .slice LA ln lc, .slice KA kn kc] 28)).alloc (.cells #[.int .i64 0, .bool false, .slice none 0 0, .int .i64 0, .string ⟨#[]⟩, .slice none 0 0, .slice none 0 0] 28)).heap[w.heap.size + 1]? = some (.cells #[.int .i64 0, .bool false, .slice none 0 0, .int .i64 0, .string ⟨#[]⟩, .slice none 0 0, .slice none 0 0] 28) := by
    have := World.alloc_heap_new (w.alloc (.cells #[.int .i64 k, .bool neg, .slice A n c, .int .i64 e, .string t, .slice LA ln lc, .slice KA kn kc] 28)) (.cells #[.int .i64 0, .bool false, .slice none 0 0, .int .i64 0, .string ⟨#[]⟩, .slice none 0 0, .slice none 0 0] 28)
    rwa [World.size_alloc] at this
  have hz : ((w.alloc (.cells #[.int .i64 k, .bool neg, .slice A n c, .int .i64 e, .string t, .slice LA ln lc, .slice KA kn kc] 28)).alloc (.cells #[.int .i64 0, .bool false, .slice none 0 0, .int .i64 0, .string ⟨#[]⟩, .slice none 0 0, .slice none 0 0] 28)).heap.size = w.heap.size + 2 := by simp
  go_enter Tryz.func43, Tryz.ntmps43
  go_upto_region 1 with fail
  generalize ((w.alloc (.cells #[.int .i64 k, .bool neg, .slice A n c, .int .i64 e, .string t, .slice LA ln lc, .slice KA kn kc] 28)).alloc (.cells #[.int .i64 0, .bool false, .slice none 0 0, .int .i64 0, .string ⟨#[]⟩, .slice none 0 0, .slice none 0 0] 28)) = W0 at *
  have HC := copiedWithin_c W0 (hx.keep fun p hp => hW.cell (hS _ hp)) (fun b hb => by have := hS b hb; omega) hsz
  obtain ⟨x0, x1, x2, x3, x4, x5, x6⟩ := box7_of hm1
  have HM2 := Lib.hid hm2
  have HW := Lib.hid hW
  clear hm2 hm1 hW hx
  go_wp2_with fail
  refine HC.mono ?_
  rintro e' w1 ⟨cs', rfl, hv, hb1⟩
  clear x0 x1 x2 x3 x4 x5 x6 HC
  obtain ⟨A1, n1, c1, LA1, ln1, lc1, KA1, kn1, kc1, rfl, _⟩ := hv.parts
  have hmz := (hb1.block _ (by omega)).trans HM2.out
  obtain ⟨z0, z1, z2, z3, z4, z5, z6⟩ := box7_of hmz
  have fz : ∀ j, w1.frozen? ⟨w.heap.size + 1, j, none⟩ = false := fun j => frozen_of_row w1 _ j _ _ hmz
  have HV := Lib.hid hv
  clear hv hmz
  go_wp2_with fail
  refine bodyPost_ret (v := .agg #[.int .i64 k, .bool neg, .slice A1 n1 c1, .int .i64 e, .string t, .slice LA1 ln1 lc1, .slice KA1 kn1 kc1]) (by simp [results, Tryz.results43, go_sem, z0, z1, z2, z3, z4, z5, z6]) rfl ?_
  refine ⟨[.int .i64 k, .bool neg, .slice A1 n1 c1, .int .i64 e, .string t, .slice LA1 ln1 lc1, .slice KA1 kn1 kc1], rfl, ?_, below_seven (HW.out.trans (hb1.mono (by omega))) (by omega) _ _ _ _ _ _ _⟩
  refine (HV.out.keep fun p hp => ?_).more fun b hb => ⟨by have := hb.1; omega, ?_⟩
  · have h1 := hp.1
    exact cell_seven (by omega) _ _ _ _ _ _ _
  · have := hb.2
    simpa [World.setCell] using this

/-- A list's tree. -/
theorem vin_list {w : World} {S : Nat → Prop} {A : Option Addr} {n c : Nat} {l : List VT} (h : RdL w S A n l) (hn : n ≤ 1256584717458) (hc : n ≤ c) : VIn w S (.mk 5 false [] 0 ⟨#[]⟩ l []) [.int .i64 5, .bool false, .slice none 0 0, .int .i64 0, .string ⟨#[]⟩, .slice A n c, .slice none 0 0] := by
  obtain ⟨h1, _, cs, h3, h4⟩ := h
  exact .mk (cs := cs) (Rd.nil _ _ _) (by omega) (by decide) ⟨rfl, fun h0 => absurd h0 (by omega)⟩ (by omega) h1 hn hc h3 h4

set_option maxRecDepth 100000 in
set_option maxHeartbeats 4000000 in
theorem list_c {S : Nat → Prop} (w : World) {A : Option Addr} {n c : Nat} {l : List VT} (hl : RdL w S A n l) (hn : n ≤ 1256584717458) (hc : n ≤ c) (hS : ∀ b, S b → b < w.heap.size) (hsz : underL l ≤ 21474836) :
    Calls Tryz.prog 36 #[.slice A n c] w fun e' w' => ∃ cs', e' = .returned (.agg cs'.toArray) ∧ VIn w' (Own' w.heap.size w') (.mk 5 false [] 0 ⟨#[]⟩ l []) cs' ∧ Below w.heap.size w w' := by
  have hW : Below w.heap.size w (w.alloc (.cells #[.int .i64 0, .bool false, .slice none 0 0, .int .i64 0, .string ⟨#[]⟩, .slice none 0 0, .slice none 0 0] 28)) := (Below.refl _ w).alloc (Nat.le_refl _) _
  have hm2 := World.alloc_heap_new w (.cells #[.int .i64 0, .bool false, .slice none 0 0, .int .i64 0, .string ⟨#[]⟩, .slice none 0 0, .slice none 0 0] 28)
  have hz : (w.alloc (.cells #[.int .i64 0, .bool false, .slice none 0 0, .int .i64 0, .string ⟨#[]⟩, .slice none 0 0, .slice none 0 0] 28)).heap.size = w.heap.size + 1 := by simp
  go_enter Tryz.func36, Tryz.ntmps36
  go_upto_region 1 with fail
  generalize (w.alloc (.cells #[.int .i64 0, .bool false, .slice none 0 0, .int .i64 0, .string ⟨#[]⟩, .slice none 0 0, .slice none 0 0] 28)) = W0 at *
  have HC := copied_c W0 ((vin_list hl hn hc).keep fun p hp => hW.cell (hS _ hp)) (fun b hb => by have := hS b hb; omega) (by simpa [under] using hsz)
  have HM2 := Lib.hid hm2
  have HW := Lib.hid hW
  clear hm2 hW
  go_wp2_with fail
  refine HC.mono ?_
  rintro e' w1 ⟨cs', rfl, hv, hb1⟩
  clear HC
  obtain ⟨A1, n1, c1, LA1, ln1, lc1, KA1, kn1, kc1, rfl, _⟩ := hv.parts
  have hmz := (hb1.block _ (by omega)).trans HM2.out
  obtain ⟨z0, z1, z2, z3, z4, z5, z6⟩ := box7_of hmz
  have fz : ∀ j, w1.frozen? ⟨w.heap.size, j, none⟩ = false := fun j => frozen_of_row w1 _ j _ _ hmz
  have HV := Lib.hid hv
  clear hv hmz
  go_wp2_with fail
  refine bodyPost_ret (v := .agg #[.int .i64 5, .bool false, .slice A1 n1 c1, .int .i64 0, .string ⟨#[]⟩, .slice LA1 ln1 lc1, .slice KA1 kn1 kc1]) (by simp [results, Tryz.results36, go_sem, z0, z1, z2, z3, z4, z5, z6]) rfl ?_
  refine ⟨[.int .i64 5, .bool false, .slice A1 n1 c1, .int .i64 0, .string ⟨#[]⟩, .slice LA1 ln1 lc1, .slice KA1 kn1 kc1], rfl, ?_, below_seven (HW.out.trans (hb1.mono (by omega))) (by omega) _ _ _ _ _ _ _⟩
  refine (HV.out.keep fun p hp => ?_).more fun b hb => ⟨by have := hb.1; omega, ?_⟩
  · have h1 := hp.1
    exact cell_seven (by omega) _ _ _ _ _ _ _
  · have := hb.2
    simpa [World.setCell] using this
end Go.Proofs.YtpmdcahomkdfmaaGreatDoor
