/-
  A Builder of one's own: where it stands in memory; contracts of copyCheck, Len, WriteString, String.
-/
import Derived.Test.YtnfeifafocemaaaDoorCUmend
import Derived.Test.YtnfeifafocemaaaDoorCLsc
import Derived.Test.YtnfeifafocemaaaDoorCFpu
import Derived.Test.YtnfeifafocemaaaDoorShelf
import Derived.Shelf.Strings.Builder1
import Derived.Laws.Concat
set_option linter.unusedVariables false
set_option linter.unusedSimpArgs false
namespace Go.Proofs.YtnfeifafocemaaaDoor
open Go.RowKit Go.Lib

abbrev shOF (p v : Value) : Obj := .cells #[p, v] 61
abbrev shPF (b : Nat) : Value := .pointer (some ⟨b, 0, none⟩)
theorem cellTF {w : World} {b i : Nat} {vs : Array Value} {v : Value} {t : TypeId} (h : w.heap[b]? = some (.cells vs t)) (hi : vs[i]? = some v) : w.cell? ⟨b, i, none⟩ = some v := by
  simp [World.cell?, h, hi]
/-- All blocks stay but those of C, and rows of octets from B on. -/
structure MidF (B : Nat) (C : Nat → Prop) (w w' : World) : Prop where
  os : w'.os = w.os
  tape : w'.tape = w.tape
  output : w'.output = w.output
  size : w.heap.size ≤ w'.heap.size
  block : ∀ k, k < w.heap.size → ¬ C k → (k < B ∨ ∀ vs fr, w.heap[k]? ≠ some (.cells vs 5 fr)) → w'.heap[k]? = w.heap[k]?
theorem MidF.refl (B : Nat) (C : Nat → Prop) (w : World) : MidF B C w w := ⟨rfl, rfl, rfl, Nat.le_refl _, fun _ _ _ _ => rfl⟩
theorem MidF.trans {B : Nat} {C : Nat → Prop} {a b c : World} (h : MidF B C a b) (k : MidF B C b c) : MidF B C a c :=
  ⟨k.os.trans h.os, k.tape.trans h.tape, k.output.trans h.output, Nat.le_trans h.size k.size, fun i hi hp hc => by
    have e := h.block i hi hp hc
    rw [k.block i (Nat.lt_of_lt_of_le hi h.size) hp (by rw [e]; exact hc), e]⟩
theorem MidF.mono {B : Nat} {C D : Nat → Prop} {a b : World} (h : MidF B C a b) (hD : ∀ k, k < a.heap.size → C k → D k) : MidF B D a b := ⟨h.os, h.tape, h.output, h.size, fun k hk hp hc => h.block k hk (fun h2 => hp (hD k hk h2)) hc⟩
theorem MidF.of {B : Nat} {C : Nat → Prop} {w w' : World} (h : Below w.heap.size w w') : MidF B C w w' := ⟨h.os, h.tape, h.output, h.size, fun k hk _ _ => h.block k hk⟩
theorem MidF.below {B : Nat} {C : Nat → Prop} {w w' : World} (h : MidF B C w w') (hB : B ≤ w.heap.size) (hp : ∀ k, k < B → ¬ C k) : Below B w w' :=
  ⟨h.os, h.tape, h.output, h.size, fun k hk => h.block k (Nat.lt_of_lt_of_le hk hB) (hp k hk) (.inl hk)⟩
/-- A block that is no row of octets, and none of C, stays. -/
theorem MidF.keep {B k : Nat} {C : Nat → Prop} {w w' : World} (h : MidF B C w w') {vs : Array Value} {t : TypeId} {fr : Nat × Nat} (hk : w.heap[k]? = some (.cells vs t fr)) (hp : ¬ C k) (ht : t ≠ 5) : w'.heap[k]? = some (.cells vs t fr) := by
  rw [h.block k (Array.getElem?_eq_some_iff.1 hk).1 hp (.inr fun vs2 fr2 e => by rw [hk] at e; injection e with e; injection e with _ e2 _; exact ht e2), hk]
theorem MidF.set {B b : Nat} {C : Nat → Prop} (w : World) (hb : C b) (i : Nat) (u : Value) : MidF B C w (w.setCell ⟨b, i, none⟩ u) :=
  ⟨rfl, rfl, rfl, by simp [World.setCell], fun k _ hp _ => Below.heap_setCell _ _ _ _ (by rintro rfl; exact hp hb)⟩
theorem MidF.drw {B : Nat} {C : Nat → Prop} {w wr : World} (h : MidF B C w wr) : MidF B C w wr.drew := ⟨h.os, h.tape, h.output, h.size, h.block⟩
theorem MidF.alloc {B : Nat} {C : Nat → Prop} {w wr : World} (h : MidF B C w wr) (o : Obj) : MidF B C w (wr.alloc o) := h.trans (MidF.of ((Below.refl _ _).alloc (Nat.le_refl _) o))
theorem set_pageTF {w : World} {pb i : Nat} {vs : Array Value} {t : TypeId} (u : Value) (h : w.heap[pb]? = some (.cells vs t)) : (w.setCell ⟨pb, i, none⟩ u).heap[pb]? = some (.cells (vs.set! i u) t) := by
  have hlt := (Array.getElem?_eq_some_iff.1 h).1
  rw [Array.getElem?_eq_getElem hlt] at h
  injection h with h
  show (w.heap.modify pb _)[pb]? = _
  rw [Array.getElem?_modify, if_pos rfl, Array.getElem?_eq_getElem hlt, h]
  rfl
theorem row_stayTF {B e n : Nat} {v : Value} {xs : List Value} {w w' : World} (h : w.ownsRow B e 1 v n xs) (hb : ∀ g vs, w.heap[g]? = some (.cells vs e) → B ≤ g → w'.heap[g]? = w.heap[g]?) : w'.ownsRow B e 1 v n xs := by
  refine ⟨h.1, ?_⟩
  rcases h.2 with h2 | ⟨g, cap, cur, e1, e2, e3, e4⟩
  · exact .inl h2
  · exact .inr ⟨g, cap, cur, e1, e2, (hb g cur e3 e2).trans e3, e4⟩
theorem row_neTF {pb g : Nat} {w : World} {p v : Value} {vs : Array Value} (hb : w.heap[pb]? = some (shOF p v)) (hg : w.heap[g]? = some (.cells vs 5)) : g ≠ pb := by
  rintro rfl
  rw [hb] at hg; injection hg with hg; injection hg with _ h2 _; exact absurd h2 (by decide)
theorem row_setTF {B pb : Nat} {w : World} {p v v2 : Value} {n : Nat} {xs : List Value} (i : Nat) (u : Value) (hb : w.heap[pb]? = some (shOF p v)) (h : w.ownsRow B 5 1 v2 n xs) : (w.setCell ⟨pb, i, none⟩ u).ownsRow B 5 1 v2 n xs :=
  row_stayTF h (fun g vs hg _ => Below.heap_setCell _ _ _ _ (row_neTF hb hg))

/-- A Builder's state: the octets bs are written. -/
structure ShRF (B pb : Nat) (bs : List UInt8) (w : World) : Prop where
  base : B ≤ pb
  box : ∃ p v, (p = .pointer none ∨ p = .pointer (some ⟨pb, 0, none⟩)) ∧ w.heap[pb]? = some (shOF p v) ∧ w.ownsRow B 5 1 v bs.length (byteCells bs)
theorem ShRF.lt {B pb : Nat} {bs : List UInt8} {w : World} (h : ShRF B pb bs w) : pb < w.heap.size := by
  obtain ⟨p, v, _, hb, _⟩ := h.box
  exact (Array.getElem?_eq_some_iff.1 hb).1
/-- It stays where all blocks stay but others than it and rows of octets. -/
theorem ShRF.stay {B pb : Nat} {bs : List UInt8} {w w' : World} {C : Nat → Prop} (h : ShRF B pb bs w) (hb : But C w w') (hC : ∀ k, C k → ∀ vs t fr, w.heap[k]? = some (.cells vs t fr) → t ≠ 5 ∧ t ≠ 61) : ShRF B pb bs w' := by
  obtain ⟨p, v, hp, hx, hown⟩ := h.box
  refine ⟨h.base, ⟨p, v, hp, (hb.block _ h.lt (fun hc => (hC _ hc _ _ _ hx).2 rfl)).trans hx, ?_⟩⟩
  exact row_stayTF hown (fun g vs hg _ => hb.block g (Array.getElem?_eq_some_iff.1 hg).1 (fun hc => (hC _ hc _ _ _ hg).1 rfl))
theorem infoU8F : (Tryd.prog.info? 5).map (fun i => (i.zero, i.size, i.bytes)) = some (some (.int .u8 0), 1, 1) := by kernel_rfl
theorem infoBldF : (Tryd.prog.info? 61).map (·.size) = some 2 := by kernel_rfl
theorem liesBldF : liesAt Tryd.prog Tryd.prog.depth 61 (2 / Tryd.prog.cellsOf 61) 0 61 1 = true := by kernel_rfl

set_option maxHeartbeats 1000000 in
set_option maxRecDepth 100000 in
theorem copyCheckF_c {pb : Nat} {p v : Value} (w : World) (hb : w.heap[pb]? = some (shOF p v)) (hp : p = .pointer none ∨ p = .pointer (some ⟨pb, 0, none⟩)) :
    Calls Tryd.prog 49 #[shPF pb] w fun e w' => e = .returned (.tuple #[]) ∧ (w' = w ∧ p = .pointer (some ⟨pb, 0, none⟩) ∨ w' = w.setCell ⟨pb, 0, none⟩ (.pointer (some ⟨pb, 0, none⟩))) := by
  obtain ⟨j, hj, hjs⟩ := Option.map_eq_some_iff.1 infoBldF
  have h0 : w.cell? ⟨pb, 0, none⟩ = some p := cellTF hb rfl
  have hsh : w.shape? pb = some (61, 2) := by simp [World.shape?, hb]
  have hfz : w.frozen? ⟨pb, 0, none⟩ = false := by simp [World.frozen?, hb]
  have HB := Lib.hid hb
  clear hb
  rcases hp with rfl | rfl
  · go_enter Tryd.func49, Tryd.ntmps49
    go_wp2
    rw [Lib.run_to_unsafe w ⟨pb, 0, none⟩ Tryd.underlying59 Tryd.underlying80 hj (by rw [hjs]; decide) hsh (Nat.zero_lt_succ 1)]
    simp only [Result.andThen]
    rw [Oper.upon_value]
    go_wp2
    rw [run_callFunc_extern Tryd.func56 (by kernel_rfl) (by kernel_rfl) (by kernel_rfl) (e := Extern.AbiNoEscape.same) (by kernel_rfl)]
    rw [Lib.run_noEscape]
    simp only [Result.andThen]
    rw [Oper.upon_value]
    go_wp2
    rw [Lib.run_from_unsafe w ⟨pb, 0, none⟩ Tryd.underlying80 Tryd.underlying59 hj hsh liesBldF]
    simp only [Result.andThen]
    rw [Oper.upon_value]
    go_wp2
    go_end0
    exact ⟨rfl, .inr rfl⟩
  · go_enter Tryd.func49, Tryd.ntmps49
    go_wp2
    rw [Lib.run_neq_ptr_same w _ Tryd.underlying59 hj]
    go_wp2
    go_end0
    first | exact ⟨rfl, .inl ⟨rfl, rfl⟩⟩ | exact ⟨rfl, .inl ⟨rfl, trivial⟩⟩

set_option maxHeartbeats 1000000 in
set_option maxRecDepth 100000 in
theorem bldLenF_c {B pb : Nat} {bs : List UInt8} (w : World) (hP : ShRF B pb bs w) :
    Calls Tryd.prog 33 #[shPF pb] w fun e w' => e = .returned (.int .i64 bs.length) ∧ w' = w := by
  obtain ⟨p, v, hp, hx, hown⟩ := hP.box
  obtain ⟨ao, cap, rfl⟩ : ∃ ao cap, v = .slice ao bs.length cap := by
    rcases hown.2 with ⟨hv, h0⟩ | ⟨g, cap, cur, hv, _⟩
    · exact ⟨none, 0, by rw [hv, h0]⟩
    · exact ⟨_, _, hv⟩
  have c1 : w.cell? ⟨pb, 1, none⟩ = some (.slice ao bs.length cap) := cellTF hx rfl
  clear hx hown hP hp
  go_enter Tryd.func33, Tryd.ntmps33
  go_wp2
  go_ret
  exact ⟨rfl, rfl⟩

theorem strCells_bytesTF (s : ByteArray) : strCells s = byteCells s.data.toList := by
  unfold strCells byteCells
  rfl
theorem byteCells_appTF (a b : List UInt8) : byteCells (a ++ b) = byteCells a ++ byteCells b := by unfold byteCells; rw [List.map_append]
theorem MidF.grown {B : Nat} {C : Nat → Prop} {w w' : World} {v : Value} {n : Nat} {xs : List Value} (h : w.ownsRow B 5 1 v n xs) (hg : w.grownBy w' v.ownBlock) : MidF B C w w' :=
  ⟨hg.os, hg.tape, hg.output, hg.size, fun k hk hp hc => hg.block k hk (fun e => by
    rcases h.2 with ⟨rfl, _⟩ | ⟨g, cap, cur, rfl, e2, e3, _⟩
    · simp [Value.ownBlock] at e
    · simp only [Value.ownBlock, Option.some.injEq] at e
      subst e
      rcases hc with hc | hc
      · omega
      · exact hc _ _ e3)⟩
set_option maxHeartbeats 1000000 in
set_option maxRecDepth 100000 in
theorem writeStrTF_c {B pb : Nat} {bs : List UInt8} (w : World) (hP : ShRF B pb bs w) (s : ByteArray) (hcap : bs.length + s.size ≤ 140737488355328) (hB : B ≤ w.heap.size) :
    Calls Tryd.prog 34 #[shPF pb, .string s] w fun e w' => e = .returned (.tuple #[.int .i64 s.size, .nilIface]) ∧ ShRF B pb (bs ++ s.data.toList) w' ∧ MidF B (fun k => k = pb) w w' := by
  obtain ⟨i0, hi, hz0, hz1, hz2⟩ := info_parts infoU8F
  obtain ⟨p, v, hp, hx, hown⟩ := hP.box
  have HB := Lib.hid hP.base
  have HX := Lib.hid hx
  have HO := Lib.hid hown
  clear hP hx hown
  go_enter Tryd.func34, Tryd.ntmps34
  go_wp2_with fail
  refine (copyCheckF_c w HX.out hp).mono ?_
  rintro e w1 ⟨rfl, hw1⟩
  have hb1 : w1.heap[pb]? = some (shOF (.pointer (some ⟨pb, 0, none⟩)) v) := by
    rcases hw1 with ⟨rfl, rfl⟩ | rfl
    · exact HX.out
    · simpa using set_pageTF (i := 0) (.pointer (some ⟨pb, 0, none⟩)) HX.out
  have ho1 : w1.ownsRow B 5 1 v bs.length (byteCells bs) := by
    rcases hw1 with ⟨rfl, rfl⟩ | rfl
    · exact HO.out
    · exact row_setTF 0 _ HX.out HO.out
  have hs1 : MidF B (fun k => k = pb) w w1 := by
    rcases hw1 with ⟨rfl, rfl⟩ | rfl
    · exact MidF.refl _ _ _
    · exact MidF.set (b := pb) (C := fun k => k = pb) _ rfl _ _
  have c0 : w1.cell? ⟨pb, 0, none⟩ = some (.pointer (some ⟨pb, 0, none⟩)) := cellTF hb1 rfl
  have c1 : w1.cell? ⟨pb, 1, none⟩ = some v := cellTF hb1 rfl
  have hsz1 : B ≤ w1.heap.size := Nat.le_trans hB hs1.size
  have HB1 := Lib.hid hb1
  have HS1 := Lib.hid hs1
  clear hb1 hs1 hw1 hp
  go_wp2_with (at_builtin; refine Lib.wpList_append_own_string _ rfl _ _ 41 9 rfl B 5 i0 Tryd.underlying41 Tryd.underlying9 hi hz0 hz1 hz2 _ _ _ rfl ho1 s rfl ?c3 ?c4 ?c5 ?_)
  case c3 => unfold maxLen; omega
  case c4 => omega
  case c5 => exact hsz1
  intro v' w2 hown' hgrow _
  have hs2 : MidF B (fun k => k = pb) w1 w2 := MidF.grown ho1 hgrow
  have hlt : pb < w1.heap.size := (Array.getElem?_eq_some_iff.1 HB1.out).1
  have hne : v.ownBlock ≠ some pb := fun e => by
    rcases ho1.2 with ⟨rfl, _⟩ | ⟨g, cap, cur, rfl, e2, e3, _⟩
    · simp [Value.ownBlock] at e
    · simp only [Value.ownBlock, Option.some.injEq] at e
      exact row_neTF HB1.out e3 e
  have hb2 : w2.heap[pb]? = some (shOF (.pointer (some ⟨pb, 0, none⟩)) v) := (hgrow.block pb hlt (fun e => hne e.symm)).trans HB1.out
  have d0 : w2.cell? ⟨pb, 0, none⟩ = some (.pointer (some ⟨pb, 0, none⟩)) := cellTF hb2 rfl
  have d1 : w2.cell? ⟨pb, 1, none⟩ = some v := cellTF hb2 rfl
  have f1 : w2.frozen? ⟨pb, 1, none⟩ = false := by simp [World.frozen?, hb2]
  obtain ⟨ao, n', cap, rfl⟩ : ∃ ao n' cap, v' = .slice ao n' cap := by
    rcases hown'.2 with ⟨hv, _⟩ | ⟨g, cap, cur, hv, _⟩
    · exact ⟨_, _, _, hv⟩
    · exact ⟨_, _, _, hv⟩
  have HB2 := Lib.hid hb2
  have HO2 := Lib.hid hown'
  have HS2 := Lib.hid hs2
  clear hb2 hown' hs2 hgrow c0 c1 ho1
  go_wp2
  go_ret2
  have hl : (bs ++ s.data.toList).length = bs.length + s.size := by rw [List.length_append, Array.length_toList]; rfl
  refine ⟨rfl, ⟨HB.out, ⟨.pointer (some ⟨pb, 0, none⟩), _, .inr rfl, by simpa using set_pageTF (i := 1) (.slice ao n' cap) HB2.out, ?_⟩⟩, (HS1.out.trans HS2.out).trans (MidF.set (b := pb) (C := fun k => k = pb) _ rfl _ _)⟩
  rw [hl, byteCells_appTF, ← strCells_bytesTF]
  exact row_setTF 1 _ HB2.out HO2.out

theorem MidF.freeze {B g : Nat} {C : Nat → Prop} {w : World} {cur : Array Value} {fr : Nat × Nat} (hg : w.heap[g]? = some (.cells cur 5 fr)) (hb : B ≤ g) (n : Nat) : MidF B C w (w.freeze ⟨g, 0, none⟩ n) := by
  unfold World.freeze
  split
  · exact MidF.refl _ _ _
  · refine ⟨rfl, rfl, rfl, by simp, fun k hk hp hc => ?_⟩
    show (w.heap.modify g _)[k]? = _
    rw [Array.getElem?_modify, if_neg]
    rintro rfl
    rcases hc with hc | hc
    · omega
    · exact hc _ _ hg
set_option maxHeartbeats 1000000 in
set_option maxRecDepth 100000 in
theorem stringTF_c {B pb : Nat} {bs : List UInt8} (w : World) (hP : ShRF B pb bs w) :
    Calls Tryd.prog 35 #[shPF pb] w fun e w' => e = .returned (.string ⟨bs.toArray⟩) ∧ MidF B (fun _ => False) w w' := by
  obtain ⟨p, v, hp, hx, hown⟩ := hP.box
  have mixed : Tryd.prog.follows .mixedOrders = true := by kernel_rfl
  have hUS0 : ∀ (W : World) (q : Option Addr), (Builtin.unsafeString_ #[78, 3] 9 #[.pointer q, .int .i64 0]).run Tryd.prog W = .ok (.string .empty) W := fun W q => Lib.run_unsafeString_none (w := W) _ _ _ q
  have hlt : pb < w.heap.size := (Array.getElem?_eq_some_iff.1 hx).1
  by_cases h0 : bs = []
  · subst h0
    rcases hown.2 with ⟨rfl, _⟩ | ⟨g, cap, cur, rfl, hbg, hg, hnc, hcm, hcs, htake⟩
    · have c1 : w.drew.cell? ⟨pb, 1, none⟩ = some (.slice none 0 0) := cellTF (w := w.drew) (i := 1) (show w.drew.heap[pb]? = _ from hx) rfl
      have hSD : (Builtin.unsafeSliceData_ #[41] 78 #[.slice none 0 0]).run Tryd.prog w.drew = .ok (.pointer none) w.drew := rfl
      clear hown hx hp hP
      go_enter Tryd.func35, Tryd.ntmps35
      go_wp2
      go_region_o
      all_goals (go_wp2; first | go_end0 | refine bodyPost_ret (results_none rfl _ _ _) rfl ?_ | go_ret2 | go_ret; try exact ⟨rfl, (MidF.refl _ _ _).drw⟩)
    · by_cases hc0 : cap = 0
      · subst hc0
        have c1 : w.drew.cell? ⟨pb, 1, none⟩ = some (.slice (some ⟨g, 0, none⟩) 0 0) := cellTF (w := w.drew) (i := 1) (show w.drew.heap[pb]? = _ from hx) rfl
        have hSD : (Builtin.unsafeSliceData_ #[41] 78 #[.slice (some ⟨g, 0, none⟩) 0 0]).run Tryd.prog w.drew = .ok (.pointer (some ⟨w.drew.heap.size, 0, none⟩)) (w.drew.alloc (.view ⟨g, 0, none⟩ 5)) :=
          Lib.run_unsafeSliceData_zero (w := w.drew) _ _ 5 (by kernel_rfl) ⟨g, 0, none⟩ 0 (5, cur.size) (by have hg' : w.drew.heap[g]? = some (.cells cur 5 (0, 0)) := hg; simp [World.shape?, hg'])
        have c2 : (w.drew.alloc (.view ⟨g, 0, none⟩ 5)).cell? ⟨pb, 1, none⟩ = some (.slice (some ⟨g, 0, none⟩) 0 0) := by
          have : (w.drew.alloc (.view ⟨g, 0, none⟩ 5)).heap[pb]? = _ := (Below.heap_alloc w.drew _ pb hlt).trans hx
          exact cellTF this rfl
        have c3 : (w.alloc (.view ⟨g, 0, none⟩ 5)).drew.cell? ⟨pb, 1, none⟩ = some (.slice (some ⟨g, 0, none⟩) 0 0) := c2
        have c0 : w.cell? ⟨pb, 1, none⟩ = some (.slice (some ⟨g, 0, none⟩) 0 0) := c1
        clear hown hx hp hP hg htake hcs hcm hnc
        go_enter Tryd.func35, Tryd.ntmps35
        go_wp2
        go_region_o
        all_goals (go_wp2; first | go_end0 | refine bodyPost_ret (results_none rfl _ _ _) rfl ?_ | go_ret2 | go_ret; try exact ⟨rfl, ((MidF.refl _ _ _).alloc _).drw⟩)
      · have c1 : w.drew.cell? ⟨pb, 1, none⟩ = some (.slice (some ⟨g, 0, none⟩) 0 cap) := cellTF (w := w.drew) (i := 1) (show w.drew.heap[pb]? = _ from hx) rfl
        have hSD : (Builtin.unsafeSliceData_ #[41] 78 #[.slice (some ⟨g, 0, none⟩) 0 cap]).run Tryd.prog w.drew = .ok (.pointer (some ⟨g, 0, none⟩)) w.drew :=
          Lib.run_unsafeSliceData_row _ _ _ _ _ _ hc0
        clear hown hx hp hP hg htake hcs hcm hnc hc0
        go_enter Tryd.func35, Tryd.ntmps35
        go_wp2
        go_region_o
        all_goals (go_wp2; first | go_end0 | refine bodyPost_ret (results_none rfl _ _ _) rfl ?_ | go_ret2 | go_ret; try exact ⟨rfl, (MidF.refl _ _ _).drw⟩)
  · have hl0 : bs.length ≠ 0 := by simpa using h0
    obtain ⟨g, cap, cur, rfl, hbg, hg, hnc, hcm, hcs, htake⟩ : ∃ g cap cur, v = .slice (some ⟨g, 0, none⟩) bs.length cap ∧ B ≤ g ∧ w.heap[g]? = some (.cells cur 5 (0, 0)) ∧ bs.length ≤ cap ∧ cap ≤ maxLen ∧ cur.size = cap * 1 ∧ cur.toList.take (bs.length * 1) = Lib.byteCells bs := by
      rcases hown.2 with ⟨_, hz⟩ | ⟨g, cap, cur, hv, r⟩
      · exact absurd hz hl0
      · exact ⟨g, cap, cur, hv, r⟩
    have c1 : w.drew.cell? ⟨pb, 1, none⟩ = some (.slice (some ⟨g, 0, none⟩) bs.length cap) := cellTF (w := w.drew) (i := 1) (show w.drew.heap[pb]? = _ from hx) rfl
    have hSD : (Builtin.unsafeSliceData_ #[41] 78 #[.slice (some ⟨g, 0, none⟩) bs.length cap]).run Tryd.prog w.drew = .ok (.pointer (some ⟨g, 0, none⟩)) w.drew :=
      Lib.run_unsafeSliceData_row _ _ _ _ _ _ (by omega)
    have hUS : (Builtin.unsafeString_ #[78, 3] 9 #[.pointer (some ⟨g, 0, none⟩), .int .i64 bs.length]).run Tryd.prog w.drew = .ok (.string ⟨bs.toArray⟩) (w.drew.freeze ⟨g, 0, none⟩ bs.length) := by
      refine Lib.run_unsafeString_row w.drew 78 3 9 5 (by kernel_rfl) (by kernel_rfl) g cur.size (by have hg' : w.drew.heap[g]? = some (.cells cur 5 (0, 0)) := hg; simp [World.shape?, hg']) bs h0 (by omega) (by unfold maxLen at hcm; omega) ?_
      intro j x hx
      have := hown.cells (g := g) rfl j (.int .u8 x.toNat) (by simp [Lib.byteCells, hx])
      exact this
    have hS : MidF B (fun _ => False) w (w.drew.freeze ⟨g, 0, none⟩ bs.length) := (MidF.refl _ _ _).drw.trans (MidF.freeze (w := w.drew) (cur := cur) (fr := (0, 0)) hg hbg _)
    have HS := Lib.hid hS
    clear hS hown htake hcs hcm hg hx hp hP hUS0
    go_enter Tryd.func35, Tryd.ntmps35
    go_wp2
    go_region_o
    all_goals (go_wp2; first | go_end0 | refine bodyPost_ret (results_none rfl _ _ _) rfl ?_ | go_ret2 | go_ret; try exact ⟨rfl, HS.out⟩)

theorem MidF.others {B pb : Nat} {bs : List UInt8} {w w' : World} (h : MidF B (fun k => k = pb) w w') (hp : ShRF B pb bs w) : KeepsOthers w w' :=
  ⟨h.size, fun k o ho hc => (h.block k (Array.getElem?_eq_some_iff.1 ho).1 (fun e => by
    subst e
    obtain ⟨p, v, _, hx, _⟩ := hp.box
    rw [ho] at hx; injection hx with hx; subst hx; cases hc) (.inr fun vs fr e => by rw [ho] at e; injection e with e; subst e; cases hc)).trans ho⟩
theorem MidF.kept {B : Nat} {C : Nat → Prop} {keep R : Nat → Prop} {w w' : World} (h : MidF B C w w') (hk : ∀ k, keep k → k < B ∧ k < w.heap.size ∧ ¬ C k) (hR : ∀ k, ¬ R k) : KeptS keep R w w' :=
  ⟨h.size, fun k hx => by
    rcases hx with hx | hx
    · obtain ⟨h1, h2, h3⟩ := hk k hx
      exact h.block k h2 h3 (.inl h1)
    · exact (hR k hx).elim⟩
theorem ShRF.below {B pb : Nat} {bs : List UInt8} {w w' : World} (h : ShRF B pb bs w) (hb : Below w.heap.size w w') : ShRF B pb bs w' := h.stay (C := fun _ => False) (But.of hb) (fun _ hc => hc.elim)
theorem ShRF.grown {B pb : Nat} {bs : List UInt8} {w w' : World} {row : Option Nat} (h : ShRF B pb bs w) (hg : w.grownBy w' row) (hr : ∀ k, row = some k → ∃ o : Obj, w.heap[k]? = some o ∧ o.isCells = false) : ShRF B pb bs w' := by
  have keep : ∀ (k : Nat) (o : Obj), w.heap[k]? = some o → o.isCells = true → w'.heap[k]? = some o := fun k o ho hc => (hg.block k (Array.getElem?_eq_some_iff.1 ho).1 (fun e => by
    obtain ⟨o2, h2, h3⟩ := hr k e.symm
    rw [ho] at h2; injection h2 with h2; subst h2; rw [hc] at h3; cases h3)).trans ho
  obtain ⟨p, v, hp, hx, hown⟩ := h.box
  exact ⟨h.base, ⟨p, v, hp, keep _ _ hx rfl, row_stayTF hown (fun g vs hg2 _ => (keep _ _ hg2 rfl).trans hg2.symm)⟩⟩
theorem ShRF.new {B : Nat} (w : World) (h : B ≤ w.heap.size) : ShRF B w.heap.size [] (w.alloc (.cells #[.pointer none, .slice none 0 0] 61)) :=
  ⟨h, ⟨_, _, .inl rfl, World.alloc_heap_new w _, ⟨rfl, .inl ⟨rfl, rfl⟩⟩⟩⟩
/-- What is told of texts that were put one behind the other. -/
def tellF (out : List UInt8) : ByteArray × Int := if out.length ≤ 16384 then (⟨out.toArray⟩, 0) else (⟨#[]⟩, 5)
theorem tellF_ok {out : List UInt8} (h : out.length ≤ 16384) : tellF out = (⟨out.toArray⟩, 0) := if_pos h
theorem tellF_no {out : List UInt8} (h : 16384 < out.length) : tellF out = (⟨#[]⟩, 5) := if_neg (by omega)
end Go.Proofs.YtnfeifafocemaaaDoor
