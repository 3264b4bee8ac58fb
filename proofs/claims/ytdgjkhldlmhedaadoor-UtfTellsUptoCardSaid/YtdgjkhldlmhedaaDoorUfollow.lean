/-
  Contract of utf.follow: the table that its closure reads.
-/
import Derived.Test.YtdgjkhldlmhedaaDoorUnext
set_option linter.unusedVariables false
set_option linter.unusedSimpArgs false
namespace Go.Proofs.YtdgjkhldlmhedaaDoor
open Go.RowKit Go.Lib

theorem makeI_full {z : Int} (n : Nat) (e : z = (n : Int)) (h : n ≤ 4398046511104) (w : World) : (Instr.makeSlice 27 (.int IntKind.i64 z) (.int IntKind.i64 z)).run Tryd.prog w =
    .ok (.slice (some ⟨w.heap.size, 0, none⟩) n n) (w.alloc (roomI n)) := by
  subst e
  obtain ⟨i0, hi, hz0, hz1, hz2⟩ := info_parts info64
  have hr := run_make (P := Tryd.prog) w 27 3 i0 (.int IntKind.i64 0) Tryd.underlying27 hi hz0 IntKind.i64 IntKind.i64 n n (by omega) (Int.le_refl _) (by rw [hz2]; omega) (by omega)
  rw [Int.toNat_natCast, hz1, Nat.mul_one] at hr
  exact hr
def nz (l : List Nat) : List Value := zs64 (l.map fun (x : Nat) => (x : Int))
theorem nz_length (l : List Nat) : (nz l).length = l.length := by unfold nz; rw [zs64_length, List.length_map]
theorem nz_get {l : List Nat} {k x : Nat} (h : l[k]? = some x) : (nz l)[k]? = some (.int .i64 (x : Int)) := by
  unfold nz; exact zs64_get (by rw [List.getElem?_map, h]; rfl)
theorem nz_set (l : List Nat) (k x : Nat) : nz (l.set k x) = (nz l).set k (.int .i64 (x : Int)) := by
  unfold nz zs64
  rw [List.map_set, List.map_set]
theorem RowV.made (w : World) (n : Nat) (h : n ≤ 4398046511104) : RowV (w.alloc (roomI n)) w.heap.size 3 (some ⟨w.heap.size, 0, none⟩) n n (nz (List.replicate n 0)) := by
  refine ⟨by rw [nz_length, List.length_replicate], ?_⟩
  have := World.ownsRow_lit (base := w.heap.size) (e := 3) (size := 1) w (madeCells #[.int IntKind.i64 0] n) n (Nat.le_refl _) (by unfold maxLen; omega) (by rw [size_madeCells, Nat.mul_one])
  rw [toList_madeCells_one] at this
  have e : nz (List.replicate n 0) = List.replicate n (Value.int IntKind.i64 0) := by simp [nz, zs64]
  rw [e]
  exact this
theorem RowV.store {w : World} {base n c g j : Nat} {t : TypeId} {vs : List Value} (h : RowV w base t (some ⟨g, 0, none⟩) n c vs) (v : Value) : RowV (w.setCell ⟨g, j, none⟩ v) base t (some ⟨g, 0, none⟩) n c (vs.set j v) :=
  ⟨by rw [List.length_set, h.len], (h.own.stored j _).1⟩

/-- What a world holds for the closure: the text, the table's box, the table. -/
structure Tbl (w : World) (B2 B3 g base : Nat) (T : List UInt8) (E : List Nat) : Prop where
  box : Boxed w B2 9 (.string (mk8 T))
  ends : Boxed w B3 27 (.slice (some ⟨g, 0, none⟩) T.length T.length)
  row : RowV w base 3 (some ⟨g, 0, none⟩) T.length T.length (nz E)
theorem Tbl.cell {w : World} {B2 B3 g base : Nat} {T : List UInt8} {E : List Nat} (h : Tbl w B2 B3 g base T E) {j x : Nat} (hx : E[j]? = some x) : w.cell? ⟨g, j, none⟩ = some (.int .i64 (x : Int)) := by
  have h1 := nz_get hx
  have h2 := (List.getElem?_eq_some_iff.1 h1).1
  rw [h.row.len] at h2
  rw [h.row.own.cellAt j (by omega), h1]
theorem Tbl.below {w w' : World} {B2 B3 g base : Nat} {T : List UInt8} {E : List Nat} (h : Tbl w B2 B3 g base T E) (hb : Below w.heap.size w w') : Tbl w' B2 B3 g base T E :=
  ⟨(hb.block _ h.box.lt).trans h.box, (hb.block _ h.ends.lt).trans h.ends, h.row.below hb (Nat.le_refl _)⟩
theorem Tbl.same {w w' : World} {B2 B3 g base : Nat} {T : List UInt8} {E : List Nat} (h : Tbl w B2 B3 g base T E) (h2 : w'.heap[B2]? = w.heap[B2]?) (h3 : w'.heap[B3]? = w.heap[B3]?) (h4 : w'.heap[g]? = w.heap[g]?) : Tbl w' B2 B3 g base T E :=
  ⟨h2.trans h.box, h3.trans h.ends, h.row.keep (fun g' e => by injection e with e; injection e with e; subst e; exact h4)⟩
/-- The table is right up to i. -/
def TblOk (T : List UInt8) (E : List Nat) (i : Nat) : Prop := E.length = T.length ∧ ∀ j x, j < i → E[j]? = some x → PB T j x ∧ (j + 1 = i → Bd T ((T.take i).drop 1) x)
/-- The closure's step, over the table. -/
theorem step_c {T u : List UInt8} {c : UInt8} {m i B2 B3 g base : Nat} {E : List Nat} (w : World) (h : Tbl w B2 B3 g base T E) (hok : TblOk T E i) (hm : m ≤ i) (hi : i ≤ T.length) (hT : 0 < T.length) (hsz : T.length ≤ 1099511627776) (hd : Bd T u m) :
    Calls Tryd.prog 53 #[.int .i64 (m : Int), .int .u8 (c.toNat : Int), .pointer (some ⟨B2, 0, none⟩), .pointer (some ⟨B3, 0, none⟩)] w fun e w' => (∃ r : Nat, e = .returned (.int .i64 (r : Int)) ∧ Bd T (u ++ [c]) r) ∧ w' = w := by
  refine next_c B2 B3 g (fun j => E.getD j 0) w h.box.cell h.ends.cell rfl (fun j hj => ?_) hT hsz hd
  have hx : E[j]? = some (E.getD j 0) := by
    rw [List.getD_eq_getElem?_getD, List.getElem?_eq_getElem (by rw [hok.1]; omega)]; rfl
  exact ⟨h.cell hx, (hok.2 j _ (by omega) hx).1⟩
theorem TblOk.next {T : List UInt8} {E : List Nat} {i r : Nat} (h : TblOk T E i) (hi : 0 < i) (hiT : i < T.length) (hr : Bd T ((T.take (i + 1)).drop 1) r) : TblOk T (E.set i r) (i + 1) := by
  refine ⟨by rw [List.length_set]; exact h.1, fun j x hj hx => ?_⟩
  by_cases e : j = i
  · subst e
    rw [List.getElem?_set_self (by rw [h.1]; exact hiT)] at hx
    injection hx with hx
    subst hx
    exact ⟨PB.of hiT hr, fun _ => hr⟩
  · rw [List.getElem?_set_ne (by omega)] at hx
    exact ⟨(h.2 j x (by omega) hx).1, fun e2 => absurd e2 (by omega)⟩
theorem TblOk.one {T : List UInt8} (hT : 0 < T.length) : TblOk T (List.replicate T.length 0) 1 := by
  refine ⟨List.length_replicate, fun j x hj hx => ?_⟩
  have hj0 : j = 0 := by omega
  subst hj0
  rw [List.getElem?_replicate, if_pos hT] at hx
  injection hx with hx
  subst hx
  have := table_zero T
  exact ⟨PB.of hT this, fun _ => this⟩
end Go.Proofs.YtdgjkhldlmhedaaDoor
