/-
  A page: where it stands in memory. Contracts of the Builder that lies in it (copyCheck, WriteString) and of the sheet's put.
-/
import Derived.Test.YtcanfiaooabocaaGreatDoorQWpan
import Derived.Shelf.Strings.Builder1
set_option linter.unusedVariables false
set_option linter.unusedSimpArgs false
namespace Go.Proofs.YtcanfiaooabocaaGreatDoor
open Go.RowKit Go.Lib

abbrev pgO (p v : Value) (room st o : Nat) (F : Value) : Obj := .cells #[p, v, .int .i64 (room : Int), .int .i64 (st : Int), .int .i64 (o : Int), F] 61
abbrev pgP (b : Nat) : Value := .pointer (some ⟨b, 0, none⟩)
/-- All blocks stay but the page's and rows of octets from B on. -/
structure Soft (B pb : Nat) (w w' : World) : Prop where
  os : w'.os = w.os
  tape : w'.tape = w.tape
  output : w'.output = w.output
  size : w.heap.size ≤ w'.heap.size
  block : ∀ k, k < w.heap.size → k ≠ pb → (k < B ∨ ∀ vs fr, w.heap[k]? ≠ some (.cells vs 5 fr)) → w'.heap[k]? = w.heap[k]?
theorem Soft.refl (B pb : Nat) (w : World) : Soft B pb w w := ⟨rfl, rfl, rfl, Nat.le_refl _, fun _ _ _ _ => rfl⟩
theorem Soft.trans {B pb : Nat} {a b c : World} (h : Soft B pb a b) (k : Soft B pb b c) : Soft B pb a c :=
  ⟨k.os.trans h.os, k.tape.trans h.tape, k.output.trans h.output, Nat.le_trans h.size k.size, fun i hi hp hc => by
    have e := h.block i hi hp hc
    rw [k.block i (Nat.lt_of_lt_of_le hi h.size) hp (by rw [e]; exact hc), e]⟩
theorem Soft.of {B pb : Nat} {w w' : World} (h : But (fun k => k = pb) w w') : Soft B pb w w' := ⟨h.os, h.tape, h.output, h.size, fun k hk hp _ => h.block k hk hp⟩
theorem Soft.of0 {B pb : Nat} {w w' : World} (h : But (fun _ => False) w w') : Soft B pb w w' := ⟨h.os, h.tape, h.output, h.size, fun k hk _ _ => h.block k hk (fun h => h)⟩
theorem Soft.ofB {B pb : Nat} {w w' : World} (h : Below w.heap.size w w') : Soft B pb w w' := Soft.of0 (But.of h)
theorem Soft.below {B pb : Nat} {w w' : World} (h : Soft B pb w w') (hB : B ≤ w.heap.size) (hp : B ≤ pb) : Below B w w' :=
  ⟨h.os, h.tape, h.output, h.size, fun k hk => h.block k (Nat.lt_of_lt_of_le hk hB) (by omega) (.inl hk)⟩
theorem Soft.fix {B pb : Nat} {w w' : World} (h : Soft B pb w w') (hp : ∃ vs t fr, w.heap[pb]? = some (.cells vs t fr)) : Fix w w' := fun k o hk ho => by
  obtain ⟨vs, t, fr, hv⟩ := hp
  rw [h.block k (Array.getElem?_eq_some_iff.1 hk).1 (by rintro rfl; rw [hv] at hk; injection hk with hk; subst hk; cases ho) (.inr fun vs fr e => by rw [hk] at e; injection e with e; subst e; cases ho), hk]
/-- A block that is no row of octets, and not the page, stays. -/
theorem Soft.keep {B pb k : Nat} {w w' : World} (h : Soft B pb w w') {vs : Array Value} {t : TypeId} {fr : Nat × Nat} (hk : w.heap[k]? = some (.cells vs t fr)) (hp : k ≠ pb) (ht : t ≠ 5) : w'.heap[k]? = some (.cells vs t fr) := by
  rw [h.block k (Array.getElem?_eq_some_iff.1 hk).1 hp (.inr fun vs2 fr2 e => by rw [hk] at e; injection e with e; injection e with _ e2 _; exact ht e2), hk]
theorem Soft.low {B pb : Nat} {w w' : World} (h : Soft B pb w w') (hp : B ≤ pb) (hB : B ≤ w.heap.size) {p : Addr} (hk : p.block < B) : w'.cell? p = w.cell? p := (h.below hB hp).cell (p := p) hk

/-- A page in block pb: the octets bs are written on it, there is room for so many more. -/
structure Pg (B pb : Nat) (bs : List UInt8) (room st o : Nat) (F : Value) (w : World) : Prop where
  base : B ≤ pb
  box : ∃ p v, (p = .pointer none ∨ p = .pointer (some ⟨pb, 0, none⟩)) ∧ w.heap[pb]? = some (pgO p v room st o F) ∧ w.ownsRow B 5 1 v bs.length (byteCells bs)
  top : room ≤ 9223372036854775807
theorem Pg.lt {B pb : Nat} {bs : List UInt8} {room st o : Nat} {F : Value} {w : World} (h : Pg B pb bs room st o F w) : pb < w.heap.size := by
  obtain ⟨p, v, _, hb, _⟩ := h.box
  exact (Array.getElem?_eq_some_iff.1 hb).1
theorem Pg.isc {B pb : Nat} {bs : List UInt8} {room st o : Nat} {F : Value} {w : World} (h : Pg B pb bs room st o F w) : ∃ vs t fr, w.heap[pb]? = some (.cells vs t fr) := by
  obtain ⟨p, v, _, hb, _⟩ := h.box
  exact ⟨_, _, _, hb⟩
theorem Pg.cells {B pb : Nat} {bs : List UInt8} {room st o : Nat} {F : Value} {w : World} (h : Pg B pb bs room st o F w) :
    w.cell? ⟨pb, 2, none⟩ = some (.int .i64 (room : Int)) ∧ w.cell? ⟨pb, 3, none⟩ = some (.int .i64 (st : Int)) ∧ w.cell? ⟨pb, 4, none⟩ = some (.int .i64 (o : Int)) ∧ w.cell? ⟨pb, 5, none⟩ = some F := by
  obtain ⟨p, v, _, hb, _⟩ := h.box
  exact ⟨cell_at3 hb rfl, cell_at3 hb rfl, cell_at3 hb rfl, cell_at3 hb rfl⟩
theorem Pg.frozen {B pb : Nat} {bs : List UInt8} {room st o : Nat} {F : Value} {w : World} (h : Pg B pb bs room st o F w) (i : Nat) : w.frozen? ⟨pb, i, none⟩ = false := by
  obtain ⟨p, v, _, hb, _⟩ := h.box
  simp [World.frozen?, hb]
theorem row_stay {B e n k : Nat} {v : Value} {xs : List Value} {w w' : World} (h : w.ownsRow B e 1 v n xs) (hb : ∀ g vs, w.heap[g]? = some (.cells vs e) → B ≤ g → w'.heap[g]? = w.heap[g]?) (hk : k = k) : w'.ownsRow B e 1 v n xs := by
  refine ⟨h.1, ?_⟩
  rcases h.2 with h2 | ⟨g, cap, cur, e1, e2, e3, e4⟩
  · exact .inl h2
  · exact .inr ⟨g, cap, cur, e1, e2, (hb g cur e3 e2).trans e3, e4⟩
/-- The page stays where all but one block that is none of its own stay. -/
theorem Pg.stay {B pb : Nat} {bs : List UInt8} {room st o : Nat} {F : Value} {w w' : World} {C : Nat → Prop} (h : Pg B pb bs room st o F w) (hb : But C w w') (hC : ∀ k, C k → ∀ vs t fr, w.heap[k]? = some (.cells vs t fr) → t ≠ 5 ∧ t ≠ 61) : Pg B pb bs room st o F w' := by
  obtain ⟨p, v, hp, hx, hown⟩ := h.box
  refine ⟨h.base, ⟨p, v, hp, (hb.block _ h.lt (fun hc => (hC _ hc _ _ _ hx).2 rfl)).trans hx, ?_⟩, h.top⟩
  exact row_stay (k := 0) hown (fun g vs hg _ => hb.block g (Array.getElem?_eq_some_iff.1 hg).1 (fun hc => (hC _ hc _ _ _ hg).1 rfl)) rfl
theorem Pg.stay0 {B pb : Nat} {bs : List UInt8} {room st o : Nat} {F : Value} {w w' : World} (h : Pg B pb bs room st o F w) (hb : But (fun _ => False) w w') : Pg B pb bs room st o F w' := h.stay hb (fun _ hc => hc.elim)
theorem Pg.turn {B pb l : Nat} {bs : List UInt8} {room st o : Nat} {F : Value} {w w' : World} (h : Pg B pb bs room st o F w) (ht : Turn l w w') : Pg B pb bs room st o F w' := h.stay ht.1 (fun k hc vs t fr hv => by
  obtain ⟨ob, h1, h2⟩ := ht.2
  subst hc
  rw [h1] at hv; injection hv with hv; subst hv; cases h2)
theorem set_page {w : World} {pb i : Nat} {vs : Array Value} {t : TypeId} (u : Value) (h : w.heap[pb]? = some (.cells vs t)) : (w.setCell ⟨pb, i, none⟩ u).heap[pb]? = some (.cells (vs.set! i u) t) := by
  have hlt := (Array.getElem?_eq_some_iff.1 h).1
  rw [Array.getElem?_eq_getElem hlt] at h
  injection h with h
  show (w.heap.modify pb _)[pb]? = _
  rw [Array.getElem?_modify, if_pos rfl, Array.getElem?_eq_getElem hlt, h]
  rfl
theorem row_ne {B pb g : Nat} {w : World} {p v : Value} {room st o : Nat} {F : Value} {vs : Array Value} (hb : w.heap[pb]? = some (pgO p v room st o F)) (hg : w.heap[g]? = some (.cells vs 5)) : g ≠ pb := by
  rintro rfl
  rw [hb] at hg; injection hg with hg; injection hg with _ h2 _; exact absurd h2 (by decide)
theorem row_set {B pb : Nat} {w : World} {p v v2 : Value} {room st o : Nat} {F : Value} {n : Nat} {xs : List Value} (i : Nat) (u : Value) (hb : w.heap[pb]? = some (pgO p v room st o F)) (h : w.ownsRow B 5 1 v2 n xs) : (w.setCell ⟨pb, i, none⟩ u).ownsRow B 5 1 v2 n xs :=
  row_stay (k := 0) h (fun g vs hg _ => Below.heap_setCell _ _ _ _ (row_ne (B := B) hb hg)) rfl
/-- Room, and how many are open, are told anew. -/
theorem Pg.room {B pb : Nat} {bs : List UInt8} {room st o : Nat} {F : Value} {w : World} (h : Pg B pb bs room st o F w) {r : Nat} (hr : r ≤ 9223372036854775807) : Pg B pb bs r st o F (w.setCell ⟨pb, 2, none⟩ (.int .i64 (r : Int))) := by
  obtain ⟨p, v, hp, hx, hown⟩ := h.box
  exact ⟨h.base, ⟨p, v, hp, by simpa using set_page (i := 2) (.int .i64 (r : Int)) hx, row_set 2 _ hx hown⟩, hr⟩
theorem Pg.opn {B pb : Nat} {bs : List UInt8} {room st o : Nat} {F : Value} {w : World} (h : Pg B pb bs room st o F w) (r : Nat) : Pg B pb bs room st r F (w.setCell ⟨pb, 4, none⟩ (.int .i64 (r : Int))) := by
  obtain ⟨p, v, hp, hx, hown⟩ := h.box
  exact ⟨h.base, ⟨p, v, hp, by simpa using set_page (i := 4) (.int .i64 (r : Int)) hx, row_set 4 _ hx hown⟩, h.top⟩
theorem Soft.set {B pb : Nat} (w : World) (i : Nat) (u : Value) : Soft B pb w (w.setCell ⟨pb, i, none⟩ u) := Soft.of (But.setCell (C := fun k => k = pb) (p := ⟨pb, i, none⟩) (But.refl _ _) (.inl rfl) _)
/-- The fault that there is no room. -/
abbrev Flt5 : Ending := .panicked [{ v := .iface 83 (.agg #[.int .i64 5]), recovered := false }]
/-- What writing the octets out comes to. -/
def Wr (B pb : Nat) (bs : List UInt8) (room st o : Nat) (F : Value) (w : World) (out : List UInt8) (e : Ending) (w' : World) : Prop :=
  (out.length ≤ room ∧ e = .returned (.tuple #[]) ∧ Pg B pb (bs ++ out) (room - out.length) st o F w' ∧ Soft B pb w w') ∨ (room < out.length ∧ e = Flt5 ∧ Soft B pb w w')
theorem Wr.step {B pb : Nat} {bs : List UInt8} {room st o : Nat} {F : Value} {w w1 w' : World} {o1 o2 : List UInt8} {e : Ending} (h1 : o1.length ≤ room) (hs : Soft B pb w w1) (h : Wr B pb (bs ++ o1) (room - o1.length) st o F w1 o2 e w') : Wr B pb bs room st o F w (o1 ++ o2) e w' := by
  rcases h with ⟨h2, rfl, hP, hS⟩ | ⟨h2, rfl, hS⟩
  · refine .inl ⟨by rw [List.length_append]; omega, rfl, ?_, hs.trans hS⟩
    rw [← List.append_assoc, List.length_append, ← Nat.sub_sub]; exact hP
  · exact .inr ⟨by rw [List.length_append]; omega, rfl, hs.trans hS⟩
theorem Wr.fail {B pb : Nat} {bs : List UInt8} {room st o : Nat} {F : Value} {w w1 : World} {o1 : List UInt8} (o2 : List UInt8) (h : room < o1.length) (hs : Soft B pb w w1) : Wr B pb bs room st o F w (o1 ++ o2) Flt5 w1 := .inr ⟨by rw [List.length_append]; omega, rfl, hs⟩
theorem Wr.done {B pb : Nat} {bs : List UInt8} {room st o : Nat} {F : Value} {w w1 : World} {out : List UInt8} (h : out.length ≤ room) (hP : Pg B pb (bs ++ out) (room - out.length) st o F w1) (hs : Soft B pb w w1) : Wr B pb bs room st o F w out (.returned (.tuple #[])) w1 := .inl ⟨h, rfl, hP, hs⟩

theorem Wr.no {B pb : Nat} {bs : List UInt8} {room st o : Nat} {F : Value} {w w1 : World} {out : List UInt8} (h : room < out.length) (hs : Soft B pb w w1) : Wr B pb bs room st o F w out Flt5 w1 := .inr ⟨h, rfl, hs⟩
theorem infoU8 : (Tryz.prog.info? 5).map (fun i => (i.zero, i.size, i.bytes)) = some (some (.int .u8 0), 1, 1) := by kernel_rfl
theorem infoBld : (Tryz.prog.info? 56).map (·.size) = some 2 := by kernel_rfl
theorem liesBld : liesAt Tryz.prog Tryz.prog.depth 61 (6 / Tryz.prog.cellsOf 61) 0 56 1 = true := by kernel_rfl

set_option maxHeartbeats 1000000 in
set_option maxRecDepth 100000 in
theorem copyCheck_c {pb : Nat} {p v : Value} {room st o : Nat} {F : Value} (w : World) (hb : w.heap[pb]? = some (pgO p v room st o F)) (hp : p = .pointer none ∨ p = .pointer (some ⟨pb, 0, none⟩)) :
    Calls Tryz.prog 58 #[pgP pb] w fun e w' => e = .returned (.tuple #[]) ∧ (w' = w ∧ p = .pointer (some ⟨pb, 0, none⟩) ∨ w' = w.setCell ⟨pb, 0, none⟩ (.pointer (some ⟨pb, 0, none⟩))) := by
  obtain ⟨j, hj, hjs⟩ := Option.map_eq_some_iff.1 infoBld
  have h0 : w.cell? ⟨pb, 0, none⟩ = some p := cell_at3 hb rfl
  have hsh : w.shape? pb = some (61, 6) := by simp [World.shape?, hb]
  have hfz : w.frozen? ⟨pb, 0, none⟩ = false := by simp [World.frozen?, hb]
  have HB := Lib.hid hb
  clear hb
  rcases hp with rfl | rfl
  · go_enter Tryz.func58, Tryz.ntmps58
    go_wp2
    rw [Lib.run_to_unsafe w ⟨pb, 0, none⟩ Tryz.underlying54 Tryz.underlying130 hj (by rw [hjs]; decide) hsh (Nat.zero_lt_succ 5)]
    simp only [Result.andThen]
    rw [Oper.upon_value]
    go_wp2
    rw [run_callFunc_extern Tryz.func90 (by kernel_rfl) (by kernel_rfl) (by kernel_rfl) (e := Extern.AbiNoEscape.same) (by kernel_rfl)]
    rw [Lib.run_noEscape]
    simp only [Result.andThen]
    rw [Oper.upon_value]
    go_wp2
    rw [Lib.run_from_unsafe w ⟨pb, 0, none⟩ Tryz.underlying130 Tryz.underlying54 hj hsh liesBld]
    simp only [Result.andThen]
    rw [Oper.upon_value]
    go_wp2
    go_end0
    exact ⟨rfl, .inr rfl⟩
  · go_enter Tryz.func58, Tryz.ntmps58
    go_wp2
    rw [Lib.run_neq_ptr_same w _ Tryz.underlying54 hj]
    go_wp2
    go_end0
    first | exact ⟨rfl, .inl ⟨rfl, rfl⟩⟩ | exact ⟨rfl, .inl ⟨rfl, trivial⟩⟩
end Go.Proofs.YtcanfiaooabocaaGreatDoor
