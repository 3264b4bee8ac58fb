/-
  A sheet: where it stands in memory; contracts of the Builder that lies in it (copyCheck, Len, WriteString, String), of put and of told.
-/
import Derived.Test.YtdacdppmgcaioaaDoorLUcheck
import Derived.Test.YtdacdppmgcaioaaDoorLUrchk
import Derived.Test.YtdacdppmgcaioaaDoorLLsc
import Derived.Test.YtdacdppmgcaioaaDoorLUsync
import Derived.Shelf.Strings.Builder1
set_option linter.unusedVariables false
set_option linter.unusedSimpArgs false
namespace Go.Proofs.YtdacdppmgcaioaaDoor
open Go.RowKit Go.Lib

abbrev shO (p v : Value) (f : Bool) : Obj := .cells #[p, v, .bool f] 81
abbrev shP (b : Nat) : Value := .pointer (some ⟨b, 0, none⟩)
theorem cellT {w : World} {b i : Nat} {vs : Array Value} {v : Value} {t : TypeId} (h : w.heap[b]? = some (.cells vs t)) (hi : vs[i]? = some v) : w.cell? ⟨b, i, none⟩ = some v := by
  simp [World.cell?, h, hi]
/-- All blocks stay but those of C, and rows of octets from B on. -/
structure Mid (B : Nat) (C : Nat → Prop) (w w' : World) : Prop where
  os : w'.os = w.os
  tape : w'.tape = w.tape
  output : w'.output = w.output
  size : w.heap.size ≤ w'.heap.size
  block : ∀ k, k < w.heap.size → ¬ C k → (k < B ∨ ∀ vs fr, w.heap[k]? ≠ some (.cells vs 5 fr)) → w'.heap[k]? = w.heap[k]?
theorem Mid.refl (B : Nat) (C : Nat → Prop) (w : World) : Mid B C w w := ⟨rfl, rfl, rfl, Nat.le_refl _, fun _ _ _ _ => rfl⟩
theorem Mid.trans {B : Nat} {C : Nat → Prop} {a b c : World} (h : Mid B C a b) (k : Mid B C b c) : Mid B C a c :=
  ⟨k.os.trans h.os, k.tape.trans h.tape, k.output.trans h.output, Nat.le_trans h.size k.size, fun i hi hp hc => by
    have e := h.block i hi hp hc
    rw [k.block i (Nat.lt_of_lt_of_le hi h.size) hp (by rw [e]; exact hc), e]⟩
theorem Mid.mono {B : Nat} {C D : Nat → Prop} {a b : World} (h : Mid B C a b) (hD : ∀ k, k < a.heap.size → C k → D k) : Mid B D a b := ⟨h.os, h.tape, h.output, h.size, fun k hk hp hc => h.block k hk (fun h2 => hp (hD k hk h2)) hc⟩
theorem Mid.of {B : Nat} {C : Nat → Prop} {w w' : World} (h : Below w.heap.size w w') : Mid B C w w' := ⟨h.os, h.tape, h.output, h.size, fun k hk _ _ => h.block k hk⟩
theorem Mid.below {B : Nat} {C : Nat → Prop} {w w' : World} (h : Mid B C w w') (hB : B ≤ w.heap.size) (hp : ∀ k, k < B → ¬ C k) : Below B w w' :=
  ⟨h.os, h.tape, h.output, h.size, fun k hk => h.block k (Nat.lt_of_lt_of_le hk hB) (hp k hk) (.inl hk)⟩
/-- A block that is no row of octets, and none of C, stays. -/
theorem Mid.keep {B k : Nat} {C : Nat → Prop} {w w' : World} (h : Mid B C w w') {vs : Array Value} {t : TypeId} {fr : Nat × Nat} (hk : w.heap[k]? = some (.cells vs t fr)) (hp : ¬ C k) (ht : t ≠ 5) : w'.heap[k]? = some (.cells vs t fr) := by
  rw [h.block k (Array.getElem?_eq_some_iff.1 hk).1 hp (.inr fun vs2 fr2 e => by rw [hk] at e; injection e with e; injection e with _ e2 _; exact ht e2), hk]
theorem Mid.set {B b : Nat} {C : Nat → Prop} (w : World) (hb : C b) (i : Nat) (u : Value) : Mid B C w (w.setCell ⟨b, i, none⟩ u) :=
  ⟨rfl, rfl, rfl, by simp [World.setCell], fun k _ hp _ => Below.heap_setCell _ _ _ _ (by rintro rfl; exact hp hb)⟩
theorem Mid.drw {B : Nat} {C : Nat → Prop} {w wr : World} (h : Mid B C w wr) : Mid B C w wr.drew := ⟨h.os, h.tape, h.output, h.size, h.block⟩
theorem Mid.alloc {B : Nat} {C : Nat → Prop} {w wr : World} (h : Mid B C w wr) (o : Obj) : Mid B C w (wr.alloc o) := h.trans (Mid.of ((Below.refl _ _).alloc (Nat.le_refl _) o))
theorem set_pageT {w : World} {pb i : Nat} {vs : Array Value} {t : TypeId} (u : Value) (h : w.heap[pb]? = some (.cells vs t)) : (w.setCell ⟨pb, i, none⟩ u).heap[pb]? = some (.cells (vs.set! i u) t) := by
  have hlt := (Array.getElem?_eq_some_iff.1 h).1
  rw [Array.getElem?_eq_getElem hlt] at h
  injection h with h
  show (w.heap.modify pb _)[pb]? = _
  rw [Array.getElem?_modify, if_pos rfl, Array.getElem?_eq_getElem hlt, h]
  rfl
theorem row_stayT {B e n : Nat} {v : Value} {xs : List Value} {w w' : World} (h : w.ownsRow B e 1 v n xs) (hb : ∀ g vs, w.heap[g]? = some (.cells vs e) → B ≤ g → w'.heap[g]? = w.heap[g]?) : w'.ownsRow B e 1 v n xs := by
  refine ⟨h.1, ?_⟩
  rcases h.2 with h2 | ⟨g, cap, cur, e1, e2, e3, e4⟩
  · exact .inl h2
  · exact .inr ⟨g, cap, cur, e1, e2, (hb g cur e3 e2).trans e3, e4⟩
theorem row_neT {pb g : Nat} {w : World} {p v : Value} {f : Bool} {vs : Array Value} (hb : w.heap[pb]? = some (shO p v f)) (hg : w.heap[g]? = some (.cells vs 5)) : g ≠ pb := by
  rintro rfl
  rw [hb] at hg; injection hg with hg; injection hg with _ h2 _; exact absurd h2 (by decide)
theorem row_setT {B pb : Nat} {w : World} {p v v2 : Value} {f : Bool} {n : Nat} {xs : List Value} (i : Nat) (u : Value) (hb : w.heap[pb]? = some (shO p v f)) (h : w.ownsRow B 5 1 v2 n xs) : (w.setCell ⟨pb, i, none⟩ u).ownsRow B 5 1 v2 n xs :=
  row_stayT h (fun g vs hg _ => Below.heap_setCell _ _ _ _ (row_neT hb hg))

/-- A sheet's raw state: the octets bs are written on it, the flag is f. -/
structure ShR (B pb : Nat) (bs : List UInt8) (f : Bool) (w : World) : Prop where
  base : B ≤ pb
  box : ∃ p v, (p = .pointer none ∨ p = .pointer (some ⟨pb, 0, none⟩)) ∧ w.heap[pb]? = some (shO p v f) ∧ w.ownsRow B 5 1 v bs.length (byteCells bs)
theorem ShR.lt {B pb : Nat} {bs : List UInt8} {f : Bool} {w : World} (h : ShR B pb bs f w) : pb < w.heap.size := by
  obtain ⟨p, v, _, hb, _⟩ := h.box
  exact (Array.getElem?_eq_some_iff.1 hb).1
theorem ShR.flag {B pb : Nat} {bs : List UInt8} {f : Bool} {w : World} (h : ShR B pb bs f w) : w.cell? ⟨pb, 2, none⟩ = some (.bool f) ∧ w.frozen? ⟨pb, 2, none⟩ = false := by
  obtain ⟨p, v, _, hb, _⟩ := h.box
  exact ⟨cellT hb rfl, by simp [World.frozen?, hb]⟩
theorem ShR.setf {B pb : Nat} {bs : List UInt8} {f : Bool} {w : World} (h : ShR B pb bs f w) (g : Bool) : ShR B pb bs g (w.setCell ⟨pb, 2, none⟩ (.bool g)) := by
  obtain ⟨p, v, hp, hx, hown⟩ := h.box
  exact ⟨h.base, ⟨p, v, hp, by simpa using set_pageT (i := 2) (.bool g) hx, row_setT 2 _ hx hown⟩⟩
/-- It stays where all blocks stay but others than it and rows of octets. -/
theorem ShR.stay {B pb : Nat} {bs : List UInt8} {f : Bool} {w w' : World} {C : Nat → Prop} (h : ShR B pb bs f w) (hb : But C w w') (hC : ∀ k, C k → ∀ vs t fr, w.heap[k]? = some (.cells vs t fr) → t ≠ 5 ∧ t ≠ 81) : ShR B pb bs f w' := by
  obtain ⟨p, v, hp, hx, hown⟩ := h.box
  refine ⟨h.base, ⟨p, v, hp, (hb.block _ h.lt (fun hc => (hC _ hc _ _ _ hx).2 rfl)).trans hx, ?_⟩⟩
  exact row_stayT hown (fun g vs hg _ => hb.block g (Array.getElem?_eq_some_iff.1 hg).1 (fun hc => (hC _ hc _ _ _ hg).1 rfl))
/-- A sheet on which out was put: all of it, or the flag that there was no room. -/
def Sh (B pb : Nat) (out : List UInt8) (w : World) : Prop := ∃ bs f, ShR B pb bs f w ∧ bs.length ≤ 16384 ∧ ((f = false ∧ bs = out) ∨ (f = true ∧ 16384 < out.length))
theorem Sh.stay {B pb : Nat} {out : List UInt8} {w w' : World} {C : Nat → Prop} (h : Sh B pb out w) (hb : But C w w') (hC : ∀ k, C k → ∀ vs t fr, w.heap[k]? = some (.cells vs t fr) → t ≠ 5 ∧ t ≠ 81) : Sh B pb out w' := by
  obtain ⟨bs, f, h1, h2, h3⟩ := h
  exact ⟨bs, f, h1.stay hb hC, h2, h3⟩
theorem Sh.stay0 {B pb : Nat} {out : List UInt8} {w w' : World} (h : Sh B pb out w) (hb : Below w.heap.size w w') : Sh B pb out w' := h.stay (C := fun _ => False) (But.of hb) (fun _ hc => hc.elim)
theorem Sh.lt {B pb : Nat} {out : List UInt8} {w : World} (h : Sh B pb out w) : pb < w.heap.size := by obtain ⟨_, _, h1, _⟩ := h; exact h1.lt
theorem Sh.base {B pb : Nat} {out : List UInt8} {w : World} (h : Sh B pb out w) : B ≤ pb := by obtain ⟨_, _, h1, _⟩ := h; exact h1.base

theorem infoU8 : (Tryd.prog.info? 5).map (fun i => (i.zero, i.size, i.bytes)) = some (some (.int .u8 0), 1, 1) := by kernel_rfl
theorem infoBld : (Tryd.prog.info? 79).map (·.size) = some 2 := by kernel_rfl
theorem liesBld : liesAt Tryd.prog Tryd.prog.depth 81 (3 / Tryd.prog.cellsOf 81) 0 79 1 = true := by kernel_rfl

set_option maxHeartbeats 1000000 in
set_option maxRecDepth 100000 in
theorem copyCheck_c {pb : Nat} {p v : Value} {f : Bool} (w : World) (hb : w.heap[pb]? = some (shO p v f)) (hp : p = .pointer none ∨ p = .pointer (some ⟨pb, 0, none⟩)) :
    Calls Tryd.prog 94 #[shP pb] w fun e w' => e = .returned (.tuple #[]) ∧ (w' = w ∧ p = .pointer (some ⟨pb, 0, none⟩) ∨ w' = w.setCell ⟨pb, 0, none⟩ (.pointer (some ⟨pb, 0, none⟩))) := by
  obtain ⟨j, hj, hjs⟩ := Option.map_eq_some_iff.1 infoBld
  have h0 : w.cell? ⟨pb, 0, none⟩ = some p := cellT hb rfl
  have hsh : w.shape? pb = some (81, 3) := by simp [World.shape?, hb]
  have hfz : w.frozen? ⟨pb, 0, none⟩ = false := by simp [World.frozen?, hb]
  have HB := Lib.hid hb
  clear hb
  rcases hp with rfl | rfl
  · go_enter Tryd.func94, Tryd.ntmps94
    go_wp2
    rw [Lib.run_to_unsafe w ⟨pb, 0, none⟩ Tryd.underlying77 Tryd.underlying123 hj (by rw [hjs]; decide) hsh (Nat.zero_lt_succ 2)]
    simp only [Result.andThen]
    rw [Oper.upon_value]
    go_wp2
    rw [run_callFunc_extern Tryd.func106 (by kernel_rfl) (by kernel_rfl) (by kernel_rfl) (e := Extern.AbiNoEscape.same) (by kernel_rfl)]
    rw [Lib.run_noEscape]
    simp only [Result.andThen]
    rw [Oper.upon_value]
    go_wp2
    rw [Lib.run_from_unsafe w ⟨pb, 0, none⟩ Tryd.underlying123 Tryd.underlying77 hj hsh liesBld]
    simp only [Result.andThen]
    rw [Oper.upon_value]
    go_wp2
    go_end0
    exact ⟨rfl, .inr rfl⟩
  · go_enter Tryd.func94, Tryd.ntmps94
    go_wp2
    rw [Lib.run_neq_ptr_same w _ Tryd.underlying77 hj]
    go_wp2
    go_end0
    first | exact ⟨rfl, .inl ⟨rfl, rfl⟩⟩ | exact ⟨rfl, .inl ⟨rfl, trivial⟩⟩

set_option maxHeartbeats 1000000 in
set_option maxRecDepth 100000 in
theorem bldLen_c {B pb : Nat} {bs : List UInt8} {f : Bool} (w : World) (hP : ShR B pb bs f w) :
    Calls Tryd.prog 67 #[shP pb] w fun e w' => e = .returned (.int .i64 bs.length) ∧ w' = w := by
  obtain ⟨p, v, hp, hx, hown⟩ := hP.box
  obtain ⟨ao, cap, rfl⟩ : ∃ ao cap, v = .slice ao bs.length cap := by
    rcases hown.2 with ⟨hv, h0⟩ | ⟨g, cap, cur, hv, _⟩
    · exact ⟨none, 0, by rw [hv, h0]⟩
    · exact ⟨_, _, hv⟩
  have c1 : w.cell? ⟨pb, 1, none⟩ = some (.slice ao bs.length cap) := cellT hx rfl
  clear hx hown hP hp
  go_enter Tryd.func67, Tryd.ntmps67
  go_wp2
  go_ret
  exact ⟨rfl, rfl⟩

theorem strCells_bytesT (s : ByteArray) : strCells s = byteCells s.data.toList := by
  unfold strCells byteCells
  rfl
theorem byteCells_appT (a b : List UInt8) : byteCells (a ++ b) = byteCells a ++ byteCells b := by unfold byteCells; rw [List.map_append]
theorem Mid.grown {B : Nat} {C : Nat → Prop} {w w' : World} {v : Value} {n : Nat} {xs : List Value} (h : w.ownsRow B 5 1 v n xs) (hg : w.grownBy w' v.ownBlock) : Mid B C w w' :=
  ⟨hg.os, hg.tape, hg.output, hg.size, fun k hk hp hc => hg.block k hk (fun e => by
    rcases h.2 with ⟨rfl, _⟩ | ⟨g, cap, cur, rfl, e2, e3, _⟩
    · simp [Value.ownBlock] at e
    · simp only [Value.ownBlock, Option.some.injEq] at e
      subst e
      rcases hc with hc | hc
      · omega
      · exact hc _ _ e3)⟩
set_option maxHeartbeats 1000000 in
set_option maxRecDepth 100000 in
theorem writeStrT_c {B pb : Nat} {bs : List UInt8} {f : Bool} (w : World) (hP : ShR B pb bs f w) (s : ByteArray) (hcap : bs.length + s.size ≤ 140737488355328) (hB : B ≤ w.heap.size) :
    Calls Tryd.prog 68 #[shP pb, .string s] w fun e w' => e = .returned (.tuple #[.int .i64 s.size, .nilIface]) ∧ ShR B pb (bs ++ s.data.toList) f w' ∧ Mid B (fun k => k = pb) w w' := by
  obtain ⟨i0, hi, hz0, hz1, hz2⟩ := info_parts infoU8
  obtain ⟨p, v, hp, hx, hown⟩ := hP.box
  have HB := Lib.hid hP.base
  have HX := Lib.hid hx
  have HO := Lib.hid hown
  clear hP hx hown
  go_enter Tryd.func68, Tryd.ntmps68
  go_wp2_with fail
  refine (copyCheck_c w HX.out hp).mono ?_
  rintro e w1 ⟨rfl, hw1⟩
  have hb1 : w1.heap[pb]? = some (shO (.pointer (some ⟨pb, 0, none⟩)) v f) := by
    rcases hw1 with ⟨rfl, rfl⟩ | rfl
    · exact HX.out
    · simpa using set_pageT (i := 0) (.pointer (some ⟨pb, 0, none⟩)) HX.out
  have ho1 : w1.ownsRow B 5 1 v bs.length (byteCells bs) := by
    rcases hw1 with ⟨rfl, rfl⟩ | rfl
    · exact HO.out
    · exact row_setT 0 _ HX.out HO.out
  have hs1 : Mid B (fun k => k = pb) w w1 := by
    rcases hw1 with ⟨rfl, rfl⟩ | rfl
    · exact Mid.refl _ _ _
    · exact Mid.set (b := pb) (C := fun k => k = pb) _ rfl _ _
  have c0 : w1.cell? ⟨pb, 0, none⟩ = some (.pointer (some ⟨pb, 0, none⟩)) := cellT hb1 rfl
  have c1 : w1.cell? ⟨pb, 1, none⟩ = some v := cellT hb1 rfl
  have hsz1 : B ≤ w1.heap.size := Nat.le_trans hB hs1.size
  have HB1 := Lib.hid hb1
  have HS1 := Lib.hid hs1
  clear hb1 hs1 hw1 hp
  go_wp2_with (at_builtin; refine Lib.wpList_append_own_string _ rfl _ _ 62 9 rfl B 5 i0 Tryd.underlying62 Tryd.underlying9 hi hz0 hz1 hz2 _ _ _ rfl ho1 s rfl ?c3 ?c4 ?c5 ?_)
  case c3 => unfold maxLen; omega
  case c4 => omega
  case c5 => exact hsz1
  intro v' w2 hown' hgrow _
  have hs2 : Mid B (fun k => k = pb) w1 w2 := Mid.grown ho1 hgrow
  have hlt : pb < w1.heap.size := (Array.getElem?_eq_some_iff.1 HB1.out).1
  have hne : v.ownBlock ≠ some pb := fun e => by
    rcases ho1.2 with ⟨rfl, _⟩ | ⟨g, cap, cur, rfl, e2, e3, _⟩
    · simp [Value.ownBlock] at e
    · simp only [Value.ownBlock, Option.some.injEq] at e
      exact row_neT HB1.out e3 e
  have hb2 : w2.heap[pb]? = some (shO (.pointer (some ⟨pb, 0, none⟩)) v f) := (hgrow.block pb hlt (fun e => hne e.symm)).trans HB1.out
  have d0 : w2.cell? ⟨pb, 0, none⟩ = some (.pointer (some ⟨pb, 0, none⟩)) := cellT hb2 rfl
  have d1 : w2.cell? ⟨pb, 1, none⟩ = some v := cellT hb2 rfl
  have f1 : w2.frozen? ⟨pb, 1, none⟩ = false := by simp [World.frozen?, hb2]
  obtain ⟨ao, n', cap, rfl⟩ : ∃ ao n' cap, v' = .slice ao n' cap := by
    rcases hown'.2 with ⟨hv, _⟩ | ⟨g, cap, cur, hv, _⟩
    · exact ⟨_, _, _, hv⟩
    · exact ⟨_, _, _, hv⟩
  have HB2 := Lib.hid hb2
  have HO2 := Lib.hid hown'
  have HS2 := Lib.hid hs2
  clear hb2 hown' hs2 hgrow c0 c1 ho1
  go_wp2
  go_ret2
  have hl : (bs ++ s.data.toList).length = bs.length + s.size := by rw [List.length_append, Array.length_toList]; rfl
  refine ⟨rfl, ⟨HB.out, ⟨.pointer (some ⟨pb, 0, none⟩), _, .inr rfl, by simpa using set_pageT (i := 1) (.slice ao n' cap) HB2.out, ?_⟩⟩, (HS1.out.trans HS2.out).trans (Mid.set (b := pb) (C := fun k => k = pb) _ rfl _ _)⟩
  rw [hl, byteCells_appT, ← strCells_bytesT]
  exact row_setT 1 _ HB2.out HO2.out

set_option maxHeartbeats 1000000 in
set_option maxRecDepth 100000 in
theorem put_c {B pb : Nat} {out : List UInt8} (w : World) (hP : Sh B pb out w) (s : ByteArray) (hcap : s.size ≤ 140737488355328) (hB : B ≤ w.heap.size) :
    Calls Tryd.prog 39 #[shP pb, .string s] w fun e w' => e = .returned (.tuple #[]) ∧ Sh B pb (out ++ s.data.toList) w' ∧ Mid B (fun k => k = pb) w w' := by
  have hl : s.data.toList.length = s.size := by rw [Array.length_toList]; rfl
  obtain ⟨bs, f, hR, hbl, hf⟩ := hP
  obtain ⟨c2, f2⟩ := hR.flag
  rcases hf with ⟨rfl, rfl⟩ | ⟨rfl, hbig⟩
  · by_cases hr : 16384 < bs.length + s.size
    · have hlen := bldLen_c w hR
      have hw : IntKind.i64.wrap (16384 - (bs.length : Int)) = 16384 - (bs.length : Int) := IntWalk.i64_in _ (by omega)
      have hr2 : decide (16384 - (bs.length : Int) < (s.size : Int)) = true := decide_eq_true (by omega)
      have hR2 := hR.setf true
      have f9 := hR2.flag
      have HF := Lib.hid hR2
      have HL := Lib.hid hlen
      have HR := Lib.hid hR
      clear hlen hR hR2
      obtain ⟨d2, -⟩ := f9
      go_enter Tryd.func39, Tryd.ntmps39
      go_wp2_with fail
      refine HL.out.mono ?_
      rintro e w1 ⟨rfl, rfl⟩
      go_wp2_with fail
      first | go_end0 | refine bodyPost_ret (results_none rfl _ _ _) rfl ?_
      exact ⟨rfl, ⟨bs, true, HF.out, hbl, .inr ⟨rfl, by rw [List.length_append, hl]; exact hr⟩⟩, Mid.set (b := pb) (C := fun k => k = pb) _ rfl _ _⟩
    · have hlen := bldLen_c w hR
      have hw : IntKind.i64.wrap (16384 - (bs.length : Int)) = 16384 - (bs.length : Int) := IntWalk.i64_in _ (by omega)
      have hr2 : decide (16384 - (bs.length : Int) < (s.size : Int)) = false := decide_eq_false (by omega)
      have hR2 := hR.setf false
      obtain ⟨d2, -⟩ := hR2.flag
      have hws := writeStrT_c _ hR2 s (by omega) (by simpa [World.setCell] using hB)
      have HF := Lib.hid hws
      have HL := Lib.hid hlen
      clear hlen hR hR2 hws
      go_enter Tryd.func39, Tryd.ntmps39
      go_wp2_with fail
      refine HL.out.mono ?_
      rintro e w1 ⟨rfl, rfl⟩
      go_wp2_with fail
      refine HF.out.mono ?_
      rintro e w2 ⟨rfl, hR3, hM⟩
      go_wp2_with fail
      first | go_end0 | refine bodyPost_ret (results_none rfl _ _ _) rfl ?_
      exact ⟨rfl, ⟨_, false, hR3, by rw [List.length_append, hl]; omega, .inl ⟨rfl, rfl⟩⟩, (Mid.set (b := pb) (C := fun k => k = pb) _ rfl _ _).trans hM⟩
  · have hR2 := hR.setf true
    obtain ⟨d2, -⟩ := hR2.flag
    have HF := Lib.hid hR2
    clear hR hR2
    go_enter Tryd.func39, Tryd.ntmps39
    go_wp2_with fail
    first | go_end0 | refine bodyPost_ret (results_none rfl _ _ _) rfl ?_
    exact ⟨rfl, ⟨bs, true, HF.out, hbl, .inr ⟨rfl, by rw [List.length_append]; omega⟩⟩, Mid.set (b := pb) (C := fun k => k = pb) _ rfl _ _⟩
end Go.Proofs.YtdacdppmgcaioaaDoor
