/-
  A slice appended to nil: a copy in memory of the call's own, of whatever elements. Contract of value's fresh.
  Contract of value's fresh: a value in memory of its own, but for the values that it holds.
  Words for a tree that is copied row by row: what a row awaits, and what stays while rows are filled in. No function's contract.
  What holds between the rounds of value.copiedWithin, and how a round keeps it. No function's contract.
  Contract of value's copiedWithin: a value in memory of its own, whole where there is room.
  Contracts of value's copied, Text, Number and List: values in memory of their own.
-/
import Derived.Test.YtpjllcengnolkaaGreatDoorSVcm
import Derived.Laws.AppendOwnNone
import Derived.Maps.AppendAt
import Derived.Deep.RegionWith
import Derived.Deep.Cut
import Derived.Deep.RegionHeld3
import Derived.Deep.QuietTactic
import Derived.BigQuiet
import Derived.Deep.LoopGhost
set_option linter.unusedVariables false
set_option linter.unusedSimpArgs false
namespace Go.Proofs.YtpjllcengnolkaaGreatDoor
open Go.RowKit

theorem infoV7 : (Tryz.prog.info? 34).map (fun i => (i.zero, i.size, i.bytes)) = some (some (.agg #[.int .i64 0, .bool false, .slice none 0 0, .int .i64 0, .string ⟨#[]⟩, .slice none 0 0, .slice none 0 0]), 7, 112) := by kernel_rfl
end Go.Proofs.YtpjllcengnolkaaGreatDoor

namespace Go.Proofs.YtpjllcengnolkaaGreatDoor
open Go.RowKit Go.Lib

/-- Texts as cells. -/
def strs (ks : List ByteArray) : List Value := ks.map .string
theorem RdT.cells {w : World} {S : Nat → Prop} {A : Option Addr} {n : Nat} {ks : List ByteArray} (h : RdT w S A n ks) : 0 < n → ∃ b off, A = some ⟨b, off, none⟩ ∧ ∀ j u, (strs ks)[j]? = some u → w.cell? ⟨b, off + j, none⟩ = some u := fun h0 => by
  obtain ⟨b, off, e, _, h2⟩ := h.2 h0
  refine ⟨b, off, e, fun j u hj => ?_⟩
  unfold strs at hj
  rw [List.getElem?_map, Option.map_eq_some_iff] at hj
  obtain ⟨s, hs, rfl⟩ := hj
  exact (h2 j s hs).1
theorem own_mono {w : World} {base base' : Nat} {e : TypeId} {size : Nat} {v : Value} {n : Nat} {xs : List Value} (h : w.ownsRow base e size v n xs) (hb : base' ≤ base) : w.ownsRow base' e size v n xs :=
  ⟨h.1, h.2.imp id fun ⟨g, cap, cur, e1, e2, e3⟩ => ⟨g, cap, cur, e1, Nat.le_trans hb e2, e3⟩⟩
end Go.Proofs.YtpjllcengnolkaaGreatDoor

namespace Go.Proofs.YtpjllcengnolkaaGreatDoor
open Go.RowKit

mutual
/-- How many values stand in a value, whatever its kind. -/
def under : VT → Nat
  | .mk _ _ _ _ _ l _ => underL l
def underL : List VT → Nat
  | [] => 0
  | a :: r => 1 + under a + underL r
end
/-- The blocks of the call's own. -/
def Own' (base : Nat) (w : World) : Nat → Prop := fun b => base ≤ b ∧ b < w.heap.size
/-- All blocks but those of P, and the stacks, are as they were. -/
def Agree (w w' : World) (P : Nat → Prop) : Prop := w.heap.size ≤ w'.heap.size ∧ ∀ b, b < w.heap.size → ¬ P b → (∀ cur, w.heap[b]? ≠ some (.cells cur 24)) → w'.heap[b]? = w.heap[b]?
theorem Agree.refl (w : World) (P : Nat → Prop) : Agree w w P := ⟨Nat.le_refl _, fun _ _ _ _ => rfl⟩

/-- A row of values that is to be filled in: its slice, and the trees that it holds. -/
structure Row where
  A : Option Addr
  n : Nat
  c : Nat
  l : List VT
def Row.val (r : Row) : Value := .slice r.A r.n r.c
/-- The block of a row that holds something. -/
def Row.at (r : Row) (b : Nat) : Prop := 0 < r.n ∧ r.A = some ⟨b, 0, none⟩
/-- The row still holds old values: in a block of the call's own, which is a row of values. -/
def RowO (w : World) (S : Nat → Prop) (base : Nat) (r : Row) : Prop :=
  r.l.length = r.n ∧ r.n ≤ r.c ∧ r.n ≤ 1256584717458 ∧ (0 < r.n → ∃ b cur cap, r.A = some ⟨b, 0, none⟩ ∧ base ≤ b ∧ w.heap[b]? = some (.cells cur 34) ∧ r.n ≤ cap ∧ cur.size = cap * 7) ∧ ∃ cs : Nat → List Value, (∀ b, r.A = some ⟨b, 0, none⟩ → ∀ i, i < r.n → (cs i).length = 7 ∧ ∀ j, j < 7 → w.cell? ⟨b, i * 7 + j, none⟩ = (cs i)[j]?) ∧ ∀ i x, r.l[i]? = some x → VIn w S x (cs i)
/-- The row is filled in: it holds its trees, if ok, in memory of the call's own. -/
def RowD (w : World) (base : Nat) (ok : Prop) (r : Row) : Prop := ∃ l', (ok → l' = r.l) ∧ RdL w (Own' base w) r.A r.n l'
/-- The blocks of the rows. -/
def Pend (st : List Row) : Nat → Prop := fun b => ∃ r ∈ st, r.at b

theorem RowO.keep {w w' : World} {S : Nat → Prop} {base : Nat} {r : Row} (h : RowO w S base r) (hb : ∀ b, r.at b → w'.heap[b]? = w.heap[b]?) (hS : ∀ p : Addr, S p.block → w'.cell? p = w.cell? p) : RowO w' S base r := by
  obtain ⟨h1, h2, h3, h4, cs, h5, h6⟩ := h
  refine ⟨h1, h2, h3, fun h0 => ?_, cs, fun b e i hi => ⟨(h5 b e i hi).1, fun j hj => ?_⟩, fun i x hx => (h6 i x hx).keep hS⟩
  · obtain ⟨b, cur, cap, e, hB, hh, hc⟩ := h4 h0
    exact ⟨b, cur, cap, e, hB, (hb b ⟨h0, e⟩).trans hh, hc⟩
  · exact (World.cell?_of_block (hb b ⟨by omega, e⟩)).trans ((h5 b e i hi).2 j hj)
theorem RowO.lt {w : World} {S : Nat → Prop} {base b : Nat} {r : Row} (h : RowO w S base r) (hb : r.at b) : base ≤ b ∧ b < w.heap.size ∧ ∃ cur, w.heap[b]? = some (.cells cur 34) := by
  obtain ⟨_, _, _, h4, _⟩ := h
  obtain ⟨b2, cur, cap, e, hB, hh, _⟩ := h4 hb.1
  have e2 := hb.2
  rw [e, Option.some.injEq, Addr.mk.injEq] at e2
  obtain ⟨rfl, -⟩ := e2
  exact ⟨hB, (Array.getElem?_eq_some_iff.1 hh).1, cur, hh⟩

/-- A row of the call's own hangs on its own block alone. -/
theorem own_at {w w' : World} {base : Nat} {e : TypeId} {size : Nat} {v : Value} {n : Nat} {xs : List Value} (h : w.ownsRow base e size v n xs) (hk : ∀ g cur, v.ownBlock = some g → w.heap[g]? = some (.cells cur e) → w'.heap[g]? = w.heap[g]?) : w'.ownsRow base e size v n xs := by
  obtain ⟨h1, h2⟩ := h
  refine ⟨h1, h2.imp id ?_⟩
  rintro ⟨g, cap, cur, e1, e2, e3, e4⟩
  subst e1
  exact ⟨g, cap, cur, rfl, e2, (hk g cur rfl e3).trans e3, e4⟩
theorem rdT_own {w : World} {base kn kc : Nat} {K : Option Addr} {ks : List ByteArray} (h : w.ownsRow base 9 1 (.slice K kn kc) kn (strs ks)) (hl : ks.length = kn) (hk : ∀ s ∈ ks, s.size ≤ 140737488355328) : RdT w (Own' base w) K kn ks := by
  refine ⟨hl, fun h0 => ?_⟩
  rcases h.2 with ⟨e1, e2⟩ | ⟨g, cap, cur, e1, e2, e3, e4⟩
  · omega
  · injection e1 with e1
    subst e1
    refine ⟨g, 0, rfl, ⟨e2, (Array.getElem?_eq_some_iff.1 e3).1⟩, fun i s hi => ⟨?_, hk s (List.mem_of_getElem? hi)⟩⟩
    have := h.cells (g := g) rfl i (.string s) (by unfold strs; rw [List.getElem?_map, hi]; rfl)
    rwa [Addr.add_lit] at this
/-- What fresh has made reads as a value as soon as its values do. -/
theorem fresh_vin {w w' : World} {P : Nat → Prop} {base b0 : Nat} (hA : Agree w w' P) (hP : ∀ b, P b → ∃ cur, w.heap[b]? = some (.cells cur 34)) {k : Int} {neg : Bool} {xs : List Nat} {e : Int} {t : ByteArray} {l : List VT} {ks : List ByteArray} {A1 L1 K1 : Option Addr} {n c1 ln lc1 kn kc1 : Nat}
    (hx : L32 xs) (hxl : xs.length = n) (hC : w.ownsRow b0 63 1 (.slice A1 n c1) n (u32s xs)) (hK : w.ownsRow b0 9 1 (.slice K1 kn kc1) kn (strs ks)) (hb0 : base ≤ b0) (hn : n ≤ 35184372088832) (ht : t.size ≤ 140737488355328) (hkn : kn ≤ 8796093022208) (hkl : ks.length = kn) (hks : ∀ s ∈ ks, s.size ≤ 140737488355328)
    (hL : RdL w' (Own' base w') L1 ln l) (hln : ln ≤ 1256584717458) (hlc : ln ≤ lc1) : VIn w' (Own' base w') (.mk k neg xs e t l ks) [.int .i64 k, .bool neg, .slice A1 n c1, .int .i64 e, .string t, .slice L1 ln lc1, .slice K1 kn kc1] := by
  have hsame : ∀ (e : TypeId) (g : Nat) (cur : Array Value), e ≠ 34 → e ≠ 24 → w.heap[g]? = some (.cells cur e) → w'.heap[g]? = w.heap[g]? := fun e g cur h1 h2 hg => by
    refine hA.2 g (Array.getElem?_eq_some_iff.1 hg).1 (fun hp => ?_) (fun cur2 h3 => ?_)
    · obtain ⟨cur2, h3⟩ := hP g hp
      rw [hg] at h3
      simp only [Option.some.injEq, Obj.cells.injEq] at h3
      exact h1 h3.2.1
    · rw [hg] at h3
      simp only [Option.some.injEq, Obj.cells.injEq] at h3
      exact h2 h3.2.1
  have hC' := own_mono (own_at hC fun g cur _ hg => hsame _ g cur (by decide) (by decide) hg) hb0
  have hK' := own_mono (own_at hK fun g cur _ hg => hsame _ g cur (by decide) (by decide) hg) hb0
  have hR : Res w' base A1 n c1 xs := ⟨hxl, hx, hC'⟩
  obtain ⟨h1, h2, cs, h3, h4⟩ := hL
  exact .mk hR.rd hn ht (rdT_own hK' hkl hks) hkn h1 hln hlc h3 h4

theorem Agree.go {w w2 w' : World} {P P2 : Nat → Prop} (h1 : Agree w w2 P) (h2 : Agree w2 w' P2) (hP : ∀ b, b < w.heap.size → P2 b → P b) : Agree w w' P :=
  ⟨Nat.le_trans h1.1 h2.1, fun b hb hp ht => (h2.2 b (Nat.lt_of_lt_of_le hb h1.1) (fun h => hp (hP b hb h)) (fun cur h => ht cur ((h1.2 b hb hp ht).symm.trans h))).trans (h1.2 b hb hp ht)⟩
/-- What a value will be, once the rows C are filled in. -/
def ElemW (w : World) (base : Nat) (ok : Prop) (P : Nat → Prop) (C : List Row) (x : VT) (cs : List Value) : Prop := ∀ w', Agree w w' P → (∀ r ∈ C, RowD w' base ok r) → ∃ x', (ok → x' = x) ∧ VIn w' (Own' base w') x' cs
theorem ElemW.go {w w2 : World} {base : Nat} {ok : Prop} {P P2 : Nat → Prop} {C C2 : List Row} {x : VT} {cs : List Value} (h : ElemW w base ok P C x cs) (h1 : Agree w w2 P) (hP : ∀ b, b < w.heap.size → P2 b → P b) (hC : ∀ r ∈ C, r ∈ C2) : ElemW w2 base ok P2 C2 x cs :=
  fun w' hA hD => h w' (h1.go hA hP) (fun r hr => hD r (hC r hr))
/-- What stands under the values of a row. -/
def unL : List VT → Nat
  | [] => 0
  | a :: r => under a + unL r
theorem underL_un (l : List VT) : underL l = l.length + unL l := by
  induction l with
  | nil => rfl
  | cons a r ih => simp only [underL, unL, List.length_cons, ih]; omega
def need (st : List Row) : Nat := (st.map fun r => unL r.l).sum
def msum (st : List Row) : Nat := (st.map fun r => underL r.l + 1).sum
theorem need_append (a b : List Row) : need (a ++ b) = need a + need b := by simp [need]
theorem msum_append (a b : List Row) : msum (a ++ b) = msum a + msum b := by simp [msum]
theorem unL_drop {l : List VT} {i : Nat} {y : VT} (h : l[i]? = some y) : unL (l.drop i) = under y + unL (l.drop (i + 1)) := by
  obtain ⟨h1, rfl⟩ := List.getElem?_eq_some_iff.1 h
  rw [List.drop_eq_getElem_cons h1]; rfl
theorem underL_drop {l : List VT} {i : Nat} {y : VT} (h : l[i]? = some y) : underL (l.drop i) = 1 + under y + underL (l.drop (i + 1)) := by
  obtain ⟨h1, rfl⟩ := List.getElem?_eq_some_iff.1 h
  rw [List.drop_eq_getElem_cons h1]; rfl

theorem VIn.one {w : World} {S : Nat → Prop} {x : VT} {cs : List Value} (h : VIn w S x cs) : cs.length = 7 ∧ ∀ u ∈ cs, u.oneCell' = true := by
  cases h with
  | mk => exact ⟨rfl, by intro u hu; simp only [List.mem_cons, List.not_mem_nil, or_false] at hu; rcases hu with rfl | rfl | rfl | rfl | rfl | rfl | rfl <;> rfl⟩
/-- A row's cells, one behind the other. -/
theorem RdL.flat {w : World} {S : Nat → Prop} {A : Option Addr} {n : Nat} {l : List VT} (h : RdL w S A n l) :
    ∃ (cv : List Value) (cs : Nat → List Value), cv.length = n * 7 ∧ (∀ i, i < n → (cs i).length = 7 ∧ ∀ j, j < 7 → cv[i * 7 + j]? = (cs i)[j]?) ∧ (0 < n → ∃ b off, A = some ⟨b, off, none⟩ ∧ S b ∧ ∀ j u, cv[j]? = some u → w.cell? ⟨b, off + j, none⟩ = some u) ∧ (∀ u ∈ cv, u.oneCell' = true) ∧ ∀ i x, l[i]? = some x → VIn w S x (cs i) := by
  obtain ⟨h1, _, cs, h3, h4⟩ := h
  have hlen : ∀ i, i < n → (cs i).length = 7 := fun i hi => (h4 i _ (List.getElem?_eq_getElem (by omega))).one.1
  have hcv : ∀ i j, i < n → j < 7 → ((List.range (n * 7)).map fun q => ((cs (q / 7))[q % 7]?).getD undef)[i * 7 + j]? = (cs i)[j]? := fun i j hi hj => by
    have hl := hlen i hi
    rw [List.getElem?_map, List.getElem?_range (by omega)]
    have e1 : (i * 7 + j) / 7 = i := by omega
    have e2 : (i * 7 + j) % 7 = j := by omega
    simp only [Option.map_some, e1, e2]
    rw [List.getElem?_eq_getElem (by omega)]; rfl
  have hat : ∀ q u, ((List.range (n * 7)).map fun q => ((cs (q / 7))[q % 7]?).getD undef)[q]? = some u → q / 7 < n ∧ q % 7 < 7 ∧ (cs (q / 7))[q % 7]? = some u := fun q u hq => by
    have hlt : q < n * 7 := by have := (List.getElem?_eq_some_iff.1 hq).1; simpa using this
    have e0 : q / 7 * 7 + q % 7 = q := by omega
    have h5 := hcv (q / 7) (q % 7) (by omega) (by omega)
    rw [e0, hq] at h5
    exact ⟨by omega, by omega, h5.symm⟩
  refine ⟨_, cs, by simp, fun i hi => ⟨hlen i hi, fun j hj => hcv i j hi hj⟩, fun h0 => ?_, fun u hu => ?_, h4⟩
  · obtain ⟨b, off, e, hS, h5⟩ := h3 h0
    refine ⟨b, off, e, hS, fun q u hq => ?_⟩
    obtain ⟨a1, a2, a3⟩ := hat q u hq
    have := (h5 (q / 7) a1).2 (q % 7) a2
    rw [show q / 7 * 7 + q % 7 = q by omega] at this
    rw [this, a3]
  · obtain ⟨q, hq⟩ := List.mem_iff_getElem?.1 hu
    obtain ⟨a1, a2, a3⟩ := hat q u hq
    exact (h4 (q / 7) _ (List.getElem?_eq_getElem (by omega))).one.2 u (List.mem_of_getElem? a3)
/-- The row that fresh has made still holds old values. -/
theorem rowO_fresh {w w2 : World} {S : Nat → Prop} {base b0 : Nat} {L1 : Option Addr} {ln lc1 : Nat} {cv : List Value} {cs : Nat → List Value} {l : List VT} (hO : w2.ownsRow b0 34 7 (.slice L1 ln lc1) ln cv) (hb : base ≤ b0) (hl : l.length = ln) (hln : ln ≤ 1256584717458)
    (hcs : ∀ i, i < ln → (cs i).length = 7 ∧ ∀ j, j < 7 → cv[i * 7 + j]? = (cs i)[j]?) (hv : ∀ i x, l[i]? = some x → VIn w S x (cs i)) (hk : ∀ p : Addr, S p.block → w2.cell? p = w.cell? p) : RowO w2 S base ⟨L1, ln, lc1, l⟩ := by
  refine ⟨hl, ?_, hln, fun h0 => ?_, cs, fun b e i hi => ⟨(hcs i hi).1, fun j hj => ?_⟩, fun i x hx => (hv i x hx).keep hk⟩
  · rcases hO.2 with ⟨e1, e2⟩ | ⟨g, cap, cur, e1, _, _, h5, _⟩
    · show ln ≤ lc1
      omega
    · injection e1 with _ _ e1
      show ln ≤ lc1
      omega
  · rcases hO.2 with ⟨e1, e2⟩ | ⟨g, cap, cur, e1, h2, h3, h5, h6, h7, _⟩
    · have : 0 < ln := h0
      omega
    · injection e1 with e1
      exact ⟨g, cur, cap, e1, Nat.le_trans hb h2, h3, h5, h7⟩
  · have e' : L1 = some ⟨b, 0, none⟩ := e
    subst e'
    have hi' : i < ln := hi
    rw [hO.cellAt (i * 7 + j) (by omega)]
    exact (hcs i hi').2 j hj
end Go.Proofs.YtpjllcengnolkaaGreatDoor

namespace Go.Proofs.YtpjllcengnolkaaGreatDoor
open Go.RowKit

theorem Agree.mono {w w' : World} {P P' : Nat → Prop} (h : Agree w w' P) (hP : ∀ b, P b → P' b) : Agree w w' P' := ⟨h.1, fun b hb hp => h.2 b hb fun h2 => hp (hP b h2)⟩
/-- Zero cells of a value. -/
def zeroV : Array Value := #[.int .i64 0, .bool false, .slice none 0 0, .int .i64 0, .string ⟨#[]⟩, .slice none 0 0, .slice none 0 0]
/-- Within a row. -/
structure InI (w : World) (S : Nat → Prop) (ok : Prop) (csR : List Value) (ob : Nat) (wp : World) (st0 : List Row) (r : Row) (wr : World) (lvv : Value) (R : Int) (C : List Row) (i : Nat) (cs : Nat → List Value) : Prop where
  own : wr.ownsRow (w.heap.size + 2) 24 1 lvv (st0 ++ C).length ((st0 ++ C).map Row.val)
  nn : lvv ≠ .slice none 0 0
  rows : ∀ s ∈ st0 ++ C, RowO wr S (w.heap.size + 2) s
  apart : (st0 ++ C).Pairwise (fun r s => ∀ b, r.at b → ¬ s.at b)
  nog : ∀ s ∈ st0 ++ C, ∀ b, s.at b → ¬ r.at b
  newC : ∀ s ∈ C, ∀ b, s.at b → wp.heap.size ≤ b
  gtype : ∀ b, r.at b → w.heap.size + 2 ≤ b ∧ b < wp.heap.size ∧ ∃ cur cap, wr.heap[b]? = some (.cells cur 34) ∧ r.n ≤ cap ∧ cur.size = cap * 7
  cells : ∀ b, r.A = some ⟨b, 0, none⟩ → ∀ m, m < r.n → (cs m).length = 7 ∧ ∀ j, j < 7 → wr.cell? ⟨b, m * 7 + j, none⟩ = (cs m)[j]?
  done : ∀ m y, m < i → r.l[m]? = some y → ElemW wr (w.heap.size + 2) ok (fun b => Pend (st0 ++ C) b ∨ r.at b) C y (cs m)
  old : ∀ m y, i ≤ m → r.l[m]? = some y → VIn wr S y (cs m)
  agree : Agree wp wr (fun b => r.at b)
  box : wr.heap[ob]? = some (.cells csR.toArray 34)
  nobox : ∀ s ∈ st0 ++ C, ¬ s.at ob
  noboxr : ¬ r.at ob
  res : wr.heap[w.heap.size + 1]? = some (.cells zeroV 34)
  below : Below w.heap.size w wr
  obl : w.heap.size + 2 ≤ ob
  obp : ob < wp.heap.size
  room : ok → ((need (st0 ++ C) + unL (r.l.drop i) : Nat) : Int) ≤ R
  few : ok → ((st0 ++ C).length : Int) + R ≤ 21474837
  rlo : -9223372036854775808 ≤ R
  rhi : R ≤ 21474836
  meas : msum C + underL (r.l.drop i) ≤ underL r.l

/-- A value of the row is filled in. -/
theorem InI.step {w : World} {S : Nat → Prop} {ok : Prop} {csR : List Value} {ob : Nat} {wp wr w4 w6 : World} {lvv lv2 : Value} {R R2 : Int} {st0 C D : List Row} {r : Row} {i g : Nat} {cs csl : Nat → List Value} {cv : List Value}
    {y : VT} {k : Int} {neg : Bool} {xs : List Nat} {e : Int} {t : ByteArray} {l : List VT} {ks : List ByteArray} {A1 L1 K1 : Option Addr} {n c1 ln lc1 kn kc1 : Nat}
    (h : InI w S ok csR ob wp st0 r wr lvv R C i cs) (hS : ∀ b, S b → b < w.heap.size) (hi : i < r.n) (hg : r.A = some ⟨g, 0, none⟩) (hy : r.l[i]? = some y) (hok : ok → y = .mk k neg xs e t l ks) (hun : underL l ≤ under y)
    (hb4 : Below wr.heap.size wr w4)
    (hx : L32 xs) (hxl : xs.length = n) (hC : w4.ownsRow wr.heap.size 63 1 (.slice A1 n c1) n (u32s xs)) (hK : w4.ownsRow wr.heap.size 9 1 (.slice K1 kn kc1) kn (strs ks)) (hL : w4.ownsRow wr.heap.size 34 7 (.slice L1 ln lc1) ln cv)
    (hn : n ≤ 35184372088832) (ht : t.size ≤ 140737488355328) (hkn : kn ≤ 8796093022208) (hkl : ks.length = kn) (hks : ∀ s ∈ ks, s.size ≤ 140737488355328) (hll : l.length = ln) (hln : ln ≤ 1256584717458)
    (hcs : ∀ i, i < ln → (csl i).length = 7 ∧ ∀ j, j < 7 → cv[i * 7 + j]? = (csl i)[j]?) (hvl : ∀ i x, l[i]? = some x → VIn w S x (csl i))
    (hs6 : w4.heap.size ≤ w6.heap.size) (h6 : ∀ b, b < w4.heap.size → b ≠ g → (∀ cur, w4.heap[b]? ≠ some (.cells cur 24)) → w6.heap[b]? = w4.heap[b]?)
    (hgt : ∃ cur cap, w6.heap[g]? = some (.cells cur 34) ∧ r.n ≤ cap ∧ cur.size = cap * 7)
    (hcell : ∀ m j, m < r.n → j < 7 → m ≠ i → w6.cell? ⟨g, m * 7 + j, none⟩ = w4.cell? ⟨g, m * 7 + j, none⟩)
    (hnew : ∀ j, j < 7 → w6.cell? ⟨g, i * 7 + j, none⟩ = ([.int .i64 k, .bool neg, .slice A1 n c1, .int .i64 e, .string t, .slice L1 ln lc1, .slice K1 kn kc1] : List Value)[j]?)
    (hb6 : Below w.heap.size w w6)
    (hD : (D = [] ∧ ln = 0) ∨ (D = [⟨L1, ln, lc1, l⟩] ∧ 0 < ln))
    (hown : w6.ownsRow (w.heap.size + 2) 24 1 lv2 (st0 ++ (C ++ D)).length ((st0 ++ (C ++ D)).map Row.val)) (hnn : lv2 ≠ .slice none 0 0)
    (hR : ok → R2 = R - (ln : Int)) (hlo : -9223372036854775808 ≤ R2) (hhi : R2 ≤ 21474836) :
    InI w S ok csR ob wp st0 r w6 lv2 R2 (C ++ D) (i + 1) (fun m => if m = i then [.int .i64 k, .bool neg, .slice A1 n c1, .int .i64 e, .string t, .slice L1 ln lc1, .slice K1 kn kc1] else cs m) := by
  have hat : r.at g := ⟨by omega, hg⟩
  obtain ⟨hgb, hgp, curg, capg, hgh, hgc, hgs⟩ := h.gtype g hat
  have hgw : g < wr.heap.size := (Array.getElem?_eq_some_iff.1 hgh).1
  have h4s := hb4.size
  have hwp : wp.heap.size ≤ wr.heap.size := h.agree.1
  have hSk : ∀ p : Addr, S p.block → w6.cell? p = wr.cell? p := fun p hp => (hb6.cell (hS _ hp)).trans (h.below.cell (hS _ hp)).symm
  have hatg : ∀ b, r.at b → b = g := fun b hb => by
    have := hb.2
    rw [hg, Option.some.injEq, Addr.mk.injEq] at this
    exact this.1.symm
  -- what is no stack and not g stays
  have hst : ∀ b, b < wr.heap.size → b ≠ g → (∀ cur, wr.heap[b]? ≠ some (.cells cur 24)) → w6.heap[b]? = wr.heap[b]? := fun b hb hne hty =>
    (h6 b (by omega) hne (fun cur h9 => hty cur ((hb4.block b hb).symm.trans h9))).trans (hb4.block b hb)
  have hnotstack : ∀ {b : Nat} {cur cur2 : Array Value} {W : World}, W.heap[b]? = some (.cells cur 34) → W.heap[b]? ≠ some (.cells cur2 24) := fun h1 h2 => by
    rw [h1] at h2
    simp only [Option.some.injEq, Obj.cells.injEq] at h2
    exact absurd h2.2.1 (by decide)
  have hrowkeep : ∀ s ∈ st0 ++ C, RowO w6 S (w.heap.size + 2) s := fun s hs => by
    refine (h.rows s hs).keep (fun b hb => ?_) hSk
    obtain ⟨_, hlt, cur, hh⟩ := (h.rows s hs).lt hb
    exact hst b hlt (fun e => h.nog s hs b hb (e ▸ hat)) (fun cur2 => hnotstack hh)
  have hDat : ∀ s ∈ D, ∀ b, s.at b → wr.heap.size ≤ b ∧ b < w4.heap.size := fun s hs b hb => by
    rcases hD with ⟨rfl, _⟩ | ⟨rfl, h0⟩
    · simp at hs
    · obtain rfl : s = ⟨L1, ln, lc1, l⟩ := by simpa using hs
      rcases hL.2 with ⟨e1, e2⟩ | ⟨q, cap, cur, e1, e2, e3, _⟩
      · omega
      · injection e1 with e1
        have e5 : L1 = some ⟨b, 0, none⟩ := hb.2
        rw [e5, Option.some.injEq, Addr.mk.injEq] at e1
        obtain ⟨rfl, -⟩ := e1
        exact ⟨e2, (Array.getElem?_eq_some_iff.1 e3).1⟩
  have hDrow : ∀ s ∈ D, RowO w6 S (w.heap.size + 2) s := fun s hs => by
    rcases hD with ⟨rfl, _⟩ | ⟨rfl, h0⟩
    · simp at hs
    · obtain rfl : s = ⟨L1, ln, lc1, l⟩ := by simpa using hs
      have hL6 : w6.ownsRow wr.heap.size 34 7 (.slice L1 ln lc1) ln cv := own_at hL fun q cur hq hh => h6 q (Array.getElem?_eq_some_iff.1 hh).1 (fun e => by
        have h9 : wr.heap.size ≤ q := by
          rcases hL.2 with ⟨e1, e2⟩ | ⟨q2, cap, cur2, e1, e2, e3, _⟩
          · omega
          · injection e1 with e1
            rw [e1] at hq
            simp only [Value.ownBlock, Option.some.injEq] at hq
            omega
        omega) (fun cur2 => hnotstack hh)
      exact rowO_fresh hL6 (by have := h.below.size; omega) hll hln hcs hvl (fun p hp => hb6.cell (hS _ hp))
  have hagree6 : Agree wr w6 (fun b => r.at b) := ⟨by omega, fun b hb hp hty => hst b hb (fun e => hp (e ▸ hat)) hty⟩
  refine { own := hown, nn := hnn, rows := ?_, apart := ?_, nog := ?_, newC := ?_, gtype := ?_, cells := ?_, done := ?_, old := ?_, agree := ?_, box := ?_, nobox := ?_, noboxr := h.noboxr, res := ?_, below := hb6, obl := h.obl, obp := h.obp, room := ?_, few := ?_, rlo := hlo, rhi := hhi, meas := ?_ }
  · intro s hs
    rw [← List.append_assoc] at hs
    rcases List.mem_append.1 hs with hs | hs
    · exact hrowkeep s hs
    · exact hDrow s hs
  · rw [← List.append_assoc]
    refine List.pairwise_append.2 ⟨h.apart, ?_, fun s hs q hq b hsb hqb => ?_⟩
    · rcases hD with ⟨rfl, _⟩ | ⟨rfl, _⟩
      · exact List.Pairwise.nil
      · exact List.pairwise_singleton _ _
    · have h1 := ((h.rows s hs).lt hsb).2.1
      have h2 := (hDat q hq b hqb).1
      omega
  · intro s hs b hsb
    rw [← List.append_assoc] at hs
    rcases List.mem_append.1 hs with hs | hs
    · exact h.nog s hs b hsb
    · intro hrb
      have h1 := (hDat s hs b hsb).1
      have h2 := hatg b hrb
      omega
  · intro s hs b hsb
    rcases List.mem_append.1 hs with hs | hs
    · exact h.newC s hs b hsb
    · have := (hDat s hs b hsb).1
      omega
  · intro b hb
    obtain rfl := hatg b hb
    obtain ⟨cur, cap, a1, a2, a3⟩ := hgt
    exact ⟨hgb, hgp, cur, cap, a1, a2, a3⟩
  · intro b hb m hm
    have hbg : b = g := hatg b ⟨by omega, hb⟩
    subst hbg
    by_cases hmi : m = i
    · subst hmi
      simp only [if_true]
      exact ⟨rfl, hnew⟩
    · simp only [if_neg hmi]
      refine ⟨(h.cells b hb m hm).1, fun j hj => ?_⟩
      rw [hcell m j hm hj hmi, hb4.cell (p := ⟨b, m * 7 + j, none⟩) hgw]
      exact (h.cells b hb m hm).2 j hj
  · intro m z hm hz
    by_cases hmi : m = i
    · subst hmi
      rw [hy] at hz
      injection hz with hz
      subst hz
      simp only [if_true]
      intro w' hA hDn
      have hsz6 : ∀ b, (Pend (st0 ++ (C ++ D)) b ∨ r.at b) → ∃ cur, w6.heap[b]? = some (.cells cur 34) := fun b hb => by
        rcases hb with ⟨s, hs, hsb⟩ | hb
        · rw [← List.append_assoc] at hs
          rcases List.mem_append.1 hs with hs | hs
          · exact ((hrowkeep s hs).lt hsb).2.2
          · exact ((hDrow s hs).lt hsb).2.2
        · obtain rfl := hatg b hb
          obtain ⟨cur, cap, a1, _⟩ := hgt
          exact ⟨cur, a1⟩
      have hup : ∀ {et : TypeId} {sz : Nat} {v : Value} {q : Nat} {zs : List Value}, et ≠ 34 → et ≠ 24 → w4.ownsRow wr.heap.size et sz v q zs → w6.ownsRow wr.heap.size et sz v q zs := fun h1 h2 ho => own_at ho fun b cur _ hh => h6 b (Array.getElem?_eq_some_iff.1 hh).1 (fun e => by
          subst e
          rw [hb4.block b hgw, hgh] at hh
          simp only [Option.some.injEq, Obj.cells.injEq] at hh
          exact h1 hh.2.1.symm) (fun cur2 h9 => by
          rw [hh] at h9
          simp only [Option.some.injEq, Obj.cells.injEq] at h9
          exact h2 h9.2.1)
      have hLd : ∃ l', (ok → l' = l) ∧ RdL w' (Own' (w.heap.size + 2) w') L1 ln l' ∧ l'.length = ln := by
        rcases hD with ⟨_, h0⟩ | ⟨rfl, _⟩
        · subst h0
          exact ⟨[], fun _ => (List.eq_nil_of_length_eq_zero hll).symm, RdL.nil _ _ _, rfl⟩
        · obtain ⟨l', a1, a2⟩ := hDn ⟨L1, ln, lc1, l⟩ (by simp)
          exact ⟨l', a1, a2, a2.1⟩
      obtain ⟨l', b1, b2, _⟩ := hLd
      have hlc : ln ≤ lc1 := by
        rcases hL.2 with ⟨e1, e2⟩ | ⟨q, cap, cur, e1, _, _, e5, _⟩
        · omega
        · injection e1 with _ _ e1
          omega
      refine ⟨.mk k neg xs e t l' ks, fun ho => by rw [b1 ho, hok ho], fresh_vin (P := fun b => Pend (st0 ++ (C ++ D)) b ∨ r.at b) hA hsz6 hx hxl (hup (by decide) (by decide) hC) (hup (by decide) (by decide) hK) (by have := h.below.size; have := h.obl; have := h.obp; omega) hn ht hkn hkl hks b2 hln hlc⟩
    · simp only [if_neg hmi]
      refine (h.done m z (by omega) hz).go (hagree6.mono fun b hb => .inr hb) (fun b hb hp => ?_) (fun s hs => by simp [hs])
      rcases hp with ⟨s, hs, hsb⟩ | hp
      · rw [← List.append_assoc] at hs
        rcases List.mem_append.1 hs with hs | hs
        · exact .inl ⟨s, hs, hsb⟩
        · have := (hDat s hs b hsb).1
          omega
      · exact .inr hp
  · intro m z hm hz
    have hmi : m ≠ i := by omega
    simp only [if_neg hmi]
    exact (h.old m z (by omega) hz).keep hSk
  · exact h.agree.go hagree6 (fun b _ hp => hp)
  · exact (hst ob (by have := h.obp; omega) (fun e => h.noboxr (e ▸ hat)) (fun cur => hnotstack h.box)).trans h.box
  · intro s hs
    rw [← List.append_assoc] at hs
    rcases List.mem_append.1 hs with hs | hs
    · exact h.nobox s hs
    · intro hb
      have := (hDat s hs ob hb).1
      have := h.obp
      omega
  · exact (hst _ (by have := h.obl; have := h.obp; omega) (by omega) (fun cur => hnotstack h.res)).trans h.res
  · intro ho
    have h1 := h.room ho
    have h2 := unL_drop hy
    have h3 := hR ho
    have h4 : under y = ln + unL l := by rw [hok ho]; simp only [under]; rw [underL_un, hll]
    rw [← List.append_assoc, need_append]
    have h5 : need D ≤ unL l := by
      rcases hD with ⟨rfl, _⟩ | ⟨rfl, _⟩
      · simp [need]
      · simp [need]
    omega
  · intro ho
    have h1 := h.few ho
    have h3 := hR ho
    rw [← List.append_assoc, List.length_append]
    have h5 : D.length ≤ ln := by
      rcases hD with ⟨rfl, _⟩ | ⟨rfl, h0⟩
      · exact Nat.zero_le _
      · exact h0
    omega
  · have h1 := h.meas
    have h2 := underL_drop hy
    rw [msum_append]
    have h5 : msum D ≤ underL l + 1 := by
      rcases hD with ⟨rfl, _⟩ | ⟨rfl, _⟩
      · simp [msum]
      · simp [msum]
    omega
end Go.Proofs.YtpjllcengnolkaaGreatDoor
