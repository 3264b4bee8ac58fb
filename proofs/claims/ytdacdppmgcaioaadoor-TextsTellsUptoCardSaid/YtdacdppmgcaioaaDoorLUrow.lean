/-
  Rows of values of one cell each: one of the call's own, and a slice that reads as one; how both abide what happens beside them. No condition.
-/
import Derived.Test.YtdacdppmgcaioaaDoorLUcheck
import Derived.Laws.AppendOwnNone
import Derived.Maps.OwnIn
import Derived.Maps.AppendAt
import Derived.Laws.BytesArg
import Derived.WalkSpells
import Derived.WalkLawsBesides
import Derived.Deep.Draws
import Derived.BigRegion
import Derived.Deep.RegionWith
set_option linter.unusedVariables false
set_option linter.unusedSimpArgs false
namespace Go.Proofs.YtdacdppmgcaioaaDoor
open Go.RowKit Go.Lib

/-- The slice value '.slice A n c' is a row of the call's own, from block base on, and holds vs. -/
structure RowV (w : World) (base : Nat) (t : TypeId) (A : Option Addr) (n c : Nat) (vs : List Value) : Prop where
  len : vs.length = n
  own : w.ownsRow base t 1 (.slice A n c) n vs
/-- The slice value '.slice A n c' reads as vs in world w, in blocks of S. -/
structure RdV (w : World) (S : Nat → Prop) (A : Option Addr) (n : Nat) (vs : List Value) : Prop where
  len : vs.length = n
  cells : 0 < n → ∃ b off, A = some ⟨b, off, none⟩ ∧ S b ∧ ∀ (j : Nat) v, vs[j]? = some v → w.cell? ⟨b, off + j, none⟩ = some v

section
variable {w w' : World} {base n c : Nat} {t : TypeId} {A : Option Addr} {vs : List Value} {S S' : Nat → Prop}
theorem RowV.nil (w : World) (base : Nat) (t : TypeId) : RowV w base t none 0 0 [] := ⟨rfl, World.ownsRow_nil w base _ 1⟩
theorem RowV.form (h : RowV w base t A n c vs) : (A = none ∧ n = 0 ∧ c = 0) ∨ ∃ g, A = some ⟨g, 0, none⟩ ∧ base ≤ g ∧ g < w.heap.size := by
  rcases h.own.2 with ⟨e, h0⟩ | ⟨g, cap, cur, e, hb, hh, _⟩
  · injection e with e1 e2 e3; exact .inl ⟨e1, e2, e3⟩
  · injection e with e1 e2 e3; exact .inr ⟨g, e1, hb, (Array.getElem?_eq_some_iff.1 hh).1⟩
theorem RowV.more {base' : Nat} (h : RowV w base t A n c vs) (hb : base' ≤ base) : RowV w base' t A n c vs := by
  refine ⟨h.len, h.own.1, ?_⟩
  rcases h.own.2 with h0 | ⟨g, cap, cur, e, hb', rest⟩
  · exact .inl h0
  · exact .inr ⟨g, cap, cur, e, by omega, rest⟩
theorem RowV.keep (h : RowV w base t A n c vs) (hk : ∀ g, A = some ⟨g, 0, none⟩ → w'.heap[g]? = w.heap[g]?) : RowV w' base t A n c vs := by
  refine ⟨h.len, h.own.1, ?_⟩
  rcases h.own.2 with h0 | ⟨g, cap, cur, e, hb', hh, rest⟩
  · exact .inl h0
  · refine .inr ⟨g, cap, cur, e, hb', ?_, rest⟩
    injection e with e1 e2 e3
    rw [hk g e1]; exact hh
theorem RowV.below {B : Nat} (h : RowV w base t A n c vs) (hb : Below B w w') (hB : w.heap.size ≤ B) : RowV w' base t A n c vs :=
  h.keep fun g e => by
    rcases h.form with ⟨h0, _⟩ | ⟨g', e', _, hlt⟩
    · rw [h0] at e; cases e
    · rw [e'] at e; injection e with e; injection e with e; subst e; exact hb.block g' (by omega)
theorem RowV.grown {row : Option Nat} (h : RowV w base t A n c vs) (hg : w.grownBy w' row) (hr : ∀ g, A = some ⟨g, 0, none⟩ → some g ≠ row) : RowV w' base t A n c vs :=
  h.keep fun g e => by
    rcases h.form with ⟨h0, _⟩ | ⟨g', e', _, hlt⟩
    · rw [h0] at e; cases e
    · have : g' = g := by rw [e'] at e; injection e with e; injection e
      subst this; exact hg.block g' hlt (hr _ e)
theorem RowV.of_row {v : Value} {xs : List Value} (hl : xs.length = n) (h : w.ownsRow base t 1 v n xs) : ∃ A c, v = .slice A n c ∧ RowV w base t A n c xs := by
  rcases h.2 with ⟨e, h0⟩ | ⟨g, cap, cur, e, _⟩
  · subst h0
    exact ⟨none, 0, e, hl, e ▸ h⟩
  · exact ⟨_, cap, e, hl, e ▸ h⟩
theorem RowV.drew (h : RowV w base t A n c vs) : RowV w.drew base t A n c vs := h.keep fun _ _ => rfl
theorem RowV.alloc (h : RowV w base t A n c vs) (o : Obj) : RowV (w.alloc o) base t A n c vs := h.below ((Below.refl w.heap.size w).alloc (Nat.le_refl _) o) (Nat.le_refl _)
theorem RowV.rd (h : RowV w base t A n c vs) : RdV w (fun b => base ≤ b ∧ b < w.heap.size) A n vs := by
  refine ⟨h.len, fun hn => ?_⟩
  rcases h.form with ⟨_, h0, _⟩ | ⟨g, rfl, hb, hlt⟩
  · omega
  · refine ⟨g, 0, rfl, ⟨hb, hlt⟩, fun j v hv => ?_⟩
    have hj := (List.getElem?_eq_some_iff.1 hv).1
    rw [h.len] at hj
    rw [Nat.zero_add, h.own.cellAt j (by omega), hv]
theorem RdV.keep (h : RdV w S A n vs) (hk : ∀ p : Addr, S p.block → w'.cell? p = w.cell? p) : RdV w' S A n vs :=
  ⟨h.len, fun hn => by
    obtain ⟨b, off, e, hb, hc⟩ := h.cells hn
    exact ⟨b, off, e, hb, fun j v hv => (hk _ hb).trans (hc j v hv)⟩⟩
theorem RdV.more (h : RdV w S A n vs) (hS : ∀ b, S b → S' b) : RdV w S' A n vs :=
  ⟨h.len, fun hn => by
    obtain ⟨b, off, e, hb, hc⟩ := h.cells hn
    exact ⟨b, off, e, hS b hb, hc⟩⟩
theorem RdV.drew (h : RdV w S A n vs) : RdV w.drew S A n vs := h.keep fun _ _ => rfl
theorem RdV.below {B : Nat} (h : RdV w S A n vs) (hb : Below B w w') (hS : ∀ b, S b → b < B) : RdV w' S A n vs := h.keep fun _ hp => hb.cell (hS _ hp)
theorem RdV.grown {row : Option Nat} (h : RdV w S A n vs) (hg : w.grownBy w' row) (hr : ∀ b, S b → b < w.heap.size ∧ some b ≠ row) : RdV w' S A n vs :=
  h.keep fun p hp => World.cell?_of_block (hg.block p.block (hr _ hp).1 (hr _ hp).2)
theorem RdV.at_ {k : Nat} {v : Value} (h : RdV w S A n vs) (hv : vs[k]? = some v) : ∃ b off, A = some ⟨b, off, none⟩ ∧ S b ∧ w.cell? ⟨b, off + k, none⟩ = some v := by
  have hk := (List.getElem?_eq_some_iff.1 hv).1
  rw [h.len] at hk
  obtain ⟨b, off, e, hb, hc⟩ := h.cells (by omega)
  exact ⟨b, off, e, hb, hc k v hv⟩
theorem RdV.nil (w : World) (S : Nat → Prop) (A : Option Addr) : RdV w S A 0 [] := ⟨rfl, fun h => absurd h (by omega)⟩
theorem RdV.cellsAt {ad : Addr} (h : RdV w S (some ad) n vs) : ∀ (j : Nat) u, vs[j]? = some u → w.cell? (ad.add j) = some u := by
  intro j u hu
  have hj := (List.getElem?_eq_some_iff.1 hu).1
  rw [h.len] at hj
  obtain ⟨b, off, e, _, hc⟩ := h.cells (by omega)
  injection e with e
  subst e
  rw [Addr.add_lit]
  exact hc j u hu
end

/-- Numbers, octets, as cells. -/
def zs64 (l : List Int) : List Value := l.map fun z => Value.int .i64 z
def bs8 (l : List UInt8) : List Value := l.map fun b => Value.int .u8 (b.toNat : Int)
theorem zs64_length (l : List Int) : (zs64 l).length = l.length := by simp [zs64]
theorem bs8_length (l : List UInt8) : (bs8 l).length = l.length := by simp [bs8]
theorem zs64_append (a b : List Int) : zs64 (a ++ b) = zs64 a ++ zs64 b := by simp [zs64]
theorem zs64_get {l : List Int} {k : Nat} {z : Int} (h : l[k]? = some z) : (zs64 l)[k]? = some (.int .i64 z) := by simp [zs64, h]
theorem bs8_get {l : List UInt8} {k : Nat} {z : UInt8} (h : l[k]? = some z) : (bs8 l)[k]? = some (.int .u8 (z.toNat : Int)) := by simp [bs8, h]
theorem info64 : (Tryd.prog.info? 3).map (fun i => (i.zero, i.size, i.bytes)) = some (some (.int IntKind.i64 0), 1, 8) := by kernel_rfl
theorem runeCells_bs8 (c : Int) : runeCells c = bs8 (encodeRune c) := by
  unfold runeCells bs8 encodeRune
  rw [List.map_map]
  refine List.map_congr_left fun x hx => ?_
  have := encodeRuneZ_byte c x hx
  show Value.int .u8 x = Value.int .u8 _
  rw [toU8_toNat this.1 this.2]
  congr 1
  omega
end Go.Proofs.YtdacdppmgcaioaaDoor
