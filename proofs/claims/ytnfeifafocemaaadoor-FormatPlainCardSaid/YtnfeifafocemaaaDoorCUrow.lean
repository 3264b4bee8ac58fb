/-
  Rows of values of one cell each: one of the call's own, and a slice that reads as one; how both abide what happens beside them. No condition.
-/
import Derived.Test.YtnfeifafocemaaaDoorCUcheck
import Derived.Laws.AppendOwnNone
import Derived.Maps.OwnIn
import Derived.Maps.AppendAt
import Derived.Laws.BytesArg
import Derived.WalkSpells
import Derived.WalkLawsBesides
import Derived.Deep.Draws
import Derived.BigRegion
import Derived.Deep.RegionWith
set_option linter.unusedVariables false
set_option linter.unusedSimpArgs false
namespace Go.Proofs.YtnfeifafocemaaaDoor
open Go.RowKit Go.Lib

/-- The slice value '.slice A n c' is a row of the call's own, from block base on, and holds vs. -/
structure RowV (w : World) (base : Nat) (t : TypeId) (A : Option Addr) (n c : Nat) (vs : List Value) : Prop where
  len : vs.length = n
  own : w.ownsRow base t 1 (.slice A n c) n vs
/-- The slice value '.slice A n c' reads as vs in world w, in blocks of S. -/
structure RdV (w : World) (S : Nat → Prop) (A : Option Addr) (n : Nat) (vs : List Value) : Prop where
  len : vs.length = n
  cells : 0 < n → ∃ b off, A = some ⟨b, off, none⟩ ∧ S b ∧ ∀ (j : Nat) v, vs[j]? = some v → w.cell? ⟨b, off + j, none⟩ = some v

section
variable {w w' : World} {base n c : Nat} {t : TypeId} {A : Option Addr} {vs : List Value} {S S' : Nat → Prop}
theorem RowV.nil (w : World) (base : Nat) (t : TypeId) : RowV w base t none 0 0 [] := ⟨rfl, World.ownsRow_nil w base _ 1⟩
theorem RowV.form (h : RowV w base t A n c vs) : (A = none ∧ n = 0 ∧ c = 0) ∨ ∃ g, A = some ⟨g, 0, none⟩ ∧ base ≤ g ∧ g < w.heap.size := by
  rcases h.own.2 with ⟨e, h0⟩ | ⟨g, cap, cur, e, hb, hh, _⟩
  · injection e with e1 e2 e3; exact .inl ⟨e1, e2, e3⟩
  · injection e with e1 e2 e3; exact .inr ⟨g, e1, hb, (Array.getElem?_eq_some_iff.1 hh).1⟩
theorem RowV.keep (h : RowV w base t A n c vs) (hk : ∀ g, A = some ⟨g, 0, none⟩ → w'.heap[g]? = w.heap[g]?) : RowV w' base t A n c vs := by
  refine ⟨h.len, h.own.1, ?_⟩
  rcases h.own.2 with h0 | ⟨g, cap, cur, e, hb', hh, rest⟩
  · exact .inl h0
  · refine .inr ⟨g, cap, cur, e, hb', ?_, rest⟩
    injection e with e1 e2 e3
    rw [hk g e1]; exact hh
theorem RowV.below {B : Nat} (h : RowV w base t A n c vs) (hb : Below B w w') (hB : w.heap.size ≤ B) : RowV w' base t A n c vs :=
  h.keep fun g e => by
    rcases h.form with ⟨h0, _⟩ | ⟨g', e', _, hlt⟩
    · rw [h0] at e; cases e
    · rw [e'] at e; injection e with e; injection e with e; subst e; exact hb.block g' (by omega)
theorem RowV.grown {row : Option Nat} (h : RowV w base t A n c vs) (hg : w.grownBy w' row) (hr : ∀ g, A = some ⟨g, 0, none⟩ → some g ≠ row) : RowV w' base t A n c vs :=
  h.keep fun g e => by
    rcases h.form with ⟨h0, _⟩ | ⟨g', e', _, hlt⟩
    · rw [h0] at e; cases e
    · have : g' = g := by rw [e'] at e; injection e with e; injection e
      subst this; exact hg.block g' hlt (hr _ e)
theorem RowV.of_row {v : Value} {xs : List Value} (hl : xs.length = n) (h : w.ownsRow base t 1 v n xs) : ∃ A c, v = .slice A n c ∧ RowV w base t A n c xs := by
  rcases h.2 with ⟨e, h0⟩ | ⟨g, cap, cur, e, _⟩
  · subst h0
    exact ⟨none, 0, e, hl, e ▸ h⟩
  · exact ⟨_, cap, e, hl, e ▸ h⟩
theorem RowV.drew (h : RowV w base t A n c vs) : RowV w.drew base t A n c vs := h.keep fun _ _ => rfl
theorem RowV.alloc (h : RowV w base t A n c vs) (o : Obj) : RowV (w.alloc o) base t A n c vs := h.below ((Below.refl w.heap.size w).alloc (Nat.le_refl _) o) (Nat.le_refl _)
theorem RowV.rd (h : RowV w base t A n c vs) : RdV w (fun b => base ≤ b ∧ b < w.heap.size) A n vs := by
  refine ⟨h.len, fun hn => ?_⟩
  rcases h.form with ⟨_, h0, _⟩ | ⟨g, rfl, hb, hlt⟩
  · omega
  · refine ⟨g, 0, rfl, ⟨hb, hlt⟩, fun j v hv => ?_⟩
    have hj := (List.getElem?_eq_some_iff.1 hv).1
    rw [h.len] at hj
    rw [Nat.zero_add, h.own.cellAt j (by omega), hv]
/-- Whose block another type's cells hold is no row's. -/
theorem RowV.ne_box {b : Nat} {us : Array Value} {u : TypeId} {z : Nat × Nat} (h : RowV w base t A n c vs) (hb : w.heap[b]? = some (.cells us u z)) (ht : u ≠ t) : ∀ g, A = some ⟨g, 0, none⟩ → g ≠ b := by
  intro g e hgb
  rcases h.own.2 with ⟨h1, _⟩ | ⟨g2, cap, cur, h1, h2, hh, _⟩
  · injection h1 with h1; rw [h1] at e; cases e
  · injection h1 with h1
    rw [h1] at e
    injection e with e
    injection e with e
    rw [e, hgb, hb] at hh
    injection hh with hh
    injection hh with _ hh
    exact ht hh
theorem RowV.ownB {g n' c' : Nat} (h : RowV w base t A n c vs) (q : some g = (Value.slice A n' c').ownBlock) : A = some ⟨g, 0, none⟩ := by
  rcases h.form with ⟨z, _⟩ | ⟨g3, z, _⟩
  · rw [z] at q; simp [Value.ownBlock] at q
  · rw [z] at q ⊢
    simp [Value.ownBlock] at q
    rw [q]
theorem RowV.setNe (h : RowV w base t A n c vs) {p : Addr} (hne : ∀ g, A = some ⟨g, 0, none⟩ → g ≠ p.block) (u : Value) : RowV (w.setCell p u) base t A n c vs :=
  h.keep fun g e => Below.heap_setCell _ _ _ _ (hne g e)
theorem RdV.keep (h : RdV w S A n vs) (hk : ∀ p : Addr, S p.block → w'.cell? p = w.cell? p) : RdV w' S A n vs :=
  ⟨h.len, fun hn => by
    obtain ⟨b, off, e, hb, hc⟩ := h.cells hn
    exact ⟨b, off, e, hb, fun j v hv => (hk _ hb).trans (hc j v hv)⟩⟩
theorem RdV.drew (h : RdV w S A n vs) : RdV w.drew S A n vs := h.keep fun _ _ => rfl
theorem RdV.below {B : Nat} (h : RdV w S A n vs) (hb : Below B w w') (hS : ∀ b, S b → b < B) : RdV w' S A n vs := h.keep fun _ hp => hb.cell (hS _ hp)
theorem RdV.grown {row : Option Nat} (h : RdV w S A n vs) (hg : w.grownBy w' row) (hr : ∀ b, S b → b < w.heap.size ∧ some b ≠ row) : RdV w' S A n vs :=
  h.keep fun p hp => World.cell?_of_block (hg.block p.block (hr _ hp).1 (hr _ hp).2)
theorem RdV.nil (w : World) (S : Nat → Prop) (A : Option Addr) : RdV w S A 0 [] := ⟨rfl, fun h => absurd h (by omega)⟩
theorem RdV.cellsAt {ad : Addr} (h : RdV w S (some ad) n vs) : ∀ (j : Nat) u, vs[j]? = some u → w.cell? (ad.add j) = some u := by
  intro j u hu
  have hj := (List.getElem?_eq_some_iff.1 hu).1
  rw [h.len] at hj
  obtain ⟨b, off, e, _, hc⟩ := h.cells (by omega)
  injection e with e
  subst e
  rw [Addr.add_lit]
  exact hc j u hu
/-- What lies below stays, where a row of the call's own is appended to. -/
theorem RowV.below_append {B k : Nat} {W w1 : World} {os : List Value} {o : Obj} (hbel : Below B W w) (hB : B ≤ w.heap.size) (hres : RowV w B t A k c os) (hg : (w.alloc o).grownBy w1 (Value.slice A k c).ownBlock) : Below B W w1 :=
  (hbel.alloc hB _).grown hg (by simp; omega) (by
    intro q hq
    rcases hres.form with ⟨h1, _⟩ | ⟨g1, h1, h2, _⟩
    · rw [h1] at hq; simp [Value.ownBlock] at hq
    · rw [h1] at hq; simp [Value.ownBlock] at hq; omega)
theorem RowV.others {k : Nat} {w1 : World} {os : List Value} {o : Obj} (hres : RowV w base t A k c os) (hg : (w.alloc o).grownBy w1 (Value.slice A k c).ownBlock) : KeepsOthers w w1 := by
  refine (KeepsOthers.alloc _ _).trans (KeepsOthers.of_grownBy hg (fun k o e ho => ?_))
  have e2 := hres.ownB e.symm
  rcases (hres.alloc _).own.2 with ⟨e3, _⟩ | ⟨g2, cap, cur, e3, _, hh, _⟩
  · injection e3 with e3; rw [e3] at e2; cases e2
  · injection e3 with e3
    rw [e2] at e3
    injection e3 with e3
    injection e3 with e3
    subst e3
    rw [hh] at ho
    injection ho with ho
    subst ho; rfl
end

def bs8 (l : List UInt8) : List Value := l.map fun b => Value.int .u8 (b.toNat : Int)
theorem bs8_length (l : List UInt8) : (bs8 l).length = l.length := by simp [bs8]
theorem bs8_append (a b : List UInt8) : bs8 (a ++ b) = bs8 a ++ bs8 b := by simp [bs8]
theorem uinfo8 : (Tryd.prog.info? 5).map (fun i => (i.zero, i.size, i.bytes)) = some (some (.int IntKind.u8 0), 1, 1) := by kernel_rfl
theorem runeCells_bs8 (c : Int) : runeCells c = bs8 (encodeRune c) := by
  unfold runeCells bs8 encodeRune
  rw [List.map_map]
  refine List.map_congr_left fun x hx => ?_
  have := encodeRuneZ_byte c x hx
  show Value.int .u8 x = Value.int .u8 _
  rw [toU8_toNat this.1 this.2]
  congr 1
  omega
end Go.Proofs.YtnfeifafocemaaaDoor
