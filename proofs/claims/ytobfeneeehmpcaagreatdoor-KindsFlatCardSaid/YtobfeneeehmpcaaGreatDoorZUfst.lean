/-
  Rows of values of one cell each: one of the call's own, and a slice that reads as one; how both abide what happens beside them. No condition.
  Contract of utf.Count.
  Contracts of utf.Bounds and of the reference's Bounds.
  Contract of utf.Runes.
  Contract of utf.Slice.
  Contract of utf.Text.
  What the reference's First tells, on plain lists of octets: the character that stands first and its width, or 0, 0. No condition.
-/
import Derived.Test.YtobfeneeehmpcaaGreatDoorZUcheck
import Derived.Laws.AppendOwnNone
import Derived.Maps.OwnIn
import Derived.Maps.AppendAt
import Derived.Laws.BytesArg
import Derived.WalkSpells
import Derived.WalkLawsBesides
import Derived.Deep.Draws
import Derived.BigRegion
import Derived.Deep.RegionWith
import Derived.Test.YtobfeneeehmpcaaGreatDoorZUsync
set_option linter.unusedVariables false
set_option linter.unusedSimpArgs false
namespace Go.Proofs.YtobfeneeehmpcaaGreatDoor
open Go.RowKit Go.Lib

/-- The slice value '.slice A n c' is a row of the call's own, from block base on, and holds vs. -/
structure RowV (w : World) (base : Nat) (t : TypeId) (A : Option Addr) (n c : Nat) (vs : List Value) : Prop where
  len : vs.length = n
  own : w.ownsRow base t 1 (.slice A n c) n vs
/-- The slice value '.slice A n c' reads as vs in world w, in blocks of S. -/
structure RdV (w : World) (S : Nat → Prop) (A : Option Addr) (n : Nat) (vs : List Value) : Prop where
  len : vs.length = n
  cells : 0 < n → ∃ b off, A = some ⟨b, off, none⟩ ∧ S b ∧ ∀ (j : Nat) v, vs[j]? = some v → w.cell? ⟨b, off + j, none⟩ = some v

section
variable {w w' : World} {base n c : Nat} {t : TypeId} {A : Option Addr} {vs : List Value} {S S' : Nat → Prop}
theorem RowV.nil (w : World) (base : Nat) (t : TypeId) : RowV w base t none 0 0 [] := ⟨rfl, World.ownsRow_nil w base _ 1⟩
theorem RowV.form (h : RowV w base t A n c vs) : (A = none ∧ n = 0 ∧ c = 0) ∨ ∃ g, A = some ⟨g, 0, none⟩ ∧ base ≤ g ∧ g < w.heap.size := by
  rcases h.own.2 with ⟨e, h0⟩ | ⟨g, cap, cur, e, hb, hh, _⟩
  · injection e with e1 e2 e3; exact .inl ⟨e1, e2, e3⟩
  · injection e with e1 e2 e3; exact .inr ⟨g, e1, hb, (Array.getElem?_eq_some_iff.1 hh).1⟩
theorem RowV.n_le (h : RowV w base t A n c vs) : n ≤ c ∧ c ≤ maxLen := by
  rcases h.own.2 with ⟨e, h0⟩ | ⟨g, cap, cur, e, hb, hh, h1, h2, _⟩
  · injection e with e1 e2 e3; subst e3; exact ⟨by omega, Nat.zero_le _⟩
  · injection e with e1 e2 e3; subst e3; exact ⟨h1, h2⟩
theorem RowV.more {base' : Nat} (h : RowV w base t A n c vs) (hb : base' ≤ base) : RowV w base' t A n c vs := by
  refine ⟨h.len, h.own.1, ?_⟩
  rcases h.own.2 with h0 | ⟨g, cap, cur, e, hb', rest⟩
  · exact .inl h0
  · exact .inr ⟨g, cap, cur, e, by omega, rest⟩
theorem RowV.keep (h : RowV w base t A n c vs) (hk : ∀ g, A = some ⟨g, 0, none⟩ → w'.heap[g]? = w.heap[g]?) : RowV w' base t A n c vs := by
  refine ⟨h.len, h.own.1, ?_⟩
  rcases h.own.2 with h0 | ⟨g, cap, cur, e, hb', hh, rest⟩
  · exact .inl h0
  · refine .inr ⟨g, cap, cur, e, hb', ?_, rest⟩
    injection e with e1 e2 e3
    rw [hk g e1]; exact hh
theorem RowV.below {B : Nat} (h : RowV w base t A n c vs) (hb : Below B w w') (hB : w.heap.size ≤ B) : RowV w' base t A n c vs :=
  h.keep fun g e => by
    rcases h.form with ⟨h0, _⟩ | ⟨g', e', _, hlt⟩
    · rw [h0] at e; cases e
    · rw [e'] at e; injection e with e; injection e with e; subst e; exact hb.block g' (by omega)
theorem RowV.grown {row : Option Nat} (h : RowV w base t A n c vs) (hg : w.grownBy w' row) (hr : ∀ g, A = some ⟨g, 0, none⟩ → some g ≠ row) : RowV w' base t A n c vs :=
  h.keep fun g e => by
    rcases h.form with ⟨h0, _⟩ | ⟨g', e', _, hlt⟩
    · rw [h0] at e; cases e
    · have : g' = g := by rw [e'] at e; injection e with e; injection e
      subst this; exact hg.block g' hlt (hr _ e)
theorem RowV.of_row {v : Value} {xs : List Value} (hl : xs.length = n) (h : w.ownsRow base t 1 v n xs) : ∃ A c, v = .slice A n c ∧ RowV w base t A n c xs := by
  rcases h.2 with ⟨e, h0⟩ | ⟨g, cap, cur, e, _⟩
  · subst h0
    exact ⟨none, 0, e, hl, e ▸ h⟩
  · exact ⟨_, cap, e, hl, e ▸ h⟩
theorem RowV.drew (h : RowV w base t A n c vs) : RowV w.drew base t A n c vs := h.keep fun _ _ => rfl
theorem RowV.alloc (h : RowV w base t A n c vs) (o : Obj) : RowV (w.alloc o) base t A n c vs := h.below ((Below.refl w.heap.size w).alloc (Nat.le_refl _) o) (Nat.le_refl _)
theorem RowV.rd (h : RowV w base t A n c vs) : RdV w (fun b => base ≤ b ∧ b < w.heap.size) A n vs := by
  refine ⟨h.len, fun hn => ?_⟩
  rcases h.form with ⟨_, h0, _⟩ | ⟨g, rfl, hb, hlt⟩
  · omega
  · refine ⟨g, 0, rfl, ⟨hb, hlt⟩, fun j v hv => ?_⟩
    have hj := (List.getElem?_eq_some_iff.1 hv).1
    rw [h.len] at hj
    rw [Nat.zero_add, h.own.cellAt j (by omega), hv]
theorem RdV.keep (h : RdV w S A n vs) (hk : ∀ p : Addr, S p.block → w'.cell? p = w.cell? p) : RdV w' S A n vs :=
  ⟨h.len, fun hn => by
    obtain ⟨b, off, e, hb, hc⟩ := h.cells hn
    exact ⟨b, off, e, hb, fun j v hv => (hk _ hb).trans (hc j v hv)⟩⟩
theorem RdV.more (h : RdV w S A n vs) (hS : ∀ b, S b → S' b) : RdV w S' A n vs :=
  ⟨h.len, fun hn => by
    obtain ⟨b, off, e, hb, hc⟩ := h.cells hn
    exact ⟨b, off, e, hS b hb, hc⟩⟩
theorem RdV.drew (h : RdV w S A n vs) : RdV w.drew S A n vs := h.keep fun _ _ => rfl
theorem RdV.below {B : Nat} (h : RdV w S A n vs) (hb : Below B w w') (hS : ∀ b, S b → b < B) : RdV w' S A n vs := h.keep fun _ hp => hb.cell (hS _ hp)
theorem RdV.grown {row : Option Nat} (h : RdV w S A n vs) (hg : w.grownBy w' row) (hr : ∀ b, S b → b < w.heap.size ∧ some b ≠ row) : RdV w' S A n vs :=
  h.keep fun p hp => World.cell?_of_block (hg.block p.block (hr _ hp).1 (hr _ hp).2)
theorem RdV.at_ {k : Nat} {v : Value} (h : RdV w S A n vs) (hv : vs[k]? = some v) : ∃ b off, A = some ⟨b, off, none⟩ ∧ S b ∧ w.cell? ⟨b, off + k, none⟩ = some v := by
  have hk := (List.getElem?_eq_some_iff.1 hv).1
  rw [h.len] at hk
  obtain ⟨b, off, e, hb, hc⟩ := h.cells (by omega)
  exact ⟨b, off, e, hb, hc k v hv⟩
theorem RdV.nil (w : World) (S : Nat → Prop) (A : Option Addr) : RdV w S A 0 [] := ⟨rfl, fun h => absurd h (by omega)⟩
theorem RdV.cellsAt {ad : Addr} (h : RdV w S (some ad) n vs) : ∀ (j : Nat) u, vs[j]? = some u → w.cell? (ad.add j) = some u := by
  intro j u hu
  have hj := (List.getElem?_eq_some_iff.1 hu).1
  rw [h.len] at hj
  obtain ⟨b, off, e, _, hc⟩ := h.cells (by omega)
  injection e with e
  subst e
  rw [Addr.add_lit]
  exact hc j u hu
/-- What lies below stays, where a row of the call's own is appended to. -/
theorem RowV.below_append {B k : Nat} {W w1 : World} {os : List Value} {o : Obj} (hbel : Below B W w) (hB : B ≤ w.heap.size) (hres : RowV w B t A k c os) (hg : (w.alloc o).grownBy w1 (Value.slice A k c).ownBlock) : Below B W w1 :=
  (hbel.alloc hB _).grown hg (by simp; omega) (by
    intro q hq
    rcases hres.form with ⟨h1, _⟩ | ⟨g1, h1, h2, _⟩
    · rw [h1] at hq; simp [Value.ownBlock] at hq
    · rw [h1] at hq; simp [Value.ownBlock] at hq; omega)
end

def bs8 (l : List UInt8) : List Value := l.map fun b => Value.int .u8 (b.toNat : Int)
theorem bs8_length (l : List UInt8) : (bs8 l).length = l.length := by simp [bs8]
theorem runeCells_bs8 (c : Int) : runeCells c = bs8 (encodeRune c) := by
  unfold runeCells bs8 encodeRune
  rw [List.map_map]
  refine List.map_congr_left fun x hx => ?_
  have := encodeRuneZ_byte c x hx
  show Value.int .u8 x = Value.int .u8 _
  rw [toU8_toNat this.1 this.2]
  congr 1
  omega
end Go.Proofs.YtobfeneeehmpcaaGreatDoor

namespace Go.Proofs.YtobfeneeehmpcaaGreatDoor
open Go.RowKit Go.Lib

theorem rc_from (s : ByteArray) : ∀ f pos, s.size ≤ pos + f → runeCountFrom s f pos = (pcs (s.data.toList.drop pos)).length := by
  have hsz : s.size = s.data.toList.length := by rw [Array.length_toList]; rfl
  intro f
  induction f with
  | zero =>
    intro pos h
    rw [List.drop_eq_nil_of_le (by omega)]
    rfl
  | succ f ih =>
    intro pos h
    by_cases hp : pos < s.size
    · have hne : s.data.toList.drop pos ≠ [] := by
        intro e
        have := congrArg List.length e
        rw [List.length_drop, List.length_nil] at this
        omega
      have hw := wid_ge (s.data.toList.drop pos)
      rw [pcs_cons hne, List.length_cons]
      unfold runeCountFrom
      rw [if_pos hp, ← decodeL_drop s pos]
      rw [ih (pos + (decodeL (s.data.toList.drop pos)).2) (by unfold wid at hw; omega), List.drop_drop]
      unfold wid
      omega
    · rw [runeCountFrom_end s _ pos hp, List.drop_eq_nil_of_le (by omega)]
      rfl
theorem rc_eq (s : ByteArray) : runeCount s = (pcs s.data.toList).length := by
  have := rc_from s s.size 0 (by omega)
  rw [List.drop_zero] at this
  exact this
theorem rcount_c (s : ByteArray) (w : World) (hs : s.size ≤ 140737488355328) :
    Calls Tryz.prog 43 #[.string s] w fun e w' => e = .returned (.int .i64 ((pcs s.data.toList).length : Int)) ∧ Below w.heap.size w w' := by
  refine (Tryz.utf8_RuneCountInString s w (by omega)).mono ?_
  rintro e w' ⟨rfl, pos, rfl⟩
  rw [rc_eq]
  exact ⟨rfl, (Below.refl _ _).alloc (Nat.le_refl _) _⟩
def cntT (L : List UInt8) : Nat := if isT L = true then (pcs L).length else 0
theorem pcs_len (L : List UInt8) : (pcs L).length ≤ L.length := by
  refine text_ind (p := fun l => (pcs l).length ≤ l.length) (Nat.le_refl _) (fun l hl ih => ?_) L
  have h1 := wid_ge l
  have h2 := wid_le hl
  rw [List.length_drop] at ih
  show (pcs l).length ≤ l.length
  rw [pcs_cons hl, List.length_cons]
  omega

set_option maxRecDepth 100000 in
theorem Count_c (s : ByteArray) (w : World) (hT : Tabs w) (hs : s.size ≤ 140737488355328) :
    Calls Tryz.prog 27 #[.string s] w fun e w' => e = .returned (.tuple #[.int .i64 (cntT s.data.toList : Int), .int .i64 (errT s.data.toList : Int)]) ∧ Below w.heap.size w w' := by
  have hC := UCheck_c s w hT hs
  have hR := fun W => rcount_c s W hs
  generalize s.data.toList = L at hC hR ⊢
  generalize hB : badAt L = B at hC
  clear hB
  by_cases h : isT L = true
  · have e1 : errT L = 0 := by unfold errT; rw [if_pos h]
    have e2 : cntT L = (pcs L).length := by unfold cntT; rw [if_pos h]
    rw [e1] at hC ⊢
    rw [e2]
    generalize (pcs L).length = N at hR ⊢
    clear e1 e2 h
    go_enter Tryz.func27, Tryz.ntmps27
    go_wp2_with fail
    refine hC.mono ?_
    rintro e w1 ⟨rfl, hb1⟩
    go_wp2_with fail
    refine (hR w1).mono ?_
    rintro e w2 ⟨rfl, hb2⟩
    go_wp2
    go_ret2
    exact ⟨rfl, hb1.trans (hb2.mono hb1.size)⟩
  · have e1 : errT L = 61 := by unfold errT; rw [if_neg h]
    have e2 : cntT L = 0 := by unfold cntT; rw [if_neg h]
    rw [e1] at hC ⊢
    rw [e2]
    clear e1 e2 h
    go_enter Tryz.func27, Tryz.ntmps27
    go_wp2_with fail
    refine hC.mono ?_
    rintro e w1 ⟨rfl, hb1⟩
    go_wp2
    go_ret2
    exact ⟨rfl, hb1⟩
end Go.Proofs.YtobfeneeehmpcaaGreatDoor

namespace Go.Proofs.YtobfeneeehmpcaaGreatDoor
open Go.RowKit Go.Lib

/-- A place put into bounds. -/
def wi (n p : Int) : Int := min (max (if p < 0 then p + n else p) 0) n
end Go.Proofs.YtobfeneeehmpcaaGreatDoor

namespace Go.Proofs.YtobfeneeehmpcaaGreatDoor
open Go.RowKit Go.Lib
attribute [local go_sem] Oper.semAt_some

/-- The block that 'make' lays for ints, and for octets. -/
def roomI (n : Nat) : Obj := .cells (madeCells #[.int IntKind.i64 0] n) 3
theorem RowV.room (w : World) (n : Nat) (h : n ≤ 4398046511104) : RowV (w.alloc (roomI n)) w.heap.size 3 (some ⟨w.heap.size, 0, none⟩) 0 n [] := by
  refine ⟨rfl, ?_⟩
  have := World.ownsRow_lit (base := w.heap.size) (e := 3) (size := 1) w (madeCells #[.int IntKind.i64 0] n) n (Nat.le_refl _) (by unfold maxLen; omega) (by rw [size_madeCells, Nat.mul_one])
  exact ⟨rfl, by
    rcases this.2 with ⟨e, h0⟩ | ⟨g, cap, cur, e, hb, hh, h1, h2, h3, h4⟩
    · injection e with e1; cases e1
    · injection e with e1 e2 e3
      exact .inr ⟨g, n, cur, by rw [e1], hb, hh, by omega, by omega, by rw [e3]; exact h3, by simp⟩⟩

end Go.Proofs.YtobfeneeehmpcaaGreatDoor

namespace Go.Proofs.YtobfeneeehmpcaaGreatDoor
open Go.RowKit Go.Lib

/-- A text of octets. -/
def mk8 (l : List UInt8) : ByteArray := ⟨l.toArray⟩
theorem mk8_L (l : List UInt8) : (mk8 l).data.toList = l := rfl
theorem mk8_size (l : List UInt8) : (mk8 l).size = l.length := by show l.toArray.size = _; simp
theorem mk8_of (s : ByteArray) : mk8 s.data.toList = s := by cases s; simp [mk8]
end Go.Proofs.YtobfeneeehmpcaaGreatDoor

namespace Go.Proofs.YtobfeneeehmpcaaGreatDoor
open Go.RowKit Go.Lib

theorem RdV.conv {w : World} {S : Nat → Prop} {A : Option Addr} {n c : Nat} {l : List UInt8} (h : RdV w S A n (bs8 l)) : (convert 112 9 (.slice A n c)).run Tryz.prog w = .ok (.string (mk8 l)) w := by
  have hl : l.length = n := by rw [← h.len, bs8_length]
  cases A with
  | none =>
    have h0 : n = 0 := by
      rcases Nat.eq_zero_or_pos n with e | e
      · exact e
      · obtain ⟨b, off, e2, _⟩ := h.cells e; cases e2
    have hl0 : l = [] := List.eq_nil_of_length_eq_zero (by omega)
    have h1 := run_convert_bytes_nil (P := Tryz.prog) w 112 5 Tryz.underlying112 Tryz.underlying5 n c 9 Tryz.underlying9
    rw [h1, hl0]; rfl
  | some ad =>
    have hm : bs8 l = (l.map fun x => (x.toNat : Int)).map (Value.int .u8) := by unfold bs8; rw [List.map_map]; rfl
    have hld : (loadCells ad n).run Tryz.prog w = .ok ((l.map fun x => (x.toNat : Int)).map (Value.int .u8)).toArray w := by
      have := run_loadCells_list (P := Tryz.prog) w ad (bs8 l) (fun j v hj => h.cellsAt j v hj)
      rw [bs8_length, hl, hm] at this
      exact this
    rw [run_convert_bytes_string w 112 9 5 _ n c Tryz.underlying112 Tryz.underlying5 Tryz.underlying9, run_bytesToString w _ n c (l.map fun x => (x.toNat : Int)) hld, foldl_push_bytes]
    congr 1
    congr 1
    unfold mk8
    congr 1
    rw [List.map_map]
    show ByteArray.empty.data ++ _ = _
    have : (l.map ((fun n : Int => UInt8.ofNat n.toNat) ∘ fun x : UInt8 => (x.toNat : Int))) = l := by
      conv => rhs; rw [← List.map_id l]
      refine List.map_congr_left fun x _ => ?_
      simp
    rw [this]
    simp

end Go.Proofs.YtobfeneeehmpcaaGreatDoor

namespace Go.Proofs.YtobfeneeehmpcaaGreatDoor
open Go.Lib

def szOf (l : List UInt8) : Nat := if 240 ≤ (l.getD 0 0).toNat then 4 else if 224 ≤ (l.getD 0 0).toNat then 3 else if 192 ≤ (l.getD 0 0).toNat then 2 else 1
def hdOf (l : List UInt8) : Nat := if 240 ≤ (l.getD 0 0).toNat then (l.getD 0 0).toNat - 240 else if 224 ≤ (l.getD 0 0).toNat then (l.getD 0 0).toNat - 224 else if 192 ≤ (l.getD 0 0).toNat then (l.getD 0 0).toNat - 192 else (l.getD 0 0).toNat
/-- The number behind k octets more. -/
def numAt (l : List UInt8) : Nat → Nat
  | 0 => hdOf l
  | k + 1 => numAt l k * 64 + (l.getD (k + 1) 0).toNat % 64
def fstN (l : List UInt8) : Nat := numAt l (szOf l - 1)
def fstP (l : List UInt8) : Int × Nat := if l = [] ∨ partOf l = -1 then (0, 0) else (partOf l, wid l)

theorem fst_enc {c : Int} (h : isCh c) (t : List UInt8) : szOf (encodeRune c ++ t) = (encodeRune c).length ∧ (fstN (encodeRune c ++ t) : Int) = c := by
  unfold isCh at h
  obtain ⟨k, rfl⟩ : ∃ k : Nat, c = (k : Int) := ⟨c.toNat, by omega⟩
  unfold fstN szOf
  by_cases h1 : (k : Int) ≤ 127
  · unfold encodeRune
    rw [encodeRuneZ_one (by omega) h1]
    simp only [List.map_cons, List.map_nil, List.cons_append, List.nil_append, List.getD_cons_zero, Nat.toUInt8_eq, UInt8.toNat_ofNat', List.length_cons, List.length_nil]
    have e : (k : Int).toNat % 2 ^ 8 = k := by omega
    rw [e, if_neg (by omega), if_neg (by omega), if_neg (by omega)]
    refine ⟨rfl, ?_⟩
    show ((hdOf _ : Nat) : Int) = _
    unfold hdOf
    simp only [List.getD_cons_zero, UInt8.toNat_ofNat', e]
    rw [if_neg (by omega), if_neg (by omega), if_neg (by omega)]
  by_cases h2 : (k : Int) ≤ 2047
  · unfold encodeRune
    rw [encodeRuneZ_two (by omega) h2]
    have e1 : ((192 : Int) + (k : Int) / 64).toNat = 192 + k / 64 := by omega
    have e2 : ((128 : Int) + (k : Int) % 64).toNat = 128 + k % 64 := by omega
    simp only [List.map_cons, List.map_nil, e1, e2, List.cons_append, List.nil_append, List.getD_cons_zero, Nat.toUInt8_eq, UInt8.toNat_ofNat', List.length_cons, List.length_nil]
    have f1 : (192 + k / 64) % 2 ^ 8 = 192 + k / 64 := by omega
    have f2 : (128 + k % 64) % 2 ^ 8 = 128 + k % 64 := by omega
    rw [f1, if_neg (by omega), if_neg (by omega), if_pos (by omega)]
    refine ⟨rfl, ?_⟩
    show ((hdOf _ * 64 + _ : Nat) : Int) = _
    unfold hdOf
    simp only [List.getD_cons_zero, List.getD_cons_succ, UInt8.toNat_ofNat', f1, f2]
    rw [if_neg (by omega), if_neg (by omega), if_pos (by omega)]
    omega
  by_cases h3 : (k : Int) ≤ 65535
  · unfold encodeRune
    rw [encodeRuneZ_three (by omega)]
    have e1 : ((224 : Int) + (k : Int) / 4096).toNat = 224 + k / 4096 := by omega
    have e2 : ((128 : Int) + (k : Int) / 64 % 64).toNat = 128 + k / 64 % 64 := by omega
    have e3 : ((128 : Int) + (k : Int) % 64).toNat = 128 + k % 64 := by omega
    simp only [List.map_cons, List.map_nil, e1, e2, e3, List.cons_append, List.nil_append, List.getD_cons_zero, Nat.toUInt8_eq, UInt8.toNat_ofNat', List.length_cons, List.length_nil]
    have f1 : (224 + k / 4096) % 2 ^ 8 = 224 + k / 4096 := by omega
    have f2 : (128 + k / 64 % 64) % 2 ^ 8 = 128 + k / 64 % 64 := by omega
    have f3 : (128 + k % 64) % 2 ^ 8 = 128 + k % 64 := by omega
    rw [f1, if_neg (by omega), if_pos (by omega)]
    refine ⟨rfl, ?_⟩
    show (((hdOf _ * 64 + _) * 64 + _ : Nat) : Int) = _
    unfold hdOf
    simp only [List.getD_cons_zero, List.getD_cons_succ, UInt8.toNat_ofNat', f1, f2, f3]
    rw [if_neg (by omega), if_pos (by omega)]
    omega
  · unfold encodeRune
    rw [encodeRuneZ_four (by omega) (by omega)]
    have e1 : ((240 : Int) + (k : Int) / 262144).toNat = 240 + k / 262144 := by omega
    have e4 : ((128 : Int) + (k : Int) / 4096 % 64).toNat = 128 + k / 4096 % 64 := by omega
    have e2 : ((128 : Int) + (k : Int) / 64 % 64).toNat = 128 + k / 64 % 64 := by omega
    have e3 : ((128 : Int) + (k : Int) % 64).toNat = 128 + k % 64 := by omega
    simp only [List.map_cons, List.map_nil, e1, e2, e3, e4, List.cons_append, List.nil_append, List.getD_cons_zero, Nat.toUInt8_eq, UInt8.toNat_ofNat', List.length_cons, List.length_nil]
    have f1 : (240 + k / 262144) % 2 ^ 8 = 240 + k / 262144 := by omega
    have f4 : (128 + k / 4096 % 64) % 2 ^ 8 = 128 + k / 4096 % 64 := by omega
    have f2 : (128 + k / 64 % 64) % 2 ^ 8 = 128 + k / 64 % 64 := by omega
    have f3 : (128 + k % 64) % 2 ^ 8 = 128 + k % 64 := by omega
    rw [f1, if_pos (by omega)]
    refine ⟨rfl, ?_⟩
    show ((((hdOf _ * 64 + _) * 64 + _) * 64 + _ : Nat) : Int) = _
    unfold hdOf
    simp only [List.getD_cons_zero, List.getD_cons_succ, UInt8.toNat_ofNat', f1, f2, f3, f4]
    rw [if_pos (by omega)]
    omega
/-- What First asks tells whether a character stands first. -/
theorem fst_yes {l : List UInt8} (h : l ≠ []) (hp : partOf l ≠ -1) : wid l = szOf l ∧ partOf l = (fstN l : Int) ∧ szOf l ≤ l.length ∧ isCh (fstN l : Int) ∧ l.take (szOf l) = encodeRune (fstN l : Int) := by
  rcases part_cases h with ⟨h1, _⟩ | ⟨_, h1, h2, _⟩
  · exact absurd h1 hp
  · have hl : encodeRune (partOf l) ++ l.drop (wid l) = l := by rw [← h2]; exact List.take_append_drop _ _
    obtain ⟨g1, g2⟩ := fst_enc h1 (l.drop (wid l))
    rw [hl] at g1 g2
    have hw : wid l = szOf l := by
      rw [g1, ← h2, List.length_take]
      have := wid_le h; omega
    have := wid_le h
    rw [g2, ← hw]
    exact ⟨rfl, rfl, this, h1, h2⟩
theorem fst_no {l : List UInt8} (h : l ≠ []) (hs : szOf l ≤ l.length) (hc : isCh (fstN l : Int)) (he : l.take (szOf l) = encodeRune (fstN l : Int)) : partOf l ≠ -1 := by
  have hl : encodeRune (fstN l : Int) ++ l.drop (szOf l) = l := by rw [← he]; exact List.take_append_drop _ _
  have := (part_enc hc (l.drop (szOf l))).1
  rw [hl] at this
  rw [this]
  unfold isCh at hc; omega
theorem fstP_yes {l : List UInt8} (h : l ≠ []) (hs : szOf l ≤ l.length) (hc : isCh (fstN l : Int)) (he : l.take (szOf l) = encodeRune (fstN l : Int)) : fstP l = ((fstN l : Int), szOf l) := by
  have hp := fst_no h hs hc he
  obtain ⟨h1, h2, _⟩ := fst_yes h hp
  unfold fstP
  rw [if_neg (fun h3 => h3.elim h hp), h1, h2]
theorem fstP_no {l : List UInt8} (hn : ¬ (l ≠ [] ∧ szOf l ≤ l.length ∧ isCh (fstN l : Int) ∧ l.take (szOf l) = encodeRune (fstN l : Int))) : fstP l = (0, 0) := by
  unfold fstP
  by_cases h : l = []
  · rw [if_pos (.inl h)]
  · by_cases hp : partOf l = -1
    · rw [if_pos (.inr hp)]
    · obtain ⟨_, _, h1, h2, h3⟩ := fst_yes h hp
      exact absurd ⟨h, h1, h2, h3⟩ hn
theorem numAt_lt (l : List UInt8) (k : Nat) : numAt l k < 256 * 64 ^ k := by
  induction k with
  | zero =>
    have := (l.getD 0 0).toNat_lt
    show hdOf l < _
    unfold hdOf
    split <;> (try split) <;> (try split) <;> omega
  | succ k ih =>
    show numAt l k * 64 + _ < _
    rw [Nat.pow_succ]
    omega
end Go.Proofs.YtobfeneeehmpcaaGreatDoor
