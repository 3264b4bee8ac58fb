/-
  Rows of values of one cell each: one of the call's own, and a slice that reads as one; how both abide what happens beside them. No condition.
  Contract of utf.Slice.
  Contract of utf.Text.
  The walk of the law UtfMends: it returns true, whatever the octets are.
  Contracts of the reference's may and Octets.
  Contracts of the scan's character and text.
-/
import Derived.Test.YtpjllcengnolkaaGreatDoorPVord
import Derived.Laws.AppendOwnNone
import Derived.Maps.OwnIn
import Derived.Maps.AppendAt
import Derived.Laws.BytesArg
import Derived.WalkSpells
import Derived.WalkLawsBesides
import Derived.Deep.Draws
import Derived.BigRegion
import Derived.Deep.RegionWith
import Derived.Deep.QuietTactic
import Derived.BigQuiet
import Derived.Test.YtpjllcengnolkaaGreatDoorPLfr
import Derived.Test.YtpjllcengnolkaaGreatDoorPRfull
import Derived.Test.YtpjllcengnolkaaGreatDoorPLsc
import Derived.Test.YtpjllcengnolkaaGreatDoorPDfm
import Derived.Test.YtpjllcengnolkaaGreatDoorPDrprt
import Derived.Test.YtpjllcengnolkaaGreatDoorPRshift
import Derived.Test.YtpjllcengnolkaaGreatDoorPDpar
import Derived.Test.YtpjllcengnolkaaGreatDoorPDop
import Derived.Test.YtpjllcengnolkaaGreatDoorPDnumd
import Derived.Deep.RegionHeld3
import Derived.Deep.Cut
import Derived.Deep.CutRange
import Derived.Test.YtpjllcengnolkaaGreatDoorPVsame
import Derived.Laws.EntriesVeiled
import Derived.Test.YtpjllcengnolkaaGreatDoorPNlimb
import Derived.Test.YtpjllcengnolkaaGreatDoorPUpure
import Derived.Deep.AppendLies
import Derived.Deep.CutBlock
set_option linter.unusedVariables false
set_option linter.unusedSimpArgs false
namespace Go.Proofs.YtpjllcengnolkaaGreatDoor
open Go.RowKit Go.Lib

/-- The slice value '.slice A n c' is a row of the call's own, from block base on, and holds vs. -/
structure RowV (w : World) (base : Nat) (t : TypeId) (A : Option Addr) (n c : Nat) (vs : List Value) : Prop where
  len : vs.length = n
  own : w.ownsRow base t 1 (.slice A n c) n vs
/-- The slice value '.slice A n c' reads as vs in world w, in blocks of S. -/
structure RdV (w : World) (S : Nat → Prop) (A : Option Addr) (n : Nat) (vs : List Value) : Prop where
  len : vs.length = n
  cells : 0 < n → ∃ b off, A = some ⟨b, off, none⟩ ∧ S b ∧ ∀ (j : Nat) v, vs[j]? = some v → w.cell? ⟨b, off + j, none⟩ = some v

section
variable {w w' : World} {base n c : Nat} {t : TypeId} {A : Option Addr} {vs : List Value} {S S' : Nat → Prop}
theorem RowV.nil (w : World) (base : Nat) (t : TypeId) : RowV w base t none 0 0 [] := ⟨rfl, World.ownsRow_nil w base _ 1⟩
theorem RowV.form (h : RowV w base t A n c vs) : (A = none ∧ n = 0 ∧ c = 0) ∨ ∃ g, A = some ⟨g, 0, none⟩ ∧ base ≤ g ∧ g < w.heap.size := by
  rcases h.own.2 with ⟨e, h0⟩ | ⟨g, cap, cur, e, hb, hh, _⟩
  · injection e with e1 e2 e3; exact .inl ⟨e1, e2, e3⟩
  · injection e with e1 e2 e3; exact .inr ⟨g, e1, hb, (Array.getElem?_eq_some_iff.1 hh).1⟩
theorem RowV.n_le (h : RowV w base t A n c vs) : n ≤ c ∧ c ≤ maxLen := by
  rcases h.own.2 with ⟨e, h0⟩ | ⟨g, cap, cur, e, hb, hh, h1, h2, _⟩
  · injection e with e1 e2 e3; subst e3; exact ⟨by omega, Nat.zero_le _⟩
  · injection e with e1 e2 e3; subst e3; exact ⟨h1, h2⟩
theorem RowV.more {base' : Nat} (h : RowV w base t A n c vs) (hb : base' ≤ base) : RowV w base' t A n c vs := by
  refine ⟨h.len, h.own.1, ?_⟩
  rcases h.own.2 with h0 | ⟨g, cap, cur, e, hb', rest⟩
  · exact .inl h0
  · exact .inr ⟨g, cap, cur, e, by omega, rest⟩
theorem RowV.keep (h : RowV w base t A n c vs) (hk : ∀ g, A = some ⟨g, 0, none⟩ → w'.heap[g]? = w.heap[g]?) : RowV w' base t A n c vs := by
  refine ⟨h.len, h.own.1, ?_⟩
  rcases h.own.2 with h0 | ⟨g, cap, cur, e, hb', hh, rest⟩
  · exact .inl h0
  · refine .inr ⟨g, cap, cur, e, hb', ?_, rest⟩
    injection e with e1 e2 e3
    rw [hk g e1]; exact hh
theorem RowV.below {B : Nat} (h : RowV w base t A n c vs) (hb : Below B w w') (hB : w.heap.size ≤ B) : RowV w' base t A n c vs :=
  h.keep fun g e => by
    rcases h.form with ⟨h0, _⟩ | ⟨g', e', _, hlt⟩
    · rw [h0] at e; cases e
    · rw [e'] at e; injection e with e; injection e with e; subst e; exact hb.block g' (by omega)
theorem RowV.grown {row : Option Nat} (h : RowV w base t A n c vs) (hg : w.grownBy w' row) (hr : ∀ g, A = some ⟨g, 0, none⟩ → some g ≠ row) : RowV w' base t A n c vs :=
  h.keep fun g e => by
    rcases h.form with ⟨h0, _⟩ | ⟨g', e', _, hlt⟩
    · rw [h0] at e; cases e
    · have : g' = g := by rw [e'] at e; injection e with e; injection e
      subst this; exact hg.block g' hlt (hr _ e)
theorem RowV.of_row {v : Value} {xs : List Value} (hl : xs.length = n) (h : w.ownsRow base t 1 v n xs) : ∃ A c, v = .slice A n c ∧ RowV w base t A n c xs := by
  rcases h.2 with ⟨e, h0⟩ | ⟨g, cap, cur, e, _⟩
  · subst h0
    exact ⟨none, 0, e, hl, e ▸ h⟩
  · exact ⟨_, cap, e, hl, e ▸ h⟩
theorem RowV.drew (h : RowV w base t A n c vs) : RowV w.drew base t A n c vs := h.keep fun _ _ => rfl
theorem RowV.alloc (h : RowV w base t A n c vs) (o : Obj) : RowV (w.alloc o) base t A n c vs := h.below ((Below.refl w.heap.size w).alloc (Nat.le_refl _) o) (Nat.le_refl _)
theorem RowV.rd (h : RowV w base t A n c vs) : RdV w (fun b => base ≤ b ∧ b < w.heap.size) A n vs := by
  refine ⟨h.len, fun hn => ?_⟩
  rcases h.form with ⟨_, h0, _⟩ | ⟨g, rfl, hb, hlt⟩
  · omega
  · refine ⟨g, 0, rfl, ⟨hb, hlt⟩, fun j v hv => ?_⟩
    have hj := (List.getElem?_eq_some_iff.1 hv).1
    rw [h.len] at hj
    rw [Nat.zero_add, h.own.cellAt j (by omega), hv]
theorem RdV.keep (h : RdV w S A n vs) (hk : ∀ p : Addr, S p.block → w'.cell? p = w.cell? p) : RdV w' S A n vs :=
  ⟨h.len, fun hn => by
    obtain ⟨b, off, e, hb, hc⟩ := h.cells hn
    exact ⟨b, off, e, hb, fun j v hv => (hk _ hb).trans (hc j v hv)⟩⟩
theorem RdV.more (h : RdV w S A n vs) (hS : ∀ b, S b → S' b) : RdV w S' A n vs :=
  ⟨h.len, fun hn => by
    obtain ⟨b, off, e, hb, hc⟩ := h.cells hn
    exact ⟨b, off, e, hS b hb, hc⟩⟩
theorem RdV.drew (h : RdV w S A n vs) : RdV w.drew S A n vs := h.keep fun _ _ => rfl
theorem RdV.below {B : Nat} (h : RdV w S A n vs) (hb : Below B w w') (hS : ∀ b, S b → b < B) : RdV w' S A n vs := h.keep fun _ hp => hb.cell (hS _ hp)
theorem RdV.grown {row : Option Nat} (h : RdV w S A n vs) (hg : w.grownBy w' row) (hr : ∀ b, S b → b < w.heap.size ∧ some b ≠ row) : RdV w' S A n vs :=
  h.keep fun p hp => World.cell?_of_block (hg.block p.block (hr _ hp).1 (hr _ hp).2)
theorem RdV.at_ {k : Nat} {v : Value} (h : RdV w S A n vs) (hv : vs[k]? = some v) : ∃ b off, A = some ⟨b, off, none⟩ ∧ S b ∧ w.cell? ⟨b, off + k, none⟩ = some v := by
  have hk := (List.getElem?_eq_some_iff.1 hv).1
  rw [h.len] at hk
  obtain ⟨b, off, e, hb, hc⟩ := h.cells (by omega)
  exact ⟨b, off, e, hb, hc k v hv⟩
theorem RdV.nil (w : World) (S : Nat → Prop) (A : Option Addr) : RdV w S A 0 [] := ⟨rfl, fun h => absurd h (by omega)⟩
theorem RdV.cellsAt {ad : Addr} (h : RdV w S (some ad) n vs) : ∀ (j : Nat) u, vs[j]? = some u → w.cell? (ad.add j) = some u := by
  intro j u hu
  have hj := (List.getElem?_eq_some_iff.1 hu).1
  rw [h.len] at hj
  obtain ⟨b, off, e, _, hc⟩ := h.cells (by omega)
  injection e with e
  subst e
  rw [Addr.add_lit]
  exact hc j u hu
/-- What lies below stays, where a row of the call's own is appended to. -/
theorem RowV.below_append {B k : Nat} {W w1 : World} {os : List Value} {o : Obj} (hbel : Below B W w) (hB : B ≤ w.heap.size) (hres : RowV w B t A k c os) (hg : (w.alloc o).grownBy w1 (Value.slice A k c).ownBlock) : Below B W w1 :=
  (hbel.alloc hB _).grown hg (by simp; omega) (by
    intro q hq
    rcases hres.form with ⟨h1, _⟩ | ⟨g1, h1, h2, _⟩
    · rw [h1] at hq; simp [Value.ownBlock] at hq
    · rw [h1] at hq; simp [Value.ownBlock] at hq; omega)
end

def bs8 (l : List UInt8) : List Value := l.map fun b => Value.int .u8 (b.toNat : Int)
theorem bs8_length (l : List UInt8) : (bs8 l).length = l.length := by simp [bs8]
theorem bs8_get {l : List UInt8} {k : Nat} {z : UInt8} (h : l[k]? = some z) : (bs8 l)[k]? = some (.int .u8 (z.toNat : Int)) := by simp [bs8, h]
theorem bs8_one (xs : List UInt8) : ∀ u ∈ bs8 xs, u.oneCell' = true := by
  intro u hu
  obtain ⟨x, _, rfl⟩ := List.mem_map.1 hu
  rfl
theorem uinfo8 : (Tryz.prog.info? 5).map (fun i => (i.zero, i.size, i.bytes)) = some (some (.int IntKind.u8 0), 1, 1) := by kernel_rfl
end Go.Proofs.YtpjllcengnolkaaGreatDoor

namespace Go.Proofs.YtpjllcengnolkaaGreatDoor
open Go.RowKit Go.Lib

/-- A text of octets. -/
def mk8 (l : List UInt8) : ByteArray := ⟨l.toArray⟩
end Go.Proofs.YtpjllcengnolkaaGreatDoor

namespace Go.Proofs.YtpjllcengnolkaaGreatDoor
open Go.RowKit Go.Lib

theorem RdV.conv {w : World} {S : Nat → Prop} {A : Option Addr} {n c : Nat} {l : List UInt8} (h : RdV w S A n (bs8 l)) : (convert 22 9 (.slice A n c)).run Tryz.prog w = .ok (.string (mk8 l)) w := by
  have hl : l.length = n := by rw [← h.len, bs8_length]
  cases A with
  | none =>
    have h0 : n = 0 := by
      rcases Nat.eq_zero_or_pos n with e | e
      · exact e
      · obtain ⟨b, off, e2, _⟩ := h.cells e; cases e2
    have hl0 : l = [] := List.eq_nil_of_length_eq_zero (by omega)
    have h1 := run_convert_bytes_nil (P := Tryz.prog) w 22 5 Tryz.underlying22 Tryz.underlying5 n c 9 Tryz.underlying9
    rw [h1, hl0]; rfl
  | some ad =>
    have hm : bs8 l = (l.map fun x => (x.toNat : Int)).map (Value.int .u8) := by unfold bs8; rw [List.map_map]; rfl
    have hld : (loadCells ad n).run Tryz.prog w = .ok ((l.map fun x => (x.toNat : Int)).map (Value.int .u8)).toArray w := by
      have := run_loadCells_list (P := Tryz.prog) w ad (bs8 l) (fun j v hj => h.cellsAt j v hj)
      rw [bs8_length, hl, hm] at this
      exact this
    rw [run_convert_bytes_string w 22 9 5 _ n c Tryz.underlying22 Tryz.underlying5 Tryz.underlying9, run_bytesToString w _ n c (l.map fun x => (x.toNat : Int)) hld, foldl_push_bytes]
    congr 1
    congr 1
    unfold mk8
    congr 1
    rw [List.map_map]
    show ByteArray.empty.data ++ _ = _
    have : (l.map ((fun n : Int => UInt8.ofNat n.toNat) ∘ fun x : UInt8 => (x.toNat : Int))) = l := by
      conv => rhs; rw [← List.map_id l]
      refine List.map_congr_left fun x _ => ?_
      simp
    rw [this]
    simp

end Go.Proofs.YtpjllcengnolkaaGreatDoor

namespace Go.Proofs.YtpjllcengnolkaaGreatDoor
open Go.RowKit Go.Lib

set_option maxRecDepth 100000 in
theorem CopyBytes_c {S : Nat → Prop} {n c : Nat} {A : Option Addr} {l : List UInt8} (w : World) (ha : RdV w S A n (bs8 l)) (hn : n ≤ 1099511627776) :
    Calls Tryz.prog 11 #[.slice A n c] w fun e w' => ∃ A' c', e = .returned (.slice A' n c') ∧ RowV w' w.heap.size 5 A' n c' (bs8 l) ∧ Below w.heap.size w w' := by
  have hl0 : l.length = n := by rw [← ha.len, bs8_length]
  cases A with
  | none =>
    obtain rfl : n = 0 := by
      rcases Nat.eq_zero_or_pos n with h | h
      · exact h
      · obtain ⟨b, off, e, _⟩ := ha.cells h; cases e
    obtain rfl : l = [] := List.eq_nil_of_length_eq_zero hl0
    obtain ⟨i0, hi, hz0, hz1, hz2⟩ := info_parts uinfo8
    go_enter Tryz.func11, Tryz.ntmps11
    go_wp2_with (at_builtin; refine wpList_append_own_none _ rfl (.tmp 4) (.tmp 5) _ rfl w.heap.size 5 i0 1 Tryz.underlying22 hi (.slice none 0 0) 0 [] rfl (World.ownsRow_nil _ _ _ _) (hnc ▸ rfl) ?_)
    go_ret
    exact ⟨none, 0, rfl, RowV.nil _ _ _, Below.refl _ _⟩
  | some ad =>
    obtain ⟨i0, hi, hz0, hz1, hz2⟩ := info_parts uinfo8
    have hl := Lib.hid hl0
    clear hl0
    go_enter Tryz.func11, Tryz.ntmps11
    go_wp2_with (at_builtin; refine wpList_append_own _ rfl (.tmp 4) (.tmp 5) _ rfl w.heap.size 5 i0 (.int .u8 0) 1 1 Tryz.underlying22 hi hz0 hz1 hz2 rfl (by decide) (.slice none 0 0) 0 [] rfl (World.ownsRow_nil _ _ _ _) ad n c (bs8 l) rfl (by rw [bs8_length, hl.out, Nat.mul_one]) ha.cellsAt (bs8_one l) (by unfold maxLen; omega) (by omega) (by simp) ?_; intro v' w1 hown1 hg1 _)
    go_ret
    rw [Nat.zero_add, List.nil_append] at hown1
    obtain ⟨A', c', e, hr⟩ := RowV.of_row (by rw [bs8_length, hl.out]) hown1
    subst e
    exact ⟨A', c', rfl, hr, (Below.refl _ w).grown hg1 (by simp) (by intro k hk; simp [Value.ownBlock] at hk)⟩
end Go.Proofs.YtpjllcengnolkaaGreatDoor

namespace Go.Proofs.YtpjllcengnolkaaGreatDoor
open Go.RowKit Go.Lib

theorem RowV.lit (w : World) (t : TypeId) (vs : List Value) (n : Nat) (hn : vs.length = n) (hm : n ≤ 4294967296) : RowV (w.alloc (.cells vs.toArray t)) w.heap.size t (some ⟨w.heap.size, 0, none⟩) n n vs := by
  refine ⟨hn, ?_⟩
  have h := World.ownsRow_lit (base := w.heap.size) (e := t) (size := 1) w vs.toArray n (Nat.le_refl _) (by unfold maxLen; omega) (by simp [hn])
  simpa using h

end Go.Proofs.YtpjllcengnolkaaGreatDoor

namespace Go.Proofs.YtpjllcengnolkaaGreatDoor
open Go.RowKit Go.Lib
variable {B : Nat} {L : List UInt8} {A : Option Addr} {c sb : Nat}

theorem rChar_up {p q : Nat} {x : Int} (h : rChar L p = .ok x q) : p < q := by
  unfold rChar rAt rPeek at h
  cases hx : L[p]? with
  | none => rw [hx] at h; exact absurd h (by simp [RR.bind])
  | some y =>
    have hp := (List.getElem?_eq_some_iff.1 hx).1
    rw [hx] at h
    simp only [RR.bind] at h
    by_cases h1 : (y == 92) = true
    · rw [if_pos h1] at h
      unfold rEscape rAt rPeek at h
      cases hx2 : L[p + 1]? with
      | none => rw [hx2] at h; exact absurd h (by simp [RR.bind])
      | some z =>
        have hp2 := (List.getElem?_eq_some_iff.1 hx2).1
        rw [hx2] at h
        simp only [RR.bind] at h
        by_cases h2 : (z == 117) = true
        · rw [if_pos h2] at h
          have := (Closed.coded (m := p)).up L (p + 1 + 1) x q (by omega) (by omega) h
          omega
        · rw [if_neg h2] at h
          cases he : escOf z with
          | none => rw [he] at h; exact absurd h (by simp)
          | some v =>
            rw [he] at h
            injection h with h3 h4
            omega
    · rw [if_neg h1] at h
      by_cases h2 : y < 32
      · rw [if_pos h2] at h; exact absurd h (by simp [rFail])
      · rw [if_neg h2] at h
        by_cases h3 : fullL (L.drop p) = true
        · rw [if_pos h3] at h
          by_cases h4 : partOf (L.drop p) = -1
          · rw [if_pos h4] at h; exact absurd h (by simp)
          · rw [if_neg h4] at h
            injection h with h5 h6
            have := wid_ge (L.drop p)
            omega
        · rw [if_neg h3] at h; exact absurd h (by simp)
set_option maxRecDepth 100000 in
set_option maxHeartbeats 1000000 in
theorem character_c {w : World} {p o : Nat} (E : Env B L A c sb w p o) (hcap : L.length ≤ c) :
    Calls Tryz.prog 59 #[ptr sb] w (Po B L A c sb (fun k => k = sb) o rI w (rChar L p)) := by
  have hpn : ∀ (T : Nat) (v : Value) (w : World), (Instr.panic (.iface T v)).run Tryz.prog w = .halt (.panic (.iface T v)) w := fun _ _ _ => rfl
  obtain ⟨R, hR⟩ : ∃ R, rChar L p = R := ⟨_, rfl⟩
  rw [hR]
  unfold rChar rAt at hR
  have hfit := E.fits
  have hB := E.base
  have HE0 := Lib.hid E
  clear E
  go_enter Tryz.func59, Tryz.ntmps59
  go_wp2_with fail
  refine (peek_c HE0.out).mono ?_
  intro e w1 hp
  cases hr : rPeek L p with
  | bad q x =>
    rw [hr] at hp hR
    obtain ⟨rfl, hb⟩ := hp
    go_wp2_with fail
    rw [← (show RR.bad q x = R from hR)]
    exact ⟨rfl, rfl, hb.no⟩
  | ok x q =>
    obtain ⟨rfl, hx, hq⟩ := peek_ok hr
    rw [hr] at hp hR
    obtain ⟨⟨v, rfl, rfl⟩, hE, hb⟩ := hp
    obtain ⟨c0, c1, c2⟩ := hE.cells
    have HE1 := Lib.hid hE
    have HB1 := Lib.hid (hb.no (C := fun k => k = sb))
    clear hE hb HE0 hr
    simp only [RR.bind] at hR
    have hi : ((x.toNat : Int) == 92) = (x == 92) := u8I_eq x 92
    cases hg : (x == 92)
    · rw [hg] at hi
      simp only [hg, Bool.false_eq_true, if_false] at hR
      clear hg
      by_cases hlt : x < 32
      · have hlt2 : (x.toNat : Int) < 32 := by have : x.toNat < 32 := UInt8.lt_iff_toNat_lt.1 hlt; omega
        rw [if_pos hlt] at hR
        clear hlt
        go_wp2_with fail
        rw [← (show RR.bad p 33 = R from hR)]
        exact ⟨rfl, rfl, HB1.out⟩
      · have hlt2 : ¬ (x.toNat : Int) < 32 := by intro h; exact hlt (UInt8.lt_iff_toNat_lt.2 (show x.toNat < 32 by omega))
        rw [if_neg hlt] at hR
        clear hlt
        obtain ⟨g, off, hA, hgB, cx⟩ := HE1.out.oct p x hx
        subst hA
        obtain ⟨t, ht⟩ : ∃ t, L.drop p = x :: t := ⟨L.drop (p + 1), by
          obtain ⟨h1, h2⟩ := List.getElem?_eq_some_iff.1 hx
          rw [List.drop_eq_getElem_cons h1, h2]⟩
        have htl : L.length - p = t.length + 1 := by
          have := congrArg List.length ht
          rw [List.length_drop] at this; simpa using this
        have hcells : ∀ W, But (fun _ => False) w1 W → ∀ j y, (x :: t)[j]? = some y → W.cell? ⟨g, off + p + j, none⟩ = some (.int .u8 (y.toNat : Int)) := fun W hW j y hj => by
          rw [← ht, List.getElem?_drop] at hj
          obtain ⟨g', off', hA', -, hc'⟩ := HE1.out.oct (p + j) y hj
          rw [Option.some.injEq, Addr.mk.injEq] at hA'
          obtain ⟨rfl, rfl, -⟩ := hA'
          rw [show off + p + j = off + (p + j) by omega]
          exact hW.cell_some hc' (fun h => h)
        have HCL := Lib.hid hcells
        have hcp : ¬ c = p := by omega
        have hcp2 : ¬ p = c := by omega
        have hpl : (p : Int) ≤ (L.length : Int) := by omega
        have hp0 : (0 : Int) ≤ (p : Int) := by omega
        have hpc : (p : Int) ≤ (c : Int) := by omega
        have hlc : (L.length : Int) ≤ (c : Int) := by omega
        have HT := Lib.hid ht
        have HTL := Lib.hid htl
        clear hcells ht htl
        go_wp2_with fail
        go_quiet (fail)
        go_wp2_with fail
        have hBq : But (fun _ => False) w1 (w1.drewN nq) := (But.refl _ _).drewN _
        refine (FullRune_c x t g (off + p) (c - p) (L.length - p) (w1.drewN nq) (HE1.out.stay hBq (fun _ _ h => h) (fun h => h)).tabs HTL.out (by omega) (HCL.out _ hBq)).mono ?_
        rintro e w2 ⟨rfl, hb2⟩
        have hB2 : But (fun _ => False) w1 w2 := hBq.trans (But.of hb2)
        have hE2 := HE1.out.stay hB2 (fun _ _ h => h) (fun h => h)
        clear c0 c1 c2 hb2 hBq
        obtain ⟨c0, c1, c2⟩ := hE2.cells
        rw [HT.out] at hR
        obtain ⟨F, hF⟩ : ∃ F, fullL (x :: t) = F := ⟨_, rfl⟩
        rw [hF] at hR ⊢
        have HE2 := Lib.hid hE2
        have HB2 := Lib.hid (HB1.out.trans (hB2.no (C := fun k => k = sb)))
        have HBN := Lib.hid hB2
        clear hE2 hB2 HB1 hF
        cases F
        · go_wp2_with fail
          rw [← (show RR.bad L.length 8 = R from hR)]
          exact ⟨rfl, rfl, HB2.out⟩
        · simp only [if_true] at hR
          obtain ⟨sa, hsa⟩ : ∃ sa : ByteArray, sa = ⟨(x :: t).toArray⟩ := ⟨_, rfl⟩
          have hsz : sa.size = L.length - p := by rw [hsa, HTL.out]; rfl
          have hds := DecodeRune_c sa g (off + p) (c - p) w2 HE2.out.tabs (fun j hj => by
            have hj2 : j < (x :: t).length := by rw [hsz, HTL.out] at hj; exact hj
            have h1 := HCL.out w2 HBN.out j _ (List.getElem?_eq_getElem hj2)
            rw [h1, hsa]
            have h2 : (⟨(x :: t).toArray⟩ : ByteArray).get! j = (x :: t)[j] := by
              show (x :: t).toArray[j]! = _
              rw [getElem!_pos (x :: t).toArray j (by simpa using hj2)]
              simp
            rw [h2])
          rw [hsz, decodeGo_L sa (by rw [hsa]; simp), show sa.data.toList = x :: t by rw [hsa]] at hds
          obtain ⟨D1, hD1⟩ : ∃ D, (decodeL (x :: t)).1 = D := ⟨_, rfl⟩
          obtain ⟨D2, hD2⟩ : ∃ D, (decodeL (x :: t)).2 = D := ⟨_, rfl⟩
          have hwl := wid_le (l := x :: t) (by simp)
          unfold wid at hwl hR
          unfold partOf at hR
          rw [hD1, hD2] at hds hR
          rw [hD2] at hwl
          have hwl2 : D2 ≤ L.length - p := by rw [HTL.out]; exact hwl
          have hDS := Lib.hid hds
          have f1 := HE2.out.frozen 1 (by omega)
          have hpw : IntKind.i64.wrap ((p : Int) + (D2 : Int)) = (p : Int) + (D2 : Int) := IntWalk.i64_in _ (by omega)
          clear hds hD1 hD2 hsa hsz HCL HBN HE1 hwl
          have HWL := Lib.hid hwl2
          clear hwl2
          go_wp2_with fail
          refine hDS.out.mono ?_
          rintro e w3 ⟨rfl, hb3⟩
          have hB3 : But (fun _ => False) w2 w3 := But.of hb3
          have hE3 := HE2.out.stay hB3 (fun _ _ h => h) (fun h => h)
          clear c0 c1 c2 f1 hb3 hDS
          obtain ⟨c0, c1, c2⟩ := hE3.cells
          have f1 := hE3.frozen 1 (by omega)
          have HE3 := Lib.hid hE3
          have HB3 := Lib.hid (HB2.out.trans (hB3.no (C := fun k => k = sb)))
          clear hE3 hB3 HE2 HB2
          by_cases hd1 : D1 = 65533
          · by_cases hd2 : D2 = 1
            · subst hd1 hd2
              have hR2 : RR.bad p 61 = R := by rw [← hR]; simp
              clear hR
              go_wp2_with fail
              rw [← hR2]
              exact ⟨rfl, rfl, HB3.out⟩
            · have e2 : ((D2 : Int) == 1) = false := by rw [beq_eq_false_iff_ne]; omega
              rw [show (if D1 = 65533 ∧ D2 = 1 then (-1 : Int) else (D1 : Int)) = (D1 : Int) from if_neg (fun h => hd2 h.2), if_neg (by omega)] at hR
              subst hd1
              clear hd2
              have HR := Lib.hid hR
              clear hR
              go_wp2_with fail
              go_ret
              rw [← HR.out]
              exact ⟨⟨_, rfl, rfl⟩, HE3.out.move (q := p + D2) (by have := HWL.out; omega), HB3.out.inc _⟩
          · have e1 : ((D1 : Int) == 65533) = false := by rw [beq_eq_false_iff_ne]; omega
            rw [show (if D1 = 65533 ∧ D2 = 1 then (-1 : Int) else (D1 : Int)) = (D1 : Int) from if_neg (fun h => hd1 h.1), if_neg (by omega)] at hR
            clear hd1
            have HR := Lib.hid hR
            clear hR
            go_wp2_with fail
            go_ret
            rw [← HR.out]
            exact ⟨⟨_, rfl, rfl⟩, HE3.out.move (q := p + D2) (by have := HWL.out; omega), HB3.out.inc _⟩
    · rw [hg] at hi
      simp only [hg, if_true] at hR
      clear hg
      go_wp2_with fail
      refine (escape_c HE1.out hq).mono ?_
      intro e w2 hp
      cases hr : rEscape L p with
      | bad q2 y =>
        rw [hr] at hp hR
        obtain ⟨rfl, hb⟩ := hp
        go_wp2_with fail
        rw [← (show RR.bad q2 y = R from hR)]
        exact ⟨rfl, rfl, HB1.out.trans hb⟩
      | ok z q2 =>
        rw [hr] at hp hR
        obtain ⟨⟨v, rfl, rfl⟩, hE, hb⟩ := hp
        have HE3 := Lib.hid hE
        have HB3 := Lib.hid (HB1.out.trans hb)
        clear hE hb
        go_wp2_with fail
        go_ret
        rw [← (show RR.ok z q2 = R from hR)]
        exact ⟨⟨_, rfl, rfl⟩, HE3.out, HB3.out⟩
end Go.Proofs.YtpjllcengnolkaaGreatDoor
