/-
  An argument of type []uint32, opened once, nil or not: it reads as limbs, below the heap's size.
  A value as a tree: what seven cells of the memory read as, part by part.
  Contracts of value's holds and inside.
  Contract of value's rise: whether each of the texts is above the one ahead of it.
-/
import Derived.Test.YtcanfiaooabocaaGreatDoorRows
import Derived.Test.YtcanfiaooabocaaGreatDoorQNmem
import Derived.ProofKit
import Derived.OpenShut
import Derived.SizedLaws
import Derived.Lib.SmallJoins
import Derived.Deep.Slices
import Derived.Deep.Strs
import Derived.Below
import Derived.RangeFuncRecord
import Derived.Deep.QuietTactic
import Derived.Outline
import Derived.Maps.AppendAt
import Derived.RangeFuncBox
set_option linter.unusedVariables false
set_option linter.unusedSimpArgs false
namespace Go.Proofs.YtcanfiaooabocaaGreatDoor
open Go.ChangeShapes Go.WideShapes Go.ChangeAt Go.RowKit

theorem own : ownKnob Tryz.prog.godebug = none := by kernel_rfl
theorem laidOut : laidOutB Tryz.prog = true := by kernel_rfl
end Go.Proofs.YtcanfiaooabocaaGreatDoor

namespace Go.Proofs.YtcanfiaooabocaaGreatDoor
open Go.ChangeShapes Go.WideShapes Go.ChangeAt Go.RowKit Go.Joins Go.Deep

/-- A value: kind, number (sign, limbs, exponent), text, list, keys. -/
inductive VT where
  | mk (kind : Int) (neg : Bool) (num : List Nat) (exp : Int) (text : ByteArray) (list : List VT) (keys : List ByteArray)
/-- A row of texts lies in w, in blocks of S. -/
def RdT (w : World) (S : Nat → Prop) (A : Option Addr) (n : Nat) (ks : List ByteArray) : Prop :=
  ks.length = n ∧ (0 < n → ∃ b off, A = some ⟨b, off, none⟩ ∧ S b ∧ ∀ i k, ks[i]? = some k → w.cell? ⟨b, off + i, none⟩ = some (.string k) ∧ k.size ≤ 140737488355328)
/-- Seven cells in w read as a tree; all its parts lie in blocks of S. -/
inductive VIn (w : World) (S : Nat → Prop) : VT → List Value → Prop where
  | mk {k : Int} {neg : Bool} {xs : List Nat} {e : Int} {t : ByteArray} {l : List VT} {ks : List ByteArray} {A LA KA : Option Addr} {n c ln lc kn kc : Nat} {cs : Nat → List Value} :
      Rd w S A n xs → n ≤ 35184372088832 → t.size ≤ 140737488355328 → RdT w S KA kn ks → kn ≤ 8796093022208 → l.length = ln → ln ≤ 1256584717458 → ln ≤ lc →
      (0 < ln → ∃ b off, LA = some ⟨b, off, none⟩ ∧ S b ∧ ∀ i, i < ln → (cs i).length = 7 ∧ ∀ j, j < 7 → w.cell? ⟨b, off + (i * 7 + j), none⟩ = (cs i)[j]?) →
      (∀ i x, l[i]? = some x → VIn w S x (cs i)) →
      VIn w S (.mk k neg xs e t l ks) [.int .i64 k, .bool neg, .slice A n c, .int .i64 e, .string t, .slice LA ln lc, .slice KA kn kc]

theorem RdT.keep {w w' : World} {S : Nat → Prop} {A : Option Addr} {n : Nat} {ks : List ByteArray} (h : RdT w S A n ks) (hk : ∀ p : Addr, S p.block → w'.cell? p = w.cell? p) : RdT w' S A n ks := by
  refine ⟨h.1, fun h0 => ?_⟩
  obtain ⟨b, off, e, hS, h2⟩ := h.2 h0
  exact ⟨b, off, e, hS, fun i k hi => ⟨(hk ⟨b, off + i, none⟩ hS).trans (h2 i k hi).1, (h2 i k hi).2⟩⟩
theorem RdT.more {w : World} {S S' : Nat → Prop} {A : Option Addr} {n : Nat} {ks : List ByteArray} (h : RdT w S A n ks) (hS : ∀ b, S b → S' b) : RdT w S' A n ks := by
  refine ⟨h.1, fun h0 => ?_⟩
  obtain ⟨b, off, e, hb, h2⟩ := h.2 h0
  exact ⟨b, off, e, hS b hb, h2⟩
/-- The tree stays where its blocks stay. -/
theorem VIn.keep {w w' : World} {S : Nat → Prop} {x : VT} {cs : List Value} (h : VIn w S x cs) (hk : ∀ p : Addr, S p.block → w'.cell? p = w.cell? p) : VIn w' S x cs := by
  induction h with
  | mk hr hn ht hks hkn hl hln hlc hrow _ ih =>
    refine .mk (hr.keep hk) hn ht (hks.keep hk) hkn hl hln hlc (fun h0 => ?_) (fun i x hi => ih i x hi)
    obtain ⟨b, off, e, hS, h2⟩ := hrow h0
    exact ⟨b, off, e, hS, fun i hi => ⟨(h2 i hi).1, fun j hj => (hk ⟨b, off + (i * 7 + j), none⟩ hS).trans ((h2 i hi).2 j hj)⟩⟩
theorem VIn.more {w : World} {S S' : Nat → Prop} {x : VT} {cs : List Value} (h : VIn w S x cs) (hS : ∀ b, S b → S' b) : VIn w S' x cs := by
  induction h with
  | mk hr hn ht hks hkn hl hln hlc hrow _ ih =>
    refine .mk (hr.more hS) hn ht (hks.more hS) hkn hl hln hlc (fun h0 => ?_) (fun i x hi => ih i x hi)
    obtain ⟨b, off, e, hb, h2⟩ := hrow h0
    exact ⟨b, off, e, hS b hb, h2⟩
theorem VIn.stay {w w' : World} {S : Nat → Prop} {x : VT} {cs : List Value} {B : Nat} (h : VIn w S x cs) (hb : Below B w w') (hS : ∀ b, S b → b < B) : VIn w' S x cs := h.keep fun _ hp => hb.cell (hS _ hp)

/-- A row of values in w reads as trees. -/
def RdL (w : World) (S : Nat → Prop) (A : Option Addr) (n : Nat) (l : List VT) : Prop :=
  l.length = n ∧ n ≤ 140737488355328 ∧ ∃ cs : Nat → List Value, (0 < n → ∃ b off, A = some ⟨b, off, none⟩ ∧ S b ∧ ∀ i, i < n → (cs i).length = 7 ∧ ∀ j, j < 7 → w.cell? ⟨b, off + (i * 7 + j), none⟩ = (cs i)[j]?) ∧ ∀ i x, l[i]? = some x → VIn w S x (cs i)
/-- A value, part by part. -/
theorem VIn.parts {w : World} {S : Nat → Prop} {k : Int} {neg : Bool} {xs : List Nat} {e : Int} {t : ByteArray} {l : List VT} {ks : List ByteArray} {cs : List Value} (h : VIn w S (.mk k neg xs e t l ks) cs) :
    ∃ A n c LA ln lc KA kn kc, cs = [.int .i64 k, .bool neg, .slice A n c, .int .i64 e, .string t, .slice LA ln lc, .slice KA kn kc] ∧ Rd w S A n xs ∧ n ≤ 140737488355328 ∧ t.size ≤ 140737488355328 ∧ RdL w S LA ln l ∧ RdT w S KA kn ks ∧ kn ≤ 140737488355328 ∧ ln ≤ lc := by
  cases h with
  | mk hr hn ht hks hkn hl hln hlc hrow hall => exact ⟨_, _, _, _, _, _, _, _, _, rfl, hr, by omega, ht, ⟨hl, by omega, _, hrow, hall⟩, hks, by omega, hlc⟩
theorem RdL.keep {w w' : World} {S : Nat → Prop} {A : Option Addr} {n : Nat} {l : List VT} (h : RdL w S A n l) (hk : ∀ p : Addr, S p.block → w'.cell? p = w.cell? p) : RdL w' S A n l := by
  obtain ⟨h1, h2, cs, h3, h4⟩ := h
  refine ⟨h1, h2, cs, fun h0 => ?_, fun i x hi => (h4 i x hi).keep hk⟩
  obtain ⟨b, off, e, hS, h5⟩ := h3 h0
  exact ⟨b, off, e, hS, fun i hi => ⟨(h5 i hi).1, fun j hj => (hk ⟨b, off + (i * 7 + j), none⟩ hS).trans ((h5 i hi).2 j hj)⟩⟩
theorem RdL.more {w : World} {S S' : Nat → Prop} {A : Option Addr} {n : Nat} {l : List VT} (h : RdL w S A n l) (hS : ∀ b, S b → S' b) : RdL w S' A n l := by
  obtain ⟨h1, h2, cs, h3, h4⟩ := h
  refine ⟨h1, h2, cs, fun h0 => ?_, fun i x hi => (h4 i x hi).more hS⟩
  obtain ⟨b, off, e, hb, h5⟩ := h3 h0
  exact ⟨b, off, e, hS b hb, h5⟩
theorem RdL.stay {w w' : World} {S : Nat → Prop} {A : Option Addr} {n B : Nat} {l : List VT} (h : RdL w S A n l) (hb : Below B w w') (hS : ∀ b, S b → b < B) : RdL w' S A n l := h.keep fun _ hp => hb.cell (hS _ hp)
theorem RdL.nil (w : World) (S : Nat → Prop) (A : Option Addr) : RdL w S A 0 [] := ⟨rfl, by omega, fun _ => [], fun h0 => absurd h0 (by omega), fun i x hi => by simp at hi⟩
/-- The i-th value of a row. -/
theorem RdL.at_ {w : World} {S : Nat → Prop} {A : Option Addr} {n i : Nat} {l : List VT} (h : RdL w S A n l) (hi : i < n) : ∃ b off x cs, A = some ⟨b, off, none⟩ ∧ S b ∧ l[i]? = some x ∧ cs.length = 7 ∧ (∀ j, j < 7 → w.cell? ⟨b, off + (i * 7 + j), none⟩ = cs[j]?) ∧ VIn w S x cs := by
  obtain ⟨h1, _, cs, h3, h4⟩ := h
  obtain ⟨b, off, e, hS, h5⟩ := h3 (by omega)
  have hx : l[i]? = some l[i] := List.getElem?_eq_getElem (by omega)
  exact ⟨b, off, _, cs i, e, hS, hx, (h5 i hi).1, (h5 i hi).2, h4 i _ hx⟩
/-- What stands behind the first k values of a row. -/
theorem RdL.drop {w : World} {S : Nat → Prop} {n k b off : Nat} {l : List VT} (h : RdL w S (some ⟨b, off, none⟩) n l) (hk : k ≤ n) : RdL w S (some ⟨b, off + k * 7, none⟩) (n - k) (l.drop k) := by
  obtain ⟨h1, h2, cs, h3, h4⟩ := h
  refine ⟨by rw [List.length_drop, h1], by omega, fun i => cs (k + i), fun h0 => ?_, fun i x hi => h4 (k + i) x (by rwa [List.getElem?_drop] at hi)⟩
  obtain ⟨b', off', e, hS, h5⟩ := h3 (by omega)
  rw [Option.some.injEq, Addr.mk.injEq] at e
  obtain ⟨rfl, rfl, -⟩ := e
  refine ⟨b, off + k * 7, rfl, hS, fun i hi => ⟨(h5 (k + i) (by omega)).1, fun j hj => ?_⟩⟩
  have := (h5 (k + i) (by omega)).2 j hj
  rwa [show off + ((k + i) * 7 + j) = off + k * 7 + (i * 7 + j) by omega] at this
end Go.Proofs.YtcanfiaooabocaaGreatDoor

namespace Go.Proofs.YtcanfiaooabocaaGreatDoor
open Go.RowKit

/-- A value as a walk holds it. -/
def vv (k : Int) (neg : Bool) (A : Option Addr) (n c : Nat) (e : Int) (t : ByteArray) (LA : Option Addr) (ln lc : Nat) (KA : Option Addr) (kn kc : Nat) : Value :=
  .agg #[.int .i64 k, .bool neg, .slice A n c, .int .i64 e, .string t, .slice LA ln lc, .slice KA kn kc]
theorem cell_at {w : World} {b i : Nat} {vs : Array Value} {v : Value} {t : TypeId} (h : w.heap[b]? = some (.cells vs t)) (hi : vs[i]? = some v) : w.cell? ⟨b, i, none⟩ = some v := by
  simp [World.cell?, h, hi]
theorem box7_of {w : World} {b : Nat} {v0 v1 v2 v3 v4 v5 v6 : Value} {t : TypeId} (h : w.heap[b]? = some (.cells #[v0, v1, v2, v3, v4, v5, v6] t)) :
    w.cell? ⟨b, 0, none⟩ = some v0 ∧ w.cell? ⟨b, 1, none⟩ = some v1 ∧ w.cell? ⟨b, 2, none⟩ = some v2 ∧ w.cell? ⟨b, 3, none⟩ = some v3 ∧ w.cell? ⟨b, 4, none⟩ = some v4 ∧ w.cell? ⟨b, 5, none⟩ = some v5 ∧ w.cell? ⟨b, 6, none⟩ = some v6 :=
  ⟨cell_at h rfl, cell_at h rfl, cell_at h rfl, cell_at h rfl, cell_at h rfl, cell_at h rfl, cell_at h rfl⟩
/-- Whether a kind holds values. -/
def hold (k : Int) : Bool := k == 5 || k == 6

set_option maxRecDepth 100000 in
theorem holds_c (k : Int) (neg : Bool) (A : Option Addr) (n c : Nat) (e : Int) (t : ByteArray) (LA : Option Addr) (ln lc : Nat) (KA : Option Addr) (kn kc : Nat) (w : World) :
    Calls Tryz.prog 63 #[vv k neg A n c e t LA ln lc KA kn kc] w fun e w' => e = .returned (.bool (hold k)) ∧ Below w.heap.size w w' := by
  have hW : Below w.heap.size w (w.alloc (.cells #[.int .i64 k, .bool neg, .slice A n c, .int .i64 e, .string t, .slice LA ln lc, .slice KA kn kc] 28)) := (Below.refl w.heap.size w).alloc (Nat.le_refl _) _
  obtain ⟨x0, x1, x2, x3, x4, x5, x6⟩ := box7_of (World.alloc_heap_new w (.cells #[.int .i64 k, .bool neg, .slice A n c, .int .i64 e, .string t, .slice LA ln lc, .slice KA kn kc] 28))
  unfold vv hold
  cases h5 : (k == 5)
  all_goals
    go_enter Tryz.func63, Tryz.ntmps63
    go_wp2
    go_ret
    exact ⟨rfl, hW⟩

set_option maxRecDepth 100000 in
theorem inside_c (k : Int) (neg : Bool) (A : Option Addr) (n c : Nat) (e : Int) (t : ByteArray) (LA : Option Addr) (ln lc : Nat) (KA : Option Addr) (kn kc : Nat) (w : World) :
    Calls Tryz.prog 65 #[vv k neg A n c e t LA ln lc KA kn kc] w fun e w' => e = .returned (if hold k then .slice LA ln lc else .slice none 0 0) ∧ Below w.heap.size w w' := by
  have hW : Below w.heap.size w (w.alloc (.cells #[.int .i64 k, .bool neg, .slice A n c, .int .i64 e, .string t, .slice LA ln lc, .slice KA kn kc] 28)) := (Below.refl w.heap.size w).alloc (Nat.le_refl _) _
  have mx := World.alloc_heap_new w (.cells #[.int .i64 k, .bool neg, .slice A n c, .int .i64 e, .string t, .slice LA ln lc, .slice KA kn kc] 28)
  have hs : w.heap.size < (w.alloc (.cells #[.int .i64 k, .bool neg, .slice A n c, .int .i64 e, .string t, .slice LA ln lc, .slice KA kn kc] 28)).heap.size := by simp
  have HH := Lib.hid (fun V => holds_c k neg A n c e t LA ln lc KA kn kc V)
  obtain ⟨HK, hHK⟩ : ∃ b, hold k = b := ⟨_, rfl⟩
  rw [hHK] at HH ⊢
  unfold vv at *
  go_enter Tryz.func65, Tryz.ntmps65
  obtain ⟨x0, x1, x2, x3, x4, x5, x6⟩ := box7_of mx
  go_wp2_with fail
  generalize (w.alloc (.cells #[.int .i64 k, .bool neg, .slice A n c, .int .i64 e, .string t, .slice LA ln lc, .slice KA kn kc] 28)) = W at *
  refine (HH.out W).mono ?_
  rintro e' w1 ⟨rfl, hb0⟩
  have mx : w1.heap[w.heap.size]? = _ := (hb0.block _ hs).trans mx
  clear x0 x1 x2 x3 x4 x5 x6
  obtain ⟨x0, x1, x2, x3, x4, x5, x6⟩ := box7_of mx
  have hB := hW.trans (hb0.mono hW.size)
  cases HK
  all_goals
    go_wp2
    go_ret
    exact ⟨rfl, hB⟩
end Go.Proofs.YtcanfiaooabocaaGreatDoor

namespace Go.Proofs.YtcanfiaooabocaaGreatDoor
open Go.RowKit

/-- Each is above the one ahead of it, by octets. -/
def rises : List ByteArray → Bool
  | a :: b :: r => Go.Op.bytesLess a.toList b.toList && rises (b :: r)
  | _ => true
/-- Of the first k + 1 each is above the one ahead of it. -/
def risesTo (ks : List ByteArray) (k : Nat) : Prop := ∀ j a b, j + 1 < k → ks[j]? = some a → ks[j + 1]? = some b → Go.Op.bytesLess a.toList b.toList = true
theorem rises_iff (ks : List ByteArray) : rises ks = true ↔ risesTo ks ks.length := by
  induction ks with
  | nil => simp [rises, risesTo]
  | cons a r ih =>
    cases r with
    | nil => simp [rises]; intro j x y h; simp at h
    | cons b r =>
      unfold rises
      rw [Bool.and_eq_true, ih]
      constructor
      · rintro ⟨h1, h2⟩ j x y hj hx hy
        cases j with
        | zero => simp at hx hy; subst hx hy; exact h1
        | succ j => exact h2 j x y (by simp at hj ⊢; omega) (by simpa using hx) (by simpa using hy)
      · intro h
        exact ⟨h 0 a b (by simp) rfl rfl, fun j x y hj hx hy => h (j + 1) x y (by simp at hj ⊢; omega) (by simpa using hx) (by simpa using hy)⟩
theorem RdT.at_ {w : World} {S : Nat → Prop} {A : Option Addr} {n k : Nat} {ks : List ByteArray} (h : RdT w S A n ks) (hk : k < n) : ∃ b off s, A = some ⟨b, off, none⟩ ∧ S b ∧ ks[k]? = some s ∧ w.cell? ⟨b, off + k, none⟩ = some (.string s) := by
  obtain ⟨h1, h2⟩ := h
  obtain ⟨b, off, e, hS, h3⟩ := h2 (by omega)
  have hx : ks[k]? = some ks[k] := List.getElem?_eq_getElem (by omega)
  exact ⟨b, off, _, e, hS, hx, (h3 k _ hx).1⟩

set_option maxRecDepth 100000 in
set_option maxHeartbeats 1000000 in
theorem rise_c {S : Nat → Prop} {A : Option Addr} {n c : Nat} {ks : List ByteArray} (w : World) (h : RdT w S A n ks) (hn : n ≤ maxLen) :
    Calls Tryz.prog 100 #[.slice A n c] w fun e w' => e = .returned (.bool (rises ks)) ∧ ∃ k, w' = w.drewN k := by
  unfold maxLen at hn
  have HL := Lib.hid h.1
  go_enter Tryz.func100, Tryz.ntmps100
  go_wp2
  go_loopw [3] (fun i wr => ∃ k q : Nat, (k ≤ n ∨ k = 1) ∧ 1 ≤ k ∧ Hid (risesTo ks k) ∧ i = .int .i64 (k : Int) ∧ wr = w.drewN q) (fun i _ => n + 1 - (RowKit.intOf i).toNat)
  case atStart => exact ⟨1, 0, .inr rfl, Nat.le_refl _, (fun j a b h1 => by omega), rfl, rfl⟩
  case round =>
    obtain ⟨k, q, hk, hk1, ht, rfl, rfl⟩ := hrel
    by_cases hkn : k < n
    · obtain ⟨j, rfl⟩ : ∃ j, k = j + 1 := ⟨k - 1, by omega⟩
      obtain ⟨b1, o1, s1, rfl, _, hs1, hc1⟩ := h.at_ (k := j) (by omega)
      obtain ⟨b2, o2, s2, e2, _, hs2, hc2⟩ := h.at_ (k := j + 1) (by omega)
      rw [Option.some.injEq, Addr.mk.injEq] at e2
      obtain ⟨rfl, rfl, -⟩ := e2
      have hji : (((j + 1 : Nat) : Int) - 1) = (j : Int) := by omega
      have hwj : IntKind.i64.wrap (j : Int) = (j : Int) := IntWalk.i64_in _ (by omega)
      have hjn : (j : Int) < (n : Int) := by omega
      have hjn1 : (j : Int) + 1 < (n : Int) := by omega
      have hjp : 0 ≤ (j : Int) + 1 := by omega
      have hjt : ((j : Int) + 1).toNat = j + 1 := by omega
      cases hBL : Go.Op.bytesLess s1.toList s2.toList with
      | true =>
        have hs : Hid (risesTo ks (j + 1 + 1)) := fun i a b hi ha hb => by
          by_cases hij : i = j
          · subst hij
            rw [hs1] at ha; rw [hs2] at hb
            injection ha with ha; injection hb with hb
            subst ha hb; exact hBL
          · exact ht.out i a b (by omega) ha hb
        clear ht
        go_wp2
        go_quiet (fail)
        go_wp2
        go_roundw
        case rel => exact ⟨j + 1 + 1, _, .inl (by omega), by omega, hs, by go_num, by first | rfl | (simp only [World.drewN_drewN])⟩
        case measure => simp [RowKit.intOf]; omega
      | false =>
        have he : Hid (rises ks = false) := by
          show _ = _
          rcases hr : rises ks with _ | _
          · rfl
          · have := (rises_iff ks).1 hr j s1 s2 (by have := HL.out; omega) hs1 hs2
            rw [hBL] at this; exact this.symm
        clear ht
        go_wp2
        go_quiet (fail)
        go_wp2
        go_ret
        rw [he.out]
        exact ⟨rfl, by first | exact ⟨_, rfl⟩ | (simp only [World.drewN_drewN]; exact ⟨_, rfl⟩)⟩
    · have he : Hid (rises ks = true) := (rises_iff ks).2 (fun j a b hj hx hy => ht.out j a b (by have := HL.out; omega) hx hy)
      clear ht
      go_wp2
      go_ret
      rw [he.out]
      exact ⟨rfl, by first | exact ⟨_, rfl⟩ | (simp only [World.drewN_drewN]; exact ⟨_, rfl⟩)⟩
end Go.Proofs.YtcanfiaooabocaaGreatDoor
