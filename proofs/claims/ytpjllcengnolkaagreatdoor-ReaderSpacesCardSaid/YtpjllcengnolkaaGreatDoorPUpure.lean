/-
  A value as a tree: what seven cells of the memory read as, part by part.
  Contracts of value's holds and inside.
  Contract of value's rise: whether each of the texts is above the one ahead of it.
  Texts as characters, on plain lists of bytes: what a text falls into, that characters come back from their octets and octets from their characters. No condition.
-/
import Derived.Test.YtpjllcengnolkaaGreatDoorPNlimb
import Derived.Lib.SmallJoins
import Derived.Deep.Slices
import Derived.Deep.Strs
import Derived.Below
import Derived.RangeFuncRecord
import Derived.Deep.QuietTactic
import Derived.Outline
import Derived.Maps.AppendAt
import Derived.RangeFuncBox
import Derived.Lib.MapLaws
set_option linter.unusedVariables false
set_option linter.unusedSimpArgs false
namespace Go.Proofs.YtpjllcengnolkaaGreatDoor
open Go.ChangeShapes Go.WideShapes Go.ChangeAt Go.RowKit Go.Joins Go.Deep

/-- A value: kind, number (sign, limbs, exponent), text, list, keys. -/
inductive VT where
  | mk (kind : Int) (neg : Bool) (num : List Nat) (exp : Int) (text : ByteArray) (list : List VT) (keys : List ByteArray)
/-- A row of texts lies in w, in blocks of S. -/
def RdT (w : World) (S : Nat → Prop) (A : Option Addr) (n : Nat) (ks : List ByteArray) : Prop :=
  ks.length = n ∧ (0 < n → ∃ b off, A = some ⟨b, off, none⟩ ∧ S b ∧ ∀ i k, ks[i]? = some k → w.cell? ⟨b, off + i, none⟩ = some (.string k) ∧ k.size ≤ 140737488355328)
/-- Seven cells in w read as a tree; all its parts lie in blocks of S. -/
inductive VIn (w : World) (S : Nat → Prop) : VT → List Value → Prop where
  | mk {k : Int} {neg : Bool} {xs : List Nat} {e : Int} {t : ByteArray} {l : List VT} {ks : List ByteArray} {A LA KA : Option Addr} {n c ln lc kn kc : Nat} {cs : Nat → List Value} :
      Rd w S A n xs → n ≤ 35184372088832 → t.size ≤ 140737488355328 → RdT w S KA kn ks → kn ≤ 8796093022208 → l.length = ln → ln ≤ 1256584717458 → ln ≤ lc →
      (0 < ln → ∃ b off, LA = some ⟨b, off, none⟩ ∧ S b ∧ ∀ i, i < ln → (cs i).length = 7 ∧ ∀ j, j < 7 → w.cell? ⟨b, off + (i * 7 + j), none⟩ = (cs i)[j]?) →
      (∀ i x, l[i]? = some x → VIn w S x (cs i)) →
      VIn w S (.mk k neg xs e t l ks) [.int .i64 k, .bool neg, .slice A n c, .int .i64 e, .string t, .slice LA ln lc, .slice KA kn kc]

theorem RdT.keep {w w' : World} {S : Nat → Prop} {A : Option Addr} {n : Nat} {ks : List ByteArray} (h : RdT w S A n ks) (hk : ∀ p : Addr, S p.block → w'.cell? p = w.cell? p) : RdT w' S A n ks := by
  refine ⟨h.1, fun h0 => ?_⟩
  obtain ⟨b, off, e, hS, h2⟩ := h.2 h0
  exact ⟨b, off, e, hS, fun i k hi => ⟨(hk ⟨b, off + i, none⟩ hS).trans (h2 i k hi).1, (h2 i k hi).2⟩⟩
theorem RdT.more {w : World} {S S' : Nat → Prop} {A : Option Addr} {n : Nat} {ks : List ByteArray} (h : RdT w S A n ks) (hS : ∀ b, S b → S' b) : RdT w S' A n ks := by
  refine ⟨h.1, fun h0 => ?_⟩
  obtain ⟨b, off, e, hb, h2⟩ := h.2 h0
  exact ⟨b, off, e, hS b hb, h2⟩
/-- The tree stays where its blocks stay. -/
theorem VIn.keep {w w' : World} {S : Nat → Prop} {x : VT} {cs : List Value} (h : VIn w S x cs) (hk : ∀ p : Addr, S p.block → w'.cell? p = w.cell? p) : VIn w' S x cs := by
  induction h with
  | mk hr hn ht hks hkn hl hln hlc hrow _ ih =>
    refine .mk (hr.keep hk) hn ht (hks.keep hk) hkn hl hln hlc (fun h0 => ?_) (fun i x hi => ih i x hi)
    obtain ⟨b, off, e, hS, h2⟩ := hrow h0
    exact ⟨b, off, e, hS, fun i hi => ⟨(h2 i hi).1, fun j hj => (hk ⟨b, off + (i * 7 + j), none⟩ hS).trans ((h2 i hi).2 j hj)⟩⟩
theorem VIn.more {w : World} {S S' : Nat → Prop} {x : VT} {cs : List Value} (h : VIn w S x cs) (hS : ∀ b, S b → S' b) : VIn w S' x cs := by
  induction h with
  | mk hr hn ht hks hkn hl hln hlc hrow _ ih =>
    refine .mk (hr.more hS) hn ht (hks.more hS) hkn hl hln hlc (fun h0 => ?_) (fun i x hi => ih i x hi)
    obtain ⟨b, off, e, hb, h2⟩ := hrow h0
    exact ⟨b, off, e, hS b hb, h2⟩
theorem VIn.stay {w w' : World} {S : Nat → Prop} {x : VT} {cs : List Value} {B : Nat} (h : VIn w S x cs) (hb : Below B w w') (hS : ∀ b, S b → b < B) : VIn w' S x cs := h.keep fun _ hp => hb.cell (hS _ hp)

/-- A row of values in w reads as trees. -/
def RdL (w : World) (S : Nat → Prop) (A : Option Addr) (n : Nat) (l : List VT) : Prop :=
  l.length = n ∧ n ≤ 140737488355328 ∧ ∃ cs : Nat → List Value, (0 < n → ∃ b off, A = some ⟨b, off, none⟩ ∧ S b ∧ ∀ i, i < n → (cs i).length = 7 ∧ ∀ j, j < 7 → w.cell? ⟨b, off + (i * 7 + j), none⟩ = (cs i)[j]?) ∧ ∀ i x, l[i]? = some x → VIn w S x (cs i)
/-- A value, part by part. -/
theorem VIn.parts {w : World} {S : Nat → Prop} {k : Int} {neg : Bool} {xs : List Nat} {e : Int} {t : ByteArray} {l : List VT} {ks : List ByteArray} {cs : List Value} (h : VIn w S (.mk k neg xs e t l ks) cs) :
    ∃ A n c LA ln lc KA kn kc, cs = [.int .i64 k, .bool neg, .slice A n c, .int .i64 e, .string t, .slice LA ln lc, .slice KA kn kc] ∧ Rd w S A n xs ∧ n ≤ 140737488355328 ∧ t.size ≤ 140737488355328 ∧ RdL w S LA ln l ∧ RdT w S KA kn ks ∧ kn ≤ 140737488355328 ∧ ln ≤ lc := by
  cases h with
  | mk hr hn ht hks hkn hl hln hlc hrow hall => exact ⟨_, _, _, _, _, _, _, _, _, rfl, hr, by omega, ht, ⟨hl, by omega, _, hrow, hall⟩, hks, by omega, hlc⟩
theorem RdL.keep {w w' : World} {S : Nat → Prop} {A : Option Addr} {n : Nat} {l : List VT} (h : RdL w S A n l) (hk : ∀ p : Addr, S p.block → w'.cell? p = w.cell? p) : RdL w' S A n l := by
  obtain ⟨h1, h2, cs, h3, h4⟩ := h
  refine ⟨h1, h2, cs, fun h0 => ?_, fun i x hi => (h4 i x hi).keep hk⟩
  obtain ⟨b, off, e, hS, h5⟩ := h3 h0
  exact ⟨b, off, e, hS, fun i hi => ⟨(h5 i hi).1, fun j hj => (hk ⟨b, off + (i * 7 + j), none⟩ hS).trans ((h5 i hi).2 j hj)⟩⟩
theorem RdL.more {w : World} {S S' : Nat → Prop} {A : Option Addr} {n : Nat} {l : List VT} (h : RdL w S A n l) (hS : ∀ b, S b → S' b) : RdL w S' A n l := by
  obtain ⟨h1, h2, cs, h3, h4⟩ := h
  refine ⟨h1, h2, cs, fun h0 => ?_, fun i x hi => (h4 i x hi).more hS⟩
  obtain ⟨b, off, e, hb, h5⟩ := h3 h0
  exact ⟨b, off, e, hS b hb, h5⟩
theorem RdL.stay {w w' : World} {S : Nat → Prop} {A : Option Addr} {n B : Nat} {l : List VT} (h : RdL w S A n l) (hb : Below B w w') (hS : ∀ b, S b → b < B) : RdL w' S A n l := h.keep fun _ hp => hb.cell (hS _ hp)
theorem RdL.nil (w : World) (S : Nat → Prop) (A : Option Addr) : RdL w S A 0 [] := ⟨rfl, by omega, fun _ => [], fun h0 => absurd h0 (by omega), fun i x hi => by simp at hi⟩
/-- The i-th value of a row. -/
theorem RdL.at_ {w : World} {S : Nat → Prop} {A : Option Addr} {n i : Nat} {l : List VT} (h : RdL w S A n l) (hi : i < n) : ∃ b off x cs, A = some ⟨b, off, none⟩ ∧ S b ∧ l[i]? = some x ∧ cs.length = 7 ∧ (∀ j, j < 7 → w.cell? ⟨b, off + (i * 7 + j), none⟩ = cs[j]?) ∧ VIn w S x cs := by
  obtain ⟨h1, _, cs, h3, h4⟩ := h
  obtain ⟨b, off, e, hS, h5⟩ := h3 (by omega)
  have hx : l[i]? = some l[i] := List.getElem?_eq_getElem (by omega)
  exact ⟨b, off, _, cs i, e, hS, hx, (h5 i hi).1, (h5 i hi).2, h4 i _ hx⟩
/-- What stands behind the first k values of a row. -/
theorem RdL.drop {w : World} {S : Nat → Prop} {n k b off : Nat} {l : List VT} (h : RdL w S (some ⟨b, off, none⟩) n l) (hk : k ≤ n) : RdL w S (some ⟨b, off + k * 7, none⟩) (n - k) (l.drop k) := by
  obtain ⟨h1, h2, cs, h3, h4⟩ := h
  refine ⟨by rw [List.length_drop, h1], by omega, fun i => cs (k + i), fun h0 => ?_, fun i x hi => h4 (k + i) x (by rwa [List.getElem?_drop] at hi)⟩
  obtain ⟨b', off', e, hS, h5⟩ := h3 (by omega)
  rw [Option.some.injEq, Addr.mk.injEq] at e
  obtain ⟨rfl, rfl, -⟩ := e
  refine ⟨b, off + k * 7, rfl, hS, fun i hi => ⟨(h5 (k + i) (by omega)).1, fun j hj => ?_⟩⟩
  have := (h5 (k + i) (by omega)).2 j hj
  rwa [show off + ((k + i) * 7 + j) = off + k * 7 + (i * 7 + j) by omega] at this
end Go.Proofs.YtpjllcengnolkaaGreatDoor

namespace Go.Proofs.YtpjllcengnolkaaGreatDoor
open Go.RowKit

/-- A value as a walk holds it. -/
def vv (k : Int) (neg : Bool) (A : Option Addr) (n c : Nat) (e : Int) (t : ByteArray) (LA : Option Addr) (ln lc : Nat) (KA : Option Addr) (kn kc : Nat) : Value :=
  .agg #[.int .i64 k, .bool neg, .slice A n c, .int .i64 e, .string t, .slice LA ln lc, .slice KA kn kc]
theorem cell_at {w : World} {b i : Nat} {vs : Array Value} {v : Value} {t : TypeId} (h : w.heap[b]? = some (.cells vs t)) (hi : vs[i]? = some v) : w.cell? ⟨b, i, none⟩ = some v := by
  simp [World.cell?, h, hi]
theorem box7_of {w : World} {b : Nat} {v0 v1 v2 v3 v4 v5 v6 : Value} {t : TypeId} (h : w.heap[b]? = some (.cells #[v0, v1, v2, v3, v4, v5, v6] t)) :
    w.cell? ⟨b, 0, none⟩ = some v0 ∧ w.cell? ⟨b, 1, none⟩ = some v1 ∧ w.cell? ⟨b, 2, none⟩ = some v2 ∧ w.cell? ⟨b, 3, none⟩ = some v3 ∧ w.cell? ⟨b, 4, none⟩ = some v4 ∧ w.cell? ⟨b, 5, none⟩ = some v5 ∧ w.cell? ⟨b, 6, none⟩ = some v6 :=
  ⟨cell_at h rfl, cell_at h rfl, cell_at h rfl, cell_at h rfl, cell_at h rfl, cell_at h rfl, cell_at h rfl⟩
/-- Whether a kind holds values. -/
def hold (k : Int) : Bool := k == 5 || k == 6

set_option maxRecDepth 100000 in
theorem holds_c (k : Int) (neg : Bool) (A : Option Addr) (n c : Nat) (e : Int) (t : ByteArray) (LA : Option Addr) (ln lc : Nat) (KA : Option Addr) (kn kc : Nat) (w : World) :
    Calls Tryz.prog 150 #[vv k neg A n c e t LA ln lc KA kn kc] w fun e w' => e = .returned (.bool (hold k)) ∧ Below w.heap.size w w' := by
  have hW : Below w.heap.size w (w.alloc (.cells #[.int .i64 k, .bool neg, .slice A n c, .int .i64 e, .string t, .slice LA ln lc, .slice KA kn kc] 34)) := (Below.refl w.heap.size w).alloc (Nat.le_refl _) _
  obtain ⟨x0, x1, x2, x3, x4, x5, x6⟩ := box7_of (World.alloc_heap_new w (.cells #[.int .i64 k, .bool neg, .slice A n c, .int .i64 e, .string t, .slice LA ln lc, .slice KA kn kc] 34))
  unfold vv hold
  cases h5 : (k == 5)
  all_goals
    go_enter Tryz.func150, Tryz.ntmps150
    go_wp2
    go_ret
    exact ⟨rfl, hW⟩

set_option maxRecDepth 100000 in
theorem inside_c (k : Int) (neg : Bool) (A : Option Addr) (n c : Nat) (e : Int) (t : ByteArray) (LA : Option Addr) (ln lc : Nat) (KA : Option Addr) (kn kc : Nat) (w : World) :
    Calls Tryz.prog 135 #[vv k neg A n c e t LA ln lc KA kn kc] w fun e w' => e = .returned (if hold k then .slice LA ln lc else .slice none 0 0) ∧ Below w.heap.size w w' := by
  have hW : Below w.heap.size w (w.alloc (.cells #[.int .i64 k, .bool neg, .slice A n c, .int .i64 e, .string t, .slice LA ln lc, .slice KA kn kc] 34)) := (Below.refl w.heap.size w).alloc (Nat.le_refl _) _
  have mx := World.alloc_heap_new w (.cells #[.int .i64 k, .bool neg, .slice A n c, .int .i64 e, .string t, .slice LA ln lc, .slice KA kn kc] 34)
  have hs : w.heap.size < (w.alloc (.cells #[.int .i64 k, .bool neg, .slice A n c, .int .i64 e, .string t, .slice LA ln lc, .slice KA kn kc] 34)).heap.size := by simp
  have HH := Lib.hid (fun V => holds_c k neg A n c e t LA ln lc KA kn kc V)
  obtain ⟨HK, hHK⟩ : ∃ b, hold k = b := ⟨_, rfl⟩
  rw [hHK] at HH ⊢
  unfold vv at *
  go_enter Tryz.func135, Tryz.ntmps135
  obtain ⟨x0, x1, x2, x3, x4, x5, x6⟩ := box7_of mx
  go_wp2_with fail
  generalize (w.alloc (.cells #[.int .i64 k, .bool neg, .slice A n c, .int .i64 e, .string t, .slice LA ln lc, .slice KA kn kc] 34)) = W at *
  refine (HH.out W).mono ?_
  rintro e' w1 ⟨rfl, hb0⟩
  have mx : w1.heap[w.heap.size]? = _ := (hb0.block _ hs).trans mx
  clear x0 x1 x2 x3 x4 x5 x6
  obtain ⟨x0, x1, x2, x3, x4, x5, x6⟩ := box7_of mx
  have hB := hW.trans (hb0.mono hW.size)
  cases HK
  all_goals
    go_wp2
    go_ret
    exact ⟨rfl, hB⟩
end Go.Proofs.YtpjllcengnolkaaGreatDoor

namespace Go.Proofs.YtpjllcengnolkaaGreatDoor
open Go.RowKit

/-- Each is above the one ahead of it, by octets. -/
def rises : List ByteArray → Bool
  | a :: b :: r => Go.Op.bytesLess a.toList b.toList && rises (b :: r)
  | _ => true
/-- Of the first k + 1 each is above the one ahead of it. -/
def risesTo (ks : List ByteArray) (k : Nat) : Prop := ∀ j a b, j + 1 < k → ks[j]? = some a → ks[j + 1]? = some b → Go.Op.bytesLess a.toList b.toList = true
theorem rises_iff (ks : List ByteArray) : rises ks = true ↔ risesTo ks ks.length := by
  induction ks with
  | nil => simp [rises, risesTo]
  | cons a r ih =>
    cases r with
    | nil => simp [rises]; intro j x y h; simp at h
    | cons b r =>
      unfold rises
      rw [Bool.and_eq_true, ih]
      constructor
      · rintro ⟨h1, h2⟩ j x y hj hx hy
        cases j with
        | zero => simp at hx hy; subst hx hy; exact h1
        | succ j => exact h2 j x y (by simp at hj ⊢; omega) (by simpa using hx) (by simpa using hy)
      · intro h
        exact ⟨h 0 a b (by simp) rfl rfl, fun j x y hj hx hy => h (j + 1) x y (by simp at hj ⊢; omega) (by simpa using hx) (by simpa using hy)⟩
theorem RdT.at_ {w : World} {S : Nat → Prop} {A : Option Addr} {n k : Nat} {ks : List ByteArray} (h : RdT w S A n ks) (hk : k < n) : ∃ b off s, A = some ⟨b, off, none⟩ ∧ S b ∧ ks[k]? = some s ∧ w.cell? ⟨b, off + k, none⟩ = some (.string s) := by
  obtain ⟨h1, h2⟩ := h
  obtain ⟨b, off, e, hS, h3⟩ := h2 (by omega)
  have hx : ks[k]? = some ks[k] := List.getElem?_eq_getElem (by omega)
  exact ⟨b, off, _, e, hS, hx, (h3 k _ hx).1⟩

end Go.Proofs.YtpjllcengnolkaaGreatDoor

namespace Go.Proofs.YtpjllcengnolkaaGreatDoor
open Go.Lib

/-- A character. -/
def isCh (c : Int) : Prop := (0 ≤ c ∧ c < 55296) ∨ (57344 ≤ c ∧ c ≤ 1114111)
instance (c : Int) : Decidable (isCh c) := by unfold isCh; infer_instance
/-- What the first octets of a text are: a character, or -1. -/
def partOf (l : List UInt8) : Int := if (decodeL l).1 = 65533 ∧ (decodeL l).2 = 1 then -1 else ((decodeL l).1 : Int)
def wid (l : List UInt8) : Nat := (decodeL l).2

theorem wid_ge (l : List UInt8) : 1 ≤ wid l := by
  unfold wid
  rw [decodeL_N]
  exact decodeN_ge1 _ _ _ _ _
theorem wid_le {l : List UInt8} (h : l ≠ []) : wid l ≤ l.length := by
  have h0 : 0 < l.length := List.length_pos_iff.2 h
  unfold wid
  rw [decodeL_N]
  rcases decodeN_shape l.length (l.getD 0 0).toNat (l.getD 1 0).toNat (l.getD 2 0).toNat (l.getD 3 0).toNat with ⟨c, e⟩ | ⟨c1, c2, c3, cv, e⟩ | ⟨c1, c2, c3, c4, cv, cs, e⟩ | ⟨c1, c2, c3, c4, c5, cv, cw, e⟩ | e <;> rw [e] <;> dsimp only <;> omega
theorem rune_ch (l : List UInt8) : isCh ((decodeL l).1 : Int) := by
  rw [decodeL_N]
  have k0 := (l.getD 0 0).toNat_lt
  have k1 := (l.getD 1 0).toNat_lt
  have k2 := (l.getD 2 0).toNat_lt
  have k3 := (l.getD 3 0).toNat_lt
  unfold isCh
  rcases decodeN_shape l.length (l.getD 0 0).toNat (l.getD 1 0).toNat (l.getD 2 0).toNat (l.getD 3 0).toNat with ⟨c, e⟩ | ⟨c1, c2, c3, cv, e⟩ | ⟨c1, c2, c3, c4, cv, cs, e⟩ | ⟨c1, c2, c3, c4, c5, cv, cw, e⟩ | e <;> rw [e] <;> dsimp only <;> omega
/-- A part is a character that has just those octets, or it is -1 of one octet. -/
theorem part_cases {l : List UInt8} (h : l ≠ []) : (partOf l = -1 ∧ wid l = 1) ∨ (partOf l ≠ -1 ∧ isCh (partOf l) ∧ l.take (wid l) = encodeRune (partOf l) ∧ partOf l = ((decodeL l).1 : Int)) := by
  by_cases hb : (decodeL l).1 = 65533 ∧ (decodeL l).2 = 1
  · left
    exact ⟨by unfold partOf; rw [if_pos hb], hb.2⟩
  · right
    have he : partOf l = ((decodeL l).1 : Int) := by unfold partOf; rw [if_neg hb]
    refine ⟨by rw [he]; omega, by rw [he]; exact rune_ch l, ?_, he⟩
    rw [he]
    exact (encode_decode l h hb).symm
/-- A character's octets are read as it, whatever follows. -/
theorem decode_enc {c : Int} (h : isCh c) (t : List UInt8) : decodeL (encodeRune c ++ t) = (c.toNat, (encodeRune c).length) := by
  rw [decodeL_N]
  unfold isCh at h
  by_cases h1 : c ≤ 127
  · unfold encodeRune
    rw [encodeRuneZ_one (by omega) h1]
    obtain ⟨k, rfl⟩ : ∃ k : Nat, c = (k : Int) := ⟨c.toNat, by omega⟩
    simp [decodeN, UInt8.toNat_ofNat', show k % 256 < 128 by omega]
    omega
  by_cases h2 : c ≤ 2047
  · unfold encodeRune
    rw [encodeRuneZ_two (by omega) h2]
    obtain ⟨k, rfl⟩ : ∃ k : Nat, c = (k : Int) := ⟨c.toNat, by omega⟩
    have e1 : ((192 : Int) + (k : Int) / 64).toNat = 192 + k / 64 := by omega
    have e2 : ((128 : Int) + (k : Int) % 64).toNat = 128 + k % 64 := by omega
    simp only [List.map_cons, List.map_nil, e1, e2, List.cons_append, List.nil_append, List.getD_cons_zero, List.getD_cons_succ, Nat.toUInt8_eq, UInt8.toNat_ofNat', List.length_cons, List.length_nil]
    unfold decodeN
    rw [if_neg (by omega), if_pos ⟨by omega, by omega, by omega⟩, if_pos (by omega)]
    apply Prod.ext <;> simp only <;> omega
  by_cases h3 : c ≤ 65535
  · unfold encodeRune
    rw [encodeRuneZ_three (by omega)]
    obtain ⟨k, rfl⟩ : ∃ k : Nat, c = (k : Int) := ⟨c.toNat, by omega⟩
    have e1 : ((224 : Int) + (k : Int) / 4096).toNat = 224 + k / 4096 := by omega
    have e2 : ((128 : Int) + (k : Int) / 64 % 64).toNat = 128 + k / 64 % 64 := by omega
    have e3 : ((128 : Int) + (k : Int) % 64).toNat = 128 + k % 64 := by omega
    simp only [List.map_cons, List.map_nil, e1, e2, e3, List.cons_append, List.nil_append, List.getD_cons_zero, List.getD_cons_succ, Nat.toUInt8_eq, UInt8.toNat_ofNat', List.length_cons, List.length_nil]
    unfold decodeN
    rw [if_neg (by omega), if_neg (by omega), if_pos ⟨by omega, ⟨by omega, by omega⟩, by omega, by omega⟩, if_pos (by omega)]
    apply Prod.ext <;> simp only <;> omega
  · unfold encodeRune
    rw [encodeRuneZ_four (by omega) (by omega)]
    obtain ⟨k, rfl⟩ : ∃ k : Nat, c = (k : Int) := ⟨c.toNat, by omega⟩
    have e1 : ((240 : Int) + (k : Int) / 262144).toNat = 240 + k / 262144 := by omega
    have e4 : ((128 : Int) + (k : Int) / 4096 % 64).toNat = 128 + k / 4096 % 64 := by omega
    have e2 : ((128 : Int) + (k : Int) / 64 % 64).toNat = 128 + k / 64 % 64 := by omega
    have e3 : ((128 : Int) + (k : Int) % 64).toNat = 128 + k % 64 := by omega
    simp only [List.map_cons, List.map_nil, e1, e2, e3, e4, List.cons_append, List.nil_append, List.getD_cons_zero, List.getD_cons_succ, Nat.toUInt8_eq, UInt8.toNat_ofNat', List.length_cons, List.length_nil]
    unfold decodeN
    rw [if_neg (by omega), if_neg (by omega), if_neg (by omega), if_pos ⟨by omega, ⟨by omega, by omega⟩, ⟨by omega, by omega⟩, by omega, by omega⟩, if_pos (by omega)]
    apply Prod.ext <;> simp only <;> omega
theorem enc_len (c : Int) : 1 ≤ (encodeRune c).length ∧ (encodeRune c).length ≤ 4 := by
  have := encodeRuneZ_length c
  unfold encodeRune
  rw [List.length_map]
  exact this
theorem enc_ne (c : Int) (t : List UInt8) : encodeRune c ++ t ≠ [] := by
  intro h
  have h1 := congrArg List.length h
  have h2 := enc_len c
  rw [List.length_append, List.length_nil] at h1
  omega
/-- A character that the octets ef bf bd are is the sign itself, and has three octets: no part is told -1 for it. -/
theorem part_enc {c : Int} (h : isCh c) (t : List UInt8) : partOf (encodeRune c ++ t) = c ∧ wid (encodeRune c ++ t) = (encodeRune c).length := by
  have hd := decode_enc h t
  have hn : ¬ ((decodeL (encodeRune c ++ t)).1 = 65533 ∧ (decodeL (encodeRune c ++ t)).2 = 1) := by
    rw [hd]
    rintro ⟨e1, e2⟩
    dsimp only at e1 e2
    have : c = 65533 := by unfold isCh at h; omega
    subst this
    exact absurd e2 (by decide)
  constructor
  · unfold partOf
    rw [if_neg hn, hd]
    unfold isCh at h
    dsimp only
    omega
  · unfold wid; rw [hd]

/-- What a text falls into: its characters with their octets, and -1 for each octet that begins none. -/
def pcsF : Nat → List UInt8 → List (List UInt8 × Int)
  | 0, _ => []
  | f + 1, l => if l = [] then [] else (l.take (wid l), partOf l) :: pcsF f (l.drop (wid l))
def pcs (l : List UInt8) : List (List UInt8 × Int) := pcsF l.length l
theorem pcsF_nil (f : Nat) : pcsF f [] = [] := by cases f <;> rfl
theorem pcsF_eq : ∀ f g l, l.length ≤ f → l.length ≤ g → pcsF f l = pcsF g l := by
  intro f
  induction f with
  | zero =>
    intro g l h _
    rw [List.eq_nil_of_length_eq_zero (show l.length = 0 by omega), pcsF_nil, pcsF_nil]
  | succ f ih =>
    intro g l h1 h2
    by_cases hl : l = []
    · rw [hl, pcsF_nil, pcsF_nil]
    · have h0 : 0 < l.length := List.length_pos_iff.2 hl
      have hw := wid_ge l
      obtain ⟨g', rfl⟩ : ∃ g', g = g' + 1 := ⟨g - 1, by omega⟩
      unfold pcsF
      rw [if_neg hl, if_neg hl, ih g' _ (by rw [List.length_drop]; omega) (by rw [List.length_drop]; omega)]
theorem pcs_nil : pcs [] = [] := rfl
theorem pcs_cons {l : List UInt8} (h : l ≠ []) : pcs l = (l.take (wid l), partOf l) :: pcs (l.drop (wid l)) := by
  have h0 : 0 < l.length := List.length_pos_iff.2 h
  have hw := wid_ge l
  unfold pcs
  rw [pcsF_eq l.length (l.length + 1) l (Nat.le_refl _) (by omega)]
  conv => lhs; unfold pcsF
  rw [if_neg h, pcsF_eq _ (l.drop (wid l)).length _ (by rw [List.length_drop]; omega) (Nat.le_refl _)]
theorem pcs_enc1 {c : Int} (h : isCh c) (t : List UInt8) : pcs (encodeRune c ++ t) = (encodeRune c, c) :: pcs t := by
  obtain ⟨h1, h2⟩ := part_enc h t
  rw [pcs_cons (enc_ne c t), h1, h2, List.take_left, List.drop_left]
/-- The octets of characters. -/
def enc (cs : List Int) : List UInt8 := cs.flatMap encodeRune
theorem enc_nil : enc [] = [] := rfl
theorem enc_cons (c : Int) (cs : List Int) : enc (c :: cs) = encodeRune c ++ enc cs := rfl
theorem enc_append (a b : List Int) : enc (a ++ b) = enc a ++ enc b := by simp [enc]
theorem pcs_enc {cs : List Int} (h : ∀ c ∈ cs, isCh c) (t : List UInt8) : pcs (enc cs ++ t) = cs.map (fun c => (encodeRune c, c)) ++ pcs t := by
  induction cs with
  | nil => rfl
  | cons c cs ih =>
    rw [enc_cons, List.append_assoc, pcs_enc1 (h c (by simp)), ih (fun x hx => h x (by simp [hx]))]
    rfl
theorem pcs_text {cs : List Int} (h : ∀ c ∈ cs, isCh c) : pcs (enc cs) = cs.map (fun c => (encodeRune c, c)) := by
  have := pcs_enc h []
  rwa [List.append_nil, pcs_nil, List.append_nil] at this
def isT (l : List UInt8) : Bool := (pcs l).all fun p => p.2 != -1
theorem isT_iff (l : List UInt8) : isT l = true ↔ ∀ p ∈ pcs l, p.2 ≠ -1 := by
  unfold isT
  rw [List.all_eq_true]
  simp
theorem isT_enc {cs : List Int} (h : ∀ c ∈ cs, isCh c) : isT (enc cs) = true := by
  rw [isT_iff, pcs_text h]
  intro p hp
  rw [List.mem_map] at hp
  obtain ⟨c, hc, rfl⟩ := hp
  have := h c hc
  unfold isCh at this
  show c ≠ -1
  omega
end Go.Proofs.YtpjllcengnolkaaGreatDoor
