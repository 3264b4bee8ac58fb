/-
  What the reference's First tells, on plain lists of octets: the character that stands first and its width, or 0, 0. No condition.
-/
import Derived.Test.YtdacdppmgcaioaaDoorLUpure
set_option linter.unusedVariables false
set_option linter.unusedSimpArgs false
namespace Go.Proofs.YtdacdppmgcaioaaDoor
open Go.Lib

def szOf (l : List UInt8) : Nat := if 240 ≤ (l.getD 0 0).toNat then 4 else if 224 ≤ (l.getD 0 0).toNat then 3 else if 192 ≤ (l.getD 0 0).toNat then 2 else 1
def hdOf (l : List UInt8) : Nat := if 240 ≤ (l.getD 0 0).toNat then (l.getD 0 0).toNat - 240 else if 224 ≤ (l.getD 0 0).toNat then (l.getD 0 0).toNat - 224 else if 192 ≤ (l.getD 0 0).toNat then (l.getD 0 0).toNat - 192 else (l.getD 0 0).toNat
/-- The number behind k octets more. -/
def numAt (l : List UInt8) : Nat → Nat
  | 0 => hdOf l
  | k + 1 => numAt l k * 64 + (l.getD (k + 1) 0).toNat % 64
def fstN (l : List UInt8) : Nat := numAt l (szOf l - 1)
def fstP (l : List UInt8) : Int × Nat := if l = [] ∨ partOf l = -1 then (0, 0) else (partOf l, wid l)

theorem fst_enc {c : Int} (h : isCh c) (t : List UInt8) : szOf (encodeRune c ++ t) = (encodeRune c).length ∧ (fstN (encodeRune c ++ t) : Int) = c := by
  unfold isCh at h
  obtain ⟨k, rfl⟩ : ∃ k : Nat, c = (k : Int) := ⟨c.toNat, by omega⟩
  unfold fstN szOf
  by_cases h1 : (k : Int) ≤ 127
  · unfold encodeRune
    rw [encodeRuneZ_one (by omega) h1]
    simp only [List.map_cons, List.map_nil, List.cons_append, List.nil_append, List.getD_cons_zero, Nat.toUInt8_eq, UInt8.toNat_ofNat', List.length_cons, List.length_nil]
    have e : (k : Int).toNat % 2 ^ 8 = k := by omega
    rw [e, if_neg (by omega), if_neg (by omega), if_neg (by omega)]
    refine ⟨rfl, ?_⟩
    show ((hdOf _ : Nat) : Int) = _
    unfold hdOf
    simp only [List.getD_cons_zero, UInt8.toNat_ofNat', e]
    rw [if_neg (by omega), if_neg (by omega), if_neg (by omega)]
  by_cases h2 : (k : Int) ≤ 2047
  · unfold encodeRune
    rw [encodeRuneZ_two (by omega) h2]
    have e1 : ((192 : Int) + (k : Int) / 64).toNat = 192 + k / 64 := by omega
    have e2 : ((128 : Int) + (k : Int) % 64).toNat = 128 + k % 64 := by omega
    simp only [List.map_cons, List.map_nil, e1, e2, List.cons_append, List.nil_append, List.getD_cons_zero, Nat.toUInt8_eq, UInt8.toNat_ofNat', List.length_cons, List.length_nil]
    have f1 : (192 + k / 64) % 2 ^ 8 = 192 + k / 64 := by omega
    have f2 : (128 + k % 64) % 2 ^ 8 = 128 + k % 64 := by omega
    rw [f1, if_neg (by omega), if_neg (by omega), if_pos (by omega)]
    refine ⟨rfl, ?_⟩
    show ((hdOf _ * 64 + _ : Nat) : Int) = _
    unfold hdOf
    simp only [List.getD_cons_zero, List.getD_cons_succ, UInt8.toNat_ofNat', f1, f2]
    rw [if_neg (by omega), if_neg (by omega), if_pos (by omega)]
    omega
  by_cases h3 : (k : Int) ≤ 65535
  · unfold encodeRune
    rw [encodeRuneZ_three (by omega)]
    have e1 : ((224 : Int) + (k : Int) / 4096).toNat = 224 + k / 4096 := by omega
    have e2 : ((128 : Int) + (k : Int) / 64 % 64).toNat = 128 + k / 64 % 64 := by omega
    have e3 : ((128 : Int) + (k : Int) % 64).toNat = 128 + k % 64 := by omega
    simp only [List.map_cons, List.map_nil, e1, e2, e3, List.cons_append, List.nil_append, List.getD_cons_zero, Nat.toUInt8_eq, UInt8.toNat_ofNat', List.length_cons, List.length_nil]
    have f1 : (224 + k / 4096) % 2 ^ 8 = 224 + k / 4096 := by omega
    have f2 : (128 + k / 64 % 64) % 2 ^ 8 = 128 + k / 64 % 64 := by omega
    have f3 : (128 + k % 64) % 2 ^ 8 = 128 + k % 64 := by omega
    rw [f1, if_neg (by omega), if_pos (by omega)]
    refine ⟨rfl, ?_⟩
    show (((hdOf _ * 64 + _) * 64 + _ : Nat) : Int) = _
    unfold hdOf
    simp only [List.getD_cons_zero, List.getD_cons_succ, UInt8.toNat_ofNat', f1, f2, f3]
    rw [if_neg (by omega), if_pos (by omega)]
    omega
  · unfold encodeRune
    rw [encodeRuneZ_four (by omega) (by omega)]
    have e1 : ((240 : Int) + (k : Int) / 262144).toNat = 240 + k / 262144 := by omega
    have e4 : ((128 : Int) + (k : Int) / 4096 % 64).toNat = 128 + k / 4096 % 64 := by omega
    have e2 : ((128 : Int) + (k : Int) / 64 % 64).toNat = 128 + k / 64 % 64 := by omega
    have e3 : ((128 : Int) + (k : Int) % 64).toNat = 128 + k % 64 := by omega
    simp only [List.map_cons, List.map_nil, e1, e2, e3, e4, List.cons_append, List.nil_append, List.getD_cons_zero, Nat.toUInt8_eq, UInt8.toNat_ofNat', List.length_cons, List.length_nil]
    have f1 : (240 + k / 262144) % 2 ^ 8 = 240 + k / 262144 := by omega
    have f4 : (128 + k / 4096 % 64) % 2 ^ 8 = 128 + k / 4096 % 64 := by omega
    have f2 : (128 + k / 64 % 64) % 2 ^ 8 = 128 + k / 64 % 64 := by omega
    have f3 : (128 + k % 64) % 2 ^ 8 = 128 + k % 64 := by omega
    rw [f1, if_pos (by omega)]
    refine ⟨rfl, ?_⟩
    show ((((hdOf _ * 64 + _) * 64 + _) * 64 + _ : Nat) : Int) = _
    unfold hdOf
    simp only [List.getD_cons_zero, List.getD_cons_succ, UInt8.toNat_ofNat', f1, f2, f3, f4]
    rw [if_pos (by omega)]
    omega
/-- What First asks tells whether a character stands first. -/
theorem fst_yes {l : List UInt8} (h : l ≠ []) (hp : partOf l ≠ -1) : wid l = szOf l ∧ partOf l = (fstN l : Int) ∧ szOf l ≤ l.length ∧ isCh (fstN l : Int) ∧ l.take (szOf l) = encodeRune (fstN l : Int) := by
  rcases part_cases h with ⟨h1, _⟩ | ⟨_, h1, h2, _⟩
  · exact absurd h1 hp
  · have hl : encodeRune (partOf l) ++ l.drop (wid l) = l := by rw [← h2]; exact List.take_append_drop _ _
    obtain ⟨g1, g2⟩ := fst_enc h1 (l.drop (wid l))
    rw [hl] at g1 g2
    have hw : wid l = szOf l := by
      rw [g1, ← h2, List.length_take]
      have := wid_le h; omega
    have := wid_le h
    rw [g2, ← hw]
    exact ⟨rfl, rfl, this, h1, h2⟩
theorem fst_no {l : List UInt8} (h : l ≠ []) (hs : szOf l ≤ l.length) (hc : isCh (fstN l : Int)) (he : l.take (szOf l) = encodeRune (fstN l : Int)) : partOf l ≠ -1 := by
  have hl : encodeRune (fstN l : Int) ++ l.drop (szOf l) = l := by rw [← he]; exact List.take_append_drop _ _
  have := (part_enc hc (l.drop (szOf l))).1
  rw [hl] at this
  rw [this]
  unfold isCh at hc; omega
theorem fstP_yes {l : List UInt8} (h : l ≠ []) (hs : szOf l ≤ l.length) (hc : isCh (fstN l : Int)) (he : l.take (szOf l) = encodeRune (fstN l : Int)) : fstP l = ((fstN l : Int), szOf l) := by
  have hp := fst_no h hs hc he
  obtain ⟨h1, h2, _⟩ := fst_yes h hp
  unfold fstP
  rw [if_neg (fun h3 => h3.elim h hp), h1, h2]
theorem fstP_no {l : List UInt8} (hn : ¬ (l ≠ [] ∧ szOf l ≤ l.length ∧ isCh (fstN l : Int) ∧ l.take (szOf l) = encodeRune (fstN l : Int))) : fstP l = (0, 0) := by
  unfold fstP
  by_cases h : l = []
  · rw [if_pos (.inl h)]
  · by_cases hp : partOf l = -1
    · rw [if_pos (.inr hp)]
    · obtain ⟨_, _, h1, h2, h3⟩ := fst_yes h hp
      exact absurd ⟨h, h1, h2, h3⟩ hn
theorem numAt_lt (l : List UInt8) (k : Nat) : numAt l k < 256 * 64 ^ k := by
  induction k with
  | zero =>
    have := (l.getD 0 0).toNat_lt
    show hdOf l < _
    unfold hdOf
    split <;> (try split) <;> (try split) <;> omega
  | succ k ih =>
    show numAt l k * 64 + _ < _
    rw [Nat.pow_succ]
    omega
end Go.Proofs.YtdacdppmgcaioaaDoor
