/-
  How a text is looked for in one walk: what of the text's beginning stands last, after each octet; and that a text of characters stands in another one just at its characters. On plain lists. No condition.
-/
import Derived.Test.YtjjpagdnjafgaaaGreatDoorGUpure
set_option linter.unusedVariables false
set_option linter.unusedSimpArgs false
namespace Go.Proofs.YtjjpagdnjafgaaaGreatDoor
open Go.Lib

variable {α : Type}
/-- The greatest beginning of t that u ends with. -/
def Bd (t u : List α) (k : Nat) : Prop := k ≤ t.length ∧ t.take k <:+ u ∧ ∀ j, j ≤ t.length → t.take j <:+ u → j ≤ k
/-- b is the greatest beginning of t that its beginning of j + 1 ends with, but for itself. -/
def PB (t : List α) (j b : Nat) : Prop := b ≤ j ∧ t.take b <:+ t.take (j + 1) ∧ ∀ i, i ≤ j → t.take i <:+ t.take (j + 1) → i ≤ b

theorem Bd.zero (t : List α) : Bd t [] 0 := by
  refine ⟨Nat.zero_le _, by simp, fun j hj h => ?_⟩
  have h2 := h.length_le
  rw [List.length_take, List.length_nil] at h2
  omega
theorem suffix_le {a b u : List α} (h : a <:+ u) (k : b <:+ u) (hl : a.length ≤ b.length) : a <:+ b :=
  List.suffix_of_suffix_length_le h k hl
theorem suffix_snoc {a u : List α} {x c : α} : a ++ [x] <:+ u ++ [c] ↔ a <:+ u ∧ x = c := by
  constructor
  · rintro ⟨p, hp⟩
    rw [← List.append_assoc] at hp
    obtain ⟨h1, h2⟩ := List.append_inj' hp rfl
    exact ⟨⟨p, h1⟩, by simpa using h2⟩
  · rintro ⟨⟨p, rfl⟩, rfl⟩
    exact ⟨p, by simp⟩
theorem take_snoc {t : List α} {j : Nat} {x : α} (h : t[j]? = some x) : t.take (j + 1) = t.take j ++ [x] := by
  rw [List.take_add_one, h]; rfl
/-- A beginning of t that may go on by c. -/
def Goes (t u : List α) (c : α) (j : Nat) : Prop := t[j]? = some c ∧ t.take j <:+ u
theorem goes_iff {t u : List α} {c : α} {j : Nat} (hj : j + 1 ≤ t.length) : t.take (j + 1) <:+ u ++ [c] ↔ Goes t u c j := by
  obtain ⟨x, hx⟩ : ∃ x, t[j]? = some x := ⟨t[j], List.getElem?_eq_getElem (by omega)⟩
  rw [take_snoc hx, suffix_snoc]
  unfold Goes
  rw [hx]
  constructor
  · rintro ⟨h, rfl⟩; exact ⟨rfl, h⟩
  · rintro ⟨h, k⟩; injection h with h; exact ⟨k, h⟩
/-- The state of the search: all that may go on is at most m. -/
def Down (t u : List α) (c : α) (m : Nat) : Prop := m ≤ t.length ∧ t.take m <:+ u ∧ ∀ j, Goes t u c j → j ≤ m
theorem Down.of {t u : List α} {m : Nat} (h : Bd t u m) (c : α) : Down t u c m :=
  ⟨h.1, h.2.1, fun j hj => h.2.2 j (by have := (List.getElem?_eq_some_iff.1 hj.1).1; omega) hj.2⟩
theorem Down.step {t u : List α} {c : α} {m b : Nat} (h : Down t u c (m + 1)) (hb : PB t m b) (hne : m + 1 = t.length ∨ t[m + 1]? ≠ some c) : Down t u c b := by
  obtain ⟨h1, h2, h3⟩ := h
  obtain ⟨b1, b2, b3⟩ := hb
  refine ⟨by omega, b2.trans h2, fun j hj => ?_⟩
  have hjl := (List.getElem?_eq_some_iff.1 hj.1).1
  have hj1 := h3 j hj
  have hj2 : j ≠ m + 1 := by
    rintro rfl
    rcases hne with e | e
    · omega
    · exact e hj.1
  refine b3 j (by omega) (suffix_le hj.2 h2 ?_)
  rw [List.length_take, List.length_take]; omega
theorem Down.hit {t u : List α} {c : α} {m : Nat} (h : Down t u c m) (hc : t[m]? = some c) : Bd t (u ++ [c]) (m + 1) := by
  obtain ⟨h1, h2, h3⟩ := h
  have hl := (List.getElem?_eq_some_iff.1 hc).1
  refine ⟨hl, (goes_iff hl).2 ⟨hc, h2⟩, fun j hj hs => ?_⟩
  cases j with
  | zero => omega
  | succ j =>
    have := h3 j ((goes_iff hj).1 hs)
    omega
/-- The table: b is told for t's beginning of j + 1 by what stands last in it but its first. -/
theorem PB.of {t : List α} {j b : Nat} (hj : j < t.length) (h : Bd t ((t.take (j + 1)).drop 1) b) : PB t j b := by
  obtain ⟨h1, h2, h3⟩ := h
  have hd : (t.take (j + 1)).drop 1 <:+ t.take (j + 1) := List.drop_suffix _ _
  refine ⟨?_, h2.trans hd, fun i hi hs => h3 i (by omega) (suffix_le hs hd ?_)⟩
  · have := h2.length_le
    rw [List.length_take, List.length_drop, List.length_take] at this
    omega
  · rw [List.length_take, List.length_drop, List.length_take]; omega
end Go.Proofs.YtjjpagdnjafgaaaGreatDoor
