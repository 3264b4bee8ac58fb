/-
  The groups of places in order, as where each begins and ends. Pure, no program.
-/
import Derived.Test.YtjjpagdnjafgaaaGreatDoorGOsor
set_option linter.unusedVariables false
set_option linter.unusedSimpArgs false
namespace Go.Proofs.YtjjpagdnjafgaaaGreatDoor
open Go.RowKit

/-- Behind k places: where the group that is under way begins, and those that are done. -/
def runF (f : Nat → Nat → Bool) : Nat → Nat × List (Nat × Nat)
  | 0 => (0, [])
  | k + 1 => if f (runF f k).1 k then runF f k else (k, (runF f k).2 ++ [((runF f k).1, k)])
/-- All groups. -/
def runG (f : Nat → Nat → Bool) (n : Nat) : List (Nat × Nat) := if (runF f n).1 < n then (runF f n).2 ++ [((runF f n).1, n)] else (runF f n).2
/-- A group's places. -/
def seg (ps : List Nat) (p : Nat × Nat) : List Nat := (ps.take p.2).drop p.1

theorem runF_yes {f : Nat → Nat → Bool} {k : Nat} (h : f (runF f k).1 k = true) : runF f (k + 1) = runF f k := by rw [runF, if_pos h]
theorem runF_no {f : Nat → Nat → Bool} {k : Nat} (h : f (runF f k).1 k = false) : runF f (k + 1) = (k, (runF f k).2 ++ [((runF f k).1, k)]) := by rw [runF, if_neg (by rw [h]; decide)]
theorem runF_le (f : Nat → Nat → Bool) : ∀ k, (runF f k).1 ≤ k
  | 0 => Nat.le_refl _
  | k + 1 => by
    have := runF_le f k
    unfold runF
    split
    · omega
    · exact Nat.le_succ k
theorem runF_lt {f : Nat → Nat → Bool} (h0 : f 0 0 = true) : ∀ k, 0 < k → (runF f k).1 < k
  | 0, h => absurd h (Nat.lt_irrefl _)
  | k + 1, _ => by
    have := runF_le f k
    by_cases h : f (runF f k).1 k = true
    · rw [runF_yes h]; omega
    · rw [runF_no (by simpa using h)]; exact Nat.lt_succ_self k
theorem runF_begin {f : Nat → Nat → Bool} {k : Nat} (h0 : f 0 0 = true) (h : f (runF f k).1 k = false) : (runF f k).1 < k := by
  rcases Nat.eq_zero_or_pos k with hk | hk
  · subst hk
    have : f 0 0 = false := h
    rw [h0] at this; cases this
  · exact runF_lt h0 k hk
theorem runF_more (f : Nat → Nat → Bool) (k : Nat) : ∀ d, ∃ r, (runF f (k + d)).2 = (runF f k).2 ++ r
  | 0 => ⟨[], by simp⟩
  | d + 1 => by
    obtain ⟨r, hr⟩ := runF_more f k d
    rw [← Nat.add_assoc]
    by_cases h : f (runF f (k + d)).1 (k + d) = true
    · rw [runF_yes h]; exact ⟨r, hr⟩
    · rw [runF_no (by simpa using h), hr]; exact ⟨r ++ [((runF f (k + d)).1, k + d)], by simp⟩
theorem runG_more (f : Nat → Nat → Bool) {k n : Nat} (h : k ≤ n) : ∃ r, runG f n = (runF f k).2 ++ r := by
  obtain ⟨d, rfl⟩ : ∃ d, n = k + d := ⟨n - k, by omega⟩
  obtain ⟨r, hr⟩ := runF_more f k d
  unfold runG
  rw [hr]
  split
  · exact ⟨r ++ [((runF f (k + d)).1, k + d)], by simp⟩
  · exact ⟨r, rfl⟩
/-- A group that ends ahead of the end. -/
theorem runG_next {f : Nat → Nat → Bool} {k n : Nat} (hk : k < n) (h : f (runF f k).1 k = false) : ∃ r, runG f n = (runF f k).2 ++ ((runF f k).1, k) :: r := by
  obtain ⟨r, hr⟩ := runG_more f (k := k + 1) (n := n) hk
  rw [runF_no h] at hr
  exact ⟨r, by rw [hr]; simp⟩
theorem seg_flat {f : Nat → Nat → Bool} {ps : List Nat} : ∀ k, k ≤ ps.length → ((runF f k).2.map (seg ps)).flatten = ps.take (runF f k).1
  | 0, _ => by simp [runF]
  | k + 1, hk => by
    have ih := seg_flat (f := f) (ps := ps) k (by omega)
    have hle := runF_le f k
    by_cases h : f (runF f k).1 k = true
    · rw [runF_yes h]; exact ih
    · rw [runF_no (by simpa using h)]
      simp only [List.map_append, List.flatten_append, ih, List.map_cons, List.map_nil, List.flatten_cons, List.flatten_nil, List.append_nil]
      unfold seg
      simp only
      have e : ps.take (runF f k).1 = (ps.take k).take (runF f k).1 := by rw [List.take_take, Nat.min_eq_left hle]
      rw [e, List.take_append_drop]
theorem segs_flat (f : Nat → Nat → Bool) (ps : List Nat) : ((runG f ps.length).map (seg ps)).flatten = ps := by
  have h := seg_flat (f := f) (ps := ps) ps.length (Nat.le_refl _)
  have hle := runF_le f ps.length
  unfold runG
  split
  · simp only [List.map_append, List.flatten_append, h, List.map_cons, List.map_nil, List.flatten_cons, List.flatten_nil, List.append_nil]
    unfold seg
    simp only
    rw [List.take_of_length_le (Nat.le_refl ps.length), List.take_append_drop]
  · rw [h, List.take_of_length_le (by omega)]
/-- Where a group begins it has a place, and none is empty. -/
theorem runF_ok {f : Nat → Nat → Bool} (h0 : f 0 0 = true) : ∀ k, ∀ p ∈ (runF f k).2, p.1 < p.2 ∧ p.2 ≤ k
  | 0, p, hp => by simp [runF] at hp
  | k + 1, p, hp => by
    by_cases h : f (runF f k).1 k = true
    · rw [runF_yes h] at hp
      have := runF_ok h0 k p hp
      omega
    · rw [runF_no (by simpa using h)] at hp
      rcases List.mem_append.1 hp with hp | hp
      · have := runF_ok h0 k p hp
        omega
      · rw [List.mem_singleton] at hp
        subst hp
        exact ⟨runF_begin h0 (by simpa using h), Nat.le_succ k⟩
theorem runG_ok {f : Nat → Nat → Bool} (h0 : f 0 0 = true) {n : Nat} {p : Nat × Nat} (hp : p ∈ runG f n) : p.1 < p.2 ∧ p.2 ≤ n := by
  unfold runG at hp
  split at hp
  · rename_i h
    rcases List.mem_append.1 hp with hp | hp
    · exact runF_ok h0 n p hp
    · rw [List.mem_singleton] at hp
      subst hp
      exact ⟨h, Nat.le_refl _⟩
  · exact runF_ok h0 n p hp
theorem seg_len {ps : List Nat} {p : Nat × Nat} (h : p.2 ≤ ps.length) : (seg ps p).length = p.2 - p.1 := by
  unfold seg
  rw [List.length_drop, List.length_take, Nat.min_eq_left h]
theorem seg_get {ps : List Nat} {p : Nat × Nat} {k : Nat} (h : k < p.2 - p.1) : (seg ps p)[k]? = ps[p.1 + k]? := by
  unfold seg
  rw [List.getElem?_drop, List.getElem?_take, if_pos (by omega)]
theorem seg_sub (ps : List Nat) (p : Nat × Nat) : (seg ps p).Sublist ps := (List.drop_sublist _ _).trans (List.take_sublist _ _)
theorem underL_sub {l m : List VT} (h : l.Sublist m) : underL l ≤ underL m := by
  induction h with
  | slnil => exact Nat.le_refl _
  | cons x _ ih => simp only [underL]; omega
  | cons_cons x _ ih => simp only [underL]; omega
theorem pickV_sub {l : List VT} {ps qs : List Nat} (h : ps.Sublist qs) : (pickV l ps).Sublist (pickV l qs) := h.map _
theorem pickV_flat (l : List VT) (L : List (List Nat)) : pickV l L.flatten = (L.map (pickV l)).flatten := by
  unfold pickV
  rw [List.map_flatten]
/-- The first places of groups. -/
def heads (ps : List Nat) (L : List (Nat × Nat)) : List Nat := L.map fun p => ps[p.1]?.getD 0
theorem heads_sub {ps : List Nat} : ∀ (L : List (Nat × Nat)), (∀ p ∈ L, p.1 < p.2 ∧ p.2 ≤ ps.length) → (heads ps L).Sublist (L.map (seg ps)).flatten
  | [], _ => .slnil
  | p :: r, h => by
    have hp := h p (by simp)
    have ih := heads_sub r fun q hq => h q (by simp [hq])
    have hs : seg ps p = (ps[p.1]?.getD 0) :: (seg ps p).drop 1 := by
      have h1 : (seg ps p)[0]? = ps[p.1]? := seg_get (k := 0) (by omega)
      have h2 : ps[p.1]? = some ps[p.1] := List.getElem?_eq_getElem (by omega)
      have hl : 0 < (seg ps p).length := by rw [seg_len hp.2]; omega
      rw [h2] at h1 ⊢
      obtain ⟨_, h3⟩ := List.getElem?_eq_some_iff.1 h1
      have h4 := List.drop_eq_getElem_cons (l := seg ps p) (i := 0) hl
      rw [List.drop_zero, h3] at h4
      exact h4
    simp only [heads, List.map_cons, List.flatten_cons]
    rw [hs]
    exact List.Sublist.cons_cons _ ((ih.trans (List.sublist_append_right _ _)))
theorem heads_map {l : List VT} {ps : List Nat} : ∀ (L : List (Nat × Nat)), pickV l (heads ps L) = L.map fun p => l[ps[p.1]?.getD 0]?.getD (.mk 0 false [] 0 ⟨#[]⟩ [] [])
  | [] => rfl
  | p :: r => by
    have := heads_map (l := l) (ps := ps) r
    unfold heads pickV at this ⊢
    simp only [List.map_cons, this]
end Go.Proofs.YtjjpagdnjafgaaaGreatDoor
