/-
  Contracts of best, Least, Most.
  Contracts of Least and Most; what stands at the ends of the order.
-/
import Derived.Test.YtjjpagdnjafgaaaGreatDoorGOsor
set_option linter.unusedVariables false
set_option linter.unusedSimpArgs false
namespace Go.Proofs.YtjjpagdnjafgaaaGreatDoor
open Go.RowKit

/-- The place that is left of the first k, when each that goes ahead of the one left so far takes its place. -/
def bestAt (f : Int → Bool) (l : List VT) : Nat → Nat
  | 0 => 0
  | k + 1 => if f (ordV (l[k]?.getD (.mk 0 false [] 0 ⟨#[]⟩ [] [])) (l[bestAt f l k]?.getD (.mk 0 false [] 0 ⟨#[]⟩ [] []))) then k else bestAt f l k
theorem bestAt_lt (f : Int → Bool) (l : List VT) : ∀ k, bestAt f l k = 0 ∨ bestAt f l k < k
  | 0 => .inl rfl
  | k + 1 => by
    unfold bestAt
    have := bestAt_lt f l k
    split <;> omega
theorem bestAt_step {f : Int → Bool} {l : List VT} {k o : Nat} {x y : VT} (h : bestAt f l k = o) (hx : l[k]? = some x) (hy : l[o]? = some y) : bestAt f l (k + 1) = if f (ordV x y) then k else o := by
  subst h
  simp [bestAt, hx, hy]

def lessF (z : Int) : Bool := decide (z < 0)
def moreF (z : Int) : Bool := decide (0 ≤ z)
end Go.Proofs.YtjjpagdnjafgaaaGreatDoor

namespace Go.Proofs.YtjjpagdnjafgaaaGreatDoor
open Go.RowKit

theorem bestLess_first {l : List VT} : ∀ k, k ≤ l.length → ∀ j, j < k → j ≠ bestAt lessF l k → PlaceLt l (bestAt lessF l k) j
  | 0, _, j, hj, _ => absurd hj (Nat.not_lt_zero _)
  | k + 1, hk, j, hj, hne => by
    have ih := bestLess_first (l := l) k (by omega)
    have hb := bestAt_lt lessF l k
    obtain ⟨o, ho⟩ : ∃ o, bestAt lessF l k = o := ⟨_, rfl⟩
    rw [ho] at hb ih
    have hol : o < l.length := by omega
    have hkx : l[k]? = some l[k] := List.getElem?_eq_getElem (by omega)
    have hoy : l[o]? = some (l[o]'hol) := List.getElem?_eq_getElem _
    have hst := bestAt_step ho hkx hoy
    have an := ordV_anti l[k] (l[o]'hol)
    rw [hst] at hne ⊢
    by_cases hz : ordV l[k] (l[o]'hol) < 0
    · have hf : lessF (ordV l[k] (l[o]'hol)) = true := decide_eq_true hz
      rw [hf, if_pos rfl] at hne ⊢
      intro x y hx hy
      rw [hkx] at hx
      injection hx with hx
      subst hx
      left
      by_cases hjo : j = o
      · subst hjo
        rw [hoy] at hy
        injection hy with hy
        subst hy
        exact hz
      · have h1 := ih j (by omega) hjo _ y hoy hy
        have h3 := (ordV_both l[k] (l[o]'hol) y).1
        unfold Ord3 at h3
        omega
    · have hf : lessF (ordV l[k] (l[o]'hol)) = false := decide_eq_false hz
      rw [hf, if_neg (by simp)] at hne ⊢
      by_cases hjk : j = k
      · subst hjk
        intro x y hx hy
        rw [hoy] at hx
        injection hx with hx
        subst hx
        rw [hkx] at hy
        injection hy with hy
        subst hy
        omega
      · exact ih j (by omega) hne
theorem bestMore_last {l : List VT} : ∀ k, k ≤ l.length → ∀ j, j < k → j ≠ bestAt moreF l k → PlaceLt l j (bestAt moreF l k)
  | 0, _, j, hj, _ => absurd hj (Nat.not_lt_zero _)
  | k + 1, hk, j, hj, hne => by
    have ih := bestMore_last (l := l) k (by omega)
    have hb := bestAt_lt moreF l k
    obtain ⟨o, ho⟩ : ∃ o, bestAt moreF l k = o := ⟨_, rfl⟩
    rw [ho] at hb ih
    have hol : o < l.length := by omega
    have hkx : l[k]? = some l[k] := List.getElem?_eq_getElem (by omega)
    have hoy : l[o]? = some (l[o]'hol) := List.getElem?_eq_getElem _
    have hst := bestAt_step ho hkx hoy
    have an := ordV_anti l[k] (l[o]'hol)
    rw [hst] at hne ⊢
    by_cases hz : 0 ≤ ordV l[k] (l[o]'hol)
    · have hf : moreF (ordV l[k] (l[o]'hol)) = true := decide_eq_true hz
      rw [hf, if_pos rfl] at hne ⊢
      intro x y hx hy
      rw [hkx] at hy
      injection hy with hy
      subst hy
      by_cases hjo : j = o
      · subst hjo
        rw [hoy] at hx
        injection hx with hx
        subst hx
        omega
      · have h1 := ih j (by omega) hjo x _ hx hoy
        have h3 := (ordV_both x (l[o]'hol) l[k]).1
        unfold Ord3 at h3
        omega
    · have hf : moreF (ordV l[k] (l[o]'hol)) = false := decide_eq_false hz
      rw [hf, if_neg (by simp)] at hne ⊢
      by_cases hjk : j = k
      · subst hjk
        intro x y hx hy
        rw [hoy] at hy
        injection hy with hy
        subst hy
        rw [hkx] at hx
        injection hx with hx
        subst hx
        omega
      · exact ih j (by omega) hne
theorem first_placed {l : List VT} {ps : List Nat} (h : Placed l ps) (hpos : 0 < l.length) : ps[0]? = some (bestAt lessF l l.length) := by
  have hlen := h.len
  have hb := bestAt_lt lessF l l.length
  have hbl : bestAt lessF l l.length < l.length := by omega
  have hmem : bestAt lessF l l.length ∈ ps := h.1.mem_iff.2 (List.mem_range.2 hbl)
  obtain ⟨i, hi⟩ := List.getElem?_of_mem hmem
  have h0 : ps[0]? = some ps[0] := List.getElem?_eq_getElem (by omega)
  have hil := (List.getElem?_eq_some_iff.1 hi).1
  by_cases hi0 : i = 0
  · rw [hi0] at hi; exact hi
  · have hp := (List.pairwise_iff_getElem.1 h.2) 0 i (by omega) hil (by omega)
    rw [(List.getElem?_eq_some_iff.1 hi).2] at hp
    by_cases he : ps[0] = bestAt lessF l l.length
    · rw [h0, he]
    · have hq := bestLess_first l.length (Nat.le_refl _) ps[0] (h.lt (List.getElem_mem _)) he
      exact (placeLt_asymm (h.lt (List.getElem_mem _)) hbl hp hq).elim
theorem last_placed {l : List VT} {ps : List Nat} (h : Placed l ps) (hpos : 0 < l.length) : ps[l.length - 1]? = some (bestAt moreF l l.length) := by
  have hlen := h.len
  have hb := bestAt_lt moreF l l.length
  have hbl : bestAt moreF l l.length < l.length := by omega
  have hmem : bestAt moreF l l.length ∈ ps := h.1.mem_iff.2 (List.mem_range.2 hbl)
  obtain ⟨i, hi⟩ := List.getElem?_of_mem hmem
  have hz : l.length - 1 < ps.length := by omega
  have h0 : ps[l.length - 1]? = some ps[l.length - 1] := List.getElem?_eq_getElem hz
  have hil := (List.getElem?_eq_some_iff.1 hi).1
  by_cases hi0 : i = l.length - 1
  · rw [hi0] at hi; exact hi
  · have hp := (List.pairwise_iff_getElem.1 h.2) i (l.length - 1) hil hz (by omega)
    rw [(List.getElem?_eq_some_iff.1 hi).2] at hp
    by_cases he : ps[l.length - 1] = bestAt moreF l l.length
    · rw [h0, he]
    · have hq := bestMore_last l.length (Nat.le_refl _) ps[l.length - 1] (h.lt (List.getElem_mem _)) he
      exact (placeLt_asymm (h.lt (List.getElem_mem _)) hbl hq hp).elim

end Go.Proofs.YtjjpagdnjafgaaaGreatDoor
