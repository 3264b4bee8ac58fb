/-
  What a list's values are; what flattening comes to. Pure, no program.
  Contracts of kinds.Has: of a list and a place; of an object and one of its keys; of an object and a number.
-/
import Derived.Test.YtipomnogabnfdaaGreatDoorPKck
import Derived.Laws.AppendOwnNone
import Derived.Test.YtipomnogabnfdaaGreatDoorPKwo
import Derived.Test.YtipomnogabnfdaaGreatDoorPKln
import Derived.Test.YtipomnogabnfdaaGreatDoorPKcz
set_option linter.unusedVariables false
set_option linter.unusedSimpArgs false
namespace Go.Proofs.YtipomnogabnfdaaGreatDoor
open Go.RowKit Go.Lib

mutual
theorem deep_monoK {a b : Nat} (h : a ≤ b) : ∀ x, deepL (pre a x) ≤ deepL (pre b x)
  | .mk k n x e t l ks => by
    have hl := deepL_monoK (a := a + 1) (b := b + 1) (by omega) l
    unfold pre
    split
    · simp only [deepL]; split <;> omega
    · simp only [deepL]; split <;> omega
theorem deepL_monoK {a b : Nat} (h : a ≤ b) : ∀ l, deepL (preL a l) ≤ deepL (preL b l)
  | [] => by simp [preL]
  | v :: r => by
    have h1 := deep_monoK h v
    have h2 := deepL_monoK h r
    simp only [preL, deepL_append]; omega
end
theorem preL_memK {y : VT} {lv : Nat} : ∀ {l : List VT}, y ∈ l → (pre lv y).length ≤ (preL lv l).length ∧ deepL (pre lv y) ≤ deepL (preL lv l)
  | v :: r, h => by
    simp only [preL, List.length_append, deepL_append]
    rcases List.mem_cons.1 h with rfl | h
    · exact ⟨by omega, by omega⟩
    · have := preL_memK (lv := lv) h
      exact ⟨by omega, by omega⟩
theorem firstBadK {l : List (Nat × VT)} (h : ∀ p ∈ l, alone p.2 = 0) : firstBad l = 0 := by
  induction l with
  | nil => rfl
  | cons p r ih =>
    unfold firstBad
    rw [if_pos (h p (by simp))]
    exact ih fun q hq => h q (by simp [hq])
theorem okV_ofK {x : VT} (h1 : ∀ y ∈ partsV x, alone y = 0) (h2 : (partsV x).length ≤ 16384) (h3 : deepL (pre 0 x) ≤ 64) : okV x := by
  have hl : (pre 0 x).length ≤ 16384 := by unfold partsV at h2; rwa [List.length_map] at h2
  have hs : seen x = pre 0 x := List.take_of_length_le (by unfold mostP; omega)
  unfold okV errV
  rw [hs, if_neg (by omega), if_neg (by omega)]
  exact firstBadK fun p hp => h1 _ ((mem_pre (lv := 0)).1 ⟨p.1, hp⟩)
/-- A part of a value that may be may be. -/
theorem okV_elemK {x y : VT} (h : okV x) (hy : y ∈ x.inner) : okV y := by
  obtain ⟨h1, h2, h3⟩ := okV_parts h
  obtain ⟨g1, g2⟩ := preL_memK (lv := 1) hy
  have hx : (pre 0 x).length = 1 + (preL 1 x.inner).length := by rw [pre_eq, List.length_cons, Nat.zero_add]; omega
  have hd : deepL (preL 1 x.inner) ≤ deepL (pre 0 x) := by rw [pre_eq, Nat.zero_add]; simp only [deepL]; omega
  have hl : (pre 0 y).length = (pre 1 y).length := by
    have := congrArg List.length (pre_snd 0 1 y)
    simpa using this
  refine okV_ofK (fun z hz => h1 z (mem_parts.2 (.inr ⟨y, hy, hz⟩))) ?_ ?_
  · unfold partsV at h2 ⊢
    rw [List.length_map] at h2 ⊢
    omega
  · have := deep_monoK (show 0 ≤ 1 by omega) y
    omega
theorem alone_of {x : VT} (h : okV x) : alone x = 0 := (okV_parts h).1 x (mem_parts.2 (.inl rfl))
end Go.Proofs.YtipomnogabnfdaaGreatDoor

namespace Go.Proofs.YtipomnogabnfdaaGreatDoor
open Go.RowKit Go.Lib

/-- The keys of an object that may be: texts that may be, rising. -/
theorem keysK {x : VT} (h : okV x) (h6 : x.kind = 6) : rises x.keys = true ∧ x.keys.length = x.list.length ∧ ∀ s ∈ x.keys, isT s.data.toList = true ∧ s.size ≤ 16384 := by
  have ha := alone_of h
  have hT : ownT x = x.keys := by unfold ownT; rw [if_neg (by omega), if_pos h6]
  unfold alone at ha
  rw [hT] at ha
  split at ha
  · exact absurd ha (by decide)
  split at ha
  · exact absurd ha (by decide)
  rename_i h1
  split at ha
  · exact absurd ha (by decide)
  rename_i h2
  split at ha
  · exact absurd ha (by decide)
  split at ha
  · rename_i hf
    unfold fitV at hf
    rw [if_neg (by omega), if_neg (by omega), if_neg (by omega), if_pos h6] at hf
    simp only [Bool.and_eq_true, decide_eq_true_eq] at hf
    refine ⟨hf.1.1.1.2, hf.1.1.1.1, fun s hs => ⟨?_, ?_⟩⟩
    · rw [List.any_eq_true] at h1
      by_cases hi : isT s.data.toList = true
      · exact hi
      · exact absurd ⟨s, hs, by simpa using hi⟩ h1
    · rw [List.any_eq_true] at h2
      by_cases hi : s.size ≤ 16384
      · exact hi
      · exact absurd ⟨s, hs, by simpa using hi⟩ h2
  · exact absurd ha (by decide)
theorem row_twoK {w : World} {S : Nat → Prop} {b : Nat} {x y : VT} {cs ds : List Value} (hc : cs.length = 7) (hd : ds.length = 7) (h : w.heap[b]? = some (.cells (cs ++ ds).toArray 28)) (hb : S b) (hx : VIn w S x cs) (hy : VIn w S y ds) : RdL w S (some ⟨b, 0, none⟩) 2 [x, y] := by
  refine ⟨rfl, by omega, fun i => if i = 0 then cs else ds, fun _ => ⟨b, 0, rfl, hb, fun i hi => ⟨?_, fun j hj => ?_⟩⟩, fun i z hz => ?_⟩
  · by_cases h0 : i = 0
    · simp only [h0, if_true]; exact hc
    · simp only [h0, if_false]; exact hd
  · rw [Nat.zero_add, cell_of_heap h, List.getElem?_toArray]
    by_cases h0 : i = 0
    · subst h0
      simp only [if_true, Nat.zero_mul, Nat.zero_add]
      rw [List.getElem?_append_left (by omega)]
    · obtain rfl : i = 1 := by omega
      simp only [Nat.one_ne_zero, if_false, Nat.one_mul]
      rw [List.getElem?_append_right (by omega), hc, Nat.add_sub_cancel_left]
  · match i, hz with
    | 0, hz => rw [List.getElem?_cons_zero] at hz; injection hz with hz; rw [← hz]; exact hx
    | 1, hz =>
      have hz : some y = some z := hz
      injection hz with hz
      rw [← hz]; exact hy
theorem errK_two {x y : VT} (hx : okV x) (hy : okV y) : errK [x, y] = 0 := by
  unfold errK
  rw [if_pos (show errV x = 0 from hx)]
  exact (errK_one y).trans hy
end Go.Proofs.YtipomnogabnfdaaGreatDoor
