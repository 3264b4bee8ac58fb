/-
  Contracts of Begins, Ends, TrimLeft and TrimRight.
-/
import Derived.Test.YtdacdppmgcaioaaDoorLTwr
import Derived.Test.YtdacdppmgcaioaaDoorShelf
set_option linter.unusedVariables false
set_option linter.unusedSimpArgs false
namespace Go.Proofs.YtdacdppmgcaioaaDoor
open Go.RowKit Go.Lib

abbrev two (w : World) (s t : ByteArray) : World := w.alloc (.cells #[.string s, .string t] 9)
theorem rdx2 (w : World) (s t : ByteArray) : RdX (two w s t) (two w s t).heap.size (some ⟨w.heap.size, 0, none⟩) [s, t] := fun i x hx => by
  have hnew := World.alloc_heap_new w (.cells #[.string s, .string t] 9)
  refine ⟨w.heap.size, 0, rfl, by rw [World.size_alloc]; omega, ?_⟩
  match i with
  | 0 => simp at hx; subst hx; exact cellT hnew rfl
  | 1 => simp at hx; subst hx; exact cellT hnew rfl
  | i + 2 => simp at hx
theorem rdx1 (w : World) (s : ByteArray) : RdX (w.alloc (.cells #[.string s] 9)) (w.alloc (.cells #[.string s] 9)).heap.size (some ⟨w.heap.size, 0, none⟩) [s] := fun i x hx => by
  have hnew := World.alloc_heap_new w (.cells #[.string s] 9)
  refine ⟨w.heap.size, 0, rfl, by rw [World.size_alloc]; omega, ?_⟩
  match i with
  | 0 => simp at hx; subst hx; exact cellT hnew rfl
  | i + 1 => simp at hx
theorem check2_c (s t : ByteArray) (w : World) (hT : Tabs w) (hs : s.size ≤ 140737488355328) (ht : t.size ≤ 140737488355328) :
    Calls Tryd.prog 43 #[.slice (some ⟨w.heap.size, 0, none⟩) 2 2] (two w s t) fun e w' => e = .returned (.int .i64 (errX [s, t] : Int)) ∧ Below w.heap.size w w' := by
  have h := check_c (c := 2) (two w s t) (hT.below ((Below.refl _ w).alloc (Nat.le_refl _) _)) (rdx2 w s t) (by intro x hx; simp at hx; rcases hx with rfl | rfl <;> assumption) (by simp)
  refine h.mono fun e w' ⟨he, hb⟩ => ⟨he, ?_⟩
  have h1 : Below w.heap.size w (two w s t) := (Below.refl _ w).alloc (Nat.le_refl _) _
  exact h1.trans (hb.mono (by rw [World.size_alloc]; omega))

theorem mid_loose {B pb : Nat} {w w' : World} (h : Mid B (fun k => k = pb) w w') (hp : B ≤ pb) : Mid B (fun k => B ≤ k) w w' := h.mono (fun k _ e => by omega)
end Go.Proofs.YtdacdppmgcaioaaDoor
