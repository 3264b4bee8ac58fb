/-
  Contract of Replace, whole.
-/
import Derived.Test.YtdacdppmgcaioaaDoorETrf
set_option linter.unusedVariables false
set_option linter.unusedSimpArgs false
namespace Go.Proofs.YtdacdppmgcaioaaDoor
open Go.RowKit Go.Lib

abbrev three (w : World) (s t u : ByteArray) : World := w.alloc (.cells #[.string s, .string t, .string u] 9)
theorem rdx3 (w : World) (s t u : ByteArray) : RdX (three w s t u) (three w s t u).heap.size (some ⟨w.heap.size, 0, none⟩) [s, t, u] := fun i x hx => by
  have hnew := World.alloc_heap_new w (.cells #[.string s, .string t, .string u] 9)
  refine ⟨w.heap.size, 0, rfl, by rw [World.size_alloc]; omega, ?_⟩
  match i with
  | 0 => simp at hx; subst hx; exact cellT hnew rfl
  | 1 => simp at hx; subst hx; exact cellT hnew rfl
  | 2 => simp at hx; subst hx; exact cellT hnew rfl
  | i + 3 => simp at hx
/-- What Replace writes. -/
def replT (old by' L : List UInt8) : List UInt8 := joinB by' (cutP (nxOf old) L)
set_option maxHeartbeats 2000000 in
set_option maxRecDepth 100000 in
theorem Replace_c {m : Int} (s t u : ByteArray) (w : World) (hT : Tabs w) (hm : w.cell? ⟨0, 0, none⟩ = some (.int .i64 m)) (hs : s.size ≤ 4294967280) (ht : t.size ≤ 140737488355328) (hu : u.size ≤ 140737488355328) :
    Calls Tryd.prog 32 #[.string s, .string t, .string u] w fun e w' => e = .returned (.tuple #[.string (wrote [s, t, u] (replT t.data.toList u.data.toList s.data.toList)).1, .int .i64 (wrote [s, t, u] (replT t.data.toList u.data.toList s.data.toList)).2]) ∧ Below w.heap.size w w' := by
  have hmlt := cell_lt hm
  obtain ⟨q, hq⟩ : ∃ q, w.heap.size = q := ⟨_, rfl⟩
  obtain ⟨w2, hw2⟩ : ∃ w2, ((w.alloc (.cells #[.string s] 9)).alloc (.cells #[.string t] 9)).alloc (.cells #[.string u] 9) = w2 := ⟨_, rfl⟩
  have hb2 : Below q w w2 := by
    rw [← hw2, ← hq]
    exact (((Below.refl _ w).alloc (Nat.le_refl _) _).alloc (by simp) _).alloc (by simp; omega) _
  have hs2 : w2.heap.size = q + 3 := by rw [← hw2]; simp [hq]
  have k1 : w2.heap[q]? = some (.cells #[.string s] 9) := by
    rw [← hw2, Below.heap_alloc _ _ _ (by simp; omega), Below.heap_alloc _ _ _ (by simp; omega), ← hq]; exact World.alloc_heap_new _ _
  have k2 : w2.heap[q + 1]? = some (.cells #[.string t] 9) := by
    rw [← hw2, Below.heap_alloc _ _ _ (by simp; omega)]
    have := World.alloc_heap_new (w.alloc (.cells #[.string s] 9)) (.cells #[.string t] 9)
    rwa [World.size_alloc, hq] at this
  have k3 : w2.heap[q + 1 + 1]? = some (.cells #[.string u] 9) := by
    rw [← hw2]
    have := World.alloc_heap_new ((w.alloc (.cells #[.string s] 9)).alloc (.cells #[.string t] 9)) (.cells #[.string u] 9)
    rwa [World.size_alloc, World.size_alloc, hq] at this
  have hT2 : Tabs w2 := hT.below (hq ▸ hb2)
  have hn2 : Below w2.heap.size w2 (three w2 s t u) := (Below.refl _ w2).alloc (Nat.le_refl _) _
  have hm2 : (three w2 s t u).cell? ⟨0, 0, none⟩ = some (.int .i64 m) := (hn2.cell (p := ⟨0, 0, none⟩) (by show 0 < _; omega)).trans ((hb2.cell (p := ⟨0, 0, none⟩) (by show 0 < _; omega)).trans hm)
  have hwr := written_c (fn := 63) (caps := #[.pointer (some ⟨q, 0, none⟩), .pointer (some ⟨q + 1, 0, none⟩), .pointer (some ⟨q + 1 + 1, 0, none⟩)]) (c := 3) (out := replT t.data.toList u.data.toList s.data.toList) (three w2 s t u) (hT2.below hn2) (rdx3 w2 s t u) (by intro x hx; simp at hx; rcases hx with rfl | rfl | rfl <;> first | assumption | omega) (by simp) (fun ar W => by kernel_rfl)
    (fun _ => replace1_c s t u _ hs ht hu ((hn2.block _ (by omega)).trans k1) ((hn2.block _ (by omega)).trans k2) ((hn2.block _ (by omega)).trans k3) (by rw [World.size_alloc]; omega) (by rw [World.size_alloc]; omega) (by rw [World.size_alloc]; omega) (Nat.le_refl _) hm2 (by rw [World.size_alloc]; omega))
  have c1 : w2.cell? ⟨q, 0, none⟩ = some (.string s) := cellT k1 rfl
  have c2 : w2.cell? ⟨q + 1, 0, none⟩ = some (.string t) := cellT k2 rfl
  have c3 : w2.cell? ⟨q + 1 + 1, 0, none⟩ = some (.string u) := cellT k3 rfl
  have HB2 := Lib.hid (hb2.trans (hn2.mono (by omega)))
  have HW := Lib.hid hwr
  have HSZ := Lib.hid hs2
  clear hb2 hs2 k1 k2 k3 hT2 hn2 hwr hT hm hm2 hmlt
  go_enter Tryd.func32, Tryd.ntmps32
  go_upto_region 1 with fail
  try rw [hq]
  try rw [hw2]
  have HQ := Lib.hid hq
  clear hq hw2
  go_wp2_with fail
  refine HW.out.mono ?_
  rintro e w3 ⟨rfl, hb3⟩
  have HB3 := Lib.hid (HB2.out.trans (hb3.mono (by rw [World.size_alloc, HSZ.out]; omega)))
  clear hb3
  go_wp2_with fail
  go_ret2
  exact ⟨rfl, by rw [HQ.out]; exact HB3.out⟩
end Go.Proofs.YtdacdppmgcaioaaDoor
