/-
  Contract of Replace.
-/
import Derived.Test.YtdacdppmgcaioaaDoorETre
import Derived.Test.YtdacdppmgcaioaaDoorETbe
import Derived.OrdersHeld
import Derived.Laws.EntriesVeiled
set_option linter.unusedVariables false
set_option linter.unusedSimpArgs false
namespace Go.Proofs.YtdacdppmgcaioaaDoor
open Go.RowKit Go.Lib

set_option maxHeartbeats 8000000 in
set_option maxRecDepth 100000 in
theorem replace1_c {B b1 b2 b3 : Nat} {m : Int} (s t by' : ByteArray) (w : World) (hs : s.size ≤ 4294967280) (ht : t.size ≤ 140737488355328) (hby : by'.size ≤ 140737488355328)
    (h1 : w.heap[b1]? = some (.cells #[.string s] 9)) (h2 : w.heap[b2]? = some (.cells #[.string t] 9)) (h3 : w.heap[b3]? = some (.cells #[.string by'] 9)) (hb1 : b1 < B) (hb2 : b2 < B) (hb3 : b3 < B) (hBw : B ≤ w.heap.size)
    (hm : w.cell? ⟨0, 0, none⟩ = some (.int .i64 m)) (hmB : 0 < B) :
    Puts 63 #[.pointer (some ⟨b1, 0, none⟩), .pointer (some ⟨b2, 0, none⟩), .pointer (some ⟨b3, 0, none⟩)] B w (joinB by'.data.toList (cutP (nxOf t.data.toList) s.data.toList)) := by
  intro pb W hp hS hb
  have c1 : W.drew.cell? ⟨b1, 0, none⟩ = some (.string s) := (hb.cell (p := ⟨b1, 0, none⟩) hb1).trans (cellT h1 rfl)
  have c2 : W.drew.cell? ⟨b2, 0, none⟩ = some (.string t) := (hb.cell (p := ⟨b2, 0, none⟩) hb2).trans (cellT h2 rfl)
  have c3 : W.cell? ⟨b3, 0, none⟩ = some (.string by') := (hb.cell (p := ⟨b3, 0, none⟩) hb3).trans (cellT h3 rfl)
  have hmW : W.cell? ⟨0, 0, none⟩ = some (.int .i64 m) := (hb.cell (p := ⟨0, 0, none⟩) hmB).trans hm
  have hBW : B ≤ W.heap.size := by have := hb.size; omega
  have hfin : ∀ (V : World) (rb tb : Nat), Below W.heap.size W V → W.heap.size ≤ rb → V.heap[rb]? = some (rwO s tb pb) → V.heap[tb]? = some (.cells #[.string t] 9) → V.cell? ⟨b3, 0, none⟩ = some (.string by') ∧ Calls Tryd.prog 64 #[.pointer (some ⟨rb, 0, none⟩), .string by'] V fun e w' => e = .returned (.tuple #[]) ∧ Sh B pb (joinB by'.data.toList (cutP (nxOf t.data.toList) s.data.toList)) w' ∧ Mid B (fun k => B ≤ k) W w' := by
    intro V rb tb hV hrb hbr hbt
    refine ⟨(hV.cell (p := ⟨b3, 0, none⟩) (by show b3 < _; omega)).trans c3, ?_⟩
    refine (replace_c s t by' V (hS.stay0 hV) hs ht hby hbr hbt ((hV.cell (p := ⟨0, 0, none⟩) (by show 0 < _; omega)).trans hmW) (by omega) hmB).mono ?_
    rintro e w' ⟨he, h1, h2⟩
    exact ⟨he, h1, (Mid.of hV).trans (h2.mono fun k _ h => by rcases h with h | h <;> omega)⟩
  obtain ⟨q, hq⟩ : ∃ q, W.heap.size = q := ⟨_, rfl⟩
  have HF := Lib.hid hfin
  have HQ := Lib.hid hq
  clear hfin hS h1 h2 h3 hm hmW c3 hb
  have hnr : ∀ (V : World), (V.alloc (.cells #[.string ⟨#[]⟩, .nilFunc, .pointer none] 76)).heap[V.heap.size]? = some (.cells #[.string ⟨#[]⟩, .nilFunc, .pointer none] 76) := fun V => World.alloc_heap_new V _
  go_enter Tryd.func63, Tryd.ntmps63
  go_upto_region 0 with fail
  refine wp_region_held_drew (S := fun V => V.cell? ⟨b1, 0, none⟩ = some (.string s) ∧ V.cell? ⟨b2, 0, none⟩ = some (.string t)) (by kernel_rfl) ⟨c1, c2⟩ (fun hHeld => ?_)
  (try simp only [List.size_toArray, List.length_cons, List.length_nil, Nat.reduceAdd, Array.replicate_succ, Array.replicate_zero, List.push_toArray, List.append_toArray, List.nil_append, List.cons_append])
  refine wpAnyH_take (i := 0) (oi := ⟨_, _, _, _, _, _⟩) (v := ?_) rfl (by kernel_rfl) (by kernel_rfl) (by kernel_rfl) (fun _ _ _ h => h) (Or.inl ⟨by rfl, ?_⟩) (by assumption) ?_
  rotate_left
  · intro w hSw
    (try dsimp only at hSw)
    go_split_ands
    go_simp
    try with_reducible rfl
  try simp only [Act.put, List.setIfInBounds_toArray, List.set_cons_zero, List.set_cons_succ]
  refine wpAnyH_take (i := 1) (oi := ⟨_, _, _, _, _, _⟩) (v := ?_) rfl (by kernel_rfl) (by kernel_rfl) (by kernel_rfl) (fun _ _ _ h => h) (Or.inl ⟨by rfl, ?_⟩) (by assumption) ?_
  rotate_left
  · intro w hSw
    (try dsimp only at hSw)
    go_split_ands
    go_simp
    try with_reducible rfl
  try simp only [Act.put, List.setIfInBounds_toArray, List.set_cons_zero, List.set_cons_succ]
  refine wpAnyH_take (i := 4) (oi := ⟨_, _, _, _, _, _⟩) (v := ?_) rfl (by kernel_rfl) (by kernel_rfl) (by kernel_rfl) (fun _ _ _ h => h) (Or.inl ⟨by rfl, ?_⟩) (by assumption) ?_
  rotate_left
  · intro w hSw
    (try dsimp only at hSw)
    go_split_ands
    go_simp
    try with_reducible rfl
  try simp only [Act.put, List.setIfInBounds_toArray, List.set_cons_zero, List.set_cons_succ]
  have hal : ∀ (V : World) (o : Obj) (b : Nat) (v : Value), V.cell? ⟨b, 0, none⟩ = some v → (V.alloc o).cell? ⟨b, 0, none⟩ = some v := fun V o b v h => by
    rw [World.cell?_of_block (Below.heap_alloc _ _ _ (cell_lt h))]; exact h
  refine wpAnyH_ready (rs := [2, 6]) (by kernel_rfl) (by simp) (AllReadyH.cons (o := ⟨_, _, _, _, _, _⟩) rfl (fun K hK => ?_) (AllReadyH.cons (o := ⟨_, _, _, _, _, _⟩) rfl (fun K hK => ?_) AllReadyH.nil))
  · go_simp
    refine (placeOf_c _ _).mono ?_
    rintro e9 w1 ⟨rfl, rfl⟩
    (try dsimp only)
    refine hK _ _ ⟨hal _ _ _ _ c1, hal _ _ _ _ c2⟩ (fun hHeld2 => ?_)
    clear hK K
    try simp only [Act.put, List.setIfInBounds_toArray, List.set_cons_zero, List.set_cons_succ]
    refine wpAnyH_take (i := 3) (oi := ⟨_, _, _, _, _, _⟩) (v := ?_) rfl (by kernel_rfl) (by kernel_rfl) (by kernel_rfl) (fun _ _ _ h => h) (Or.inl ⟨by rfl, ?_⟩) (by assumption) ?_
    rotate_left
    · intro w hSw
      (try dsimp only at hSw)
      go_split_ands
      go_simp
      try with_reducible rfl
    try simp only [Act.put, List.setIfInBounds_toArray, List.set_cons_zero, List.set_cons_succ]
    refine wpAnyH_take (i := 5) (oi := ⟨_, _, _, _, _, _⟩) (v := ?_) rfl (by kernel_rfl) (by kernel_rfl) (by kernel_rfl) (fun _ _ _ h => h) (Or.inl ⟨by rfl, ?_⟩) (by assumption) ?_
    rotate_left
    · intro w hSw
      (try dsimp only at hSw)
      go_split_ands
      go_simp
      try with_reducible rfl
    try simp only [Act.put, List.setIfInBounds_toArray, List.set_cons_zero, List.set_cons_succ]
    refine wpAnyH_ready (rs := [6]) (by kernel_rfl) (by simp) (AllReadyH.cons (o := ⟨_, _, _, _, _, _⟩) rfl (fun K hK => ?_) AllReadyH.nil)
    go_simp
    refine hK _ _ ⟨hal _ _ _ _ (hal _ _ _ _ c1), hal _ _ _ _ (hal _ _ _ _ c2)⟩ (fun hHeld3 => ?_)
    clear hK K
    try simp only [Act.put, List.setIfInBounds_toArray, List.set_cons_zero, List.set_cons_succ]
    refine wpAnyH_ready (rs := [7]) (by kernel_rfl) (by simp) (AllReadyH.cons (o := ⟨_, _, _, _, _, _⟩) rfl (fun K hK => ?_) AllReadyH.nil)
    go_simp
    refine hK _ _ ⟨hal _ _ _ _ (hal _ _ _ _ c1), hal _ _ _ _ (hal _ _ _ _ c2)⟩ (fun hHeld4 => ?_)
    clear hK K
    try simp only [Act.put, List.setIfInBounds_toArray, List.set_cons_zero, List.set_cons_succ]
    have hbl : Below W.heap.size W ((W.alloc (.cells #[.string t] 9)).alloc (rwO s q pb)) := ((Below.refl _ W).alloc (Nat.le_refl _) _).alloc (by simp) _
    have k1 : ((W.alloc (.cells #[.string t] 9)).alloc (rwO s q pb)).heap[q]? = some (.cells #[.string t] 9) := by
      rw [Below.heap_alloc _ _ _ (by simp; omega), ← HQ.out]; exact World.alloc_heap_new _ _
    have k2 : ((W.alloc (.cells #[.string t] 9)).alloc (rwO s q pb)).heap[q + 1]? = some (rwO s q pb) := by
      have := World.alloc_heap_new (W.alloc (.cells #[.string t] 9)) (rwO s q pb)
      rwa [World.size_alloc, HQ.out] at this
    obtain ⟨d3, hcall⟩ := HF.out ((W.alloc (.cells #[.string t] 9)).alloc (rwO s q pb)).drew (q + 1) (q) ⟨hbl.os, hbl.tape, hbl.output, hbl.size, hbl.block⟩ (by rw [HQ.out]; omega) k2 k1
    have d3' : ((W.alloc (.cells #[.string t] 9)).alloc (rwO s q pb)).cell? ⟨b3, 0, none⟩ = some (.string by') := d3
    have HC := Lib.hid hcall
    clear hcall hbl k1 k2 d3 hHeld4 hHeld3 hHeld2
    refine wpAnyH_done (by kernel_rfl) ?_ _
    go_wp2_with fail
    refine HC.out.mono ?_
    rintro e9 w9 ⟨rfl, h1, h2⟩
    have H1 := Lib.hid h1
    have H2 := Lib.hid h2
    clear h1 h2
    go_wp2_with fail
    first | go_end0 | refine bodyPost_ret (results_none rfl _ _ _) rfl ?_
    exact ⟨rfl, by simpa using H1.out, H2.out⟩
  · go_simp
    refine hK _ _ ⟨hal _ _ _ _ c1, hal _ _ _ _ c2⟩ (fun hHeld2 => ?_)
    clear hK K
    try simp only [Act.put, List.setIfInBounds_toArray, List.set_cons_zero, List.set_cons_succ]
    refine wpAnyH_ready (rs := [2]) (by kernel_rfl) (by simp) (AllReadyH.cons (o := ⟨_, _, _, _, _, _⟩) rfl (fun K hK => ?_) AllReadyH.nil)
    go_simp
    refine (placeOf_c _ _).mono ?_
    rintro e9 w1 ⟨rfl, rfl⟩
    (try dsimp only)
    refine hK _ _ ⟨hal _ _ _ _ (hal _ _ _ _ c1), hal _ _ _ _ (hal _ _ _ _ c2)⟩ (fun hHeld3 => ?_)
    clear hK K
    try simp only [Act.put, List.setIfInBounds_toArray, List.set_cons_zero, List.set_cons_succ]
    refine wpAnyH_take (i := 3) (oi := ⟨_, _, _, _, _, _⟩) (v := ?_) rfl (by kernel_rfl) (by kernel_rfl) (by kernel_rfl) (fun _ _ _ h => h) (Or.inl ⟨by rfl, ?_⟩) (by assumption) ?_
    rotate_left
    · intro w hSw
      (try dsimp only at hSw)
      go_split_ands
      go_simp
      try with_reducible rfl
    try simp only [Act.put, List.setIfInBounds_toArray, List.set_cons_zero, List.set_cons_succ]
    refine wpAnyH_take (i := 5) (oi := ⟨_, _, _, _, _, _⟩) (v := ?_) rfl (by kernel_rfl) (by kernel_rfl) (by kernel_rfl) (fun _ _ _ h => h) (Or.inl ⟨by rfl, ?_⟩) (by assumption) ?_
    rotate_left
    · intro w hSw
      (try dsimp only at hSw)
      go_split_ands
      go_simp
      try with_reducible rfl
    try simp only [Act.put, List.setIfInBounds_toArray, List.set_cons_zero, List.set_cons_succ]
    refine wpAnyH_ready (rs := [7]) (by kernel_rfl) (by simp) (AllReadyH.cons (o := ⟨_, _, _, _, _, _⟩) rfl (fun K hK => ?_) AllReadyH.nil)
    go_simp
    refine hK _ _ ⟨hal _ _ _ _ (hal _ _ _ _ c1), hal _ _ _ _ (hal _ _ _ _ c2)⟩ (fun hHeld4 => ?_)
    clear hK K
    try simp only [Act.put, List.setIfInBounds_toArray, List.set_cons_zero, List.set_cons_succ]
    have hbl : Below W.heap.size W ((W.alloc (rwO s (q + 1) pb)).alloc (.cells #[.string t] 9)) := ((Below.refl _ W).alloc (Nat.le_refl _) _).alloc (by simp) _
    have k1 : ((W.alloc (rwO s (q + 1) pb)).alloc (.cells #[.string t] 9)).heap[q]? = some (rwO s (q + 1) pb) := by
      rw [Below.heap_alloc _ _ _ (by simp; omega), ← HQ.out]; exact World.alloc_heap_new _ _
    have k2 : ((W.alloc (rwO s (q + 1) pb)).alloc (.cells #[.string t] 9)).heap[q + 1]? = some (.cells #[.string t] 9) := by
      have := World.alloc_heap_new (W.alloc (rwO s (q + 1) pb)) (.cells #[.string t] 9)
      rwa [World.size_alloc, HQ.out] at this
    obtain ⟨d3, hcall⟩ := HF.out ((W.alloc (rwO s (q + 1) pb)).alloc (.cells #[.string t] 9)).drew (q) (q + 1) ⟨hbl.os, hbl.tape, hbl.output, hbl.size, hbl.block⟩ (by rw [HQ.out]; omega) k1 k2
    have d3' : ((W.alloc (rwO s (q + 1) pb)).alloc (.cells #[.string t] 9)).cell? ⟨b3, 0, none⟩ = some (.string by') := d3
    have HC := Lib.hid hcall
    clear hcall hbl k1 k2 d3 hHeld4 hHeld3 hHeld2
    refine wpAnyH_done (by kernel_rfl) ?_ _
    go_wp2_with fail
    refine HC.out.mono ?_
    rintro e9 w9 ⟨rfl, h1, h2⟩
    have H1 := Lib.hid h1
    have H2 := Lib.hid h2
    clear h1 h2
    go_wp2_with fail
    first | go_end0 | refine bodyPost_ret (results_none rfl _ _ _) rfl ?_
    exact ⟨rfl, by simpa using H1.out, H2.out⟩
end Go.Proofs.YtdacdppmgcaioaaDoor
