/-
  Contracts of Begins, Ends, TrimLeft and TrimRight.
-/
import Derived.Test.YtdacdppmgcaioaaDoorETwr
import Derived.Test.YtdacdppmgcaioaaDoorShelf
set_option linter.unusedVariables false
set_option linter.unusedSimpArgs false
namespace Go.Proofs.YtdacdppmgcaioaaDoor
open Go.RowKit Go.Lib

abbrev two (w : World) (s t : ByteArray) : World := w.alloc (.cells #[.string s, .string t] 9)
theorem rdx2 (w : World) (s t : ByteArray) : RdX (two w s t) (two w s t).heap.size (some ⟨w.heap.size, 0, none⟩) [s, t] := fun i x hx => by
  have hnew := World.alloc_heap_new w (.cells #[.string s, .string t] 9)
  refine ⟨w.heap.size, 0, rfl, by rw [World.size_alloc]; omega, ?_⟩
  match i with
  | 0 => simp at hx; subst hx; exact cellT hnew rfl
  | 1 => simp at hx; subst hx; exact cellT hnew rfl
  | i + 2 => simp at hx
theorem rdx1 (w : World) (s : ByteArray) : RdX (w.alloc (.cells #[.string s] 9)) (w.alloc (.cells #[.string s] 9)).heap.size (some ⟨w.heap.size, 0, none⟩) [s] := fun i x hx => by
  have hnew := World.alloc_heap_new w (.cells #[.string s] 9)
  refine ⟨w.heap.size, 0, rfl, by rw [World.size_alloc]; omega, ?_⟩
  match i with
  | 0 => simp at hx; subst hx; exact cellT hnew rfl
  | i + 1 => simp at hx
theorem check2_c (s t : ByteArray) (w : World) (hT : Tabs w) (hs : s.size ≤ 140737488355328) (ht : t.size ≤ 140737488355328) :
    Calls Tryd.prog 43 #[.slice (some ⟨w.heap.size, 0, none⟩) 2 2] (two w s t) fun e w' => e = .returned (.int .i64 (errX [s, t] : Int)) ∧ Below w.heap.size w w' := by
  have h := check_c (c := 2) (two w s t) (hT.below ((Below.refl _ w).alloc (Nat.le_refl _) _)) (rdx2 w s t) (by intro x hx; simp at hx; rcases hx with rfl | rfl <;> assumption) (by simp)
  refine h.mono fun e w' ⟨he, hb⟩ => ⟨he, ?_⟩
  have h1 : Below w.heap.size w (two w s t) := (Below.refl _ w).alloc (Nat.le_refl _) _
  exact h1.trans (hb.mono (by rw [World.size_alloc]; omega))

/-- What Begins and Ends tell. -/
def saidB (xs : List ByteArray) (b : Bool) : Bool × Int := if errX xs = 0 then (b, 0) else (false, 61)
theorem saidB_ok {xs : List ByteArray} {b : Bool} (h : errX xs = 0) : saidB xs b = (b, 0) := if_pos h
theorem saidB_no {xs : List ByteArray} {b : Bool} (h : errX xs = 61) : saidB xs b = (false, 61) := if_neg (by omega)
set_option maxHeartbeats 1000000 in
set_option maxRecDepth 100000 in
theorem Begins_c (s t : ByteArray) (w : World) (hT : Tabs w) (hs : s.size ≤ 140737488355328) (ht : t.size ≤ 140737488355328) :
    Calls Tryd.prog 22 #[.string s, .string t] w fun e w' => e = .returned (.tuple #[.bool (saidB [s, t] (Lib.hasPrefix s.data.toList t.data.toList)).1, .int .i64 (saidB [s, t] (Lib.hasPrefix s.data.toList t.data.toList)).2]) ∧ Below w.heap.size w w' := by
  have hck := check2_c s t w hT hs ht
  obtain ⟨E, hE⟩ : ∃ E, errX [s, t] = E := ⟨_, rfl⟩
  have hc := errX_cases [s, t]
  rw [hE] at hck hc
  have HC := Lib.hid hck
  clear hT hck
  rcases hc with rfl | rfl
  · rw [saidB_ok hE]
    clear hE
    go_enter Tryd.func22, Tryd.ntmps22
    go_wp2_with fail
    refine HC.out.mono ?_
    rintro e w1 ⟨rfl, hb1⟩
    have HB := Lib.hid hb1
    clear hb1
    go_wp2_with fail
    refine (Tryd.strings_HasPrefix _ _ _).mono ?_
    rintro e w2 ⟨rfl, rfl⟩
    go_wp2_with fail
    go_ret2
    exact ⟨rfl, HB.out⟩
  · rw [saidB_no hE]
    clear hE
    go_enter Tryd.func22, Tryd.ntmps22
    go_wp2_with fail
    refine HC.out.mono ?_
    rintro e w1 ⟨rfl, hb1⟩
    have HB := Lib.hid hb1
    clear hb1
    go_wp2_with fail
    go_ret2
    exact ⟨rfl, HB.out⟩
set_option maxHeartbeats 1000000 in
set_option maxRecDepth 100000 in
theorem EndsT_c (s t : ByteArray) (w : World) (hT : Tabs w) (hs : s.size ≤ 140737488355328) (ht : t.size ≤ 140737488355328) :
    Calls Tryd.prog 24 #[.string s, .string t] w fun e w' => e = .returned (.tuple #[.bool (saidB [s, t] (Lib.hasSuffix s.data.toList t.data.toList)).1, .int .i64 (saidB [s, t] (Lib.hasSuffix s.data.toList t.data.toList)).2]) ∧ Below w.heap.size w w' := by
  have hck := check2_c s t w hT hs ht
  obtain ⟨E, hE⟩ : ∃ E, errX [s, t] = E := ⟨_, rfl⟩
  have hc := errX_cases [s, t]
  rw [hE] at hck hc
  have HC := Lib.hid hck
  clear hT hck
  rcases hc with rfl | rfl
  · rw [saidB_ok hE]
    clear hE
    go_enter Tryd.func24, Tryd.ntmps24
    go_wp2_with fail
    refine HC.out.mono ?_
    rintro e w1 ⟨rfl, hb1⟩
    have HB := Lib.hid hb1
    clear hb1
    go_wp2_with fail
    refine (Tryd.strings_HasSuffix _ _ _ (by omega)).mono ?_
    rintro e w2 ⟨rfl, rfl⟩
    go_wp2_with fail
    go_ret2
    exact ⟨rfl, HB.out⟩
  · rw [saidB_no hE]
    clear hE
    go_enter Tryd.func24, Tryd.ntmps24
    go_wp2_with fail
    refine HC.out.mono ?_
    rintro e w1 ⟨rfl, hb1⟩
    have HB := Lib.hid hb1
    clear hb1
    go_wp2_with fail
    go_ret2
    exact ⟨rfl, HB.out⟩

theorem trimP_le (s t : ByteArray) : (⟨(Lib.trimPrefix s.data.toList t.data.toList).toArray⟩ : ByteArray).size ≤ s.size := by
  show (Lib.trimPrefix s.data.toList t.data.toList).toArray.size ≤ _
  have := Lib.trimPrefix_le s.data.toList t.data.toList
  rw [Array.length_toList] at this
  simpa using this
theorem trimS_le (s t : ByteArray) : (⟨(Lib.trimSuffix s.data.toList t.data.toList).toArray⟩ : ByteArray).size ≤ s.size := by
  show (Lib.trimSuffix s.data.toList t.data.toList).toArray.size ≤ _
  have := Lib.trimSuffix_le s.data.toList t.data.toList
  rw [Array.length_toList] at this
  simpa using this
theorem mid_loose {B pb : Nat} {w w' : World} (h : Mid B (fun k => k = pb) w w') (hp : B ≤ pb) : Mid B (fun k => B ≤ k) w w' := h.mono (fun k _ e => by omega)
set_option maxHeartbeats 1000000 in
set_option maxRecDepth 100000 in
theorem TrimLeft1_c {B b1 b2 : Nat} (s t : ByteArray) (w : World) (hs : s.size ≤ 140737488355328) (h1 : w.heap[b1]? = some (.cells #[.string s] 9)) (h2 : w.heap[b2]? = some (.cells #[.string t] 9)) (hb1 : b1 < B) (hb2 : b2 < B) (hBw : B ≤ w.heap.size) :
    Puts 58 #[.pointer (some ⟨b1, 0, none⟩), .pointer (some ⟨b2, 0, none⟩)] B w (Lib.trimPrefix s.data.toList t.data.toList) := by
  intro pb W hp hS hb
  have c1 : W.cell? ⟨b1, 0, none⟩ = some (.string s) := (hb.cell (p := ⟨b1, 0, none⟩) hb1).trans (cellT h1 rfl)
  have c2 : W.cell? ⟨b2, 0, none⟩ = some (.string t) := (hb.cell (p := ⟨b2, 0, none⟩) hb2).trans (cellT h2 rfl)
  have hput := put_c W hS ⟨(Lib.trimPrefix s.data.toList t.data.toList).toArray⟩ (Nat.le_trans (trimP_le s t) hs) (by have := hb.size; omega)
  have HP := Lib.hid hput
  clear hS hput h1 h2 hb
  go_enter Tryd.func58, Tryd.ntmps58
  go_wp2_with fail
  refine (Tryd.strings_TrimPrefix _ _ _).mono ?_
  rintro e w2 ⟨rfl, rfl⟩
  go_wp2_with fail
  refine HP.out.mono ?_
  rintro e w3 ⟨rfl, hS3, hM3⟩
  go_wp2_with fail
  first | go_end0 | refine bodyPost_ret (results_none rfl _ _ _) rfl ?_
  exact ⟨rfl, by simpa using hS3, mid_loose hM3 hp⟩
set_option maxHeartbeats 1000000 in
set_option maxRecDepth 100000 in
theorem TrimLeft_c (s t : ByteArray) (w : World) (hT : Tabs w) (hs : s.size ≤ 140737488355328) (ht : t.size ≤ 140737488355328) :
    Calls Tryd.prog 26 #[.string s, .string t] w fun e w' => e = .returned (.tuple #[.string (wrote [s, t] (Lib.trimPrefix s.data.toList t.data.toList)).1, .int .i64 (wrote [s, t] (Lib.trimPrefix s.data.toList t.data.toList)).2]) ∧ Below w.heap.size w w' := by
  obtain ⟨b, hb⟩ : ∃ b, w.heap.size = b := ⟨_, rfl⟩
  obtain ⟨w2, hw2⟩ : ∃ w2, (w.alloc (.cells #[.string s] 9)).alloc (.cells #[.string t] 9) = w2 := ⟨_, rfl⟩
  have hb2 : Below b w w2 := by
    rw [← hw2, ← hb]
    exact ((Below.refl _ w).alloc (Nat.le_refl _) _).alloc (by simp) _
  have hs2 : w2.heap.size = b + 2 := by rw [← hw2]; simp [hb]
  have k1 : w2.heap[b]? = some (.cells #[.string s] 9) := by
    rw [← hw2, Below.heap_alloc _ _ _ (by simp; omega), ← hb]; exact World.alloc_heap_new _ _
  have k2 : w2.heap[b + 1]? = some (.cells #[.string t] 9) := by
    rw [← hw2]
    have := World.alloc_heap_new (w.alloc (.cells #[.string s] 9)) (.cells #[.string t] 9)
    rwa [World.size_alloc, hb] at this
  have hT2 : Tabs w2 := hT.below (hb ▸ hb2)
  have hn2 : Below w2.heap.size w2 (two w2 s t) := (Below.refl _ w2).alloc (Nat.le_refl _) _
  have hwr := written_c (fn := 58) (caps := #[.pointer (some ⟨b, 0, none⟩), .pointer (some ⟨b + 1, 0, none⟩)]) (c := 2) (two w2 s t) (hT2.below hn2) (rdx2 w2 s t) (by intro x hx; simp at hx; rcases hx with rfl | rfl <;> assumption) (by simp) (fun ar W => by kernel_rfl)
    (fun _ => TrimLeft1_c (B := (two w2 s t).heap.size) s t (two w2 s t) hs ((hn2.block _ (by omega)).trans k1) ((hn2.block _ (by omega)).trans k2) (by rw [World.size_alloc]; omega) (by rw [World.size_alloc]; omega) (Nat.le_refl _))
  have c1 : w2.cell? ⟨b, 0, none⟩ = some (.string s) := cellT k1 rfl
  have c2 : w2.cell? ⟨b + 1, 0, none⟩ = some (.string t) := cellT k2 rfl
  have HB2 := Lib.hid (hb2.trans (hn2.mono (by omega)))
  have HW := Lib.hid hwr
  have HW2 := Lib.hid hw2
  have HSZ := Lib.hid hs2
  clear hb2 hs2 k1 k2 hT2 hn2 hwr hT
  go_enter Tryd.func26, Tryd.ntmps26
  go_upto_region 1 with fail
  try rw [hb]
  have HBB := Lib.hid hb
  clear hb
  try rw [HW2.out]
  clear HW2 hw2
  go_wp2_with fail
  refine HW.out.mono ?_
  rintro e w3 ⟨rfl, hb3⟩
  have HB3 := Lib.hid (HB2.out.trans (hb3.mono (by rw [World.size_alloc, HSZ.out]; omega)))
  clear hb3
  go_wp2_with fail
  go_ret2
  exact ⟨rfl, by rw [HBB.out]; exact HB3.out⟩
set_option maxHeartbeats 1000000 in
set_option maxRecDepth 100000 in
theorem TrimRight1_c {B b1 b2 : Nat} (s t : ByteArray) (w : World) (hs : s.size ≤ 140737488355328) (h1 : w.heap[b1]? = some (.cells #[.string s] 9)) (h2 : w.heap[b2]? = some (.cells #[.string t] 9)) (hb1 : b1 < B) (hb2 : b2 < B) (hBw : B ≤ w.heap.size) :
    Puts 60 #[.pointer (some ⟨b1, 0, none⟩), .pointer (some ⟨b2, 0, none⟩)] B w (Lib.trimSuffix s.data.toList t.data.toList) := by
  intro pb W hp hS hb
  have c1 : W.cell? ⟨b1, 0, none⟩ = some (.string s) := (hb.cell (p := ⟨b1, 0, none⟩) hb1).trans (cellT h1 rfl)
  have c2 : W.cell? ⟨b2, 0, none⟩ = some (.string t) := (hb.cell (p := ⟨b2, 0, none⟩) hb2).trans (cellT h2 rfl)
  have hput := put_c W hS ⟨(Lib.trimSuffix s.data.toList t.data.toList).toArray⟩ (Nat.le_trans (trimS_le s t) hs) (by have := hb.size; omega)
  have HP := Lib.hid hput
  clear hS hput h1 h2 hb
  go_enter Tryd.func60, Tryd.ntmps60
  go_wp2_with fail
  refine (Tryd.strings_TrimSuffix _ _ _ (by omega)).mono ?_
  rintro e w2 ⟨rfl, rfl⟩
  go_wp2_with fail
  refine HP.out.mono ?_
  rintro e w3 ⟨rfl, hS3, hM3⟩
  go_wp2_with fail
  first | go_end0 | refine bodyPost_ret (results_none rfl _ _ _) rfl ?_
  exact ⟨rfl, by simpa using hS3, mid_loose hM3 hp⟩
set_option maxHeartbeats 1000000 in
set_option maxRecDepth 100000 in
theorem TrimRight_c (s t : ByteArray) (w : World) (hT : Tabs w) (hs : s.size ≤ 140737488355328) (ht : t.size ≤ 140737488355328) :
    Calls Tryd.prog 28 #[.string s, .string t] w fun e w' => e = .returned (.tuple #[.string (wrote [s, t] (Lib.trimSuffix s.data.toList t.data.toList)).1, .int .i64 (wrote [s, t] (Lib.trimSuffix s.data.toList t.data.toList)).2]) ∧ Below w.heap.size w w' := by
  obtain ⟨b, hb⟩ : ∃ b, w.heap.size = b := ⟨_, rfl⟩
  obtain ⟨w2, hw2⟩ : ∃ w2, (w.alloc (.cells #[.string s] 9)).alloc (.cells #[.string t] 9) = w2 := ⟨_, rfl⟩
  have hb2 : Below b w w2 := by
    rw [← hw2, ← hb]
    exact ((Below.refl _ w).alloc (Nat.le_refl _) _).alloc (by simp) _
  have hs2 : w2.heap.size = b + 2 := by rw [← hw2]; simp [hb]
  have k1 : w2.heap[b]? = some (.cells #[.string s] 9) := by
    rw [← hw2, Below.heap_alloc _ _ _ (by simp; omega), ← hb]; exact World.alloc_heap_new _ _
  have k2 : w2.heap[b + 1]? = some (.cells #[.string t] 9) := by
    rw [← hw2]
    have := World.alloc_heap_new (w.alloc (.cells #[.string s] 9)) (.cells #[.string t] 9)
    rwa [World.size_alloc, hb] at this
  have hT2 : Tabs w2 := hT.below (hb ▸ hb2)
  have hn2 : Below w2.heap.size w2 (two w2 s t) := (Below.refl _ w2).alloc (Nat.le_refl _) _
  have hwr := written_c (fn := 60) (caps := #[.pointer (some ⟨b, 0, none⟩), .pointer (some ⟨b + 1, 0, none⟩)]) (c := 2) (two w2 s t) (hT2.below hn2) (rdx2 w2 s t) (by intro x hx; simp at hx; rcases hx with rfl | rfl <;> assumption) (by simp) (fun ar W => by kernel_rfl)
    (fun _ => TrimRight1_c (B := (two w2 s t).heap.size) s t (two w2 s t) hs ((hn2.block _ (by omega)).trans k1) ((hn2.block _ (by omega)).trans k2) (by rw [World.size_alloc]; omega) (by rw [World.size_alloc]; omega) (Nat.le_refl _))
  have c1 : w2.cell? ⟨b, 0, none⟩ = some (.string s) := cellT k1 rfl
  have c2 : w2.cell? ⟨b + 1, 0, none⟩ = some (.string t) := cellT k2 rfl
  have HB2 := Lib.hid (hb2.trans (hn2.mono (by omega)))
  have HW := Lib.hid hwr
  have HW2 := Lib.hid hw2
  have HSZ := Lib.hid hs2
  clear hb2 hs2 k1 k2 hT2 hn2 hwr hT
  go_enter Tryd.func28, Tryd.ntmps28
  go_upto_region 1 with fail
  try rw [hb]
  have HBB := Lib.hid hb
  clear hb
  try rw [HW2.out]
  clear HW2 hw2
  go_wp2_with fail
  refine HW.out.mono ?_
  rintro e w3 ⟨rfl, hb3⟩
  have HB3 := Lib.hid (HB2.out.trans (hb3.mono (by rw [World.size_alloc, HSZ.out]; omega)))
  clear hb3
  go_wp2_with fail
  go_ret2
  exact ⟨rfl, by rw [HBB.out]; exact HB3.out⟩
end Go.Proofs.YtdacdppmgcaioaaDoor
