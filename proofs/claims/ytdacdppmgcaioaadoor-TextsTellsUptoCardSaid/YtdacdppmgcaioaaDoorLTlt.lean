/-
  Contracts of Lower and Upper.
-/
import Derived.Test.YtdacdppmgcaioaaDoorLTlp
import Derived.Test.YtdacdppmgcaioaaDoorLTbe
set_option linter.unusedVariables false
set_option linter.unusedSimpArgs false
namespace Go.Proofs.YtdacdppmgcaioaaDoor
open Go.RowKit Go.Lib

theorem letter_c {b1 b2 : Nat} {a b : Int} (hab : (a = 65 ∧ b = 97) ∨ (a = 97 ∧ b = 65)) (x : Nat) (hx : x ≤ 1114111) (W : World) (h1 : W.cell? ⟨b1, 0, none⟩ = some (.int .i32 a)) (h2 : W.cell? ⟨b2, 0, none⟩ = some (.int .i32 b)) :
    Calls Tryd.prog 80 #[.int .i32 (x : Int), .pointer (some ⟨b1, 0, none⟩), .pointer (some ⟨b2, 0, none⟩)] W fun e w' => e = .returned (.int .i32 (ltF a b x)) ∧ w' = W := by
  have hw1 : IntKind.i32.wrap (a + 26) = a + 26 := by rcases hab with ⟨rfl, rfl⟩ | ⟨rfl, rfl⟩ <;> rfl
  by_cases h : (x : Int) < a
  · have hl : ltF a b x = x := if_pos (.inl h)
    rw [hl]
    clear hl
    have hd : decide ((x : Int) < a) = true := decide_eq_true h
    go_enter Tryd.func80, Tryd.ntmps80
    go_wp2_with fail
    go_ret
    exact ⟨rfl, rfl⟩
  · have hd : decide ((x : Int) < a) = false := decide_eq_false h
    by_cases h9 : a + 26 ≤ (x : Int)
    · have hl : ltF a b x = x := if_pos (.inr h9)
      rw [hl]
      clear hl
      have hd2 : decide (a + 26 ≤ (x : Int)) = true := decide_eq_true h9
      go_enter Tryd.func80, Tryd.ntmps80
      go_wp2_with fail
      go_ret
      exact ⟨rfl, rfl⟩
    · have hl : ltF a b x = x - a + b := if_neg (by omega)
      rw [hl]
      clear hl
      have hd2 : decide (a + 26 ≤ (x : Int)) = false := decide_eq_false h9
      have hw2 : IntKind.i32.wrap ((x : Int) - a) = x - a := by
        rcases hab with ⟨rfl, rfl⟩ | ⟨rfl, rfl⟩ <;> exact IntWalk.i32_in _ (by omega)
      have hw3 : IntKind.i32.wrap ((x : Int) - a + b) = x - a + b := by
        rcases hab with ⟨rfl, rfl⟩ | ⟨rfl, rfl⟩ <;> exact IntWalk.i32_in _ (by omega)
      clear hab
      go_enter Tryd.func80, Tryd.ntmps80
      go_wp2_with fail
      go_ret
      exact ⟨rfl, rfl⟩

set_option maxHeartbeats 1000000 in
set_option maxRecDepth 100000 in
theorem letters1_c {B b1 b2 b3 : Nat} {a b : Int} (hab : (a = 65 ∧ b = 97) ∨ (a = 97 ∧ b = 65)) (s : ByteArray) (w : World) (hT : Tabs w) (hs : s.size < 35184372088832) (ht : isT s.data.toList = true)
    (h1 : w.heap[b1]? = some (.cells #[.int .i32 a] 21)) (h2 : w.heap[b2]? = some (.cells #[.int .i32 b] 21)) (h3 : w.heap[b3]? = some (.cells #[.string s] 9)) (hb1 : b1 < B) (hb2 : b2 < B) (hb3 : b3 < B) (hBw : B = w.heap.size) :
    Puts 78 #[.pointer (some ⟨b1, 0, none⟩), .pointer (some ⟨b2, 0, none⟩), .pointer (some ⟨b3, 0, none⟩)] B w (s.data.toList.map (lt8 a b)) := by
  intro pb W hp hS hb
  have hBW : B ≤ W.heap.size := by have := hb.size; omega
  have c3 : W.cell? ⟨b3, 0, none⟩ = some (.string s) := (hb.cell (p := ⟨b3, 0, none⟩) hb3).trans (cellT h3 rfl)
  have hmap := Tryd.strings_Map_runes 80 #[.pointer (some ⟨b1, 0, none⟩), .pointer (some ⟨b2, 0, none⟩)] (fun ar W => by kernel_rfl) (ltF a b) s W hs
    (fun V x hx hV => (letter_c hab x hx V ((hV.cell (p := ⟨b1, 0, none⟩) (by show b1 < _; omega)).trans ((hb.cell (p := ⟨b1, 0, none⟩) hb1).trans (cellT h1 rfl))) ((hV.cell (p := ⟨b2, 0, none⟩) (by show b2 < _; omega)).trans ((hb.cell (p := ⟨b2, 0, none⟩) hb2).trans (cellT h2 rfl)))).mono fun e w' ⟨he, hw⟩ => ⟨he, 0, hw⟩)
    (fun x hx => ltF_in hab x hx) (hT.below (hBw ▸ hb))
  rw [(mapD_move hab ht).1] at hmap
  obtain ⟨R, hR⟩ : ∃ R : ByteArray, (⟨(s.data.toList.map (lt8 a b)).toArray⟩ : ByteArray) = R := ⟨_, rfl⟩
  have hRL : R.data.toList = s.data.toList.map (lt8 a b) := by rw [← hR]
  have hRs : R.size ≤ 140737488355328 := by
    have : R.size = s.size := by
      rw [← hR]
      show (s.data.toList.map (lt8 a b)).toArray.size = _
      simp
    omega
  rw [hR] at hmap
  rw [← hRL]
  have hput := fun V (hV : Sh B pb [] V) (hs : B ≤ V.heap.size) => put_c V hV R hRs hs
  have HPUT := Lib.hid hput
  have HM := Lib.hid hmap
  have HS := Lib.hid hS
  clear hmap hput hS h1 h2 h3 hR hRL hT ht hb
  go_enter Tryd.func78, Tryd.ntmps78
  go_wp2_with fail
  refine HM.out.mono ?_
  rintro e w2 ⟨rfl, hb2'⟩
  have hS2 := HS.out.stay0 hb2'
  have hsz2 : B ≤ w2.heap.size := by have := hb2'.size; omega
  have HB2 := Lib.hid hb2'
  have HP := Lib.hid (HPUT.out w2 hS2 hsz2)
  clear hb2' hS2
  go_wp2_with fail
  refine HP.out.mono ?_
  rintro e w3 ⟨rfl, hS3, hM3⟩
  go_wp2_with fail
  first | go_end0 | refine bodyPost_ret (results_none rfl _ _ _) rfl ?_
  exact ⟨rfl, by simpa using hS3, (Mid.of HB2.out).trans (mid_loose hM3 hp)⟩
set_option maxHeartbeats 1000000 in
set_option maxRecDepth 100000 in
theorem withLetters_c {a b : Int} (hab : (a = 65 ∧ b = 97) ∨ (a = 97 ∧ b = 65)) (s : ByteArray) (w : World) (hT : Tabs w) (hs : s.size < 35184372088832) :
    Calls Tryd.prog 49 #[.string s, .int .i32 a, .int .i32 b] w fun e w' => e = .returned (.tuple #[.string (wrote [s] (s.data.toList.map (lt8 a b))).1, .int .i64 (wrote [s] (s.data.toList.map (lt8 a b))).2]) ∧ Below w.heap.size w w' := by
  obtain ⟨q, hq⟩ : ∃ q, w.heap.size = q := ⟨_, rfl⟩
  obtain ⟨w2, hw2⟩ : ∃ w2, ((w.alloc (.cells #[.string s] 9)).alloc (.cells #[.int .i32 a] 21)).alloc (.cells #[.int .i32 b] 21) = w2 := ⟨_, rfl⟩
  have hb2 : Below q w w2 := by
    rw [← hw2, ← hq]
    exact (((Below.refl _ w).alloc (Nat.le_refl _) _).alloc (by simp) _).alloc (by simp; omega) _
  have hs2 : w2.heap.size = q + 3 := by rw [← hw2]; simp [hq]
  have k1 : w2.heap[q]? = some (.cells #[.string s] 9) := by
    rw [← hw2, Below.heap_alloc _ _ _ (by simp; omega), Below.heap_alloc _ _ _ (by simp; omega), ← hq]; exact World.alloc_heap_new _ _
  have k2 : w2.heap[q + 1]? = some (.cells #[.int .i32 a] 21) := by
    rw [← hw2, Below.heap_alloc _ _ _ (by simp; omega)]
    have := World.alloc_heap_new (w.alloc (.cells #[.string s] 9)) (.cells #[.int .i32 a] 21)
    rwa [World.size_alloc, hq] at this
  have k3 : w2.heap[q + 1 + 1]? = some (.cells #[.int .i32 b] 21) := by
    rw [← hw2]
    have := World.alloc_heap_new ((w.alloc (.cells #[.string s] 9)).alloc (.cells #[.int .i32 a] 21)) (.cells #[.int .i32 b] 21)
    rwa [World.size_alloc, World.size_alloc, hq] at this
  have hT2 : Tabs w2 := hT.below (hq ▸ hb2)
  have hn2 : Below w2.heap.size w2 (w2.alloc (.cells #[.string s] 9)) := (Below.refl _ w2).alloc (Nat.le_refl _) _
  have hwr := written_c (fn := 78) (caps := #[.pointer (some ⟨q + 1, 0, none⟩), .pointer (some ⟨q + 1 + 1, 0, none⟩), .pointer (some ⟨q, 0, none⟩)]) (c := 1) (out := s.data.toList.map (lt8 a b)) (w2.alloc (.cells #[.string s] 9)) (hT2.below hn2) (rdx1 w2 s) (by intro x hx; simp at hx; subst hx; omega) (by simp) (fun ar W => by kernel_rfl)
    (fun h0 => letters1_c hab s _ (hT2.below hn2) hs (errX_all h0 s (by simp)) ((hn2.block _ (by omega)).trans k2) ((hn2.block _ (by omega)).trans k3) ((hn2.block _ (by omega)).trans k1) (by rw [World.size_alloc]; omega) (by rw [World.size_alloc]; omega) (by rw [World.size_alloc]; omega) rfl)
  have c1 : w2.cell? ⟨q, 0, none⟩ = some (.string s) := cellT k1 rfl
  have HB2 := Lib.hid (hb2.trans (hn2.mono (by omega)))
  have HW := Lib.hid hwr
  have HSZ := Lib.hid hs2
  clear hb2 hs2 k1 k2 k3 hT2 hn2 hwr hT
  go_enter Tryd.func49, Tryd.ntmps49
  go_upto_region 1 with fail
  try rw [hq]
  try rw [hw2]
  have HQ := Lib.hid hq
  clear hq hw2
  go_wp2_with fail
  refine HW.out.mono ?_
  rintro e w3 ⟨rfl, hb3⟩
  have HB3 := Lib.hid (HB2.out.trans (hb3.mono (by rw [World.size_alloc, HSZ.out]; omega)))
  clear hb3
  go_wp2_with fail
  go_ret2
  exact ⟨rfl, by rw [HQ.out]; exact HB3.out⟩
theorem Lower_c (s : ByteArray) (w : World) (hT : Tabs w) (hs : s.size < 35184372088832) :
    Calls Tryd.prog 13 #[.string s] w fun e w' => e = .returned (.tuple #[.string (wrote [s] (s.data.toList.map (lt8 65 97))).1, .int .i64 (wrote [s] (s.data.toList.map (lt8 65 97))).2]) ∧ Below w.heap.size w w' := by
  have h := withLetters_c (a := 65) (b := 97) (.inl ⟨rfl, rfl⟩) s w hT hs
  have H := Lib.hid h
  clear h hT
  go_enter Tryd.func13, Tryd.ntmps13
  go_wp2_with fail
  refine H.out.mono ?_
  rintro e w1 ⟨rfl, hb⟩
  go_wp2_with fail
  go_ret2
  exact ⟨rfl, hb⟩
theorem Upper_c (s : ByteArray) (w : World) (hT : Tabs w) (hs : s.size < 35184372088832) :
    Calls Tryd.prog 15 #[.string s] w fun e w' => e = .returned (.tuple #[.string (wrote [s] (s.data.toList.map (lt8 97 65))).1, .int .i64 (wrote [s] (s.data.toList.map (lt8 97 65))).2]) ∧ Below w.heap.size w w' := by
  have h := withLetters_c (a := 97) (b := 65) (.inr ⟨rfl, rfl⟩) s w hT hs
  have H := Lib.hid h
  clear h hT
  go_enter Tryd.func15, Tryd.ntmps15
  go_wp2_with fail
  refine H.out.mono ?_
  rintro e w1 ⟨rfl, hb⟩
  go_wp2_with fail
  go_ret2
  exact ⟨rfl, hb⟩
end Go.Proofs.YtdacdppmgcaioaaDoor
