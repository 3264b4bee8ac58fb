/-
  Contract of reader.Read.
-/
import Derived.Test.YtpjllcengnolkaaGreatDoorPLnx
set_option linter.unusedVariables false
set_option linter.unusedSimpArgs false
namespace Go.Proofs.YtpjllcengnolkaaGreatDoor
open Go.RowKit Go.Lib
variable {L : List UInt8} {A : Option Addr} {c : Nat}

theorem rRead_nx (L : List UInt8) : rRead mkObj L = if 65536 < L.length then (noV, 0, 5) else match rNext mkObj L 0 with
    | .bad q e => (noV, q, e)
    | .ok none _ => (noV, L.length, 8)
    | .ok (some v) q => if wsE L q < L.length then (noV, wsE L q, 22) else (v, L.length, 0) := rfl
/-- What Read comes to. -/
def PoR (L : List UInt8) (N : Nat) (e : Ending) (w' : World) : Prop := ∃ cs : List Value, e = .returned (.tuple #[.agg cs.toArray, .int .i64 ((rRead mkObj L).2.1 : Int), .int .i64 ((rRead mkObj L).2.2 : Int)]) ∧ VIn w' (fun b => N ≤ b ∧ b < w'.heap.size) (rRead mkObj L).1 cs
set_option maxRecDepth 100000 in
set_option maxHeartbeats 4000000 in
theorem Read_c (hv : ValC 64) {w : World} (ho : Oct w.heap.size L A w) (hT : Tabs w) (hcap : L.length ≤ c) (hlen : L.length ≤ 140737488355328) :
    Calls Tryz.prog 13 #[.slice A L.length c] w fun e w' => PoR L w.heap.size e w' ∧ Below w.heap.size w w' := by
  obtain ⟨rb, hrb⟩ : ∃ b, w.heap.size = b := ⟨_, rfl⟩
  have hb0 : Below rb w (w.alloc (.cells #[.int .i64 0, .bool false, .slice none 0 0, .int .i64 0, .string ⟨#[]⟩, .slice none 0 0, .slice none 0 0] 34)) := (Below.refl _ _).alloc (by omega) _
  have hr0 := World.alloc_heap_new w (.cells #[.int .i64 0, .bool false, .slice none 0 0, .int .i64 0, .string ⟨#[]⟩, .slice none 0 0, .slice none 0 0] 34)
  have hs0 : (w.alloc (.cells #[.int .i64 0, .bool false, .slice none 0 0, .int .i64 0, .string ⟨#[]⟩, .slice none 0 0, .slice none 0 0] 34)).heap.size = rb + 1 := by rw [World.size_alloc, hrb]
  have hB0 := (But.refl (fun _ => False) w).alloc (.cells #[.int .i64 0, .bool false, .slice none 0 0, .int .i64 0, .string ⟨#[]⟩, .slice none 0 0, .slice none 0 0] 34)
  rw [hrb] at hr0
  have ho0 : Oct rb L A (w.alloc (.cells #[.int .i64 0, .bool false, .slice none 0 0, .int .i64 0, .string ⟨#[]⟩, .slice none 0 0, .slice none 0 0] 34)) := fun k x hk => by
    obtain ⟨g, off, e1, e2, e3⟩ := ho k x hk
    exact ⟨g, off, e1, by omega, hB0.cell_some e3 (fun h => h)⟩
  have hT0 : Tabs (w.alloc (.cells #[.int .i64 0, .bool false, .slice none 0 0, .int .i64 0, .string ⟨#[]⟩, .slice none 0 0, .slice none 0 0] 34)) := hT.below ((Below.refl _ _).alloc (Nat.le_refl _) _)
  rw [hrb]
  have hnx := Next_c (c := c) hv (w := w.alloc (.cells #[.int .i64 0, .bool false, .slice none 0 0, .int .i64 0, .string ⟨#[]⟩, .slice none 0 0, .slice none 0 0] 34)) (p := 0) (fun k x hk => by
    obtain ⟨g, off, e1, e2, e3⟩ := ho0 k x hk
    exact ⟨g, off, e1, by rw [hs0]; omega, e3⟩) hT0 hcap hlen (Nat.zero_le _)
  rw [hs0] at hnx
  have HNX := Lib.hid hnx
  have HO0 := Lib.hid ho0
  have HR0 := Lib.hid hr0
  have HB0 := Lib.hid hb0
  have HS0 := Lib.hid hs0
  have HRB := Lib.hid hrb
  clear hnx ho0 hr0 hb0 hs0 hB0 hT0 ho hT
  go_enter Tryz.func13, Tryz.ntmps13
  go_wp2_with fail
  try rw [hrb]
  clear hrb
  generalize (w.alloc (.cells #[.int .i64 0, .bool false, .slice none 0 0, .int .i64 0, .string ⟨#[]⟩, .slice none 0 0, .slice none 0 0] 34)) = w0 at *
  refine HNX.out.mono ?_
  rintro e w1 ⟨hpx, hbl1⟩
  have hr1 := (hbl1.block rb (by omega)).trans HR0.out
  have hw1 : rb + 1 ≤ w1.heap.size := by have := hbl1.size; have := HS0.out; omega
  have hbw1 : Below rb w w1 := HB0.out.trans (hbl1.mono (by omega))
  have hoc1 : ∀ V, Below (rb + 1) w1 V → Oct rb L A V := fun V hV k x hk => by
    obtain ⟨g, off, e1, e2, e3⟩ := HO0.out k x hk
    exact ⟨g, off, e1, e2, (hV.cell (p := ⟨g, off + k, none⟩) (by show g < _; omega)).trans ((hbl1.cell (p := ⟨g, off + k, none⟩) (by show g < _; omega)).trans e3)⟩
  have HOC := Lib.hid hoc1
  have HR1 := Lib.hid hr1
  have HBW := Lib.hid hbw1
  clear hbl1 hr1 hbw1 hoc1
  unfold PoX at hpx
  by_cases hlong : 65536 < L.length
  · rw [if_pos hlong] at hpx
    subst hpx
    have HSP := Lib.hid (show (rRead mkObj L).2.1 = 0 ∧ (rRead mkObj L).2.2 = 5 ∧ (rRead mkObj L).1 = noV from by rw [rRead_nx, if_pos hlong]; exact ⟨rfl, rfl, rfl⟩)
    have hb4 : Below rb w (w1.alloc (.cells #[.int .i64 0, .bool false, .slice none 0 0, .int .i64 0, .string ⟨#[]⟩, .slice none 0 0, .slice none 0 0] 34)) := HBW.out.trans ((Below.refl rb w1).alloc (by omega) _)
    have hr4 := (Below.heap_alloc w1 (.cells #[.int .i64 0, .bool false, .slice none 0 0, .int .i64 0, .string ⟨#[]⟩, .slice none 0 0, .slice none 0 0] 34) rb (by omega)).trans HR1.out
    have hn4 := World.alloc_heap_new w1 (.cells #[.int .i64 0, .bool false, .slice none 0 0, .int .i64 0, .string ⟨#[]⟩, .slice none 0 0, .slice none 0 0] 34)
    have hz4 : w1.heap.size < (w1.alloc (.cells #[.int .i64 0, .bool false, .slice none 0 0, .int .i64 0, .string ⟨#[]⟩, .slice none 0 0, .slice none 0 0] 34)).heap.size := by simp
    go_upto_region 3 with fail
    generalize (w1.alloc (.cells #[.int .i64 0, .bool false, .slice none 0 0, .int .i64 0, .string ⟨#[]⟩, .slice none 0 0, .slice none 0 0] 34)) = w4 at *
    obtain ⟨y0, y1, y2, y3, y4, y5, y6⟩ := box7_of hr4
    have f0 : w4.frozen? ⟨rb, 0, none⟩ = false := by simp [World.frozen?, hr4]
    have f1 : w4.frozen? ⟨rb, 1, none⟩ = false := by simp [World.frozen?, hr4]
    have f2 : w4.frozen? ⟨rb, 2, none⟩ = false := by simp [World.frozen?, hr4]
    have f3 : w4.frozen? ⟨rb, 3, none⟩ = false := by simp [World.frozen?, hr4]
    have f4 : w4.frozen? ⟨rb, 4, none⟩ = false := by simp [World.frozen?, hr4]
    have f5 : w4.frozen? ⟨rb, 5, none⟩ = false := by simp [World.frozen?, hr4]
    have f6 : w4.frozen? ⟨rb, 6, none⟩ = false := by simp [World.frozen?, hr4]
    have hC : But (fun j => j = rb) w4 (((((((w4.setCell ⟨rb, 0, none⟩ (.int .i64 0)).setCell ⟨rb, 1, none⟩ (.bool false)).setCell ⟨rb, 2, none⟩ (.slice none 0 0)).setCell ⟨rb, 3, none⟩ (.int .i64 0)).setCell ⟨rb, 4, none⟩ (.string ⟨#[]⟩)).setCell ⟨rb, 5, none⟩ (.slice none 0 0)).setCell ⟨rb, 6, none⟩ (.slice none 0 0)) := (But.setCell (C := fun j => j = rb) (But.setCell (C := fun j => j = rb) (But.setCell (C := fun j => j = rb) (But.setCell (C := fun j => j = rb) (But.setCell (C := fun j => j = rb) (But.setCell (C := fun j => j = rb) (But.setCell (C := fun j => j = rb) (But.refl _ _) (p := ⟨rb, 0, none⟩) (.inl rfl) _) (p := ⟨rb, 1, none⟩) (.inl rfl) _) (p := ⟨rb, 2, none⟩) (.inl rfl) _) (p := ⟨rb, 3, none⟩) (.inl rfl) _) (p := ⟨rb, 4, none⟩) (.inl rfl) _) (p := ⟨rb, 5, none⟩) (.inl rfl) _) (p := ⟨rb, 6, none⟩) (.inl rfl) _)
    have hr5 : (((((((w4.setCell ⟨rb, 0, none⟩ (.int .i64 0)).setCell ⟨rb, 1, none⟩ (.bool false)).setCell ⟨rb, 2, none⟩ (.slice none 0 0)).setCell ⟨rb, 3, none⟩ (.int .i64 0)).setCell ⟨rb, 4, none⟩ (.string ⟨#[]⟩)).setCell ⟨rb, 5, none⟩ (.slice none 0 0)).setCell ⟨rb, 6, none⟩ (.slice none 0 0)).heap[rb]? = some (.cells #[.int .i64 0, .bool false, .slice none 0 0, .int .i64 0, .string ⟨#[]⟩, .slice none 0 0, .slice none 0 0] 34) := by
      have := (set_heap (i := 6) (u := .slice none 0 0) (set_heap (i := 5) (u := .slice none 0 0) (set_heap (i := 4) (u := .string ⟨#[]⟩) (set_heap (i := 3) (u := .int .i64 0) (set_heap (i := 2) (u := .slice none 0 0) (set_heap (i := 1) (u := .bool false) (set_heap (i := 0) (u := .int .i64 0) (w := w4) hr4)))))))
      simpa using this
    have HC := Lib.hid hC
    have HR5 := Lib.hid hr5
    clear hC hr5 hr4
    go_wp2_with fail
    clear y0 y1 y2 y3 y4 y5 y6
    have hC := HC.out
    have hr5 := HR5.out
    clear HC HR5
    generalize (((((((w4.setCell ⟨rb, 0, none⟩ (.int .i64 0)).setCell ⟨rb, 1, none⟩ (.bool false)).setCell ⟨rb, 2, none⟩ (.slice none 0 0)).setCell ⟨rb, 3, none⟩ (.int .i64 0)).setCell ⟨rb, 4, none⟩ (.string ⟨#[]⟩)).setCell ⟨rb, 5, none⟩ (.slice none 0 0)).setCell ⟨rb, 6, none⟩ (.slice none 0 0)) = w5 at *
    obtain ⟨y0, y1, y2, y3, y4, y5, y6⟩ := box7_of hr5
    refine bodyPost_ret (v := .tuple #[.agg #[.int .i64 0, .bool false, .slice none 0 0, .int .i64 0, .string ⟨#[]⟩, .slice none 0 0, .slice none 0 0], .int .i64 ((0 : Nat) : Int), .int .i64 ((5 : Nat) : Int)]) (by simp [results, Tryz.results13, go_sem, y0, y1, y2, y3, y4, y5, y6]) rfl ?_
    have hb5 : Below rb w w5 := hb4.trans (hC.below (by omega) (fun j hj h => by omega))
    refine ⟨⟨_, by rw [HSP.out.1, HSP.out.2.1], ?_⟩, hb5⟩
    rw [HSP.out.2.2]
    exact vin_kind _ _ 0 ⟨#[]⟩ (by show (0 : Nat) ≤ _; omega)
  · rw [if_neg hlong] at hpx
    have hrr : rRead mkObj L = _ := rRead_nx L
    rw [if_neg hlong] at hrr
    cases hN : rNext mkObj L 0 with
    | bad q x =>
      rw [hN] at hpx hrr
      obtain ⟨rfl, hx0⟩ := hpx
      have hxb : ((x : Int) == 0) = false := by rw [beq_eq_false_iff_ne]; omega
      have HSP := Lib.hid (show (rRead mkObj L).2.1 = q ∧ (rRead mkObj L).2.2 = x ∧ (rRead mkObj L).1 = noV from by rw [hrr]; exact ⟨rfl, rfl, rfl⟩)
      have hb4 : Below rb w (w1.alloc (.cells #[.int .i64 0, .bool false, .slice none 0 0, .int .i64 0, .string ⟨#[]⟩, .slice none 0 0, .slice none 0 0] 34)) := HBW.out.trans ((Below.refl rb w1).alloc (by omega) _)
      have hr4 := (Below.heap_alloc w1 (.cells #[.int .i64 0, .bool false, .slice none 0 0, .int .i64 0, .string ⟨#[]⟩, .slice none 0 0, .slice none 0 0] 34) rb (by omega)).trans HR1.out
      have hn4 := World.alloc_heap_new w1 (.cells #[.int .i64 0, .bool false, .slice none 0 0, .int .i64 0, .string ⟨#[]⟩, .slice none 0 0, .slice none 0 0] 34)
      have hz4 : w1.heap.size < (w1.alloc (.cells #[.int .i64 0, .bool false, .slice none 0 0, .int .i64 0, .string ⟨#[]⟩, .slice none 0 0, .slice none 0 0] 34)).heap.size := by simp
      go_upto_region 3 with fail
      generalize (w1.alloc (.cells #[.int .i64 0, .bool false, .slice none 0 0, .int .i64 0, .string ⟨#[]⟩, .slice none 0 0, .slice none 0 0] 34)) = w4 at *
      obtain ⟨y0, y1, y2, y3, y4, y5, y6⟩ := box7_of hr4
      have f0 : w4.frozen? ⟨rb, 0, none⟩ = false := by simp [World.frozen?, hr4]
      have f1 : w4.frozen? ⟨rb, 1, none⟩ = false := by simp [World.frozen?, hr4]
      have f2 : w4.frozen? ⟨rb, 2, none⟩ = false := by simp [World.frozen?, hr4]
      have f3 : w4.frozen? ⟨rb, 3, none⟩ = false := by simp [World.frozen?, hr4]
      have f4 : w4.frozen? ⟨rb, 4, none⟩ = false := by simp [World.frozen?, hr4]
      have f5 : w4.frozen? ⟨rb, 5, none⟩ = false := by simp [World.frozen?, hr4]
      have f6 : w4.frozen? ⟨rb, 6, none⟩ = false := by simp [World.frozen?, hr4]
      have hC : But (fun j => j = rb) w4 (((((((w4.setCell ⟨rb, 0, none⟩ (.int .i64 0)).setCell ⟨rb, 1, none⟩ (.bool false)).setCell ⟨rb, 2, none⟩ (.slice none 0 0)).setCell ⟨rb, 3, none⟩ (.int .i64 0)).setCell ⟨rb, 4, none⟩ (.string ⟨#[]⟩)).setCell ⟨rb, 5, none⟩ (.slice none 0 0)).setCell ⟨rb, 6, none⟩ (.slice none 0 0)) := (But.setCell (C := fun j => j = rb) (But.setCell (C := fun j => j = rb) (But.setCell (C := fun j => j = rb) (But.setCell (C := fun j => j = rb) (But.setCell (C := fun j => j = rb) (But.setCell (C := fun j => j = rb) (But.setCell (C := fun j => j = rb) (But.refl _ _) (p := ⟨rb, 0, none⟩) (.inl rfl) _) (p := ⟨rb, 1, none⟩) (.inl rfl) _) (p := ⟨rb, 2, none⟩) (.inl rfl) _) (p := ⟨rb, 3, none⟩) (.inl rfl) _) (p := ⟨rb, 4, none⟩) (.inl rfl) _) (p := ⟨rb, 5, none⟩) (.inl rfl) _) (p := ⟨rb, 6, none⟩) (.inl rfl) _)
      have hr5 : (((((((w4.setCell ⟨rb, 0, none⟩ (.int .i64 0)).setCell ⟨rb, 1, none⟩ (.bool false)).setCell ⟨rb, 2, none⟩ (.slice none 0 0)).setCell ⟨rb, 3, none⟩ (.int .i64 0)).setCell ⟨rb, 4, none⟩ (.string ⟨#[]⟩)).setCell ⟨rb, 5, none⟩ (.slice none 0 0)).setCell ⟨rb, 6, none⟩ (.slice none 0 0)).heap[rb]? = some (.cells #[.int .i64 0, .bool false, .slice none 0 0, .int .i64 0, .string ⟨#[]⟩, .slice none 0 0, .slice none 0 0] 34) := by
        have := (set_heap (i := 6) (u := .slice none 0 0) (set_heap (i := 5) (u := .slice none 0 0) (set_heap (i := 4) (u := .string ⟨#[]⟩) (set_heap (i := 3) (u := .int .i64 0) (set_heap (i := 2) (u := .slice none 0 0) (set_heap (i := 1) (u := .bool false) (set_heap (i := 0) (u := .int .i64 0) (w := w4) hr4)))))))
        simpa using this
      have HC := Lib.hid hC
      have HR5 := Lib.hid hr5
      clear hC hr5 hr4
      go_wp2_with fail
      clear y0 y1 y2 y3 y4 y5 y6
      have hC := HC.out
      have hr5 := HR5.out
      clear HC HR5
      generalize (((((((w4.setCell ⟨rb, 0, none⟩ (.int .i64 0)).setCell ⟨rb, 1, none⟩ (.bool false)).setCell ⟨rb, 2, none⟩ (.slice none 0 0)).setCell ⟨rb, 3, none⟩ (.int .i64 0)).setCell ⟨rb, 4, none⟩ (.string ⟨#[]⟩)).setCell ⟨rb, 5, none⟩ (.slice none 0 0)).setCell ⟨rb, 6, none⟩ (.slice none 0 0)) = w5 at *
      obtain ⟨y0, y1, y2, y3, y4, y5, y6⟩ := box7_of hr5
      refine bodyPost_ret (v := .tuple #[.agg #[.int .i64 0, .bool false, .slice none 0 0, .int .i64 0, .string ⟨#[]⟩, .slice none 0 0, .slice none 0 0], .int .i64 ((q : Nat) : Int), .int .i64 ((x : Nat) : Int)]) (by simp [results, Tryz.results13, go_sem, y0, y1, y2, y3, y4, y5, y6]) rfl ?_
      have hb5 : Below rb w w5 := hb4.trans (hC.below (by omega) (fun j hj h => by omega))
      refine ⟨⟨_, by rw [HSP.out.1, HSP.out.2.1], ?_⟩, hb5⟩
      rw [HSP.out.2.2]
      exact vin_kind _ _ 0 ⟨#[]⟩ (by show (0 : Nat) ≤ _; omega)
    | ok o q =>
      cases o with
      | none =>
        rw [hN] at hpx hrr
        subst hpx
        have HSP := Lib.hid (show (rRead mkObj L).2.1 = L.length ∧ (rRead mkObj L).2.2 = 8 ∧ (rRead mkObj L).1 = noV from by rw [hrr]; exact ⟨rfl, rfl, rfl⟩)
        have hb4 : Below rb w (w1.alloc (.cells #[.int .i64 0, .bool false, .slice none 0 0, .int .i64 0, .string ⟨#[]⟩, .slice none 0 0, .slice none 0 0] 34)) := HBW.out.trans ((Below.refl rb w1).alloc (by omega) _)
        have hr4 := (Below.heap_alloc w1 (.cells #[.int .i64 0, .bool false, .slice none 0 0, .int .i64 0, .string ⟨#[]⟩, .slice none 0 0, .slice none 0 0] 34) rb (by omega)).trans HR1.out
        have hn4 := World.alloc_heap_new w1 (.cells #[.int .i64 0, .bool false, .slice none 0 0, .int .i64 0, .string ⟨#[]⟩, .slice none 0 0, .slice none 0 0] 34)
        have hz4 : w1.heap.size < (w1.alloc (.cells #[.int .i64 0, .bool false, .slice none 0 0, .int .i64 0, .string ⟨#[]⟩, .slice none 0 0, .slice none 0 0] 34)).heap.size := by simp
        go_upto_region 5 with fail
        generalize (w1.alloc (.cells #[.int .i64 0, .bool false, .slice none 0 0, .int .i64 0, .string ⟨#[]⟩, .slice none 0 0, .slice none 0 0] 34)) = w4 at *
        obtain ⟨y0, y1, y2, y3, y4, y5, y6⟩ := box7_of hr4
        have f0 : w4.frozen? ⟨rb, 0, none⟩ = false := by simp [World.frozen?, hr4]
        have f1 : w4.frozen? ⟨rb, 1, none⟩ = false := by simp [World.frozen?, hr4]
        have f2 : w4.frozen? ⟨rb, 2, none⟩ = false := by simp [World.frozen?, hr4]
        have f3 : w4.frozen? ⟨rb, 3, none⟩ = false := by simp [World.frozen?, hr4]
        have f4 : w4.frozen? ⟨rb, 4, none⟩ = false := by simp [World.frozen?, hr4]
        have f5 : w4.frozen? ⟨rb, 5, none⟩ = false := by simp [World.frozen?, hr4]
        have f6 : w4.frozen? ⟨rb, 6, none⟩ = false := by simp [World.frozen?, hr4]
        have hC : But (fun j => j = rb) w4 (((((((w4.setCell ⟨rb, 0, none⟩ (.int .i64 0)).setCell ⟨rb, 1, none⟩ (.bool false)).setCell ⟨rb, 2, none⟩ (.slice none 0 0)).setCell ⟨rb, 3, none⟩ (.int .i64 0)).setCell ⟨rb, 4, none⟩ (.string ⟨#[]⟩)).setCell ⟨rb, 5, none⟩ (.slice none 0 0)).setCell ⟨rb, 6, none⟩ (.slice none 0 0)) := (But.setCell (C := fun j => j = rb) (But.setCell (C := fun j => j = rb) (But.setCell (C := fun j => j = rb) (But.setCell (C := fun j => j = rb) (But.setCell (C := fun j => j = rb) (But.setCell (C := fun j => j = rb) (But.setCell (C := fun j => j = rb) (But.refl _ _) (p := ⟨rb, 0, none⟩) (.inl rfl) _) (p := ⟨rb, 1, none⟩) (.inl rfl) _) (p := ⟨rb, 2, none⟩) (.inl rfl) _) (p := ⟨rb, 3, none⟩) (.inl rfl) _) (p := ⟨rb, 4, none⟩) (.inl rfl) _) (p := ⟨rb, 5, none⟩) (.inl rfl) _) (p := ⟨rb, 6, none⟩) (.inl rfl) _)
        have hr5 : (((((((w4.setCell ⟨rb, 0, none⟩ (.int .i64 0)).setCell ⟨rb, 1, none⟩ (.bool false)).setCell ⟨rb, 2, none⟩ (.slice none 0 0)).setCell ⟨rb, 3, none⟩ (.int .i64 0)).setCell ⟨rb, 4, none⟩ (.string ⟨#[]⟩)).setCell ⟨rb, 5, none⟩ (.slice none 0 0)).setCell ⟨rb, 6, none⟩ (.slice none 0 0)).heap[rb]? = some (.cells #[.int .i64 0, .bool false, .slice none 0 0, .int .i64 0, .string ⟨#[]⟩, .slice none 0 0, .slice none 0 0] 34) := by
          have := (set_heap (i := 6) (u := .slice none 0 0) (set_heap (i := 5) (u := .slice none 0 0) (set_heap (i := 4) (u := .string ⟨#[]⟩) (set_heap (i := 3) (u := .int .i64 0) (set_heap (i := 2) (u := .slice none 0 0) (set_heap (i := 1) (u := .bool false) (set_heap (i := 0) (u := .int .i64 0) (w := w4) hr4)))))))
          simpa using this
        have HC := Lib.hid hC
        have HR5 := Lib.hid hr5
        clear hC hr5 hr4
        go_wp2_with fail
        clear y0 y1 y2 y3 y4 y5 y6
        have hC := HC.out
        have hr5 := HR5.out
        clear HC HR5
        generalize (((((((w4.setCell ⟨rb, 0, none⟩ (.int .i64 0)).setCell ⟨rb, 1, none⟩ (.bool false)).setCell ⟨rb, 2, none⟩ (.slice none 0 0)).setCell ⟨rb, 3, none⟩ (.int .i64 0)).setCell ⟨rb, 4, none⟩ (.string ⟨#[]⟩)).setCell ⟨rb, 5, none⟩ (.slice none 0 0)).setCell ⟨rb, 6, none⟩ (.slice none 0 0)) = w5 at *
        obtain ⟨y0, y1, y2, y3, y4, y5, y6⟩ := box7_of hr5
        refine bodyPost_ret (v := .tuple #[.agg #[.int .i64 0, .bool false, .slice none 0 0, .int .i64 0, .string ⟨#[]⟩, .slice none 0 0, .slice none 0 0], .int .i64 ((L.length : Nat) : Int), .int .i64 ((8 : Nat) : Int)]) (by simp [results, Tryz.results13, go_sem, y0, y1, y2, y3, y4, y5, y6]) rfl ?_
        have hb5 : Below rb w w5 := hb4.trans (hC.below (by omega) (fun j hj h => by omega))
        refine ⟨⟨_, by rw [HSP.out.1, HSP.out.2.1], ?_⟩, hb5⟩
        rw [HSP.out.2.2]
        exact vin_kind _ _ 0 ⟨#[]⟩ (by show (0 : Nat) ≤ _; omega)
      | some v =>
        rw [hN] at hpx hrr
        obtain ⟨cs, rfl, hvi, hql⟩ := hpx
        obtain ⟨k1, neg1, xs1, e1, t1, li1, ks1, hak⟩ : ∃ k neg xs e t li ks, v = VT.mk k neg xs e t li ks := by cases v; exact ⟨_, _, _, _, _, _, _, rfl⟩
        have hvb := hvi
        rw [hak] at hvb
        obtain ⟨A1, n1, c1, LA1, ln1, lc1, KA1, kn1, kc1, rfl, -⟩ := hvb.parts
        have hrr : rRead mkObj L = (if wsE L q < L.length then (noV, wsE L q, 22) else (v, L.length, 0)) := hrr
        by_cases hlen2 : 65536 < L.length
        · exact absurd hlen2 hlong
        have hl3 : L.length ≤ 65536 := by omega
        have HVI := Lib.hid hvi
        clear hvb hak hvi
        have hb4 : Below rb w (w1.alloc (.cells #[.int .i64 k1, .bool neg1, .slice A1 n1 c1, .int .i64 e1, .string t1, .slice LA1 ln1 lc1, .slice KA1 kn1 kc1] 34)) := HBW.out.trans ((Below.refl rb w1).alloc (by omega) _)
        have hr4 := (Below.heap_alloc w1 (.cells #[.int .i64 k1, .bool neg1, .slice A1 n1 c1, .int .i64 e1, .string t1, .slice LA1 ln1 lc1, .slice KA1 kn1 kc1] 34) rb (by omega)).trans HR1.out
        have hn4 := World.alloc_heap_new w1 (.cells #[.int .i64 k1, .bool neg1, .slice A1 n1 c1, .int .i64 e1, .string t1, .slice LA1 ln1 lc1, .slice KA1 kn1 kc1] 34)
        have hz4 : w1.heap.size < (w1.alloc (.cells #[.int .i64 k1, .bool neg1, .slice A1 n1 c1, .int .i64 e1, .string t1, .slice LA1 ln1 lc1, .slice KA1 kn1 kc1] 34)).heap.size := by simp
        have hvi4 := HVI.out.keep (w' := (w1.alloc (.cells #[.int .i64 k1, .bool neg1, .slice A1 n1 c1, .int .i64 e1, .string t1, .slice LA1 ln1 lc1, .slice KA1 kn1 kc1] 34))) (fun p hp => ((But.refl (fun _ => False) w1).alloc _).cell hp.2 (fun h => h))
        have hsp4 := fun V (h : V = (w1.alloc (.cells #[.int .i64 k1, .bool neg1, .slice A1 n1 c1, .int .i64 e1, .string t1, .slice LA1 ln1 lc1, .slice KA1 kn1 kc1] 34))) => Space_c (c := c) (w := V) (B := rb) (p := q) (h ▸ HOC.out _ ((Below.refl _ _).alloc (by omega) _)) hl3 hql
        go_upto_region 6 with fail
        generalize hw4e : (w1.alloc (.cells #[.int .i64 k1, .bool neg1, .slice A1 n1 c1, .int .i64 e1, .string t1, .slice LA1 ln1 lc1, .slice KA1 kn1 kc1] 34)) = w4 at *
        have hsp5 := hsp4 w4 rfl
        obtain ⟨P, hP⟩ : ∃ P, wsE L q = P := ⟨_, rfl⟩
        rw [hP] at hsp5 hrr
        have HSP5 := Lib.hid hsp5
        have HVI4 := Lib.hid hvi4
        clear hsp4 hsp5 hvi4 hw4e hP
        by_cases hPL : P < L.length
        · rw [if_pos hPL] at hrr
          have HSP := Lib.hid (show (rRead mkObj L).2.1 = P ∧ (rRead mkObj L).2.2 = 22 ∧ (rRead mkObj L).1 = noV from by rw [hrr]; exact ⟨rfl, rfl, rfl⟩)
          have hpl2 : (P : Int) < (L.length : Int) := by omega
          go_wp2_with fail
          refine HSP5.out.mono ?_
          rintro e' w6 ⟨rfl, hw6⟩
          rw [hw6]
          go_upto_region 8 with fail
          obtain ⟨y0, y1, y2, y3, y4, y5, y6⟩ := box7_of hr4
          have f0 : w4.frozen? ⟨rb, 0, none⟩ = false := by simp [World.frozen?, hr4]
          have f1 : w4.frozen? ⟨rb, 1, none⟩ = false := by simp [World.frozen?, hr4]
          have f2 : w4.frozen? ⟨rb, 2, none⟩ = false := by simp [World.frozen?, hr4]
          have f3 : w4.frozen? ⟨rb, 3, none⟩ = false := by simp [World.frozen?, hr4]
          have f4 : w4.frozen? ⟨rb, 4, none⟩ = false := by simp [World.frozen?, hr4]
          have f5 : w4.frozen? ⟨rb, 5, none⟩ = false := by simp [World.frozen?, hr4]
          have f6 : w4.frozen? ⟨rb, 6, none⟩ = false := by simp [World.frozen?, hr4]
          have hC : But (fun j => j = rb) w4 (((((((w4.setCell ⟨rb, 0, none⟩ (.int .i64 0)).setCell ⟨rb, 1, none⟩ (.bool false)).setCell ⟨rb, 2, none⟩ (.slice none 0 0)).setCell ⟨rb, 3, none⟩ (.int .i64 0)).setCell ⟨rb, 4, none⟩ (.string ⟨#[]⟩)).setCell ⟨rb, 5, none⟩ (.slice none 0 0)).setCell ⟨rb, 6, none⟩ (.slice none 0 0)) := (But.setCell (C := fun j => j = rb) (But.setCell (C := fun j => j = rb) (But.setCell (C := fun j => j = rb) (But.setCell (C := fun j => j = rb) (But.setCell (C := fun j => j = rb) (But.setCell (C := fun j => j = rb) (But.setCell (C := fun j => j = rb) (But.refl _ _) (p := ⟨rb, 0, none⟩) (.inl rfl) _) (p := ⟨rb, 1, none⟩) (.inl rfl) _) (p := ⟨rb, 2, none⟩) (.inl rfl) _) (p := ⟨rb, 3, none⟩) (.inl rfl) _) (p := ⟨rb, 4, none⟩) (.inl rfl) _) (p := ⟨rb, 5, none⟩) (.inl rfl) _) (p := ⟨rb, 6, none⟩) (.inl rfl) _)
          have hr5 : (((((((w4.setCell ⟨rb, 0, none⟩ (.int .i64 0)).setCell ⟨rb, 1, none⟩ (.bool false)).setCell ⟨rb, 2, none⟩ (.slice none 0 0)).setCell ⟨rb, 3, none⟩ (.int .i64 0)).setCell ⟨rb, 4, none⟩ (.string ⟨#[]⟩)).setCell ⟨rb, 5, none⟩ (.slice none 0 0)).setCell ⟨rb, 6, none⟩ (.slice none 0 0)).heap[rb]? = some (.cells #[.int .i64 0, .bool false, .slice none 0 0, .int .i64 0, .string ⟨#[]⟩, .slice none 0 0, .slice none 0 0] 34) := by
            have := (set_heap (i := 6) (u := .slice none 0 0) (set_heap (i := 5) (u := .slice none 0 0) (set_heap (i := 4) (u := .string ⟨#[]⟩) (set_heap (i := 3) (u := .int .i64 0) (set_heap (i := 2) (u := .slice none 0 0) (set_heap (i := 1) (u := .bool false) (set_heap (i := 0) (u := .int .i64 0) (w := w4) hr4)))))))
            simpa using this
          have HC := Lib.hid hC
          have HR5 := Lib.hid hr5
          clear hC hr5 hr4
          go_wp2_with fail
          clear y0 y1 y2 y3 y4 y5 y6
          have hC := HC.out
          have hr5 := HR5.out
          clear HC HR5
          generalize (((((((w4.setCell ⟨rb, 0, none⟩ (.int .i64 0)).setCell ⟨rb, 1, none⟩ (.bool false)).setCell ⟨rb, 2, none⟩ (.slice none 0 0)).setCell ⟨rb, 3, none⟩ (.int .i64 0)).setCell ⟨rb, 4, none⟩ (.string ⟨#[]⟩)).setCell ⟨rb, 5, none⟩ (.slice none 0 0)).setCell ⟨rb, 6, none⟩ (.slice none 0 0)) = w5 at *
          obtain ⟨y0, y1, y2, y3, y4, y5, y6⟩ := box7_of hr5
          refine bodyPost_ret (v := .tuple #[.agg #[.int .i64 0, .bool false, .slice none 0 0, .int .i64 0, .string ⟨#[]⟩, .slice none 0 0, .slice none 0 0], .int .i64 ((P : Nat) : Int), .int .i64 ((22 : Nat) : Int)]) (by simp [results, Tryz.results13, go_sem, y0, y1, y2, y3, y4, y5, y6]) rfl ?_
          have hb5 : Below rb w w5 := hb4.trans (hC.below (by omega) (fun j hj h => by omega))
          refine ⟨⟨_, by rw [HSP.out.1, HSP.out.2.1], ?_⟩, hb5⟩
          rw [HSP.out.2.2]
          exact vin_kind _ _ 0 ⟨#[]⟩ (by show (0 : Nat) ≤ _; omega)
        · rw [if_neg hPL] at hrr
          have HSP := Lib.hid (show (rRead mkObj L).2.1 = L.length ∧ (rRead mkObj L).2.2 = 0 ∧ (rRead mkObj L).1 = v from by rw [hrr]; exact ⟨rfl, rfl, rfl⟩)
          have hpl2 : ¬ (P : Int) < (L.length : Int) := by omega
          go_wp2_with fail
          refine HSP5.out.mono ?_
          rintro e' w6 ⟨rfl, hw6⟩
          rw [hw6]
          go_upto_region 9 with fail
          obtain ⟨d0, d1, d2, d3, d4, d5, d6⟩ := box7_of hn4
          have hz9 : rb < w4.heap.size := by omega
          obtain ⟨y0, y1, y2, y3, y4, y5, y6⟩ := box7_of hr4
          have f0 : w4.frozen? ⟨rb, 0, none⟩ = false := by simp [World.frozen?, hr4]
          have f1 : w4.frozen? ⟨rb, 1, none⟩ = false := by simp [World.frozen?, hr4]
          have f2 : w4.frozen? ⟨rb, 2, none⟩ = false := by simp [World.frozen?, hr4]
          have f3 : w4.frozen? ⟨rb, 3, none⟩ = false := by simp [World.frozen?, hr4]
          have f4 : w4.frozen? ⟨rb, 4, none⟩ = false := by simp [World.frozen?, hr4]
          have f5 : w4.frozen? ⟨rb, 5, none⟩ = false := by simp [World.frozen?, hr4]
          have f6 : w4.frozen? ⟨rb, 6, none⟩ = false := by simp [World.frozen?, hr4]
          have hC : But (fun j => j = rb) w4 (((((((w4.setCell ⟨rb, 0, none⟩ (.int .i64 k1)).setCell ⟨rb, 1, none⟩ (.bool neg1)).setCell ⟨rb, 2, none⟩ (.slice A1 n1 c1)).setCell ⟨rb, 3, none⟩ (.int .i64 e1)).setCell ⟨rb, 4, none⟩ (.string t1)).setCell ⟨rb, 5, none⟩ (.slice LA1 ln1 lc1)).setCell ⟨rb, 6, none⟩ (.slice KA1 kn1 kc1)) := (But.setCell (C := fun j => j = rb) (But.setCell (C := fun j => j = rb) (But.setCell (C := fun j => j = rb) (But.setCell (C := fun j => j = rb) (But.setCell (C := fun j => j = rb) (But.setCell (C := fun j => j = rb) (But.setCell (C := fun j => j = rb) (But.refl _ _) (p := ⟨rb, 0, none⟩) (.inl rfl) _) (p := ⟨rb, 1, none⟩) (.inl rfl) _) (p := ⟨rb, 2, none⟩) (.inl rfl) _) (p := ⟨rb, 3, none⟩) (.inl rfl) _) (p := ⟨rb, 4, none⟩) (.inl rfl) _) (p := ⟨rb, 5, none⟩) (.inl rfl) _) (p := ⟨rb, 6, none⟩) (.inl rfl) _)
          have hr5 : (((((((w4.setCell ⟨rb, 0, none⟩ (.int .i64 k1)).setCell ⟨rb, 1, none⟩ (.bool neg1)).setCell ⟨rb, 2, none⟩ (.slice A1 n1 c1)).setCell ⟨rb, 3, none⟩ (.int .i64 e1)).setCell ⟨rb, 4, none⟩ (.string t1)).setCell ⟨rb, 5, none⟩ (.slice LA1 ln1 lc1)).setCell ⟨rb, 6, none⟩ (.slice KA1 kn1 kc1)).heap[rb]? = some (.cells #[.int .i64 k1, .bool neg1, .slice A1 n1 c1, .int .i64 e1, .string t1, .slice LA1 ln1 lc1, .slice KA1 kn1 kc1] 34) := by
            have := (set_heap (i := 6) (u := .slice KA1 kn1 kc1) (set_heap (i := 5) (u := .slice LA1 ln1 lc1) (set_heap (i := 4) (u := .string t1) (set_heap (i := 3) (u := .int .i64 e1) (set_heap (i := 2) (u := .slice A1 n1 c1) (set_heap (i := 1) (u := .bool neg1) (set_heap (i := 0) (u := .int .i64 k1) (w := w4) hr4)))))))
            simpa using this
          have HC := Lib.hid hC
          have HR5 := Lib.hid hr5
          clear hC hr5 hr4
          go_wp2_with fail
          clear y0 y1 y2 y3 y4 y5 y6
          have hC := HC.out
          have hr5 := HR5.out
          clear HC HR5
          generalize (((((((w4.setCell ⟨rb, 0, none⟩ (.int .i64 k1)).setCell ⟨rb, 1, none⟩ (.bool neg1)).setCell ⟨rb, 2, none⟩ (.slice A1 n1 c1)).setCell ⟨rb, 3, none⟩ (.int .i64 e1)).setCell ⟨rb, 4, none⟩ (.string t1)).setCell ⟨rb, 5, none⟩ (.slice LA1 ln1 lc1)).setCell ⟨rb, 6, none⟩ (.slice KA1 kn1 kc1)) = w5 at *
          obtain ⟨y0, y1, y2, y3, y4, y5, y6⟩ := box7_of hr5
          refine bodyPost_ret (v := .tuple #[.agg #[.int .i64 k1, .bool neg1, .slice A1 n1 c1, .int .i64 e1, .string t1, .slice LA1 ln1 lc1, .slice KA1 kn1 kc1], .int .i64 ((L.length : Nat) : Int), .int .i64 ((0 : Nat) : Int)]) (by simp [results, Tryz.results13, go_sem, y0, y1, y2, y3, y4, y5, y6]) rfl ?_
          have hb5 : Below rb w w5 := hb4.trans (hC.below (by omega) (fun j hj h => by omega))
          refine ⟨⟨_, by rw [HSP.out.1, HSP.out.2.1], ?_⟩, hb5⟩
          rw [HSP.out.2.2]
          exact (HVI4.out.keep fun p hp => hC.cell (by have := hp.2; omega) (fun h => by have := hp.1; omega)).more fun b hb => ⟨by have := hb.1; omega, by have := hb.2; have := hC.size; omega⟩
end Go.Proofs.YtpjllcengnolkaaGreatDoor
