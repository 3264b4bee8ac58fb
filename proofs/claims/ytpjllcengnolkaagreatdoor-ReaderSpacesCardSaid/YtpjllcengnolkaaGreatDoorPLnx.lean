/-
  Contract of reader.Next.
-/
import Derived.Test.YtpjllcengnolkaaGreatDoorPLcu
set_option linter.unusedVariables false
set_option linter.unusedSimpArgs false
namespace Go.Proofs.YtpjllcengnolkaaGreatDoor
open Go.RowKit Go.Lib
variable {L : List UInt8} {A : Option Addr} {c : Nat}

abbrev zv : Value := .agg #[.int .i64 0, .bool false, .slice none 0 0, .int .i64 0, .string ⟨#[]⟩, .slice none 0 0, .slice none 0 0]
theorem drewHeap (w : World) (k : Nat) : w.drew.heap[k]? = w.heap[k]? := rfl
/-- What Next comes to. -/
def PoX (L : List UInt8) (N : Nat) (p : Nat) (e : Ending) (w' : World) : Prop :=
  if 65536 < L.length then e = .returned (.tuple #[zv, .int .i64 0, .bool false, .int .i64 5]) else
  match rNext mkObj L p with
  | .ok none _ => e = .returned (.tuple #[zv, .int .i64 0, .bool false, .int .i64 0])
  | .ok (some v) q => ∃ cs : List Value, e = .returned (.tuple #[.agg cs.toArray, .int .i64 (q : Int), .bool true, .int .i64 0]) ∧ VIn w' (fun b => N ≤ b ∧ b < w'.heap.size) v cs ∧ q ≤ L.length
  | .bad q x => e = .returned (.tuple #[zv, .int .i64 (q : Int), .bool false, .int .i64 (x : Int)]) ∧ x ≠ 0
set_option maxRecDepth 100000 in
set_option maxHeartbeats 4000000 in
theorem Next_c (hv : ValC 64) {w : World} {p : Nat} (ho : Oct w.heap.size L A w) (hT : Tabs w) (hcap : L.length ≤ c) (hlen : L.length ≤ 140737488355328) (hp : p ≤ L.length) :
    Calls Tryz.prog 17 #[.slice A L.length c, .int .i64 (p : Int)] w fun e w' => PoX L w.heap.size p e w' ∧ Below w.heap.size w w' := by
  have hmf : ∀ (fn : Fn) (first cap : Array Value) (w : World), (Instr.makeFunc fn first cap).run Tryz.prog w = .ok (.func fn first cap) w := fun _ _ _ _ => rfl
  obtain ⟨rb, hrb⟩ : ∃ b, w.heap.size = b := ⟨_, rfl⟩
  have hb0 := (But.refl (fun _ => False) w).alloc (.cells #[.int .i64 0, .bool false, .slice none 0 0, .int .i64 0, .string ⟨#[]⟩, .slice none 0 0, .slice none 0 0] 34)
  have hr0 := World.alloc_heap_new w (.cells #[.int .i64 0, .bool false, .slice none 0 0, .int .i64 0, .string ⟨#[]⟩, .slice none 0 0, .slice none 0 0] 34)
  have hs0 : (w.alloc (.cells #[.int .i64 0, .bool false, .slice none 0 0, .int .i64 0, .string ⟨#[]⟩, .slice none 0 0, .slice none 0 0] 34)).heap.size = rb + 1 := by rw [World.size_alloc, hrb]
  rw [hrb] at hr0
  have HB0 := Lib.hid hb0
  have HR0 := Lib.hid hr0
  have HS0 := Lib.hid hs0
  have HO := Lib.hid ho
  have HT := Lib.hid hT
  have HRB := Lib.hid hrb
  have hp0 : ¬ (p : Int) < 0 := by omega
  have hp1 : ¬ (L.length : Int) < (p : Int) := by omega
  clear hb0 hr0 hs0 ho hT
  by_cases hlong : 65536 < L.length
  · have hl2 : (65536 : Int) < (L.length : Int) := by omega
    have hq : ∀ e w', e = .returned (.tuple #[zv, .int .i64 0, .bool false, .int .i64 5]) → PoX L rb p e w' := fun e w' h => by unfold PoX; rw [if_pos hlong]; exact h
    have HQ := Lib.hid hq
    clear hlong hq
    go_enter Tryz.func17, Tryz.ntmps17
    go_wp2_with fail
    have hbl : Below rb w (w.alloc (.cells #[.int .i64 0, .bool false, .slice none 0 0, .int .i64 0, .string ⟨#[]⟩, .slice none 0 0, .slice none 0 0] 34)) := (Below.refl _ _).alloc (by omega) _
    generalize (w.alloc (.cells #[.int .i64 0, .bool false, .slice none 0 0, .int .i64 0, .string ⟨#[]⟩, .slice none 0 0, .slice none 0 0] 34)) = w1 at *
    obtain ⟨x0, x1, x2, x3, x4, x5, x6⟩ := box7_of HR0.out
    refine bodyPost_ret (v := .tuple #[zv, .int .i64 0, .bool false, .int .i64 5]) (by simp [results, Tryz.results17, go_sem, x0, x1, x2, x3, x4, x5, x6]) rfl ?_
    exact ⟨HQ.out _ _ rfl, hbl⟩
  · have hl2 : ¬ (65536 : Int) < (L.length : Int) := by omega
    have hq : ∀ e w', (match rNext mkObj L p with
      | .ok none _ => e = .returned (.tuple #[zv, .int .i64 0, .bool false, .int .i64 0])
      | .ok (some v) q => ∃ cs : List Value, e = .returned (.tuple #[.agg cs.toArray, .int .i64 (q : Int), .bool true, .int .i64 0]) ∧ VIn w' (fun b => rb ≤ b ∧ b < w'.heap.size) v cs ∧ q ≤ L.length
      | .bad q x => e = .returned (.tuple #[zv, .int .i64 (q : Int), .bool false, .int .i64 (x : Int)]) ∧ x ≠ 0) → PoX L rb p e w' := fun e w' h => by unfold PoX; rw [if_neg hlong]; exact h
    have HQ := Lib.hid hq
    have hl3 : L.length ≤ 65536 := by omega
    have hsp := fun V (h : But (fun _ => False) w V) => Space_c (c := c) (w := V) (B := w.heap.size) (p := p) (fun k x hk => by
      obtain ⟨g, off, e1, e2, e3⟩ := HO.out k x hk
      exact ⟨g, off, e1, e2, h.cell_some e3 (fun h => h)⟩) hl3 hp
    have hwl := wsE_le hp
    have hnx : rNext mkObj L p = if wsE L p = L.length then .ok none L.length else (rValue mkObj 64 1 L (wsE L p)).bind fun v q => .ok (some v) q := rfl
    obtain ⟨P, hP⟩ : ∃ P, wsE L p = P := ⟨_, rfl⟩
    rw [hP] at hsp hwl hnx
    have HSP := Lib.hid hsp
    have HNX := Lib.hid hnx
    clear hsp hq hlong hP hnx
    by_cases hend : P = L.length
    · subst hend
      have hnx := HNX.out
      rw [if_pos rfl] at hnx
      have HNX := Lib.hid hnx
      clear hnx
      go_enter Tryz.func17, Tryz.ntmps17
      go_wp2_with fail
      refine (HSP.out _ ((But.refl _ _).alloc _)).mono ?_
      rintro e' w2 ⟨rfl, hw2⟩
      rw [hw2]
      go_wp2_with fail
      have hbl : Below rb w ((w.alloc (.cells #[.int .i64 0, .bool false, .slice none 0 0, .int .i64 0, .string ⟨#[]⟩, .slice none 0 0, .slice none 0 0] 34)).alloc (.cells #[.slice A L.length c, .int .i64 (L.length : Int), .int .i64 0] 57)) := ((Below.refl _ _).alloc (by omega) _).alloc (by simp; omega) _
      have hrx := (Below.heap_alloc (w.alloc (.cells #[.int .i64 0, .bool false, .slice none 0 0, .int .i64 0, .string ⟨#[]⟩, .slice none 0 0, .slice none 0 0] 34)) (.cells #[.slice A L.length c, .int .i64 (L.length : Int), .int .i64 0] 57) rb (by have := HS0.out; omega)).trans HR0.out
      generalize ((w.alloc (.cells #[.int .i64 0, .bool false, .slice none 0 0, .int .i64 0, .string ⟨#[]⟩, .slice none 0 0, .slice none 0 0] 34)).alloc (.cells #[.slice A L.length c, .int .i64 (L.length : Int), .int .i64 0] 57)) = w3 at *
      obtain ⟨x0, x1, x2, x3, x4, x5, x6⟩ := box7_of hrx
      refine bodyPost_ret (v := .tuple #[zv, .int .i64 0, .bool false, .int .i64 0]) (by simp [results, Tryz.results17, go_sem, x0, x1, x2, x3, x4, x5, x6]) rfl ?_
      first | exact ⟨HQ.out _ w3 (by rw [HNX.out]; rfl), hbl⟩ | (rw [hrb]; exact ⟨HQ.out _ w3 (by rw [HNX.out]; rfl), hbl⟩)
    · have hnx := HNX.out
      rw [if_neg hend] at hnx
      have HNX := Lib.hid hnx
      clear hnx
      have hpe : ((P : Int) == (L.length : Int)) = false := by rw [beq_eq_false_iff_ne]; omega
      have hb1 := HB0.out.alloc (.cells #[.slice A L.length c, .int .i64 (P : Int), .int .i64 0] 57)
      have hr1 := (Below.heap_alloc (w.alloc (.cells #[.int .i64 0, .bool false, .slice none 0 0, .int .i64 0, .string ⟨#[]⟩, .slice none 0 0, .slice none 0 0] 34)) (.cells #[.slice A L.length c, .int .i64 (P : Int), .int .i64 0] 57) rb (by have := HS0.out; omega)).trans HR0.out
      have hx1 := World.alloc_heap_new (w.alloc (.cells #[.int .i64 0, .bool false, .slice none 0 0, .int .i64 0, .string ⟨#[]⟩, .slice none 0 0, .slice none 0 0] 34)) (.cells #[.slice A L.length c, .int .i64 (P : Int), .int .i64 0] 57)
      have hs1 : ((w.alloc (.cells #[.int .i64 0, .bool false, .slice none 0 0, .int .i64 0, .string ⟨#[]⟩, .slice none 0 0, .slice none 0 0] 34)).alloc (.cells #[.slice A L.length c, .int .i64 (P : Int), .int .i64 0] 57)).heap.size = rb + 2 := by rw [World.size_alloc, HS0.out]
      rw [HS0.out] at hx1
      have HB1 := Lib.hid hb1
      have HR1 := Lib.hid hr1
      have HX1 := Lib.hid hx1
      have HS1 := Lib.hid hs1
      clear hb1 hr1 hx1 hs1
      go_enter Tryz.func17, Tryz.ntmps17
      go_wp2_with fail
      refine (HSP.out _ ((But.refl _ _).alloc _)).mono ?_
      rintro e' w2 ⟨rfl, hw2⟩
      rw [hw2]
      go_upto_region 8 with fail
      try rw [HS0.out]
      clear hw2
      generalize ((w.alloc (.cells #[.int .i64 0, .bool false, .slice none 0 0, .int .i64 0, .string ⟨#[]⟩, .slice none 0 0, .slice none 0 0] 34)).alloc (.cells #[.slice A L.length c, .int .i64 (P : Int), .int .i64 0] 57)) = w1 at *
      have hb2 := HB1.out.alloc (.cells #[.int .i64 0, .bool false, .slice none 0 0, .int .i64 0, .string ⟨#[]⟩, .slice none 0 0, .slice none 0 0] 34)
      have hr2 := (Below.heap_alloc w1 (.cells #[.int .i64 0, .bool false, .slice none 0 0, .int .i64 0, .string ⟨#[]⟩, .slice none 0 0, .slice none 0 0] 34) rb (by have := HS1.out; omega)).trans HR1.out
      have hx2 := (Below.heap_alloc w1 (.cells #[.int .i64 0, .bool false, .slice none 0 0, .int .i64 0, .string ⟨#[]⟩, .slice none 0 0, .slice none 0 0] 34) (rb + 1) (by have := HS1.out; omega)).trans HX1.out
      have ho2 := World.alloc_heap_new w1 (.cells #[.int .i64 0, .bool false, .slice none 0 0, .int .i64 0, .string ⟨#[]⟩, .slice none 0 0, .slice none 0 0] 34)
      have hs2 : (w1.alloc (.cells #[.int .i64 0, .bool false, .slice none 0 0, .int .i64 0, .string ⟨#[]⟩, .slice none 0 0, .slice none 0 0] 34)).heap.size = rb + 3 := by rw [World.size_alloc, HS1.out]
      rw [HS1.out] at ho2
      have hs1 := HS1.out
      have HB2 := Lib.hid hb2
      have HR2 := Lib.hid hr2
      have HX2 := Lib.hid hx2
      have HO2 := Lib.hid ho2
      have HS2 := Lib.hid hs2
      clear hb2 hr2 hx2 ho2 hs2
      go_upto_region 9 with fail
      try rw [hs1]
      clear hs1
      generalize (w1.alloc (.cells #[.int .i64 0, .bool false, .slice none 0 0, .int .i64 0, .string ⟨#[]⟩, .slice none 0 0, .slice none 0 0] 34)) = w2 at *
      have hrb' := HRB.out
      have hE2 : Env rb L A c (rb + 1) w2 P 0 := ⟨HX2.out, fun k x hk => by
          obtain ⟨g, off, e1, e2, e3⟩ := HO.out k x hk
          exact ⟨g, off, e1, by omega, HB2.out.cell_some e3 (fun h => h)⟩, by omega, hl3, hwl, HT.out.same (HB2.out.block _ HT.out.lt0 (fun h => h)) (HB2.out.block _ HT.out.lt1 (fun h => h)), ⟨by have := HT.out.lt0; omega, by have := HT.out.lt1; omega⟩⟩
      have hca := caught_c hv hE2 hcap (ob := rb + 2) (by omega) (by omega) HO2.out
      obtain ⟨RV, hRV⟩ : ∃ R, rValue mkObj 64 1 L P = R := ⟨_, rfl⟩
      have hnz : ∀ q x, RV = .bad q x → x ≠ 0 := fun q x h => Nz.value mkObj 64 1 L P q x (hRV.trans h)
      have hnx := HNX.out
      rw [hRV] at hca hnx
      have HNX2 := Lib.hid hnx
      have HCA := Lib.hid hca
      have HNZ := Lib.hid hnz
      clear hRV hE2 hca hnx hnz HNX
      go_wp2_with fail
      refine HCA.out.mono ?_
      intro e w3 hp
      cases RV with
      | bad q x =>
        obtain ⟨rfl, hb3⟩ := hp
        have hx0 := HNZ.out q x rfl
        have hxb : ((x : Int) == 0) = false := by rw [beq_eq_false_iff_ne]; omega
        have hr3 := (hb3.block rb (Array.getElem?_eq_some_iff.1 HR2.out).1 (by omega)).trans HR2.out
        go_upto_region 11 with fail
        have hb4 := hb3.alloc (.cells #[.int .i64 (q : Int), .int .i64 (x : Int)] 59)
        have hf4 := World.alloc_heap_new w3 (.cells #[.int .i64 (q : Int), .int .i64 (x : Int)] 59)
        have hr4 := (Below.heap_alloc w3 (.cells #[.int .i64 (q : Int), .int .i64 (x : Int)] 59) rb (Array.getElem?_eq_some_iff.1 hr3).1).trans hr3
        have hrl := (Array.getElem?_eq_some_iff.1 hr3).1
        obtain ⟨fb, hfb⟩ : ∃ b, w3.heap.size = b := ⟨_, rfl⟩
        rw [hfb] at hf4 hrl
        try rw [hfb]
        generalize (w3.alloc (.cells #[.int .i64 (q : Int), .int .i64 (x : Int)] 59)) = w4 at *
        have e0 := cell_at3 (i := 0) hf4 rfl
        have e1 := cell_at3 (i := 1) hf4 rfl
        obtain ⟨y0, y1, y2, y3, y4, y5, y6⟩ := box7_of hr4
        have f0 : w4.frozen? ⟨rb, 0, none⟩ = false := by simp [World.frozen?, hr4]
        have f1 : w4.frozen? ⟨rb, 1, none⟩ = false := by simp [World.frozen?, hr4]
        have f2 : w4.frozen? ⟨rb, 2, none⟩ = false := by simp [World.frozen?, hr4]
        have f3 : w4.frozen? ⟨rb, 3, none⟩ = false := by simp [World.frozen?, hr4]
        have f4 : w4.frozen? ⟨rb, 4, none⟩ = false := by simp [World.frozen?, hr4]
        have f5 : w4.frozen? ⟨rb, 5, none⟩ = false := by simp [World.frozen?, hr4]
        have f6 : w4.frozen? ⟨rb, 6, none⟩ = false := by simp [World.frozen?, hr4]
        have hfr : ¬ rb = fb := by omega
        have hC : But (fun j => j = rb) w4 (((((((w4.setCell ⟨rb, 0, none⟩ (.int .i64 0)).setCell ⟨rb, 1, none⟩ (.bool false)).setCell ⟨rb, 2, none⟩ (.slice none 0 0)).setCell ⟨rb, 3, none⟩ (.int .i64 0)).setCell ⟨rb, 4, none⟩ (.string ⟨#[]⟩)).setCell ⟨rb, 5, none⟩ (.slice none 0 0)).setCell ⟨rb, 6, none⟩ (.slice none 0 0)) := (But.setCell (C := fun j => j = rb) (But.setCell (C := fun j => j = rb) (But.setCell (C := fun j => j = rb) (But.setCell (C := fun j => j = rb) (But.setCell (C := fun j => j = rb) (But.setCell (C := fun j => j = rb) (But.setCell (C := fun j => j = rb) (But.refl _ _) (p := ⟨rb, 0, none⟩) (.inl rfl) _) (p := ⟨rb, 1, none⟩) (.inl rfl) _) (p := ⟨rb, 2, none⟩) (.inl rfl) _) (p := ⟨rb, 3, none⟩) (.inl rfl) _) (p := ⟨rb, 4, none⟩) (.inl rfl) _) (p := ⟨rb, 5, none⟩) (.inl rfl) _) (p := ⟨rb, 6, none⟩) (.inl rfl) _)
        have hr5 : (((((((w4.setCell ⟨rb, 0, none⟩ (.int .i64 0)).setCell ⟨rb, 1, none⟩ (.bool false)).setCell ⟨rb, 2, none⟩ (.slice none 0 0)).setCell ⟨rb, 3, none⟩ (.int .i64 0)).setCell ⟨rb, 4, none⟩ (.string ⟨#[]⟩)).setCell ⟨rb, 5, none⟩ (.slice none 0 0)).setCell ⟨rb, 6, none⟩ (.slice none 0 0)).heap[rb]? = some (.cells #[.int .i64 0, .bool false, .slice none 0 0, .int .i64 0, .string ⟨#[]⟩, .slice none 0 0, .slice none 0 0] 34) := by
          have := (set_heap (i := 6) (u := .slice none 0 0) (set_heap (i := 5) (u := .slice none 0 0) (set_heap (i := 4) (u := .string ⟨#[]⟩) (set_heap (i := 3) (u := .int .i64 0) (set_heap (i := 2) (u := .slice none 0 0) (set_heap (i := 1) (u := .bool false) (set_heap (i := 0) (u := .int .i64 0) (w := w4) hr4)))))))
          simpa using this
        have HR4 := Lib.hid hr4
        have HB4 := Lib.hid hb4
        clear hr3 hb3 hb4 hf4 hr4 hfb
        go_wp2_with fail
        refine wp_region_held_drew (S := fun V => V.cell? ⟨fb, 0, none⟩ = some (.int .i64 (q : Int)) ∧ V.cell? ⟨fb, 1, none⟩ = some (.int .i64 (x : Int))) (by kernel_rfl) ⟨e0, e1⟩ (fun hHeld => ?_)
        (try simp only [List.size_toArray, List.length_cons, List.length_nil, Nat.reduceAdd, Array.replicate_succ, Array.replicate_zero, List.push_toArray, List.append_toArray, List.nil_append, List.cons_append])
        refine wpAnyH_take (i := 0) (oi := ⟨_, _, _, _, _, _⟩) (v := ?_) rfl (by kernel_rfl) (by kernel_rfl) (by kernel_rfl) (fun _ _ _ h => h) (Or.inl ⟨by rfl, ?_⟩) (by assumption) ?_
        rotate_left
        · intro w hSw
          (try dsimp only at hSw)
          go_split_ands
          go_simp
          try with_reducible rfl
        try simp only [Act.put, List.setIfInBounds_toArray, List.set_cons_zero, List.set_cons_succ]
        refine wpAnyH_take (i := 1) (oi := ⟨_, _, _, _, _, _⟩) (v := ?_) rfl (by kernel_rfl) (by kernel_rfl) (by kernel_rfl) (fun _ _ _ h => h) (Or.inl ⟨by rfl, ?_⟩) (by assumption) ?_
        rotate_left
        · intro w hSw
          (try dsimp only at hSw)
          go_split_ands
          go_simp
          try with_reducible rfl
        try simp only [Act.put, List.setIfInBounds_toArray, List.set_cons_zero, List.set_cons_succ]
        refine wpAnyH_take (i := 2) (oi := ⟨_, _, _, _, _, _⟩) (v := ?_) rfl (by kernel_rfl) (by kernel_rfl) (by kernel_rfl) (fun _ _ _ h => h) (Or.inl ⟨by rfl, ?_⟩) (by assumption) ?_
        rotate_left
        · intro w hSw
          (try dsimp only at hSw)
          go_split_ands
          go_simp
          try with_reducible rfl
        try simp only [Act.put, List.setIfInBounds_toArray, List.set_cons_zero, List.set_cons_succ]
        refine wpAnyH_take (i := 3) (oi := ⟨_, _, _, _, _, _⟩) (v := ?_) rfl (by kernel_rfl) (by kernel_rfl) (by kernel_rfl) (fun _ _ _ h => h) (Or.inl ⟨by rfl, ?_⟩) (by assumption) ?_
        rotate_left
        · intro w hSw
          (try dsimp only at hSw)
          go_split_ands
          go_simp
          try with_reducible rfl
        try simp only [Act.put, List.setIfInBounds_toArray, List.set_cons_zero, List.set_cons_succ]
        refine wpAnyH_take (i := 4) (oi := ⟨_, _, _, _, _, _⟩) (v := ?_) rfl (by kernel_rfl) (by kernel_rfl) (by kernel_rfl) (fun _ _ _ h => h) (Or.inl ⟨by rfl, ?_⟩) (by assumption) ?_
        rotate_left
        · intro w hSw
          (try dsimp only at hSw)
          go_split_ands
          go_simp
          try with_reducible rfl
        try simp only [Act.put, List.setIfInBounds_toArray, List.set_cons_zero, List.set_cons_succ]
        refine wpAnyH_ready (rs := [5]) (by kernel_rfl) (by simp) (AllReadyH.cons (o := ⟨_, _, _, _, _, _⟩) rfl (fun K hK => ?_) AllReadyH.nil)
        go_simp
        refine hK.out _ _ ⟨hC.drew.cell_some e0 (fun h => hfr h.symm), hC.drew.cell_some e1 (fun h => hfr h.symm)⟩ (fun hHeld2 => ?_)
        clear hK K hHeld
        try simp only [Act.put, List.setIfInBounds_toArray, List.set_cons_zero, List.set_cons_succ]
        refine wpAnyH_take (i := 6) (oi := ⟨_, _, _, _, _, _⟩) (v := ?_) rfl (by kernel_rfl) (by kernel_rfl) (by kernel_rfl) (fun _ _ _ h => h) (Or.inl ⟨by rfl, ?_⟩) (by assumption) ?_
        rotate_left
        · intro w hSw
          (try dsimp only at hSw)
          go_split_ands
          go_simp
          try with_reducible rfl
        try simp only [Act.put, List.setIfInBounds_toArray, List.set_cons_zero, List.set_cons_succ]
        refine wpAnyH_take (i := 7) (oi := ⟨_, _, _, _, _, _⟩) (v := ?_) rfl (by kernel_rfl) (by kernel_rfl) (by kernel_rfl) (fun _ _ _ h => h) (Or.inl ⟨by rfl, ?_⟩) (by assumption) ?_
        rotate_left
        · intro w hSw
          (try dsimp only at hSw)
          go_split_ands
          go_simp
          try with_reducible rfl
        try simp only [Act.put, List.setIfInBounds_toArray, List.set_cons_zero, List.set_cons_succ]
        refine wpAnyH_take (i := 8) (oi := ⟨_, _, _, _, _, _⟩) (v := ?_) rfl (by kernel_rfl) (by kernel_rfl) (by kernel_rfl) (fun _ _ _ h => h) (Or.inl ⟨by rfl, ?_⟩) (by assumption) ?_
        rotate_left
        · intro w hSw
          (try dsimp only at hSw)
          go_split_ands
          go_simp
          try with_reducible rfl
        try simp only [Act.put, List.setIfInBounds_toArray, List.set_cons_zero, List.set_cons_succ]
        refine wpAnyH_done (by kernel_rfl) ?_ _
        have hw4 : rb < w4.heap.size := (Array.getElem?_eq_some_iff.1 HR4.out).1
        have hb5 : Below rb w (((((((w4.setCell ⟨rb, 0, none⟩ (.int .i64 0)).setCell ⟨rb, 1, none⟩ (.bool false)).setCell ⟨rb, 2, none⟩ (.slice none 0 0)).setCell ⟨rb, 3, none⟩ (.int .i64 0)).setCell ⟨rb, 4, none⟩ (.string ⟨#[]⟩)).setCell ⟨rb, 5, none⟩ (.slice none 0 0)).setCell ⟨rb, 6, none⟩ (.slice none 0 0)).drew := (((HB2.out.no.trans HB4.out)).below (by omega) (fun j hj h => by omega)).trans (hC.drew.below (by omega) (fun j hj h => by omega))
        clear y0 y1 y2 y3 y4 y5 y6 hC
        have hr6 : (((((((w4.setCell ⟨rb, 0, none⟩ (.int .i64 0)).setCell ⟨rb, 1, none⟩ (.bool false)).setCell ⟨rb, 2, none⟩ (.slice none 0 0)).setCell ⟨rb, 3, none⟩ (.int .i64 0)).setCell ⟨rb, 4, none⟩ (.string ⟨#[]⟩)).setCell ⟨rb, 5, none⟩ (.slice none 0 0)).setCell ⟨rb, 6, none⟩ (.slice none 0 0)).drew.heap[rb]? = some (.cells #[.int .i64 0, .bool false, .slice none 0 0, .int .i64 0, .string ⟨#[]⟩, .slice none 0 0, .slice none 0 0] 34) := (drewHeap _ _).trans hr5
        clear hr5
        generalize (((((((w4.setCell ⟨rb, 0, none⟩ (.int .i64 0)).setCell ⟨rb, 1, none⟩ (.bool false)).setCell ⟨rb, 2, none⟩ (.slice none 0 0)).setCell ⟨rb, 3, none⟩ (.int .i64 0)).setCell ⟨rb, 4, none⟩ (.string ⟨#[]⟩)).setCell ⟨rb, 5, none⟩ (.slice none 0 0)).setCell ⟨rb, 6, none⟩ (.slice none 0 0)).drew = w5 at *
        obtain ⟨y0, y1, y2, y3, y4, y5, y6⟩ := box7_of hr6
        go_wp2_with fail
        refine bodyPost_ret (v := .tuple #[zv, .int .i64 (q : Int), .bool false, .int .i64 (x : Int)]) (by simp [results, Tryz.results17, go_sem, y0, y1, y2, y3, y4, y5, y6]) rfl ?_
        have hfin : PoX L rb p _ w5 := HQ.out (.returned (.tuple #[zv, .int .i64 (q : Int), .bool false, .int .i64 (x : Int)])) w5 (by rw [HNX2.out]; exact ⟨rfl, hx0⟩)
        first | exact ⟨hfin, hb5⟩ | (rw [HRB.out]; exact ⟨hfin, hb5⟩)
      | ok x q =>
        obtain ⟨rfl, hE3, hb3, hrest⟩ := hp
        obtain ⟨k1, neg1, A1, n1, c1, e1, t1, LA1, ln1, lc1, KA1, kn1, kc1, hbx, hvn⟩ := hrest
        have hr3 := (hb3.block rb (Array.getElem?_eq_some_iff.1 HR2.out).1 (by omega)).trans HR2.out
        have hrl := (Array.getElem?_eq_some_iff.1 hr3).1
        have hq3 := hE3.here
        have hbx3 := hE3.box
        go_upto_region 12 with fail
        have hb4 := hb3.alloc (.cells #[.int .i64 0, .int .i64 0] 59)
        have hr4 := (Below.heap_alloc w3 (.cells #[.int .i64 0, .int .i64 0] 59) rb hrl).trans hr3
        have ho4 := (Below.heap_alloc w3 (.cells #[.int .i64 0, .int .i64 0] 59) (rb + 2) (Array.getElem?_eq_some_iff.1 hbx).1).trans hbx
        have hx4 := (Below.heap_alloc w3 (.cells #[.int .i64 0, .int .i64 0] 59) (rb + 1) (Array.getElem?_eq_some_iff.1 hbx3).1).trans hbx3
        have hv4 := hvn.keep (w' := w3.alloc (.cells #[.int .i64 0, .int .i64 0] 59)) (fun p hp => ((But.refl (fun _ => False) w3).alloc _).cell hp.2 (fun h => h))
        have hz4 : w3.heap.size ≤ (w3.alloc (.cells #[.int .i64 0, .int .i64 0] 59)).heap.size := by simp
        generalize (w3.alloc (.cells #[.int .i64 0, .int .i64 0] 59)) = w4 at *
        obtain ⟨d0, d1, d2, d3, d4, d5, d6⟩ := box7_of ho4
        have e1' := cell_at3 (i := 1) hx4 rfl
        obtain ⟨y0, y1, y2, y3, y4, y5, y6⟩ := box7_of hr4
        have f0 : w4.frozen? ⟨rb, 0, none⟩ = false := by simp [World.frozen?, hr4]
        have f1 : w4.frozen? ⟨rb, 1, none⟩ = false := by simp [World.frozen?, hr4]
        have f2 : w4.frozen? ⟨rb, 2, none⟩ = false := by simp [World.frozen?, hr4]
        have f3 : w4.frozen? ⟨rb, 3, none⟩ = false := by simp [World.frozen?, hr4]
        have f4 : w4.frozen? ⟨rb, 4, none⟩ = false := by simp [World.frozen?, hr4]
        have f5 : w4.frozen? ⟨rb, 5, none⟩ = false := by simp [World.frozen?, hr4]
        have f6 : w4.frozen? ⟨rb, 6, none⟩ = false := by simp [World.frozen?, hr4]
        have hC : But (fun j => j = rb) w4 (((((((w4.setCell ⟨rb, 0, none⟩ (.int .i64 k1)).setCell ⟨rb, 1, none⟩ (.bool neg1)).setCell ⟨rb, 2, none⟩ (.slice A1 n1 c1)).setCell ⟨rb, 3, none⟩ (.int .i64 e1)).setCell ⟨rb, 4, none⟩ (.string t1)).setCell ⟨rb, 5, none⟩ (.slice LA1 ln1 lc1)).setCell ⟨rb, 6, none⟩ (.slice KA1 kn1 kc1)) := (But.setCell (C := fun j => j = rb) (But.setCell (C := fun j => j = rb) (But.setCell (C := fun j => j = rb) (But.setCell (C := fun j => j = rb) (But.setCell (C := fun j => j = rb) (But.setCell (C := fun j => j = rb) (But.setCell (C := fun j => j = rb) (But.refl _ _) (p := ⟨rb, 0, none⟩) (.inl rfl) _) (p := ⟨rb, 1, none⟩) (.inl rfl) _) (p := ⟨rb, 2, none⟩) (.inl rfl) _) (p := ⟨rb, 3, none⟩) (.inl rfl) _) (p := ⟨rb, 4, none⟩) (.inl rfl) _) (p := ⟨rb, 5, none⟩) (.inl rfl) _) (p := ⟨rb, 6, none⟩) (.inl rfl) _)
        have hr5 : (((((((w4.setCell ⟨rb, 0, none⟩ (.int .i64 k1)).setCell ⟨rb, 1, none⟩ (.bool neg1)).setCell ⟨rb, 2, none⟩ (.slice A1 n1 c1)).setCell ⟨rb, 3, none⟩ (.int .i64 e1)).setCell ⟨rb, 4, none⟩ (.string t1)).setCell ⟨rb, 5, none⟩ (.slice LA1 ln1 lc1)).setCell ⟨rb, 6, none⟩ (.slice KA1 kn1 kc1)).heap[rb]? = some (.cells #[.int .i64 k1, .bool neg1, .slice A1 n1 c1, .int .i64 e1, .string t1, .slice LA1 ln1 lc1, .slice KA1 kn1 kc1] 34) := by
          have := (set_heap (i := 6) (u := .slice KA1 kn1 kc1) (set_heap (i := 5) (u := .slice LA1 ln1 lc1) (set_heap (i := 4) (u := .string t1) (set_heap (i := 3) (u := .int .i64 e1) (set_heap (i := 2) (u := .slice A1 n1 c1) (set_heap (i := 1) (u := .bool neg1) (set_heap (i := 0) (u := .int .i64 k1) (w := w4) hr4)))))))
          simpa using this
        have HR4 := Lib.hid hr4
        have HB4 := Lib.hid hb4
        have HV4 := Lib.hid hv4
        have hws := HS2.out
        have hw23 := hb3.size
        clear hr3 hb3 hb4 hr4 ho4 hx4 hv4 hvn hbx hbx3 hE3
        go_wp2_with fail
        refine wp_region_held_drew (S := fun V => (V.cell? ⟨rb + 2, 0, none⟩ = some (.int .i64 k1) ∧ V.cell? ⟨rb + 2, 1, none⟩ = some (.bool neg1) ∧ V.cell? ⟨rb + 2, 2, none⟩ = some (.slice A1 n1 c1) ∧ V.cell? ⟨rb + 2, 3, none⟩ = some (.int .i64 e1) ∧ V.cell? ⟨rb + 2, 4, none⟩ = some (.string t1) ∧ V.cell? ⟨rb + 2, 5, none⟩ = some (.slice LA1 ln1 lc1) ∧ V.cell? ⟨rb + 2, 6, none⟩ = some (.slice KA1 kn1 kc1)) ∧ V.cell? ⟨rb + 1, 1, none⟩ = some (.int .i64 (q : Int))) (by kernel_rfl) ⟨⟨d0, d1, d2, d3, d4, d5, d6⟩, e1'⟩ (fun hHeld => ?_)
        (try simp only [List.size_toArray, List.length_cons, List.length_nil, Nat.reduceAdd, Array.replicate_succ, Array.replicate_zero, List.push_toArray, List.append_toArray, List.nil_append, List.cons_append])
        refine wpAnyH_take (i := 0) (oi := ⟨_, _, _, _, _, _⟩) (v := ?_) rfl (by kernel_rfl) (by kernel_rfl) (by kernel_rfl) (fun _ _ _ h => h) (Or.inl ⟨by rfl, ?_⟩) (by assumption) ?_
        rotate_left
        · intro w hSw
          (try dsimp only at hSw)
          go_split_ands
          go_simp
          try with_reducible rfl
        try simp only [Act.put, List.setIfInBounds_toArray, List.set_cons_zero, List.set_cons_succ]
        refine wpAnyH_take (i := 1) (oi := ⟨_, _, _, _, _, _⟩) (v := ?_) rfl (by kernel_rfl) (by kernel_rfl) (by kernel_rfl) (fun _ _ _ h => h) (Or.inl ⟨by rfl, ?_⟩) (by assumption) ?_
        rotate_left
        · intro w hSw
          (try dsimp only at hSw)
          go_split_ands
          go_simp
          try with_reducible rfl
        try simp only [Act.put, List.setIfInBounds_toArray, List.set_cons_zero, List.set_cons_succ]
        refine wpAnyH_take (i := 2) (oi := ⟨_, _, _, _, _, _⟩) (v := ?_) rfl (by kernel_rfl) (by kernel_rfl) (by kernel_rfl) (fun _ _ _ h => h) (Or.inl ⟨by rfl, ?_⟩) (by assumption) ?_
        rotate_left
        · intro w hSw
          (try dsimp only at hSw)
          go_split_ands
          go_simp
          try with_reducible rfl
        try simp only [Act.put, List.setIfInBounds_toArray, List.set_cons_zero, List.set_cons_succ]
        refine wpAnyH_ready (rs := [3]) (by kernel_rfl) (by simp) (AllReadyH.cons (o := ⟨_, _, _, _, _, _⟩) rfl (fun K hK => ?_) AllReadyH.nil)
        go_simp
        refine hK.out _ _ ⟨⟨hC.drew.cell_some d0 (by simp), hC.drew.cell_some d1 (by simp), hC.drew.cell_some d2 (by simp), hC.drew.cell_some d3 (by simp), hC.drew.cell_some d4 (by simp), hC.drew.cell_some d5 (by simp), hC.drew.cell_some d6 (by simp)⟩, hC.drew.cell_some e1' (by simp)⟩ (fun hHeld2 => ?_)
        clear hK K hHeld
        try simp only [Act.put, List.setIfInBounds_toArray, List.set_cons_zero, List.set_cons_succ]
        refine wpAnyH_take (i := 4) (oi := ⟨_, _, _, _, _, _⟩) (v := ?_) rfl (by kernel_rfl) (by kernel_rfl) (by kernel_rfl) (fun _ _ _ h => h) (Or.inl ⟨by rfl, ?_⟩) (by assumption) ?_
        rotate_left
        · intro w hSw
          (try dsimp only at hSw)
          go_split_ands
          go_simp
          try with_reducible rfl
        try simp only [Act.put, List.setIfInBounds_toArray, List.set_cons_zero, List.set_cons_succ]
        refine wpAnyH_take (i := 5) (oi := ⟨_, _, _, _, _, _⟩) (v := ?_) rfl (by kernel_rfl) (by kernel_rfl) (by kernel_rfl) (fun _ _ _ h => h) (Or.inl ⟨by rfl, ?_⟩) (by assumption) ?_
        rotate_left
        · intro w hSw
          (try dsimp only at hSw)
          go_split_ands
          go_simp
          try with_reducible rfl
        try simp only [Act.put, List.setIfInBounds_toArray, List.set_cons_zero, List.set_cons_succ]
        refine wpAnyH_take (i := 6) (oi := ⟨_, _, _, _, _, _⟩) (v := ?_) rfl (by kernel_rfl) (by kernel_rfl) (by kernel_rfl) (fun _ _ _ h => h) (Or.inl ⟨by rfl, ?_⟩) (by assumption) ?_
        rotate_left
        · intro w hSw
          (try dsimp only at hSw)
          go_split_ands
          go_simp
          try with_reducible rfl
        try simp only [Act.put, List.setIfInBounds_toArray, List.set_cons_zero, List.set_cons_succ]
        refine wpAnyH_done (by kernel_rfl) ?_ _
        have hw4 : rb < w4.heap.size := (Array.getElem?_eq_some_iff.1 HR4.out).1
        have hb5 : Below rb w (((((((w4.setCell ⟨rb, 0, none⟩ (.int .i64 k1)).setCell ⟨rb, 1, none⟩ (.bool neg1)).setCell ⟨rb, 2, none⟩ (.slice A1 n1 c1)).setCell ⟨rb, 3, none⟩ (.int .i64 e1)).setCell ⟨rb, 4, none⟩ (.string t1)).setCell ⟨rb, 5, none⟩ (.slice LA1 ln1 lc1)).setCell ⟨rb, 6, none⟩ (.slice KA1 kn1 kc1)).drew := (((HB2.out.no.trans HB4.out)).below (by omega) (fun j hj h => by omega)).trans (hC.drew.below (by omega) (fun j hj h => by omega))
        have hv5 : VIn (((((((w4.setCell ⟨rb, 0, none⟩ (.int .i64 k1)).setCell ⟨rb, 1, none⟩ (.bool neg1)).setCell ⟨rb, 2, none⟩ (.slice A1 n1 c1)).setCell ⟨rb, 3, none⟩ (.int .i64 e1)).setCell ⟨rb, 4, none⟩ (.string t1)).setCell ⟨rb, 5, none⟩ (.slice LA1 ln1 lc1)).setCell ⟨rb, 6, none⟩ (.slice KA1 kn1 kc1)).drew (fun b => rb ≤ b ∧ b < (((((((w4.setCell ⟨rb, 0, none⟩ (.int .i64 k1)).setCell ⟨rb, 1, none⟩ (.bool neg1)).setCell ⟨rb, 2, none⟩ (.slice A1 n1 c1)).setCell ⟨rb, 3, none⟩ (.int .i64 e1)).setCell ⟨rb, 4, none⟩ (.string t1)).setCell ⟨rb, 5, none⟩ (.slice LA1 ln1 lc1)).setCell ⟨rb, 6, none⟩ (.slice KA1 kn1 kc1)).drew.heap.size) x _ := (HV4.out.keep fun p hp => hC.drew.cell (by have := hp.2; omega) (fun h => by have := hp.1; omega)).more fun b hb => ⟨by have := hb.1; omega, by have := hb.2; have := hC.drew.size; omega⟩
        have hr6 : (((((((w4.setCell ⟨rb, 0, none⟩ (.int .i64 k1)).setCell ⟨rb, 1, none⟩ (.bool neg1)).setCell ⟨rb, 2, none⟩ (.slice A1 n1 c1)).setCell ⟨rb, 3, none⟩ (.int .i64 e1)).setCell ⟨rb, 4, none⟩ (.string t1)).setCell ⟨rb, 5, none⟩ (.slice LA1 ln1 lc1)).setCell ⟨rb, 6, none⟩ (.slice KA1 kn1 kc1)).drew.heap[rb]? = some (.cells #[.int .i64 k1, .bool neg1, .slice A1 n1 c1, .int .i64 e1, .string t1, .slice LA1 ln1 lc1, .slice KA1 kn1 kc1] 34) := (drewHeap _ _).trans hr5
        clear y0 y1 y2 y3 y4 y5 y6 hC hr5
        generalize (((((((w4.setCell ⟨rb, 0, none⟩ (.int .i64 k1)).setCell ⟨rb, 1, none⟩ (.bool neg1)).setCell ⟨rb, 2, none⟩ (.slice A1 n1 c1)).setCell ⟨rb, 3, none⟩ (.int .i64 e1)).setCell ⟨rb, 4, none⟩ (.string t1)).setCell ⟨rb, 5, none⟩ (.slice LA1 ln1 lc1)).setCell ⟨rb, 6, none⟩ (.slice KA1 kn1 kc1)).drew = w5 at *
        obtain ⟨y0, y1, y2, y3, y4, y5, y6⟩ := box7_of hr6
        go_wp2_with fail
        refine bodyPost_ret (v := .tuple #[.agg #[.int .i64 k1, .bool neg1, .slice A1 n1 c1, .int .i64 e1, .string t1, .slice LA1 ln1 lc1, .slice KA1 kn1 kc1], .int .i64 (q : Int), .bool true, .int .i64 0]) (by simp [results, Tryz.results17, go_sem, y0, y1, y2, y3, y4, y5, y6]) rfl ?_
        have hfin : PoX L rb p _ w5 := HQ.out (.returned (.tuple #[.agg #[.int .i64 k1, .bool neg1, .slice A1 n1 c1, .int .i64 e1, .string t1, .slice LA1 ln1 lc1, .slice KA1 kn1 kc1], .int .i64 (q : Int), .bool true, .int .i64 0])) w5 (by rw [HNX2.out]; exact ⟨_, rfl, hv5, hq3⟩)
        first | exact ⟨hfin, hb5⟩ | (rw [HRB.out]; exact ⟨hfin, hb5⟩)
end Go.Proofs.YtpjllcengnolkaaGreatDoor
