/-
  Contracts of the swaps' method and of HTML; URI whole.
-/
import Derived.Test.YtnfeifafocemaaaDoorCFur
set_option linter.unusedVariables false
set_option linter.unusedSimpArgs false
namespace Go.Proofs.YtnfeifafocemaaaDoor
open Go.RowKit Go.Lib

theorem flat_one (f : List UInt8 → List UInt8) (L : List UInt8) : ((chkF 1 L).map f).flatten = L.flatMap fun x => f [x] := by
  rw [chkF_one, List.map_map, ← List.flatMap_def]; rfl
theorem one_of {L c : List UInt8} (h : c ∈ chkF 1 L) : ∃ x ∈ L, c = [x] := by
  rw [chkF_one] at h
  obtain ⟨x, hx, rfl⟩ := List.mem_map.1 h
  exact ⟨x, hx, rfl⟩
/-- What stands instead of octets, one by one. -/
def eachF (f : UInt8 → List UInt8) (c : List UInt8) : List UInt8 := c.flatMap f
theorem each_one (f : UInt8 → List UInt8) (x : UInt8) : eachF f [x] = f x := by simp [eachF]
theorem flat_each (f : UInt8 → List UInt8) (L : List UInt8) : ((chkF 1 L).map (eachF f)).flatten = L.flatMap f := by
  rw [flat_one]
  simp only [each_one]
theorem uri_len (x : UInt8) : (uriC x).length ≤ 3 := by unfold uriC; split <;> simp
theorem eachF_le {f : UInt8 → List UInt8} {n : Nat} (h : ∀ x, (f x).length ≤ n) (c : List UInt8) (hc : c.length ≤ 1) : (eachF f c).length ≤ n := by
  match c, hc with
  | [], _ => simp [eachF]
  | [x], _ => rw [each_one]; exact h x
set_option maxRecDepth 100000 in
set_option maxHeartbeats 1000000 in
theorem uri_c (s : ByteArray) (w : World) (hT : Tabs w) (hs : s.size ≤ 140737488355328) :
    Calls Tryd.prog 9 #[.string s] w fun e w' => e = .returned (.tuple #[.string (rwF s.data.toList (s.data.toList.flatMap uriC)).1, .int .i64 (rwF s.data.toList (s.data.toList.flatMap uriC)).2]) ∧ Below w.heap.size w w' := by
  have hin : InsF 23 #[] #[] (fun _ => False) (chkF 1 s.data.toList) (eachF uriC) w := fun W _ c hc => by
    obtain ⟨x, _, rfl⟩ := one_of hc
    rw [each_one]
    exact uri1_c x W
  have h := rewritten_c (k := 1) s w hT (by omega) (by omega) hs (enters_of Tryd.func23 (by kernel_rfl) rfl) (fun _ h => h.elim) hin (fun c hc => by have := eachF_le uri_len c hc; omega)
  rw [flat_each] at h
  obtain ⟨R, hR⟩ : ∃ R, rwF s.data.toList (s.data.toList.flatMap uriC) = R := ⟨_, rfl⟩
  rw [hR] at h ⊢
  have H := Lib.hid h
  clear h hR hT hin
  go_enter Tryd.func9, Tryd.ntmps9
  go_wp2_with fail
  refine H.out.mono ?_
  rintro e w1 ⟨rfl, hb1⟩
  have HB1 := Lib.hid hb1
  clear hb1
  go_wp2_with fail
  go_ret2
  exact ⟨rfl, HB1.out⟩
/-- What stands instead of an octet. -/
def swF (O : List UInt8) (xs : List (List UInt8)) (x : UInt8) : List UInt8 := if 0 ≤ indexByte O x then xs.getD (indexByte O x).toNat [] else [x]
/-- Texts lie in a block. -/
def HxF (g : Nat) (xs : List (List UInt8)) (w : World) : Prop := ∀ (i : Nat) t, xs[i]? = some t → w.cell? ⟨g, i, none⟩ = some (.string (mk8 t))
theorem idx_lt : ∀ (l : List UInt8) (x : UInt8), indexByte l x < (l.length : Int)
  | [], x => by show (-1 : Int) < 0; omega
  | b :: l, x => by
    have := idx_lt l x
    unfold indexByte
    rw [List.length_cons]
    split
    · omega
    · split <;> omega
set_option maxRecDepth 100000 in
set_option maxHeartbeats 2000000 in
theorem of_c {g n : Nat} {O : List UInt8} {xs : List (List UInt8)} (x : UInt8) (w : World) (hx : HxF g xs w) (hg : g < w.heap.size) (hn : xs.length = n) (hO : O.length = n) (hn9 : n ≤ 4096) :
    Calls Tryd.prog 25 #[.agg #[.string (mk8 O), .slice (some ⟨g, 0, none⟩) n n], .string (mk8 [x])] w fun e w' => e = .returned (.string (mk8 (swF O xs x))) ∧ Below w.heap.size w w' := by
  obtain ⟨b, hb⟩ : ∃ b, w.heap.size = b := ⟨_, rfl⟩
  obtain ⟨w1, hw1⟩ : ∃ y, w.alloc (.cells #[.string (mk8 O), .slice (some ⟨g, 0, none⟩) n n] 46) = y := ⟨_, rfl⟩
  have g1 : Below b w w1 := by rw [← hw1]; exact (Below.refl _ w).alloc (by omega) _
  have n1 : w1.heap[b]? = some (.cells #[.string (mk8 O), .slice (some ⟨g, 0, none⟩) n n] 46) := by rw [← hw1, ← hb]; exact World.alloc_heap_new _ _
  have c0 : w1.cell? ⟨b, 0, none⟩ = some (.string (mk8 O)) := cell_at3 n1 rfl
  have c1 : w1.cell? ⟨b, 1, none⟩ = some (.slice (some ⟨g, 0, none⟩) n n) := cell_at3 n1 rfl
  have hix := Tryd.strings_Index_one (mk8 O) x w1
  rw [mk8_L] at hix
  have hil := idx_lt O x
  rw [hO] at hil
  obtain ⟨S, hS⟩ : ∃ S, mk8 [x] = S := ⟨_, rfl⟩
  have hS2 : (⟨#[x]⟩ : ByteArray) = S := hS
  rw [hS2] at hix
  rw [hS]
  obtain ⟨OO, hOO⟩ : ∃ OO, mk8 O = OO := ⟨_, rfl⟩
  rw [hOO] at hix c0 hw1 ⊢
  by_cases h : 0 ≤ indexByte O x
  · have hsw : swF O xs x = xs.getD (indexByte O x).toNat [] := if_pos h
    obtain ⟨k, hk⟩ : ∃ k : Nat, indexByte O x = (k : Int) := ⟨(indexByte O x).toNat, by omega⟩
    rw [hk] at hix hil
    rw [hsw, hk, Int.toNat_natCast]
    have hkn : k < n := by omega
    have hkx : xs[k]? = some (xs.getD k []) := by rw [List.getD_eq_getElem?_getD, List.getElem?_eq_getElem (by omega)]; rfl
    have hc2 := (g1.cell (p := ⟨g, k, none⟩) (by show g < b; omega)).trans (hx k _ hkx)
    obtain ⟨R, hR⟩ : ∃ R, mk8 (xs.getD k []) = R := ⟨_, rfl⟩
    rw [hR] at hc2 ⊢
    have hkz : (k : Int) < (n : Int) := by omega
    have HIX := Lib.hid hix
    have HW := Lib.hid hw1
    have HG := Lib.hid g1
    rw [hb]
    clear hix hw1 g1 n1 hx hsw hR hS hS2 hOO hk h hil hkx
    go_enter Tryd.func25, Tryd.ntmps25
    go_upto_region 1 with fail
    try rw [hb]
    clear hb
    rw [HW.out]
    go_wp2_with (refine HIX.out.mono ?_; rintro e w' ⟨rfl, rfl⟩)
    go_ret
    exact ⟨rfl, HG.out⟩
  · have hsw : swF O xs x = [x] := if_neg h
    have hneg : indexByte O x < 0 := by omega
    have hlt : ¬ 0 ≤ indexByte O x := h
    rw [hsw, hS]
    obtain ⟨z, hz⟩ : ∃ z, indexByte O x = z := ⟨_, rfl⟩
    rw [hz] at hix hneg hlt
    have HIX := Lib.hid hix
    have HW := Lib.hid hw1
    have HG := Lib.hid g1
    rw [hb]
    clear hix hw1 g1 n1 hx hsw hS hS2 hOO hz h hil
    go_enter Tryd.func25, Tryd.ntmps25
    go_upto_region 1 with fail
    try rw [hb]
    clear hb
    rw [HW.out]
    go_wp2_with (refine HIX.out.mono ?_; rintro e w' ⟨rfl, rfl⟩)
    go_ret
    exact ⟨rfl, HG.out⟩
/-- What stands in a page instead of an octet. -/
def htmO : List UInt8 := [38, 60, 62, 39, 34]
def htmX : List (List UInt8) := [[38, 97, 109, 112, 59], [38, 108, 116, 59], [38, 103, 116, 59], [38, 35, 51, 57, 59], [38, 113, 117, 111, 116, 59]]
def htmlC (x : UInt8) : List UInt8 := swF htmO htmX x
theorem html_len (x : UInt8) : (htmlC x).length ≤ 6 := by
  unfold htmlC swF
  split
  · have h2 : ∀ k, (htmX.getD k []).length ≤ 6 := fun k => by
      match k with
      | 0 => decide
      | 1 => decide
      | 2 => decide
      | 3 => decide
      | 4 => decide
      | k + 5 => show ([] : List UInt8).length ≤ 6; decide
    exact h2 _
  · show 1 ≤ 6; omega
set_option maxRecDepth 100000 in
set_option maxHeartbeats 2000000 in
theorem html_c (s : ByteArray) (w : World) (hT : Tabs w) (hs : s.size ≤ 140737488355328) :
    Calls Tryd.prog 10 #[.string s] w fun e w' => e = .returned (.tuple #[.string (rwF s.data.toList (s.data.toList.flatMap htmlC)).1, .int .i64 (rwF s.data.toList (s.data.toList.flatMap htmlC)).2]) ∧ Below w.heap.size w w' := by
  obtain ⟨g, hg⟩ : ∃ b, w.heap.size = b := ⟨_, rfl⟩
  obtain ⟨w1, hw1⟩ : ∃ y, w.alloc (.cells #[.string ⟨#[38, 97, 109, 112, 59]⟩, .string ⟨#[38, 108, 116, 59]⟩, .string ⟨#[38, 103, 116, 59]⟩, .string ⟨#[38, 35, 51, 57, 59]⟩, .string ⟨#[38, 113, 117, 111, 116, 59]⟩] 9) = y := ⟨_, rfl⟩
  have g1 : Below g w w1 := by rw [← hw1]; exact (Below.refl _ w).alloc (by omega) _
  have s1 : w1.heap.size = g + 1 := by rw [← hw1, World.size_alloc, hg]
  have n1 : w1.heap[g]? = some (.cells #[.string ⟨#[38, 97, 109, 112, 59]⟩, .string ⟨#[38, 108, 116, 59]⟩, .string ⟨#[38, 103, 116, 59]⟩, .string ⟨#[38, 35, 51, 57, 59]⟩, .string ⟨#[38, 113, 117, 111, 116, 59]⟩] 9) := by rw [← hw1, ← hg]; exact World.alloc_heap_new _ _
  obtain ⟨w2, hw2⟩ : ∃ y, w1.alloc (.cells #[.string ⟨#[]⟩, .slice none 0 0] 46) = y := ⟨_, rfl⟩
  have g2 : Below (g + 1) w1 w2 := by rw [← hw2]; exact (Below.refl _ w1).alloc (by omega) _
  have s2 : w2.heap.size = g + 2 := by rw [← hw2, World.size_alloc, s1]
  have n2 : w2.heap[g + 1]? = some (.cells #[.string ⟨#[]⟩, .slice none 0 0] 46) := by rw [← hw2, ← s1]; exact World.alloc_heap_new _ _
  have z0 : w2.cell? ⟨g + 1, 0, none⟩ = some (.string ⟨#[]⟩) := cell_at3 n2 rfl
  have z1 : w2.cell? ⟨g + 1, 1, none⟩ = some (.slice none 0 0) := cell_at3 n2 rfl
  have fz : ∀ j, w2.frozen? ⟨g + 1, j, none⟩ = false := fun j => by simp [World.frozen?, n2]
  obtain ⟨w3, hw3⟩ : ∃ y, (w2.setCell ⟨g + 1, 0, none⟩ (.string (mk8 htmO))).setCell ⟨g + 1, 1, none⟩ (.slice (some ⟨g, 0, none⟩) 5 5) = y := ⟨_, rfl⟩
  have n3 : w3.heap[g + 1]? = some (.cells #[.string (mk8 htmO), .slice (some ⟨g, 0, none⟩) 5 5] 46) := by
    rw [← hw3]
    have := set_pageTF (i := 1) (.slice (some ⟨g, 0, none⟩) 5 5) (set_pageTF (i := 0) (.string (mk8 htmO)) n2)
    simpa using this
  have g3 : Below (g + 1) w2 w3 := by rw [← hw3]; exact ((Below.refl _ w2).setCell (p := ⟨g + 1, 0, none⟩) (Nat.le_refl _) _).setCell (p := ⟨g + 1, 1, none⟩) (Nat.le_refl _) _
  have s3 : w3.heap.size = g + 2 := by rw [← hw3]; simp [World.setCell, s2]
  have m3 : w3.heap[g]? = some (.cells #[.string ⟨#[38, 97, 109, 112, 59]⟩, .string ⟨#[38, 108, 116, 59]⟩, .string ⟨#[38, 103, 116, 59]⟩, .string ⟨#[38, 35, 51, 57, 59]⟩, .string ⟨#[38, 113, 117, 111, 116, 59]⟩] 9) := (g3.block g (by omega)).trans ((g2.block g (by omega)).trans n1)
  have hb3 : Below g w w3 := (g1.trans (g2.mono (by omega))).trans (g3.mono (by omega))
  have hx : HxF g htmX w3 := fun i t hi => by
    match i with
    | 0 => cases hi; exact cell_at3 m3 rfl
    | 1 => cases hi; exact cell_at3 m3 rfl
    | 2 => cases hi; exact cell_at3 m3 rfl
    | 3 => cases hi; exact cell_at3 m3 rfl
    | 4 => cases hi; exact cell_at3 m3 rfl
    | i + 5 => cases hi
  have hin : InsF 25 #[.agg #[.string (mk8 htmO), .slice (some ⟨g, 0, none⟩) 5 5]] #[] (fun i => i = g) (chkF 1 s.data.toList) (eachF htmlC) w3 := fun W hW c hc => by
    obtain ⟨x, _, rfl⟩ := one_of hc
    rw [each_one]
    have hWg := hW g rfl
    have hlt : g < W.heap.size := (Array.getElem?_eq_some_iff.1 (hWg.trans m3)).1
    exact of_c x W (fun i t hi => (World.cell?_of_block (a := ⟨g, i, none⟩) hWg).trans (hx i t hi)) hlt rfl rfl (by omega)
  have h := rewritten_c (k := 1) s w3 (hT.below (hg ▸ hb3)) (by omega) (by omega) hs (enters_of Tryd.func25 (by kernel_rfl) rfl) (fun i hi => by omega) hin (fun c hc => by have := eachF_le html_len c hc; omega)
  rw [flat_each] at h
  obtain ⟨R, hR⟩ : ∃ R, rwF s.data.toList (s.data.toList.flatMap htmlC) = R := ⟨_, rfl⟩
  rw [hR] at h ⊢
  have d0 : w3.cell? ⟨g + 1, 0, none⟩ = some (.string (mk8 htmO)) := cell_at3 n3 rfl
  have d1 : w3.cell? ⟨g + 1, 1, none⟩ = some (.slice (some ⟨g, 0, none⟩) 5 5) := cell_at3 n3 rfl
  have hmf : ∀ (fn : Fn) (first cap : Array Value) (w : World), (Instr.makeFunc fn first cap).run Tryd.prog w = .ok (.func fn first cap) w := fun _ _ _ _ => rfl
  have H := Lib.hid h
  have HB3 := Lib.hid hb3
  have HW3 := Lib.hid hw3
  rw [hg]
  clear h hR hT hin hx hb3 m3 g3 g1 g2 n1 n2 n3 hw3
  go_enter Tryd.func10, Tryd.ntmps10
  go_upto_region 2 with fail
  rw [show (⟨#[38, 60, 62, 39, 34]⟩ : ByteArray) = mk8 htmO from rfl]
  rw [HW3.out]
  go_wp2_with fail
  refine H.out.mono ?_
  rintro e w4 ⟨rfl, hb4⟩
  have HB4 := Lib.hid (HB3.out.trans (hb4.mono (by omega)))
  clear hb4
  go_wp2_with fail
  go_ret2
  exact ⟨rfl, HB4.out⟩
end Go.Proofs.YtnfeifafocemaaaDoor
