/-
  Contracts of rewritten and of alone.
-/
import Derived.Test.YtnfeifafocemaaaDoorCFpc
set_option linter.unusedVariables false
set_option linter.unusedSimpArgs false
namespace Go.Proofs.YtnfeifafocemaaaDoor
open Go.RowKit Go.Lib
attribute [local go_sem] Oper.semAt_some

/-- What rewritten tells of a text and of what stands in its place. -/
def rwF (L out : List UInt8) : ByteArray × Int := if isT L = true then tellF out else (⟨#[]⟩, 61)
/-- What is joined of the pieces of a text. -/
theorem joinP_c {fn k : Nat} {fst caps : Array Value} {K0 : Nat → Prop} {f : List UInt8 → List UInt8} (s : ByteArray) (w1 w2 : World) (hk : 0 < k) (hk9 : k ≤ 9) (hs : s.size ≤ 140737488355328)
    (eg : ∀ args w, (callFunc fn args).run Tryd.prog w = .ok (.enter fn args) w) (hK0 : ∀ i, K0 i → i < w1.heap.size) (hin : InsF fn fst caps K0 (chkF k s.data.toList) f w1) (hf : ∀ c : List UInt8, c.length ≤ k → (f c).length ≤ 140737488000000)
    (hw2 : w2 = ((w1.alloc (.cells #[.string s] 9)).alloc (.cells #[.int .i64 (k : Int)] 3)).alloc (.cells #[.func (.func fn) fst caps] 29)) :
    Calls Tryd.prog 18 #[.func (.func 36) #[] #[.pointer (some ⟨w1.heap.size, 0, none⟩), .pointer (some ⟨w1.heap.size + 1, 0, none⟩), .pointer (some ⟨w1.heap.size + 2, 0, none⟩)]] w2 fun e w' => e = .returned (.tuple #[.string (tellF ((chkF k s.data.toList).map f).flatten).1, .int .i64 (tellF ((chkF k s.data.toList).map f).flatten).2]) ∧ Below w1.heap.size w1 w' := by
  obtain ⟨b1, hb1⟩ : ∃ b, w1.heap.size = b := ⟨_, rfl⟩
  rw [hb1]
  have g1 : Below b1 w1 (w1.alloc (.cells #[.string s] 9)) := (Below.refl _ w1).alloc (by omega) _
  have s1 : (w1.alloc (.cells #[.string s] 9)).heap.size = b1 + 1 := by rw [World.size_alloc, hb1]
  have g2 : Below (b1 + 1) (w1.alloc (.cells #[.string s] 9)) ((w1.alloc (.cells #[.string s] 9)).alloc (.cells #[.int .i64 (k : Int)] 3)) := (Below.refl _ _).alloc (by omega) _
  have s2 : ((w1.alloc (.cells #[.string s] 9)).alloc (.cells #[.int .i64 (k : Int)] 3)).heap.size = b1 + 2 := by rw [World.size_alloc, s1]
  have g3 : Below (b1 + 2) ((w1.alloc (.cells #[.string s] 9)).alloc (.cells #[.int .i64 (k : Int)] 3)) w2 := by rw [hw2]; exact (Below.refl _ _).alloc (by omega) _
  have s3 : w2.heap.size = b1 + 3 := by rw [hw2, World.size_alloc, s2]
  have n1 := World.alloc_heap_new w1 (.cells #[.string s] 9)
  have n2 := World.alloc_heap_new (w1.alloc (.cells #[.string s] 9)) (.cells #[.int .i64 (k : Int)] 3)
  have n3 := World.alloc_heap_new ((w1.alloc (.cells #[.string s] 9)).alloc (.cells #[.int .i64 (k : Int)] 3)) (.cells #[.func (.func fn) fst caps] 29)
  rw [hb1] at n1
  rw [s1] at n2
  rw [s2, ← hw2] at n3
  have m1 : w2.heap[b1]? = some (.cells #[.string s] 9) := (g3.block _ (by omega)).trans ((g2.block _ (by omega)).trans n1)
  have m2 : w2.heap[b1 + 1]? = some (.cells #[.int .i64 (k : Int)] 3) := (g3.block _ (by omega)).trans n2
  have hb12 : Below b1 w1 w2 := (g1.trans (g2.mono (by omega))).trans (g3.mono (by omega))
  have hj := joined_c (gf := 36) (lb := #[.pointer (some ⟨b1, 0, none⟩), .pointer (some ⟨b1 + 1, 0, none⟩), .pointer (some ⟨b1 + 2, 0, none⟩)]) (keep := fun i => i = b1 ∨ i = b1 + 1 ∨ i = b1 + 2 ∨ K0 i) (ts := (chkF k s.data.toList).map f) w2 (enters_of Tryd.func36 (by kernel_rfl) rfl)
    (fun W hW => pieces1_iter s W (cell_at3 ((hW.block _ (by omega)).trans m1) rfl) (cell_at3 ((hW.block _ (by omega)).trans m2) rfl) (cell_at3 ((hW.block _ (by omega)).trans n3) rfl) hk hk9 hs eg (fun i hi => by have := hK0 i hi; have := hW.size; omega) (hin.keep fun i hi => (hW.block _ (by have := hK0 i hi; omega)).trans (hb12.block _ (by have := hK0 i hi; omega))))
    (fun i hi => by
      rcases hi with rfl | rfl | rfl | hi
      · omega
      · omega
      · omega
      · have := hK0 i hi; omega)
    (fun t ht => by
      obtain ⟨c, hc, rfl⟩ := List.mem_map.1 ht
      exact hf c (chkF_mem hk hc).2)
  exact hj.mono fun e w' ⟨h1, h2⟩ => ⟨h1, hb12.trans (h2.mono (by omega))⟩
set_option maxRecDepth 100000 in
set_option maxHeartbeats 2000000 in
theorem rewritten_c {fn k : Nat} {fst caps : Array Value} {K0 : Nat → Prop} {f : List UInt8 → List UInt8} (s : ByteArray) (w : World) (hT : Tabs w) (hk : 0 < k) (hk9 : k ≤ 9) (hs : s.size ≤ 140737488355328)
    (eg : ∀ args w, (callFunc fn args).run Tryd.prog w = .ok (.enter fn args) w) (hK0 : ∀ i, K0 i → i < w.heap.size) (hin : InsF fn fst caps K0 (chkF k s.data.toList) f w) (hf : ∀ c : List UInt8, c.length ≤ k → (f c).length ≤ 140737488000000) :
    Calls Tryd.prog 11 #[.string s, .int .i64 (k : Int), .func (.func fn) fst caps] w fun e w' => e = .returned (.tuple #[.string (rwF s.data.toList ((chkF k s.data.toList).map f).flatten).1, .int .i64 (rwF s.data.toList ((chkF k s.data.toList).map f).flatten).2]) ∧ Below w.heap.size w w' := by
  have HC := Lib.hid (UCheck_c s w hT hs)
  obtain ⟨L, hL⟩ : ∃ L, s.data.toList = L := ⟨_, rfl⟩
  obtain ⟨B, hB⟩ : ∃ B, badAt L = B := ⟨_, rfl⟩
  obtain ⟨R, hR⟩ : ∃ R, rwF L ((chkF k L).map f).flatten = R := ⟨_, rfl⟩
  rw [hL] at HC hin ⊢
  rw [hB] at HC
  rw [hR]
  have HR := Lib.hid hR
  have HL := Lib.hid hL
  have HIN := Lib.hid hin
  have HK := Lib.hid hK0
  have HF := Lib.hid hf
  clear hR hL hB hT hin hK0 hf
  by_cases h : isT L = true
  · have e1 : errT L = 0 := by unfold errT; rw [if_pos h]
    rw [e1] at HC
    have HT := Lib.hid h
    clear e1 h
    go_enter Tryd.func11, Tryd.ntmps11
    go_wp2_with fail
    refine HC.out.mono ?_
    rintro e w1 ⟨rfl, hb1⟩
    have hp := pieces_c s (k : Int) fn fst caps w1
    have HP := Lib.hid hp
    have HB1 := Lib.hid hb1
    clear hp hb1
    go_wp2_with fail
    refine HP.out.mono ?_
    rintro e w2 ⟨rfl, hw2⟩
    have hsw := HB1.out.size
    have hj := joinP_c s w1 w2 hk hk9 hs eg (fun i hi => by have := HK.out i hi; omega) (by rw [HL.out]; exact HIN.out.keep fun i hi => HB1.out.block _ (HK.out i hi)) HF.out hw2
    rw [HL.out] at hj
    have hr2 : tellF ((chkF k L).map f).flatten = R := by rw [← HR.out]; unfold rwF; rw [if_pos HT.out]
    rw [hr2] at hj
    have HJ := Lib.hid hj
    clear hj hr2 hw2
    go_wp2_with fail
    refine HJ.out.mono ?_
    rintro e w3 ⟨rfl, hb3⟩
    have hb4 := HB1.out.trans (hb3.mono hsw)
    have HB4 := Lib.hid hb4
    clear hb3 hb4
    go_wp2_with fail
    go_ret2
    exact ⟨rfl, HB4.out⟩
  · have e1 : errT L = 61 := by unfold errT; rw [if_neg h]
    rw [e1] at HC
    have hr2 : R = (⟨#[]⟩, 61) := by rw [← HR.out]; unfold rwF; rw [if_neg h]
    rw [hr2]
    clear e1 h hr2
    go_enter Tryd.func11, Tryd.ntmps11
    go_wp2_with fail
    refine HC.out.mono ?_
    rintro e w1 ⟨rfl, hb1⟩
    have HB1 := Lib.hid hb1
    clear hb1
    go_wp2_with fail
    go_ret2
    exact ⟨rfl, HB1.out⟩
end Go.Proofs.YtnfeifafocemaaaDoor
