/-
  Contract of the reference's value, where a text begins.
-/
import Derived.Test.YtcanfiaooabocaaGreatDoorQWrt
set_option linter.unusedVariables false
set_option linter.unusedSimpArgs false
namespace Go.Proofs.YtcanfiaooabocaaGreatDoor
open Go.RowKit Go.Lib
set_option maxRecDepth 4000000 in
set_option maxHeartbeats 4000000 in
theorem rvalT_c {B : Nat} {L : List UInt8} {A : Option Addr} {c rb d n : Nat} {w : World} {p q : Nat} {t : ByteArray} (E : REnv B L A c rb w p) (hx : L[p]? = some 34) (h : rText L p = .ok t q) (hqL : q ≤ L.length) (hn : n < 4096) (hd : d ≤ 64) :
    Calls Tryz.prog 52 #[.pointer (some ⟨rb, 0, none⟩), .int .i64 (d : Int), .int .i64 (n : Int)] w fun e w' => e = .returned (.agg #[.int .i64 4, .bool false, .slice none 0 0, .int .i64 0, .string t, .slice none 0 0, .slice none 0 0]) ∧ REnv B L A c rb w' q ∧ But (fun k => k = rb) w w' := by
  have mixed : Tryz.prog.follows .mixedOrders = true := by kernel_rfl
  have hpl : p < L.length := (List.getElem?_eq_some_iff.1 hx).1
  have hrl := E.lt
  have hfit := E.fits
  obtain ⟨rs, hrs⟩ : ∃ b, w.heap.size = b := ⟨_, rfl⟩
  have hb0 : But (fun _ => False) w (w.alloc (.cells #[.int .i64 0, .bool false, .slice none 0 0, .int .i64 0, .string ⟨#[]⟩, .slice none 0 0, .slice none 0 0] 28)) := (But.refl _ w).alloc _
  have hm := World.alloc_heap_new w (.cells #[.int .i64 0, .bool false, .slice none 0 0, .int .i64 0, .string ⟨#[]⟩, .slice none 0 0, .slice none 0 0] 28)
  rw [hrs] at hm
  have hE0 := E.stay hb0 (fun k h => h.elim)
  have hpk := rpeek_c hE0
  rw [nxt_of hx] at hpk
  have HPK := Lib.hid hpk
  have HM := Lib.hid hm
  have HB0 := Lib.hid hb0
  clear hpk E hm hb0
  go_enter Tryz.func52, Tryz.ntmps52
  go_wp2_with fail
  generalize (w.alloc (.cells #[.int .i64 0, .bool false, .slice none 0 0, .int .i64 0, .string ⟨#[]⟩, .slice none 0 0, .slice none 0 0] 28)) = w0 at *
  refine HPK.out.mono ?_
  rintro e9 w1 ⟨rfl, hb1⟩
  have hE1 := hE0.stay (C := fun _ => False) hb1 (fun k h => h.elim)
  have hm1 := (hb1.block rs (Array.getElem?_eq_some_iff.1 HM.out).1 (fun h => h)).trans HM.out
  have hB1 := HB0.out.trans hb1
  obtain ⟨c0, c1, c2⟩ := hE1.cells
  have hne : ((n : Int) == 4096) = false := by rw [beq_eq_false_iff_ne]; omega
  have HE1 := Lib.hid hE1
  have HM1 := Lib.hid hm1
  have HB1 := Lib.hid hB1
  clear hE0 hb1 hE1 hm1 hB1 HPK HM HB0
  go_upto_region 4 with fail
  go_region_o
  have hE2 : REnv B L A c rb w1.drew p := HE1.out.stay (C := fun _ => False) (But.refl _ _).drew (fun k h => h.elim)
  have hm2 : w1.drew.heap[rs]? = some (.cells #[.int .i64 0, .bool false, .slice none 0 0, .int .i64 0, .string ⟨#[]⟩, .slice none 0 0, .slice none 0 0] 28) := HM1.out
  have hB2 : But (fun _ => False) w w1.drew := HB1.out.drew
  generalize w1.drew = w2 at *
  have htx := rtext7_c hE2 h hpl hqL
  have HTX := Lib.hid htx
  have HM2 := Lib.hid hm2
  have HB2 := Lib.hid hB2
  clear htx hE2 hm2 hB2 c0 c1 c2 HE1 HM1 HB1 h hx
  go_wp2_with fail
  refine HTX.out.mono ?_
  rintro e9 w3 ⟨rfl, hE3, hb3⟩
  have hm3 := (hb3.block rs (Array.getElem?_eq_some_iff.1 HM2.out).1 (by omega)).trans HM2.out
  obtain ⟨z0, z1, z2, z3, z4, z5, z6⟩ := box7_of hm3
  have fz : ∀ j, w3.frozen? ⟨rs, j, none⟩ = false := fun j => frozen_of_row w3 _ j _ _ hm3
  have HM3 := Lib.hid hm3
  have HE3 := Lib.hid hE3
  have HB3 := Lib.hid ((HB2.out.mono (fun _ _ h => h.elim)).trans hb3)
  clear hm3 hE3 hb3 HTX
  go_wp2_with fail
  refine bodyPost_ret (v := .agg #[.int .i64 4, .bool false, .slice none 0 0, .int .i64 0, .string t, .slice none 0 0, .slice none 0 0]) (by simp [results, Tryz.results52, go_sem, z0, z1, z2, z3, z4, z5, z6]) rfl ?_
  have hs1 : But (fun k => k = rs) w3 (((((((w3.setCell ⟨rs, 0, none⟩ (.int .i64 4)).setCell ⟨rs, 1, none⟩ (.bool false)).setCell ⟨rs, 2, none⟩ (.slice none 0 0)).setCell ⟨rs, 3, none⟩ (.int .i64 0)).setCell ⟨rs, 4, none⟩ (.string t)).setCell ⟨rs, 5, none⟩ (.slice none 0 0)).setCell ⟨rs, 6, none⟩ (.slice none 0 0)) := (But.setCell (C := fun k => k = rs) (p := ⟨rs, 6, none⟩) (But.setCell (C := fun k => k = rs) (p := ⟨rs, 5, none⟩) (But.setCell (C := fun k => k = rs) (p := ⟨rs, 4, none⟩) (But.setCell (C := fun k => k = rs) (p := ⟨rs, 3, none⟩) (But.setCell (C := fun k => k = rs) (p := ⟨rs, 2, none⟩) (But.setCell (C := fun k => k = rs) (p := ⟨rs, 1, none⟩) (But.setCell (C := fun k => k = rs) (p := ⟨rs, 0, none⟩) (But.refl (fun k => k = rs) w3) (.inl rfl) (.int .i64 4)) (.inl rfl) (.bool false)) (.inl rfl) (.slice none 0 0)) (.inl rfl) (.int .i64 0)) (.inl rfl) (.string t)) (.inl rfl) (.slice none 0 0)) (.inl rfl) (.slice none 0 0))
  have hs2 : But (fun k => k = rb) w (((((((w3.setCell ⟨rs, 0, none⟩ (.int .i64 4)).setCell ⟨rs, 1, none⟩ (.bool false)).setCell ⟨rs, 2, none⟩ (.slice none 0 0)).setCell ⟨rs, 3, none⟩ (.int .i64 0)).setCell ⟨rs, 4, none⟩ (.string t)).setCell ⟨rs, 5, none⟩ (.slice none 0 0)).setCell ⟨rs, 6, none⟩ (.slice none 0 0)) := (But.setCell (C := fun k => k = rb) (p := ⟨rs, 6, none⟩) (But.setCell (C := fun k => k = rb) (p := ⟨rs, 5, none⟩) (But.setCell (C := fun k => k = rb) (p := ⟨rs, 4, none⟩) (But.setCell (C := fun k => k = rb) (p := ⟨rs, 3, none⟩) (But.setCell (C := fun k => k = rb) (p := ⟨rs, 2, none⟩) (But.setCell (C := fun k => k = rb) (p := ⟨rs, 1, none⟩) (But.setCell (C := fun k => k = rb) (p := ⟨rs, 0, none⟩) HB3.out (.inr (by show w.heap.size ≤ rs; omega)) (.int .i64 4)) (.inr (by show w.heap.size ≤ rs; omega)) (.bool false)) (.inr (by show w.heap.size ≤ rs; omega)) (.slice none 0 0)) (.inr (by show w.heap.size ≤ rs; omega)) (.int .i64 0)) (.inr (by show w.heap.size ≤ rs; omega)) (.string t)) (.inr (by show w.heap.size ≤ rs; omega)) (.slice none 0 0)) (.inr (by show w.heap.size ≤ rs; omega)) (.slice none 0 0))
  have hbase := HE3.out.base
  exact ⟨rfl, HE3.out.stay hs1 (fun k hk => by omega), hs2⟩
end Go.Proofs.YtcanfiaooabocaaGreatDoor
