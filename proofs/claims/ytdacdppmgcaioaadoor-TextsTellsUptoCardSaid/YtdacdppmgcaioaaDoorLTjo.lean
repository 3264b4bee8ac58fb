/-
  Contract of Join.
-/
import Derived.Test.YtdacdppmgcaioaaDoorLTre
import Derived.Test.YtdacdppmgcaioaaDoorLTgr
set_option linter.unusedVariables false
set_option linter.unusedSimpArgs false
namespace Go.Proofs.YtdacdppmgcaioaaDoor
open Go.RowKit Go.Lib

abbrev dl (x : ByteArray) : List UInt8 := x.data.toList
theorem joinB_snoc (sep x : List UInt8) : ∀ l : List (List UInt8), l ≠ [] → joinB sep (l ++ [x]) = joinB sep l ++ sep ++ x
  | [p], _ => rfl
  | p :: q :: r, _ => by
    have ih := joinB_snoc sep x (q :: r) (by simp)
    show p ++ sep ++ joinB sep (q :: r ++ [x]) = p ++ sep ++ joinB sep (q :: r) ++ sep ++ x
    rw [ih]
    simp
set_option maxHeartbeats 2000000 in
set_option maxRecDepth 100000 in
theorem join1_c {B b1 b2 : Nat} {A : Option Addr} {c : Nat} {xs : List ByteArray} (sep : ByteArray) (w : World) (hx : RdX w B A xs) (hxs : ∀ x ∈ xs, x.size ≤ 140737488355328) (hn : xs.length ≤ 4294967296) (hs : sep.size ≤ 140737488355328)
    (h1 : w.heap[b1]? = some (.cells #[.slice A xs.length c] 22)) (h2 : w.heap[b2]? = some (.cells #[.string sep] 9)) (hb1 : b1 < B) (hb2 : b2 < B) (hBw : B ≤ w.heap.size) :
    Puts 38 #[.pointer (some ⟨b1, 0, none⟩), .pointer (some ⟨b2, 0, none⟩)] B w (joinB (dl sep) (xs.map dl)) := by
  intro pb W hp hS hb
  obtain ⟨n, hnl⟩ : ∃ n, xs.length = n := ⟨_, rfl⟩
  rw [hnl] at h1 hn
  have c1 : W.cell? ⟨b1, 0, none⟩ = some (.slice A n c) := (hb.cell (p := ⟨b1, 0, none⟩) hb1).trans (cellT h1 rfl)
  have c2 : W.cell? ⟨b2, 0, none⟩ = some (.string sep) := (hb.cell (p := ⟨b2, 0, none⟩) hb2).trans (cellT h2 rfl)
  have hBW : B ≤ W.heap.size := by have := hb.size; omega
  have hput := fun (out : List UInt8) (V : World) (s : ByteArray) (hsz : s.size ≤ 140737488355328) (hV : Sh B pb out V) (hz : B ≤ V.heap.size) => put_c V hV s hsz hz
  have HP := Lib.hid hput
  have HS := Lib.hid hS
  have HC2 := Lib.hid c2
  have HX := Lib.hid (hx.below hb)
  have HXS := Lib.hid hxs
  have HN := Lib.hid hnl
  clear hS hput h1 h2 hb c2 hx hxs hnl
  go_enter Tryd.func38, Tryd.ntmps38
  go_wp2_with fail
  go_loopw [8] (fun iv wr => ∃ i : Nat, i ≤ n ∧ iv = .int .i64 (i : Int) ∧ Hid (Sh B pb (joinB (dl sep) ((xs.take i).map dl)) wr) ∧ Hid (Mid B (fun k => B ≤ k) W wr)) (fun iv _ => n - (RowKit.intOf iv).toNat)
  case atStart => exact ⟨0, Nat.zero_le _, rfl, HS.out, Mid.refl _ _ _⟩
  case round =>
    obtain ⟨i, hin, rfl, hSh, hM⟩ := hrel
    by_cases hi : i < n
    · have hilt : (i : Int) < (n : Int) := by omega
      have hi0 : (0 : Int) ≤ (i : Int) := by omega
      have hit : ((i : Int)).toNat = i := by omega
      have hiw : IntKind.i64.wrap ((i : Int) + 1) = (i : Int) + 1 := IntWalk.i64_in _ (by omega)
      have hbel : Below B W wr := hM.out.below hBW (fun k hk h => by omega)
      have hwz : B ≤ wr.heap.size := by have := hM.out.size; omega
      obtain ⟨x, hxi⟩ : ∃ x, xs[i]? = some x := ⟨_, List.getElem?_eq_getElem (by rw [HN.out]; exact hi)⟩
      obtain ⟨g, off, rfl, hg, hc⟩ := HX.out i x hxi
      have d0 : wr.cell? ⟨g, off + i, none⟩ = some (.string x) := (hbel.cell (p := ⟨g, off + i, none⟩) hg).trans hc
      have d2 : wr.cell? ⟨b2, 0, none⟩ = some (.string sep) := (hbel.cell (p := ⟨b2, 0, none⟩) hb2).trans HC2.out
      have hxz : x.size ≤ 140737488355328 := HXS.out x (List.mem_of_getElem? hxi)
      have htk : (xs.take (i + 1)).map dl = (xs.take i).map dl ++ [dl x] := by rw [List.take_add_one, hxi, List.map_append]; rfl
      have hlen : ((xs.take i).map dl).length = i := by rw [List.length_map, List.length_take, HN.out]; omega
      have HTK := Lib.hid htk
      have HL := Lib.hid hlen
      have HM := Lib.hid hM.out
      have HSS := Lib.hid hSh.out
      clear htk hlen hM hSh hbel hc hxi
      by_cases h0 : i = 0
      · subst h0
        rw [Nat.add_zero] at d0
        have HPW := Lib.hid (HP.out _ wr x hxz HSS.out hwz)
        go_wp2_with fail
        refine HPW.out.mono ?_
        rintro e w1 ⟨rfl, hS1, hM1⟩
        have hfin : Sh B pb (joinB (dl sep) ((xs.take (0 + 1)).map dl)) w1 := by
          rw [HTK.out]
          have he : (xs.take 0).map dl = [] := List.length_eq_zero_iff.1 (by rw [HL.out])
          rw [he] at hS1 ⊢
          exact hS1
        have HS1 := Lib.hid hfin
        have HM1 := Lib.hid (HM.out.trans (mid_loose hM1 hp))
        clear hS1 hM1 hfin
        go_wp2_with fail
        go_roundw
        case rel => exact ⟨1, by omega, by go_num, HS1.out, HM1.out⟩
        case measure => simp [RowKit.intOf]; omega
      · have hiI : (0 : Int) < (i : Int) := by omega
        have HPW := Lib.hid (HP.out _ wr sep hs HSS.out hwz)
        go_wp2_with fail
        refine HPW.out.mono ?_
        rintro e w1 ⟨rfl, hS1, hM1⟩
        have HPW1 := Lib.hid (HP.out _ w1 x hxz hS1 (by have := hM1.size; omega))
        have HM1 := Lib.hid (HM.out.trans (mid_loose hM1 hp))
        clear hS1 hM1
        go_wp2_with fail
        refine HPW1.out.mono ?_
        rintro e w2 ⟨rfl, hS2, hM2⟩
        have hfin : Sh B pb (joinB (dl sep) ((xs.take (i + 1)).map dl)) w2 := by
          rw [HTK.out, joinB_snoc _ _ _ (fun he => h0 (by rw [← HL.out, he]; rfl))]
          exact hS2
        have HS2 := Lib.hid hfin
        have HM2 := Lib.hid (HM1.out.trans (mid_loose hM2 hp))
        clear hS2 hM2 hfin
        go_wp2_with fail
        go_roundw
        case rel => exact ⟨i + 1, by omega, by go_num, HS2.out, HM2.out⟩
        case measure => simp [RowKit.intOf]; omega
    · have hni : ¬ (i : Int) < (n : Int) := by omega
      have hfin := hSh.out
      rw [show i = n by omega, ← HN.out, List.take_length] at hfin
      have HSS := Lib.hid hfin
      have HM := Lib.hid hM.out
      clear hSh hM hfin
      go_wp2_with fail
      first | go_end0 | refine bodyPost_ret (results_none rfl _ _ _) rfl ?_
      exact ⟨rfl, HSS.out, HM.out⟩
set_option maxHeartbeats 2000000 in
set_option maxRecDepth 100000 in
theorem Join_c {A : Option Addr} {c : Nat} {xs : List ByteArray} (sep : ByteArray) (w : World) (hT : Tabs w) (hx : RdX w w.heap.size A xs) (hA : A = none → xs.length = 0 ∧ c = 0) (hxs : ∀ x ∈ xs, x.size ≤ 140737488355328) (hn : xs.length ≤ 4294967296) (hs : sep.size ≤ 140737488355328) :
    Calls Tryd.prog 9 #[.slice A xs.length c, .string sep] w fun e w' => e = .returned (.tuple #[.string (wrote (xs ++ [sep]) (joinB (dl sep) (xs.map dl))).1, .int .i64 (wrote (xs ++ [sep]) (joinB (dl sep) (xs.map dl))).2]) ∧ Below w.heap.size w w' := by
  obtain ⟨q, hq⟩ : ∃ q, w.heap.size = q := ⟨_, rfl⟩
  obtain ⟨w2, hw2⟩ : ∃ w2, (w.alloc (.cells #[.slice A xs.length c] 22)).alloc (.cells #[.string sep] 9) = w2 := ⟨_, rfl⟩
  have hb2 : Below q w w2 := by
    rw [← hw2, ← hq]
    exact ((Below.refl _ w).alloc (Nat.le_refl _) _).alloc (by simp) _
  have hs2 : w2.heap.size = q + 2 := by rw [← hw2]; simp [hq]
  have k1 : w2.heap[q]? = some (.cells #[.slice A xs.length c] 22) := by
    rw [← hw2, Below.heap_alloc _ _ _ (by simp; omega), ← hq]; exact World.alloc_heap_new _ _
  have k2 : w2.heap[q + 1]? = some (.cells #[.string sep] 9) := by
    rw [← hw2]
    have := World.alloc_heap_new (w.alloc (.cells #[.slice A xs.length c] 22)) (.cells #[.string sep] 9)
    rwa [World.size_alloc, hq] at this
  obtain ⟨w4, hw4⟩ : ∃ w4, (w2.alloc (.cells #[.string sep] 9)).alloc (.cells #[.slice A xs.length c, .slice (some ⟨w2.heap.size, 0, none⟩) 1 1] 22) = w4 := ⟨_, rfl⟩
  have hb4 : Below w2.heap.size w2 w4 := by
    rw [← hw4]
    exact ((Below.refl _ w2).alloc (Nat.le_refl _) _).alloc (by simp) _
  have hs4 : w4.heap.size = w2.heap.size + 2 := by rw [← hw4]; simp
  have k3 : w4.heap[w2.heap.size]? = some (.cells #[.string sep] 9) := by
    rw [← hw4, Below.heap_alloc _ _ _ (by simp)]; exact World.alloc_heap_new _ _
  have k4 : w4.heap[w2.heap.size + 1]? = some (.cells #[.slice A xs.length c, .slice (some ⟨w2.heap.size, 0, none⟩) 1 1] 22) := by
    rw [← hw4]
    have := World.alloc_heap_new (w2.alloc (.cells #[.string sep] 9)) (.cells #[.slice A xs.length c, .slice (some ⟨w2.heap.size, 0, none⟩) 1 1] 22)
    rwa [World.size_alloc] at this
  have hbq : Below q w w4 := hb2.trans (hb4.mono (by omega))
  have hx4 : RdX w4 w4.heap.size A xs := ((hq ▸ hx : RdX w q A xs).below hbq).up (by omega)
  have hcc := concat_c sep w4 hx4 hA hn k4 k3
  have c1 : w2.cell? ⟨q, 0, none⟩ = some (.slice A xs.length c) := cellT k1 rfl
  have c2 : w2.cell? ⟨q + 1, 0, none⟩ = some (.string sep) := cellT k2 rfl
  have hwr : ∀ (V : World) (g c' : Nat), Below w4.heap.size w4 V → g < V.heap.size → RdX V (g + 1) (some ⟨g, 0, none⟩) (xs ++ [sep]) → Calls Tryd.prog 37 #[.func (.func 38) #[] #[.pointer (some ⟨q, 0, none⟩), .pointer (some ⟨q + 1, 0, none⟩)], .slice (some ⟨g, 0, none⟩) (xs ++ [sep]).length c'] V fun e w' => e = .returned (.tuple #[.string (wrote (xs ++ [sep]) (joinB (dl sep) (xs.map dl))).1, .int .i64 (wrote (xs ++ [sep]) (joinB (dl sep) (xs.map dl))).2]) ∧ Below V.heap.size V w' := by
    intro V g c' hV hgl hrd
    have hV2 : Below w2.heap.size w2 V := hb4.trans (hV.mono (by omega))
    have hVs := hV.size
    refine written_c V (hT.below (hq ▸ hbq.trans (hV.mono (by omega)))) (hrd.up (by omega)) ?_ ?_ (fun ar W => by kernel_rfl) (fun _ => ?_)
    · intro x hx
      rcases List.mem_append.1 hx with h | h
      · exact hxs x h
      · rw [show x = sep by simpa using h]; exact hs
    · rw [List.length_append]; simp; omega
    · exact join1_c sep V ((hx4.below hV).up (by omega)) hxs hn hs ((hV2.block _ (by omega)).trans k1) ((hV2.block _ (by omega)).trans k2) (by omega) (by omega) (Nat.le_refl _)
  obtain ⟨RR, hRR⟩ : ∃ RR, wrote (xs ++ [sep]) (joinB (dl sep) (xs.map dl)) = RR := ⟨_, rfl⟩
  rw [hRR] at hwr ⊢
  obtain ⟨n, hnl⟩ : ∃ n, xs.length = n := ⟨_, rfl⟩
  obtain ⟨n1, hn1⟩ : ∃ n1, (xs ++ [sep]).length = n1 := ⟨_, rfl⟩
  rw [hnl] at c1 hw2 hw4 ⊢
  rw [hn1] at hcc hwr
  have HQ4 := Lib.hid hbq
  have HCC := Lib.hid hcc
  have HWR := Lib.hid hwr
  have HSZ := Lib.hid hs2
  have HS4 := Lib.hid hs4
  have HW4 := Lib.hid hw4
  clear hb2 hb4 hbq hcc hwr hs2 hs4 k1 k2 k3 k4 hx4 hx hT hw4 hRR hnl hn1 hA hxs
  go_enter Tryd.func9, Tryd.ntmps9
  go_upto_region 1 with fail
  try rw [hq]
  try rw [hw2]
  have HQ := Lib.hid hq
  clear hq hw2
  go_wp2_with fail
  try rw [HW4.out]
  refine HCC.out.mono ?_
  rintro e w5 ⟨g, c', rfl, hgb, hgl, hrd, hb5⟩
  have HB5 := Lib.hid (HQ4.out.trans (hb5.mono (by rw [HS4.out, HSZ.out]; omega)))
  have HW5 := Lib.hid (HWR.out w5 g c' hb5 hgl hrd)
  have hq5 : q ≤ w5.heap.size := by have := hb5.size; rw [HS4.out, HSZ.out] at this; omega
  clear hb5 hrd
  go_wp2_with fail
  refine HW5.out.mono ?_
  rintro e w6 ⟨rfl, hb6⟩
  have HB6 := Lib.hid (HB5.out.trans (hb6.mono hq5))
  clear hb6
  go_wp2_with fail
  go_ret2
  exact ⟨rfl, by rw [HQ.out]; exact HB6.out⟩
end Go.Proofs.YtdacdppmgcaioaaDoor
