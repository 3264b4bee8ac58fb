/-
  Trim: the program's and the reference's.
-/
import Derived.Test.YtdacdppmgcaioaaDoorLTrj
import Derived.Shelf.Strings.SlTrimAscii
set_option linter.unusedVariables false
set_option linter.unusedSimpArgs false
namespace Go.Proofs.YtdacdppmgcaioaaDoor
open Go.RowKit Go.Lib

theorem libTrim_c (s : ByteArray) (w : World) (hs : s.size ≤ 1048576) :
    Calls Tryd.prog 52 #[.string s, .string ⟨#[32, 9, 10, 13]⟩] w fun e w' => e = .returned (.string ⟨(Lib.trimS s.data.toList [32, 9, 10, 13]).toArray⟩) ∧ Below w.heap.size w w' :=
  Any.strings_Trim_laid Tryd.lays160 (by kernel_rfl) s ⟨#[32, 9, 10, 13]⟩ w (by omega) (by decide) (fun j b h => by
    have hj : j < 4 := (List.getElem?_eq_some_iff.1 h).1
    have hc : j = 0 ∨ j = 1 ∨ j = 2 ∨ j = 3 := by omega
    rcases hc with rfl | rfl | rfl | rfl <;> (simp at h; subst h; decide))
theorem trimSet_le (L cs : List UInt8) : (Lib.trimS L cs).length ≤ L.length := by
  unfold Lib.trimS Lib.trimLeftS Lib.trimRightS
  refine Nat.le_trans (List.dropWhile_sublist _).length_le ?_
  rw [List.length_reverse]
  exact Nat.le_trans (List.dropWhile_sublist _).length_le (by simp)
set_option maxHeartbeats 1000000 in
set_option maxRecDepth 100000 in
theorem trim1_c {B b1 : Nat} (s : ByteArray) (w : World) (hs : s.size ≤ 1048576) (h1 : w.heap[b1]? = some (.cells #[.string s] 9)) (hb1 : b1 < B) (hBw : B ≤ w.heap.size) :
    Puts 51 #[.pointer (some ⟨b1, 0, none⟩)] B w (Lib.trimS s.data.toList [32, 9, 10, 13]) := by
  intro pb W hp hS hb
  have c1 : W.cell? ⟨b1, 0, none⟩ = some (.string s) := (hb.cell (p := ⟨b1, 0, none⟩) hb1).trans (cellT h1 rfl)
  have hbw := hb.size
  have hlt := libTrim_c s W hs
  obtain ⟨R, hR⟩ : ∃ R : ByteArray, (⟨(Lib.trimS s.data.toList [32, 9, 10, 13]).toArray⟩ : ByteArray) = R := ⟨_, rfl⟩
  have hRL : R.data.toList = Lib.trimS s.data.toList [32, 9, 10, 13] := by rw [← hR]
  have hRs : R.size ≤ 140737488355328 := by
    have := trimSet_le s.data.toList [32, 9, 10, 13]
    rw [sizeT_list, hRL]
    rw [← sizeT_list] at this
    omega
  rw [hR] at hlt
  rw [← hRL]
  have HPUT := Lib.hid (fun V (hV : Sh B pb [] V) (hs : B ≤ V.heap.size) => put_c V hV R hRs hs)
  have HL := Lib.hid hlt
  have HS := Lib.hid hS
  clear hlt hS h1 hR hRL hb
  go_enter Tryd.func51, Tryd.ntmps51
  go_wp2_with fail
  refine HL.out.mono ?_
  rintro e w2 ⟨rfl, hb2⟩
  have HP := Lib.hid (HPUT.out w2 (HS.out.stay0 hb2) (by have := hb2.size; omega))
  have HB2 := Lib.hid hb2
  clear hb2
  go_wp2_with fail
  refine HP.out.mono ?_
  rintro e w3 ⟨rfl, hS3, hM3⟩
  go_wp2_with fail
  first | go_end0 | refine bodyPost_ret (results_none rfl _ _ _) rfl ?_
  exact ⟨rfl, by simpa using hS3, (Mid.of HB2.out).trans (mid_loose hM3 hp)⟩
set_option maxHeartbeats 1000000 in
set_option maxRecDepth 100000 in
theorem Trim_c (s : ByteArray) (w : World) (hT : Tabs w) (hs : s.size ≤ 1048576) :
    Calls Tryd.prog 17 #[.string s] w fun e w' => e = .returned (.tuple #[.string (wrote [s] (Lib.trimS s.data.toList [32, 9, 10, 13])).1, .int .i64 (wrote [s] (Lib.trimS s.data.toList [32, 9, 10, 13])).2]) ∧ Below w.heap.size w w' := by
  obtain ⟨q, hq⟩ : ∃ q, w.heap.size = q := ⟨_, rfl⟩
  obtain ⟨w2, hw2⟩ : ∃ w2, w.alloc (.cells #[.string s] 9) = w2 := ⟨_, rfl⟩
  have hb2 : Below q w w2 := by
    rw [← hw2, ← hq]
    exact (Below.refl _ w).alloc (Nat.le_refl _) _
  have hs2 : w2.heap.size = q + 1 := by rw [← hw2]; simp [hq]
  have k1 : w2.heap[q]? = some (.cells #[.string s] 9) := by
    rw [← hw2, ← hq]; exact World.alloc_heap_new _ _
  have hT2 : Tabs w2 := hT.below (hq ▸ hb2)
  have hn2 : Below w2.heap.size w2 (w2.alloc (.cells #[.string s] 9)) := (Below.refl _ w2).alloc (Nat.le_refl _) _
  have hwr := written_c (fn := 51) (caps := #[.pointer (some ⟨q, 0, none⟩)]) (c := 1) (w2.alloc (.cells #[.string s] 9)) (hT2.below hn2) (rdx1 w2 s) (by intro x hx; simp at hx; subst hx; omega) (by simp) (fun ar W => by kernel_rfl)
    (fun _ => trim1_c s _ hs ((hn2.block _ (by omega)).trans k1) (by rw [World.size_alloc]; omega) (Nat.le_refl _))
  have c1 : w2.cell? ⟨q, 0, none⟩ = some (.string s) := cellT k1 rfl
  have HB2 := Lib.hid (hb2.trans (hn2.mono (by omega)))
  have HW := Lib.hid hwr
  have HSZ := Lib.hid hs2
  clear hb2 hs2 k1 hT2 hn2 hwr hT
  go_enter Tryd.func17, Tryd.ntmps17
  go_upto_region 1 with fail
  try rw [hq]
  try rw [hw2]
  have HQ := Lib.hid hq
  clear hq hw2
  go_wp2_with fail
  refine HW.out.mono ?_
  rintro e w3 ⟨rfl, hb3⟩
  have HB3 := Lib.hid (HB2.out.trans (hb3.mono (by rw [World.size_alloc, HSZ.out]; omega)))
  clear hb3
  go_wp2_with fail
  go_ret2
  exact ⟨rfl, by rw [HQ.out]; exact HB3.out⟩

/-- A blank. -/
def blk (x : UInt8) : Bool := [32, 9, 10, 13].contains x
theorem blk_val (x : UInt8) : blk x = (decide (x.toNat = 32) || (decide (x.toNat = 9) || (decide (x.toNat = 10) || decide (x.toNat = 13)))) := by
  have h : ∀ y : UInt8, (x == y) = decide (x.toNat = y.toNat) := fun y => by
    rw [Bool.eq_iff_iff]
    simp [UInt8.toNat_inj]
  unfold blk
  rw [List.contains_cons, List.contains_cons, List.contains_cons, List.contains_cons, List.contains_nil, Bool.or_false, h, h, h, h]
  rfl
theorem blank_c (x : UInt8) (w : World) : Calls Tryd.prog 53 #[.int .u8 (x.toNat : Int)] w fun e w' => e = .returned (.bool (blk x)) ∧ w' = w := by
  rw [blk_val]
  obtain ⟨n, hn⟩ : ∃ n, x.toNat = n := ⟨_, rfl⟩
  rw [hn]
  clear hn
  by_cases h1 : n = 32
  · subst h1
    go_enter Tryd.func53, Tryd.ntmps53
    go_wp2_with fail
    go_ret
    exact ⟨rfl, rfl⟩
  by_cases h2 : n = 9
  · subst h2
    go_enter Tryd.func53, Tryd.ntmps53
    go_wp2_with fail
    go_ret
    exact ⟨rfl, rfl⟩
  by_cases h3 : n = 10
  · subst h3
    go_enter Tryd.func53, Tryd.ntmps53
    go_wp2_with fail
    go_ret
    exact ⟨rfl, rfl⟩
  by_cases h4 : n = 13
  · subst h4
    go_enter Tryd.func53, Tryd.ntmps53
    go_wp2_with fail
    go_ret
    exact ⟨rfl, rfl⟩
  have e1 : ((n : Int) == 32) = false := by simp; omega
  have e2 : ((n : Int) == 9) = false := by simp; omega
  have e3 : ((n : Int) == 10) = false := by simp; omega
  have e4 : ((n : Int) == 13) = false := by simp; omega
  rw [decide_eq_false h1, decide_eq_false h2, decide_eq_false h3, decide_eq_false h4]
  clear h1 h2 h3 h4
  go_enter Tryd.func53, Tryd.ntmps53
  go_wp2_with fail
  go_ret
  exact ⟨rfl, rfl⟩
theorem rev_snoc {a b : List UInt8} {y : UInt8} (h : a = b ++ [y]) : a.reverse = y :: b.reverse := by
  rw [h, List.reverse_append, List.reverse_singleton, List.singleton_append]
/-- How long a text is that a slot holds. -/
def strSz (v : Value) : Nat := match v with | .string s => s.size | _ => 0
/-- Taken off at the beginning first, or at the end first. -/
theorem trim_comm (p : UInt8 → Bool) : ∀ l : List UInt8, ((l.dropWhile p).reverse.dropWhile p).reverse = ((l.reverse.dropWhile p).reverse).dropWhile p
  | [] => rfl
  | x :: r => by
    by_cases hx : p x = true
    · rw [List.dropWhile_cons, if_pos hx, trim_comm p r, List.reverse_cons, List.dropWhile_append]
      by_cases he : (r.reverse.dropWhile p).isEmpty = true
      · rw [if_pos he]
        have h2 : r.reverse.dropWhile p = [] := by simpa using he
        rw [h2]
        simp [List.dropWhile_cons, hx]
      · rw [if_neg he, List.reverse_append]
        show _ = (x :: (r.reverse.dropWhile p).reverse).dropWhile p
        rw [List.dropWhile_cons, if_pos hx]
    · rw [List.dropWhile_cons, if_neg hx, List.reverse_cons, List.dropWhile_append]
      have h1 : [x].dropWhile p = [x] := by rw [List.dropWhile_cons, if_neg hx]
      by_cases he : (r.reverse.dropWhile p).isEmpty = true
      · rw [if_pos he, h1]
        show [x] = [x].dropWhile p
        rw [h1]
      · rw [if_neg he, List.reverse_append]
        show x :: (r.reverse.dropWhile p).reverse = (x :: (r.reverse.dropWhile p).reverse).dropWhile p
        rw [List.dropWhile_cons, if_neg hx]
theorem trim_both (L : List UInt8) : ((L.dropWhile blk).reverse.dropWhile blk).reverse = Lib.trimS L [32, 9, 10, 13] := trim_comm blk L
theorem drop_one {X : ByteArray} (h : 0 < X.size) : X.data.toList = (X[0]'h) :: (X.extract 1 X.size).data.toList := by
  rw [ext_drop]
  have := drop_at (s := X) (i := 0) h
  rwa [List.drop_zero] at this
theorem take_last {X : ByteArray} {k : Nat} (h : X.size = k + 1) : X.data.toList = (X.extract 0 k).data.toList ++ [X[k]'(by omega)] := by
  rw [ext_take]
  have h2 : k < X.data.toList.length := by rw [← sizeT_list]; omega
  have h3 : X.data.toList = X.data.toList.take (k + 1) := by rw [List.take_of_length_le (by rw [← sizeT_list]; omega)]
  conv => lhs; rw [h3, List.take_add_one, List.getElem?_eq_getElem h2]
  rfl
set_option maxHeartbeats 16000000 in
set_option maxRecDepth 100000 in
theorem rTrimW_c (s : ByteArray) (w : World) (hs : s.size ≤ 1048576) :
    Calls Tryd.prog 18 #[.string s] w fun e w' => e = .returned (.tuple #[.string (wrote [s] (Lib.trimS s.data.toList [32, 9, 10, 13])).1, .int .i64 (wrote [s] (Lib.trimS s.data.toList [32, 9, 10, 13])).2]) ∧ Below w.heap.size w w' := by
  have hck := rChecks1_c s w (by omega)
  obtain ⟨E, hE⟩ : ∃ E, errX [s] = E := ⟨_, rfl⟩
  have hc := errX_cases [s]
  rw [hE] at hck hc
  have HC := Lib.hid hck
  clear hck
  rcases hc with rfl | rfl
  · rw [wrote_ok hE, ← trim_both]
    obtain ⟨RR, hRR⟩ : ∃ RR, tell ((s.data.toList.dropWhile blk).reverse.dropWhile blk).reverse = RR := ⟨_, rfl⟩
    rw [hRR]
    have HRR := Lib.hid hRR
    clear hE hRR
    go_enter Tryd.func18, Tryd.ntmps18
    go_wp2_with fail
    refine HC.out.mono ?_
    rintro e w1 ⟨rfl, hb1⟩
    have HB := Lib.hid hb1
    clear hb1
    go_wp2_with fail
    go_loopw [0] (fun v wr => ∃ X : ByteArray, v = .string X ∧ Hid (X.data.toList.dropWhile blk = s.data.toList.dropWhile blk) ∧ X.size ≤ s.size ∧ w1 = wr) (fun v _ => strSz v)
    case atStart => exact ⟨s, rfl, rfl, Nat.le_refl _, rfl⟩
    case round =>
      obtain ⟨X, rfl, hX, hXs, rfl⟩ := hrel
      by_cases h0 : 0 < X.size
      · have d0 : decide ((0 : Int) < (X.size : Int)) = true := decide_eq_true (by omega)
        have hx1 : 1 ≤ X.size := h0
        have hdo := drop_one h0
        obtain ⟨x, hx⟩ : ∃ x, X[0]'h0 = x := ⟨_, rfl⟩
        have hxx : ∀ h : 0 < X.size, X[0]'h = x := fun _ => hx
        rw [hx] at hdo
        have hbk := blank_c x w1
        have HDO := Lib.hid hdo
        have HXX := Lib.hid hX.out
        clear hdo hx hX
        by_cases hb : blk x = true
        · rw [hb] at hbk
          have hnew : (X.extract 1 X.size).data.toList.dropWhile blk = s.data.toList.dropWhile blk := by
            rw [← HXX.out, HDO.out, List.dropWhile_cons, if_pos hb]
          have hsz : (X.extract 1 X.size).size + 1 = X.size := by
            have h9 := congrArg List.length HDO.out
            rw [List.length_cons, ← sizeT_list, ← sizeT_list] at h9
            omega
          have HN := Lib.hid hnew
          have HBK := Lib.hid hbk
          have HSZ := Lib.hid hsz
          clear hnew hbk hb hsz
          go_wp2_with fail
          refine HBK.out.mono ?_
          rintro e w4 ⟨rfl, hw4⟩
          have hw4 := hw4.symm
          subst hw4
          go_wp2_with fail
          go_roundw
          case rel => exact ⟨X.extract 1 X.size, rfl, HN.out, by have := HSZ.out; omega, trivial⟩
          case measure => show (X.extract 1 X.size).size < X.size; have := HSZ.out; omega
        · have hb : blk x = false := by simpa using hb
          rw [hb] at hbk
          have HD := Lib.hid (show X.data.toList = s.data.toList.dropWhile blk by
            rw [← HXX.out, HDO.out, List.dropWhile_cons, if_neg (by rw [hb]; decide)])
          have HBK := Lib.hid hbk
          clear hbk hb
          go_wp2_with fail
          refine HBK.out.mono ?_
          rintro e w4 ⟨rfl, hw4⟩
          have hw4 := hw4.symm
          subst hw4
          clear hxx hx1 d0
          go_wp2_with fail
          go_loopw [0] (fun v wr => ∃ Y : ByteArray, v = .string Y ∧ Hid (Y.data.toList.reverse.dropWhile blk = X.data.toList.reverse.dropWhile blk) ∧ Y.size ≤ s.size ∧ w1 = wr) (fun v _ => strSz v)
          case atStart => exact ⟨X, rfl, rfl, hXs, rfl⟩
          case round =>
            obtain ⟨Y, rfl, hY, hYs, rfl⟩ := hrel
            have hfin : ∀ (hend : Y.data.toList.reverse.dropWhile blk = Y.data.toList.reverse), tell Y.data.toList = RR := fun hend => by
              rw [← HRR.out, ← HD.out, ← hY.out, hend, List.reverse_reverse]
            have HFI := Lib.hid hfin
            have hcv := hcvT Y
            have HB3 := Lib.hid (HB.out.trans ((bytesBelowT w1 Y).mono HB.out.size))
            clear hfin
            by_cases h0 : 0 < Y.size
            · obtain ⟨k, hk⟩ : ∃ k, Y.size = k + 1 := ⟨Y.size - 1, by omega⟩
              have d0 : decide ((0 : Int) < (Y.size : Int)) = true := decide_eq_true (by omega)
              have hw : IntKind.i64.wrap ((Y.size : Int) - 1) = (k : Int) := by rw [IntWalk.i64_in _ (by omega)]; omega
              have hkI : (0 : Int) ≤ (k : Int) := by omega
              have hkk : ((k : Int)).toNat = k := by omega
              have hks : k < Y.size := by omega
              have hksI : (k : Int) < (Y.size : Int) := by omega
              have hle : k ≤ Y.size := by omega
              have htl := take_last hk
              obtain ⟨y, hy⟩ : ∃ y, Y[k]'hks = y := ⟨_, rfl⟩
              have hyx : ∀ h : k < Y.size, Y[k]'h = y := fun _ => hy
              rw [hy] at htl
              have hbk := blank_c y w1
              have HTL := Lib.hid htl
              have HYY := Lib.hid hY.out
              clear htl hy hY
              by_cases hb : blk y = true
              · rw [hb] at hbk
                have hnew : (Y.extract 0 k).data.toList.reverse.dropWhile blk = X.data.toList.reverse.dropWhile blk := by
                  rw [← HYY.out, HTL.out, List.reverse_append]
                  show _ = (y :: (Y.extract 0 k).data.toList.reverse).dropWhile blk
                  rw [List.dropWhile_cons, if_pos hb]
                have hsz : (Y.extract 0 k).size = k := by
                  have h9 := congrArg List.length HTL.out
                  rw [List.length_append, ← sizeT_list, ← sizeT_list] at h9
                  change Y.size = (Y.extract 0 k).size + 1 at h9
                  exact (Nat.succ.inj (hk.symm.trans h9)).symm
                have HN := Lib.hid hnew
                have HBK := Lib.hid hbk
                have HSZ := Lib.hid hsz
                clear hnew hbk hb HFI HB3 hcv hsz
                go_wp2_with fail
                refine HBK.out.mono ?_
                rintro e w4 ⟨rfl, hw4⟩
                have hw4 := hw4.symm
                subst hw4
                go_wp2_with fail
                go_roundw
                case rel => exact ⟨Y.extract 0 k, rfl, HN.out, Nat.le_trans (Nat.le_of_eq HSZ.out) (by omega), trivial⟩
                case measure => show (Y.extract 0 k).size < Y.size; exact Nat.lt_of_le_of_lt (Nat.le_of_eq HSZ.out) hks
              · have hb : blk y = false := by simpa using hb
                rw [hb] at hbk
                have hend := HFI.out (by
                  rw [rev_snoc HTL.out, List.dropWhile_cons, if_neg (by rw [hb]; decide)])
                have HW := Lib.hid (fun W => by
                  have h := whole_s (c := grownCap W Y.size 0 5) Y (Go.Lib.bytesWorld W 5 Y) (rdo_conv W Y)
                  rw [hend] at h
                  exact h)
                have HBK := Lib.hid hbk
                clear hbk hb hend HFI
                go_wp2_with fail
                refine HBK.out.mono ?_
                rintro e w4 ⟨rfl, hw4⟩
                have hw4 := hw4.symm
                subst hw4
                clear hyx d0 hw hkI hkk hksI hle HTL HYY hks hk
                go_wp2_with fail
                refine (HW.out _).mono ?_
                rintro e w5 ⟨rfl, rfl⟩
                go_wp2_with fail
                go_ret2
                exact ⟨rfl, HB3.out⟩
            · have d0 : decide ((0 : Int) < (Y.size : Int)) = false := decide_eq_false (by omega)
              have hend := HFI.out (by
                have : Y.data.toList = [] := List.length_eq_zero_iff.1 (by rw [← sizeT_list]; omega)
                rw [this]; rfl)
              have HW := Lib.hid (fun W => by
                have h := whole_s (c := grownCap W Y.size 0 5) Y (Go.Lib.bytesWorld W 5 Y) (rdo_conv W Y)
                rw [hend] at h
                exact h)
              clear hend HFI hY
              go_wp2_with fail
              refine (HW.out _).mono ?_
              rintro e w5 ⟨rfl, rfl⟩
              go_wp2_with fail
              go_ret2
              exact ⟨rfl, HB3.out⟩
      · have d0 : decide ((0 : Int) < (X.size : Int)) = false := decide_eq_false (by omega)
        have HD := Lib.hid (show X.data.toList = s.data.toList.dropWhile blk by
          have h9 : X.data.toList = [] := List.length_eq_zero_iff.1 (by rw [← sizeT_list]; omega)
          rw [← hX.out, h9]; rfl)
        clear hX
        go_wp2_with fail
        go_loopw [0] (fun v wr => ∃ Y : ByteArray, v = .string Y ∧ Hid (Y.data.toList.reverse.dropWhile blk = X.data.toList.reverse.dropWhile blk) ∧ Y.size ≤ s.size ∧ w1 = wr) (fun v _ => strSz v)
        case atStart => exact ⟨X, rfl, rfl, hXs, rfl⟩
        case round =>
          obtain ⟨Y, rfl, hY, hYs, rfl⟩ := hrel
          have hfin : ∀ (hend : Y.data.toList.reverse.dropWhile blk = Y.data.toList.reverse), tell Y.data.toList = RR := fun hend => by
            rw [← HRR.out, ← HD.out, ← hY.out, hend, List.reverse_reverse]
          have HFI := Lib.hid hfin
          have hcv := hcvT Y
          have HB3 := Lib.hid (HB.out.trans ((bytesBelowT w1 Y).mono HB.out.size))
          clear hfin
          by_cases h0 : 0 < Y.size
          · obtain ⟨k, hk⟩ : ∃ k, Y.size = k + 1 := ⟨Y.size - 1, by omega⟩
            have d0 : decide ((0 : Int) < (Y.size : Int)) = true := decide_eq_true (by omega)
            have hw : IntKind.i64.wrap ((Y.size : Int) - 1) = (k : Int) := by rw [IntWalk.i64_in _ (by omega)]; omega
            have hkI : (0 : Int) ≤ (k : Int) := by omega
            have hkk : ((k : Int)).toNat = k := by omega
            have hks : k < Y.size := by omega
            have hksI : (k : Int) < (Y.size : Int) := by omega
            have hle : k ≤ Y.size := by omega
            have htl := take_last hk
            obtain ⟨y, hy⟩ : ∃ y, Y[k]'hks = y := ⟨_, rfl⟩
            have hyx : ∀ h : k < Y.size, Y[k]'h = y := fun _ => hy
            rw [hy] at htl
            have hbk := blank_c y w1
            have HTL := Lib.hid htl
            have HYY := Lib.hid hY.out
            clear htl hy hY
            by_cases hb : blk y = true
            · rw [hb] at hbk
              have hnew : (Y.extract 0 k).data.toList.reverse.dropWhile blk = X.data.toList.reverse.dropWhile blk := by
                rw [← HYY.out, HTL.out, List.reverse_append]
                show _ = (y :: (Y.extract 0 k).data.toList.reverse).dropWhile blk
                rw [List.dropWhile_cons, if_pos hb]
              have hsz : (Y.extract 0 k).size = k := by
                have h9 := congrArg List.length HTL.out
                rw [List.length_append, ← sizeT_list, ← sizeT_list] at h9
                change Y.size = (Y.extract 0 k).size + 1 at h9
                exact (Nat.succ.inj (hk.symm.trans h9)).symm
              have HN := Lib.hid hnew
              have HBK := Lib.hid hbk
              have HSZ := Lib.hid hsz
              clear hnew hbk hb HFI HB3 hcv hsz
              go_wp2_with fail
              refine HBK.out.mono ?_
              rintro e w4 ⟨rfl, hw4⟩
              have hw4 := hw4.symm
              subst hw4
              go_wp2_with fail
              go_roundw
              case rel => exact ⟨Y.extract 0 k, rfl, HN.out, Nat.le_trans (Nat.le_of_eq HSZ.out) (by omega), trivial⟩
              case measure => show (Y.extract 0 k).size < Y.size; exact Nat.lt_of_le_of_lt (Nat.le_of_eq HSZ.out) hks
            · have hb : blk y = false := by simpa using hb
              rw [hb] at hbk
              have hend := HFI.out (by
                rw [rev_snoc HTL.out, List.dropWhile_cons, if_neg (by rw [hb]; decide)])
              have HW := Lib.hid (fun W => by
                have h := whole_s (c := grownCap W Y.size 0 5) Y (Go.Lib.bytesWorld W 5 Y) (rdo_conv W Y)
                rw [hend] at h
                exact h)
              have HBK := Lib.hid hbk
              clear hbk hb hend HFI
              go_wp2_with fail
              refine HBK.out.mono ?_
              rintro e w4 ⟨rfl, hw4⟩
              have hw4 := hw4.symm
              subst hw4
              clear hyx d0 hw hkI hkk hksI hle HTL HYY hks hk
              go_wp2_with fail
              refine (HW.out _).mono ?_
              rintro e w5 ⟨rfl, rfl⟩
              go_wp2_with fail
              go_ret2
              exact ⟨rfl, HB3.out⟩
          · have d0 : decide ((0 : Int) < (Y.size : Int)) = false := decide_eq_false (by omega)
            have hend := HFI.out (by
              have : Y.data.toList = [] := List.length_eq_zero_iff.1 (by rw [← sizeT_list]; omega)
              rw [this]; rfl)
            have HW := Lib.hid (fun W => by
              have h := whole_s (c := grownCap W Y.size 0 5) Y (Go.Lib.bytesWorld W 5 Y) (rdo_conv W Y)
              rw [hend] at h
              exact h)
            clear hend HFI hY
            go_wp2_with fail
            refine (HW.out _).mono ?_
            rintro e w5 ⟨rfl, rfl⟩
            go_wp2_with fail
            go_ret2
            exact ⟨rfl, HB3.out⟩
  · rw [wrote_no hE]
    clear hE
    go_enter Tryd.func18, Tryd.ntmps18
    go_wp2_with fail
    refine HC.out.mono ?_
    rintro e w1 ⟨rfl, hb1⟩
    have HB := Lib.hid hb1
    clear hb1
    go_wp2_with fail
    go_ret2
    exact ⟨rfl, HB.out⟩
end Go.Proofs.YtdacdppmgcaioaaDoor
