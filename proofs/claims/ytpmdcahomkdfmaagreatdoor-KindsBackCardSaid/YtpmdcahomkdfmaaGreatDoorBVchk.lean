/-
  Contract of value's isFit: whether number and keys are what the kind asks for, and what it does not use is zero.
  Contracts of what value's checkAlone looks for in texts: one that is none, one that is too long.
  Contract of value's checkAlone: the error of a value, but of its parts.
  Contract of value's Check: the error of a value, as errV tells of its tree.
-/
import Derived.Test.YtpmdcahomkdfmaaGreatDoorBVprt
import Derived.Deep.Cut
import Derived.Test.YtpmdcahomkdfmaaGreatDoorBUcheck
set_option linter.unusedVariables false
set_option linter.unusedSimpArgs false
namespace Go.Proofs.YtpmdcahomkdfmaaGreatDoor
open Go.RowKit

/-- The texts and the values of a value, the number of values alone. -/
def fitN (k : Int) (neg : Bool) (xs : List Nat) (e : Int) (t : ByteArray) (ln : Nat) (ks : List ByteArray) : Bool :=
  if k = 3 then okB neg xs e && decide (t.size + ln + ks.length = 0)
  else if k = 4 then decide (xs.length + ln + ks.length = 0) && !neg && decide (e = 0)
  else if k = 5 then decide (xs.length + t.size + ks.length = 0) && !neg && decide (e = 0)
  else if k = 6 then decide (ks.length = ln) && rises ks && decide (xs.length + t.size = 0) && !neg && decide (e = 0)
  else decide (xs.length + t.size + ln + ks.length = 0) && !neg && decide (e = 0)
theorem RdT.stay {w w' : World} {S : Nat → Prop} {A : Option Addr} {n B : Nat} {ks : List ByteArray} (h : RdT w S A n ks) (hb : Below B w w') (hS : ∀ b, S b → b < B) : RdT w' S A n ks := h.keep fun _ hp => hb.cell (hS _ hp)

set_option maxRecDepth 100000 in
set_option maxHeartbeats 2000000 in
theorem isFit_c {S : Nat → Prop} {k : Int} {neg : Bool} {A : Option Addr} {n c : Nat} {xs : List Nat} {e : Int} {t : ByteArray} {LA : Option Addr} {ln lc : Nat} {KA : Option Addr} {kn kc : Nat} {ks : List ByteArray} (w : World)
    (hr : Rd w S A n xs) (hn : n ≤ 140737488355328) (ht : t.size ≤ 140737488355328) (hln : ln ≤ 140737488355328) (hks : RdT w S KA kn ks) (hkn : kn ≤ 140737488355328) (hS : ∀ b, S b → b < w.heap.size) :
    Calls Tryz.prog 96 #[vv k neg A n c e t LA ln lc KA kn kc] w fun e' w' => e' = .returned (.bool (fitN k neg xs e t ln ks)) ∧ Below w.heap.size w w' := by
  have hW : Below w.heap.size w (w.alloc (.cells #[.int .i64 k, .bool neg, .slice A n c, .int .i64 e, .string t, .slice LA ln lc, .slice KA kn kc] 28)) := (Below.refl w.heap.size w).alloc (Nat.le_refl _) _
  have hxl := hr.len
  have hkl := hks.1
  unfold vv
  obtain ⟨R, hR⟩ : ∃ R, fitN k neg xs e t ln ks = R := ⟨_, rfl⟩
  rw [hR]
  have HR := Lib.hid hR
  clear hR
  by_cases h3 : k = 3
  · subst h3
    go_enter Tryz.func96, Tryz.ntmps96
    obtain ⟨x0, x1, x2, x3, x4, x5, x6⟩ := box7_of (World.alloc_heap_new w (.cells #[.int .i64 3, .bool neg, .slice A n c, .int .i64 e, .string t, .slice LA ln lc, .slice KA kn kc] 28))
    have HD := DCheck_c (c := c) neg e _ (hr.below hW hS) (fun b h => by have := hS b h; simp; omega) (by omega)
    have mx := World.alloc_heap_new w (.cells #[.int .i64 3, .bool neg, .slice A n c, .int .i64 e, .string t, .slice LA ln lc, .slice KA kn kc] 28)
    have hz : (w.alloc (.cells #[.int .i64 3, .bool neg, .slice A n c, .int .i64 e, .string t, .slice LA ln lc, .slice KA kn kc] 28)).heap.size = w.heap.size + 1 := by simp
    unfold dv at HD
    go_wp2_with fail
    generalize (w.alloc (.cells #[.int .i64 3, .bool neg, .slice A n c, .int .i64 e, .string t, .slice LA ln lc, .slice KA kn kc] 28)) = W0 at *
    refine HD.mono ?_
    rintro e' w1 ⟨rfl, hb1⟩
    have m1 := (hb1.block _ (by omega)).trans mx
    have HB := Lib.hid (hW.trans (hb1.mono (by omega)))
    clear x0 x1 x2 x3 x4 x5 x6 mx HD hb1 hW
    obtain ⟨x0, x1, x2, x3, x4, x5, x6⟩ := box7_of m1
    have f0 : ∀ j, w1.frozen? ⟨w.heap.size, j, none⟩ = false := fun j => frozen_of_row w1 _ j _ _ m1
    have e0 : ((okE neg xs e : Nat) : Int) = if okB neg xs e = true then 0 else 9 := by unfold okE; split <;> rfl
    rw [e0]
    clear e0
    have HU : Hid (R = (okB neg xs e && decide (t.size + ln + ks.length = 0))) := HR.out.symm
    obtain ⟨F, hF⟩ : ∃ F, okB neg xs e = F := ⟨_, rfl⟩
    rw [hF] at HU ⊢
    clear hF
    have hs1 : (0 : Int) + (t.size : Int) = (t.size : Int) := by omega
    cases F
    · simp only [Bool.false_eq_true, if_false, Bool.false_and] at HU ⊢
      go_wp2_with fail
      go_ret
      refine ⟨?_, ((HB.out.setCell (Nat.le_refl _) _).setCell (Nat.le_refl _) _).setCell (Nat.le_refl _) _⟩
      rw [HU.out]; rfl
    · simp only [if_true, Bool.true_and] at HU ⊢
      go_wp2_with fail
      all_goals
        go_ret
        refine ⟨?_, ((HB.out.setCell (Nat.le_refl _) _).setCell (Nat.le_refl _) _).setCell (Nat.le_refl _) _⟩
        rw [HU.out]
        first
          | (rw [show decide (t.size + ln + ks.length = 0) = false from (by rw [decide_eq_false_iff_not]; omega)]; rfl)
          | (rw [show decide (t.size + ln + ks.length = 0) = true from (by rw [decide_eq_true_eq]; omega)]; first | rfl | (cases neg <;> first | rfl | contradiction | (exfalso; simp_all; done)))
  · by_cases h4 : k = 4
    · subst h4
      have HU : Hid (R = (decide (xs.length + ln + ks.length = 0) && !neg && decide (e = 0))) := by
        have h1 := HR.out.symm
        show _ = _
        rw [h1]
        rfl
      go_enter Tryz.func96, Tryz.ntmps96
      obtain ⟨x0, x1, x2, x3, x4, x5, x6⟩ := box7_of (World.alloc_heap_new w (.cells #[.int .i64 4, .bool neg, .slice A n c, .int .i64 e, .string t, .slice LA ln lc, .slice KA kn kc] 28))
      clear hW
      go_wp2_with fail
      all_goals
        go_ret
        refine ⟨?_, (Below.refl _ w).alloc (Nat.le_refl _) _⟩
        rw [HU.out]
        first
          | (rw [show decide (xs.length + ln + ks.length = 0) = false from (by rw [decide_eq_false_iff_not]; omega)]; rfl)
          | (rw [show decide (xs.length + ln + ks.length = 0) = true from (by rw [decide_eq_true_eq]; omega)]; first | rfl | (cases neg <;> first | rfl | contradiction | (exfalso; simp_all; done)))
    · by_cases h5 : k = 5
      · subst h5
        have HU : Hid (R = (decide (xs.length + t.size + ks.length = 0) && !neg && decide (e = 0))) := by
          have h1 := HR.out.symm
          show _ = _
          rw [h1]
          rfl
        go_enter Tryz.func96, Tryz.ntmps96
        obtain ⟨x0, x1, x2, x3, x4, x5, x6⟩ := box7_of (World.alloc_heap_new w (.cells #[.int .i64 5, .bool neg, .slice A n c, .int .i64 e, .string t, .slice LA ln lc, .slice KA kn kc] 28))
        clear hW
        go_wp2_with fail
        all_goals
          go_ret
          refine ⟨?_, (Below.refl _ w).alloc (Nat.le_refl _) _⟩
          rw [HU.out]
          first
            | (rw [show decide (xs.length + t.size + ks.length = 0) = false from (by rw [decide_eq_false_iff_not]; omega)]; rfl)
            | (rw [show decide (xs.length + t.size + ks.length = 0) = true from (by rw [decide_eq_true_eq]; omega)]; first | rfl | (cases neg <;> first | rfl | contradiction | (exfalso; simp_all; done)))
      · by_cases h6 : k = 6
        · subst h6
          have HU : Hid (R = (decide (ks.length = ln) && rises ks && decide (xs.length + t.size = 0) && !neg && decide (e = 0))) := by
            have h1 := HR.out.symm
            show _ = _
            rw [h1]
            rfl
          have HRI := Lib.hid (rise_c (c := kc) (w.alloc (.cells #[.int .i64 6, .bool neg, .slice A n c, .int .i64 e, .string t, .slice LA ln lc, .slice KA kn kc] 28)) (hks.stay hW hS) (by unfold maxLen; omega))
          have mx := World.alloc_heap_new w (.cells #[.int .i64 6, .bool neg, .slice A n c, .int .i64 e, .string t, .slice LA ln lc, .slice KA kn kc] 28)
          go_enter Tryz.func96, Tryz.ntmps96
          obtain ⟨x0, x1, x2, x3, x4, x5, x6⟩ := box7_of mx
          have HB := Lib.hid hW
          clear hW
          by_cases hl : ks.length = ln
          · have b1 : ((kn : Int) == (ln : Int)) = true := by rw [beq_iff_eq]; omega
            go_wp2_with fail
            refine HRI.out.mono ?_
            rintro e' w1 ⟨rfl, q, hq⟩
            have hb1 : Below (w.heap.size + 1) (w.alloc (.cells #[.int .i64 6, .bool neg, .slice A n c, .int .i64 e, .string t, .slice LA ln lc, .slice KA kn kc] 28)) w1 := by rw [hq]; exact below_drewN (Below.refl _ _) _
            have m1 := (hb1.block _ (by omega)).trans mx
            have HB1 := Lib.hid (HB.out.trans (hb1.mono (by omega)))
            clear x0 x1 x2 x3 x4 x5 x6 mx hb1 hq
            obtain ⟨x0, x1, x2, x3, x4, x5, x6⟩ := box7_of m1
            have f0 : ∀ j, w1.frozen? ⟨w.heap.size, j, none⟩ = false := fun j => frozen_of_row w1 _ j _ _ m1
            have HL : Hid (decide (ks.length = ln) = true) := by show _ = _; rw [decide_eq_true_eq]; omega
            clear m1 HRI HB
            obtain ⟨F, hF⟩ : ∃ F, rises ks = F := ⟨_, rfl⟩
            rw [hF] at HU ⊢
            clear hF
            cases F
            all_goals
              go_wp2_with fail
              all_goals
                go_ret
                refine ⟨?_, (HB1.out.setCell (Nat.le_refl _) _).setCell (Nat.le_refl _) _⟩
                rw [HU.out, HL.out]
                first
                  | rfl
                  | (rw [show decide (xs.length + t.size = 0) = false from (by rw [decide_eq_false_iff_not]; omega)]; rfl)
                  | (rw [show decide (xs.length + t.size = 0) = true from (by rw [decide_eq_true_eq]; omega)]; first | rfl | (cases neg <;> first | rfl | contradiction | (exfalso; simp_all; done)))
          · have b1 : ((kn : Int) == (ln : Int)) = false := by rw [beq_eq_false_iff_ne]; omega
            go_wp2_with fail
            all_goals
              go_ret
              refine ⟨?_, (Below.refl _ w).alloc (Nat.le_refl _) _⟩
              rw [HU.out, show decide (ks.length = ln) = false from (by rw [decide_eq_false_iff_not]; omega)]; rfl
        · have b3 : (k == 3) = false := by rw [beq_eq_false_iff_ne]; exact h3
          have b4 : (k == 4) = false := by rw [beq_eq_false_iff_ne]; exact h4
          have b5 : (k == 5) = false := by rw [beq_eq_false_iff_ne]; exact h5
          have b6 : (k == 6) = false := by rw [beq_eq_false_iff_ne]; exact h6
          have HU : Hid (R = (decide (xs.length + t.size + ln + ks.length = 0) && !neg && decide (e = 0))) := by
            have h1 := HR.out.symm
            show _ = _
            rw [h1]
            unfold fitN; rw [if_neg h3, if_neg h4, if_neg h5, if_neg h6]
          go_enter Tryz.func96, Tryz.ntmps96
          obtain ⟨x0, x1, x2, x3, x4, x5, x6⟩ := box7_of (World.alloc_heap_new w (.cells #[.int .i64 k, .bool neg, .slice A n c, .int .i64 e, .string t, .slice LA ln lc, .slice KA kn kc] 28))
          clear hW
          go_wp2_with fail
          all_goals
            go_ret
            refine ⟨?_, (Below.refl _ w).alloc (Nat.le_refl _) _⟩
            rw [HU.out]
            first
              | (rw [show decide (xs.length + t.size + ln + ks.length = 0) = false from (by rw [decide_eq_false_iff_not]; omega)]; rfl)
              | (rw [show decide (xs.length + t.size + ln + ks.length = 0) = true from (by rw [decide_eq_true_eq]; omega)]; first | rfl | (cases neg <;> first | rfl | contradiction | (exfalso; simp_all; done)))
end Go.Proofs.YtpmdcahomkdfmaaGreatDoor

namespace Go.Proofs.YtpmdcahomkdfmaaGreatDoor
open Go.RowKit

theorem RdT.size {w : World} {S : Nat → Prop} {A : Option Addr} {n k : Nat} {ks : List ByteArray} {s : ByteArray} (h : RdT w S A n ks) (hs : ks[k]? = some s) : s.size ≤ 140737488355328 := by
  have hk := (List.getElem?_eq_some_iff.1 hs).1
  obtain ⟨h1, h2⟩ := h
  obtain ⟨b, off, e, hS, h3⟩ := h2 (by omega)
  exact (h3 k s hs).2

set_option maxRecDepth 100000 in
theorem bad1_c (s : ByteArray) (w : World) (hT : Tabs w) (hs : s.size ≤ 140737488355328) : Calls Tryz.prog 94 #[.string s] w fun e w' => e = .returned (.bool (!isT s.data.toList)) ∧ Below w.heap.size w w' := by
  have HC := UCheck_c s w hT hs
  have hE : (((errT s.data.toList : Nat) : Int) != 0) = !isT s.data.toList := by unfold errT; cases isT s.data.toList <;> rfl
  rw [← hE]
  clear hE
  go_enter Tryz.func94, Tryz.ntmps94
  go_wp2_with fail
  refine HC.mono ?_
  rintro e' w1 ⟨rfl, hb⟩
  clear HC
  go_wp2_with fail
  go_ret
  exact ⟨rfl, hb⟩

set_option maxRecDepth 100000 in
theorem bad2_c (s : ByteArray) (w : World) : Calls Tryz.prog 95 #[.string s] w fun e w' => e = .returned (.bool (decide (16384 < s.size))) ∧ Below w.heap.size w w' := by
  have hE : decide (16384 < s.size) = decide ((16384 : Int) < (s.size : Int)) := by rw [decide_eq_decide]; omega
  rw [hE]
  clear hE
  go_enter Tryz.func95, Tryz.ntmps95
  go_wp2_with fail
  go_ret
  exact ⟨rfl, Below.refl _ _⟩

set_option maxRecDepth 100000 in
set_option maxHeartbeats 1000000 in
theorem bad1Index_c {S : Nat → Prop} {A : Option Addr} {n c : Nat} {ks : List ByteArray} (w : World) (h : RdT w S A n ks) (hn : n ≤ 140737488355328) (hS : ∀ b, S b → b < w.heap.size) (hT : Tabs w) :
    Calls Tryz.prog 126 #[.slice A n c, .func (.func 94) #[] #[]] w fun e w' => ∃ z : Int, e = .returned (.int .i64 z) ∧ decide (0 ≤ z) = ks.any (fun s => !isT s.data.toList) ∧ Below w.heap.size w w' := by
  have HL := Lib.hid h.1
  have HH := Lib.hid h
  have HTT := Lib.hid hT
  clear h
  go_enter Tryz.func126, Tryz.ntmps126
  go_wp2_with fail
  go_loopw [8] (fun i wr => ∃ k : Nat, k ≤ n ∧ i = .int .i64 (k : Int) ∧ Hid (∀ j s, j < k → ks[j]? = some s → (!isT s.data.toList) = false) ∧ Below w.heap.size w wr) (fun i _ => n - (RowKit.intOf i).toNat)
  case atStart => exact ⟨0, Nat.zero_le _, rfl, (fun j s h0 _ => absurd h0 (Nat.not_lt_zero _)), Below.refl _ _⟩
  case round =>
    obtain ⟨k, hk, rfl, hno, hb⟩ := hrel
    by_cases hkn : k < n
    · obtain ⟨b1, o1, s1, rfl, hSb, hs1, hc0⟩ := HH.out.at_ hkn
      have hsz := HH.out.size hs1
      have hcell : wr.cell? ⟨b1, o1 + k, none⟩ = some (.string s1) := (hb.cell (p := ⟨b1, o1 + k, none⟩) (hS _ hSb)).trans hc0
      have hlt : (k : Int) < (n : Int) := by omega
      have hk0 : (0 : Int) ≤ (k : Int) := by omega
      have hkt : ((k : Int)).toNat = k := by omega
      have hkw : IntKind.i64.wrap ((k : Int) + 1) = (k : Int) + 1 := IntWalk.i64_in _ (by omega)
      have HC := bad1_c s1 wr (hT.below hb) hsz
      obtain ⟨P, hP⟩ : ∃ P, (let s := s1; !isT s.data.toList) = P := ⟨_, rfl⟩
      have HP := Lib.hid hP
      dsimp only at hP
      rw [hP] at HC
      clear hP
      have HB := Lib.hid hb
      have HS1 := Lib.hid hs1
      clear hb hs1 hc0 hsz
      go_wp2_with fail
      refine HC.mono ?_
      rintro e' w2 ⟨rfl, hb2⟩
      have hb3 := HB.out.trans (hb2.mono HB.out.size)
      cases P
      · go_wp2_with fail
        go_roundw
        case rel =>
          refine ⟨k + 1, by omega, by go_num, ?_, hb3⟩
          intro j s hj hs
          by_cases hjk : j = k
          · subst hjk
            rw [HS1.out] at hs
            injection hs with hs
            subst hs
            exact HP.out
          · exact hno.out j s (by omega) hs
        case measure => simp [RowKit.intOf]; omega
      · go_wp2_with fail
        go_ret
        refine ⟨_, rfl, ?_, hb3⟩
        rw [show decide (0 ≤ (k : Int)) = true from by rw [decide_eq_true_eq]; omega, eq_comm, List.any_eq_true]
        exact ⟨s1, List.mem_of_getElem? HS1.out, HP.out⟩
    · have hge : ¬ (k : Int) < (n : Int) := by omega
      have HB := Lib.hid hb
      have HNO := Lib.hid hno.out
      clear hb hno
      go_wp2_with fail
      go_ret
      refine ⟨_, rfl, ?_, HB.out⟩
      show false = _
      rw [eq_comm, List.any_eq_false]
      intro s hs
      obtain ⟨j, hj⟩ := List.mem_iff_getElem?.1 hs
      have := HNO.out j s (by have h1 := (List.getElem?_eq_some_iff.1 hj).1; have h2 := HL.out; omega) hj
      rw [this]; decide

set_option maxRecDepth 100000 in
theorem bad1Any_c {S : Nat → Prop} {A : Option Addr} {n c : Nat} {ks : List ByteArray} (w : World) (h : RdT w S A n ks) (hn : n ≤ 140737488355328) (hS : ∀ b, S b → b < w.heap.size) (hT : Tabs w) :
    Calls Tryz.prog 93 #[.slice A n c, .func (.func 94) #[] #[]] w fun e w' => e = .returned (.bool (ks.any (fun s => !isT s.data.toList))) ∧ Below w.heap.size w w' := by
  have HI := bad1Index_c (c := c) w h hn hS hT
  go_enter Tryz.func93, Tryz.ntmps93
  go_wp2_with fail
  refine HI.mono ?_
  rintro e' w1 ⟨z, rfl, hz, hb⟩
  have HZ := Lib.hid hz
  clear hz HI
  go_wp2_with fail
  go_ret
  refine ⟨?_, hb⟩
  rw [← HZ.out]; rfl

set_option maxRecDepth 100000 in
set_option maxHeartbeats 1000000 in
theorem bad2Index_c {S : Nat → Prop} {A : Option Addr} {n c : Nat} {ks : List ByteArray} (w : World) (h : RdT w S A n ks) (hn : n ≤ 140737488355328) (hS : ∀ b, S b → b < w.heap.size) :
    Calls Tryz.prog 126 #[.slice A n c, .func (.func 95) #[] #[]] w fun e w' => ∃ z : Int, e = .returned (.int .i64 z) ∧ decide (0 ≤ z) = ks.any (fun s => decide (16384 < s.size)) ∧ Below w.heap.size w w' := by
  have HL := Lib.hid h.1
  have HH := Lib.hid h
  clear h
  go_enter Tryz.func126, Tryz.ntmps126
  go_wp2_with fail
  go_loopw [8] (fun i wr => ∃ k : Nat, k ≤ n ∧ i = .int .i64 (k : Int) ∧ Hid (∀ j s, j < k → ks[j]? = some s → (decide (16384 < s.size)) = false) ∧ Below w.heap.size w wr) (fun i _ => n - (RowKit.intOf i).toNat)
  case atStart => exact ⟨0, Nat.zero_le _, rfl, (fun j s h0 _ => absurd h0 (Nat.not_lt_zero _)), Below.refl _ _⟩
  case round =>
    obtain ⟨k, hk, rfl, hno, hb⟩ := hrel
    by_cases hkn : k < n
    · obtain ⟨b1, o1, s1, rfl, hSb, hs1, hc0⟩ := HH.out.at_ hkn
      have hsz := HH.out.size hs1
      have hcell : wr.cell? ⟨b1, o1 + k, none⟩ = some (.string s1) := (hb.cell (p := ⟨b1, o1 + k, none⟩) (hS _ hSb)).trans hc0
      have hlt : (k : Int) < (n : Int) := by omega
      have hk0 : (0 : Int) ≤ (k : Int) := by omega
      have hkt : ((k : Int)).toNat = k := by omega
      have hkw : IntKind.i64.wrap ((k : Int) + 1) = (k : Int) + 1 := IntWalk.i64_in _ (by omega)
      have HC := bad2_c s1 wr
      obtain ⟨P, hP⟩ : ∃ P, (let s := s1; decide (16384 < s.size)) = P := ⟨_, rfl⟩
      have HP := Lib.hid hP
      dsimp only at hP
      rw [hP] at HC
      clear hP
      have HB := Lib.hid hb
      have HS1 := Lib.hid hs1
      clear hb hs1 hc0 hsz
      go_wp2_with fail
      refine HC.mono ?_
      rintro e' w2 ⟨rfl, hb2⟩
      have hb3 := HB.out.trans (hb2.mono HB.out.size)
      cases P
      · go_wp2_with fail
        go_roundw
        case rel =>
          refine ⟨k + 1, by omega, by go_num, ?_, hb3⟩
          intro j s hj hs
          by_cases hjk : j = k
          · subst hjk
            rw [HS1.out] at hs
            injection hs with hs
            subst hs
            exact HP.out
          · exact hno.out j s (by omega) hs
        case measure => simp [RowKit.intOf]; omega
      · go_wp2_with fail
        go_ret
        refine ⟨_, rfl, ?_, hb3⟩
        rw [show decide (0 ≤ (k : Int)) = true from by rw [decide_eq_true_eq]; omega, eq_comm, List.any_eq_true]
        exact ⟨s1, List.mem_of_getElem? HS1.out, HP.out⟩
    · have hge : ¬ (k : Int) < (n : Int) := by omega
      have HB := Lib.hid hb
      have HNO := Lib.hid hno.out
      clear hb hno
      go_wp2_with fail
      go_ret
      refine ⟨_, rfl, ?_, HB.out⟩
      show false = _
      rw [eq_comm, List.any_eq_false]
      intro s hs
      obtain ⟨j, hj⟩ := List.mem_iff_getElem?.1 hs
      have := HNO.out j s (by have h1 := (List.getElem?_eq_some_iff.1 hj).1; have h2 := HL.out; omega) hj
      rw [this]; decide

set_option maxRecDepth 100000 in
theorem bad2Any_c {S : Nat → Prop} {A : Option Addr} {n c : Nat} {ks : List ByteArray} (w : World) (h : RdT w S A n ks) (hn : n ≤ 140737488355328) (hS : ∀ b, S b → b < w.heap.size) :
    Calls Tryz.prog 93 #[.slice A n c, .func (.func 95) #[] #[]] w fun e w' => e = .returned (.bool (ks.any (fun s => decide (16384 < s.size)))) ∧ Below w.heap.size w w' := by
  have HI := bad2Index_c (c := c) w h hn hS
  go_enter Tryz.func93, Tryz.ntmps93
  go_wp2_with fail
  refine HI.mono ?_
  rintro e' w1 ⟨z, rfl, hz, hb⟩
  have HZ := Lib.hid hz
  clear hz HI
  go_wp2_with fail
  go_ret
  refine ⟨?_, hb⟩
  rw [← HZ.out]; rfl
end Go.Proofs.YtpmdcahomkdfmaaGreatDoor

namespace Go.Proofs.YtpmdcahomkdfmaaGreatDoor
open Go.RowKit

/-- The texts of a kind. -/
def ownTx (k : Int) (t : ByteArray) (ks : List ByteArray) : List ByteArray := if k = 4 then [t] else if k = 6 then ks else []
/-- What is told behind the kind, of these texts. -/
def aloneT (T : List ByteArray) (m : Nat) (fit : Bool) : Nat :=
  if T.any (fun s => !isT s.data.toList) then 61
  else if T.any (fun s => decide (16384 < s.size)) then 5
  else if 4096 < T.length ∨ 4096 < m then 5
  else if fit then 0 else 9
def aloneN (k : Int) (neg : Bool) (xs : List Nat) (e : Int) (t : ByteArray) (ln : Nat) (ks : List ByteArray) : Nat :=
  if k < 0 ∨ 6 < k then 23 else aloneT (ownTx k t ks) (if hold k then ln else 0) (fitN k neg xs e t ln ks)
theorem alone_mk (k : Int) (neg : Bool) (xs : List Nat) (e : Int) (t : ByteArray) (l : List VT) (ks : List ByteArray) : alone (.mk k neg xs e t l ks) = aloneN k neg xs e t l.length ks := by
  have h1 : (VT.mk k neg xs e t l ks).inner.length = if hold k then l.length else 0 := by rw [inner_mk]; split <;> rfl
  unfold alone aloneN aloneT
  rw [h1]
  rfl

set_option maxRecDepth 100000 in
set_option maxHeartbeats 4000000 in
theorem checkAlone_c {S : Nat → Prop} {k : Int} {neg : Bool} {A : Option Addr} {n c : Nat} {xs : List Nat} {e : Int} {t : ByteArray} {LA : Option Addr} {ln lc : Nat} {KA : Option Addr} {kn kc : Nat} {ks : List ByteArray} (w : World) (hT : Tabs w)
    (hr : Rd w S A n xs) (hn : n ≤ 140737488355328) (ht : t.size ≤ 140737488355328) (hln : ln ≤ 140737488355328) (hks : RdT w S KA kn ks) (hkn : kn ≤ 140737488355328) (hS : ∀ b, S b → b < w.heap.size) :
    Calls Tryz.prog 67 #[vv k neg A n c e t LA ln lc KA kn kc] w fun e' w' => e' = .returned (.int .i64 (aloneN k neg xs e t ln ks : Int)) ∧ Below w.heap.size w w' := by
  have hW : Below w.heap.size w (w.alloc (.cells #[.int .i64 k, .bool neg, .slice A n c, .int .i64 e, .string t, .slice LA ln lc, .slice KA kn kc] 28)) := (Below.refl w.heap.size w).alloc (Nat.le_refl _) _
  have HTT := Lib.hid hT
  have HR0 := Lib.hid hr
  clear hT hr
  unfold vv
  obtain ⟨R, hR⟩ : ∃ R : Nat, aloneN k neg xs e t ln ks = R := ⟨_, rfl⟩
  rw [hR]
  have HR := Lib.hid hR
  clear hR
  by_cases h4 : k = 4
  · subst h4
    have HU : Hid (R = aloneT [t] (if hold 4 then ln else 0) (fitN 4 neg xs e t ln ks)) := by
      show _ = _
      rw [← HR.out]; rfl
    unfold aloneT at HU
    have HW1 : Below w.heap.size w ((w.alloc (.cells #[.int .i64 4, .bool neg, .slice A n c, .int .i64 e, .string t, .slice LA ln lc, .slice KA kn kc] 28)).alloc (.cells #[.string t] 9)) := hW.alloc (by simp) _
    have hm1 : ((w.alloc (.cells #[.int .i64 4, .bool neg, .slice A n c, .int .i64 e, .string t, .slice LA ln lc, .slice KA kn kc] 28)).alloc (.cells #[.string t] 9)).heap[w.heap.size]? = some (.cells #[.int .i64 4, .bool neg, .slice A n c, .int .i64 e, .string t, .slice LA ln lc, .slice KA kn kc] 28) := (Below.heap_alloc _ _ _ (by simp)).trans (World.alloc_heap_new w (.cells #[.int .i64 4, .bool neg, .slice A n c, .int .i64 e, .string t, .slice LA ln lc, .slice KA kn kc] 28))
    have hrt : RdT ((w.alloc (.cells #[.int .i64 4, .bool neg, .slice A n c, .int .i64 e, .string t, .slice LA ln lc, .slice KA kn kc] 28)).alloc (.cells #[.string t] 9)) (fun b => b = w.heap.size + 1) (some ⟨w.heap.size + 1, 0, none⟩) 1 [t] := ⟨rfl, fun _ => ⟨w.heap.size + 1, 0, rfl, rfl, fun i s hs => by
      have hi : i = 0 ∧ t = s := by
        cases i with
        | zero => exact ⟨rfl, by simpa using hs⟩
        | succ i => simp at hs
      obtain ⟨rfl, rfl⟩ := hi
      have := World.alloc_heap_new (w.alloc (.cells #[.int .i64 4, .bool neg, .slice A n c, .int .i64 e, .string t, .slice LA ln lc, .slice KA kn kc] 28)) (.cells #[.string t] 9)
      rw [World.size_alloc] at this
      exact ⟨cell_at this rfl, ht⟩⟩⟩
    have hsz1 : ((w.alloc (.cells #[.int .i64 4, .bool neg, .slice A n c, .int .i64 e, .string t, .slice LA ln lc, .slice KA kn kc] 28)).alloc (.cells #[.string t] 9)).heap.size = w.heap.size + 2 := by simp
    have hS1 : ∀ b, (fun b => b = w.heap.size + 1) b → b < ((w.alloc (.cells #[.int .i64 4, .bool neg, .slice A n c, .int .i64 e, .string t, .slice LA ln lc, .slice KA kn kc] 28)).alloc (.cells #[.string t] 9)).heap.size := fun b hb => by rw [hsz1, hb]; omega
    obtain ⟨x0, x1, x2, x3, x4, x5, x6⟩ := box7_of (World.alloc_heap_new w (.cells #[.int .i64 4, .bool neg, .slice A n c, .int .i64 e, .string t, .slice LA ln lc, .slice KA kn kc] 28))
    go_enter Tryz.func67, Tryz.ntmps67
    go_upto_region 9 with fail
    clear x0 x1 x2 x3 x4 x5 x6
    generalize ((w.alloc (.cells #[.int .i64 4, .bool neg, .slice A n c, .int .i64 e, .string t, .slice LA ln lc, .slice KA kn kc] 28)).alloc (.cells #[.string t] 9)) = W1 at *
    have hT1 := HTT.out.below HW1
    have HA := bad1Any_c (c := 1) W1 hrt (by omega) hS1 hT1
    obtain ⟨P1, hP1⟩ : ∃ P, ([t]).any (fun s => !isT s.data.toList) = P := ⟨_, rfl⟩
    rw [hP1] at HA
    have HP1 := Lib.hid hP1
    have HM1 := Lib.hid hm1
    have HRT := Lib.hid hrt
    clear hP1 hm1 hrt hT1
    go_wp2_with fail
    refine HA.mono ?_
    rintro e' w2 ⟨rfl, hb2⟩
    have HW2 := HW1.trans (hb2.mono HW1.size)
    have hm2 := (hb2.block _ (by omega)).trans HM1.out
    cases P1
    · have HA2 := bad2Any_c (c := 1) w2 (HRT.out.stay hb2 hS1) (by omega) (fun b hb => Nat.lt_of_lt_of_le (hS1 b hb) hb2.size)
      obtain ⟨P2, hP2⟩ : ∃ P, ([t]).any (fun s => decide (16384 < s.size)) = P := ⟨_, rfl⟩
      rw [hP2] at HA2
      have HP2 := Lib.hid hP2
      have hz2 := hb2.size
      clear hP2 HA hb2
      go_wp2_with fail
      refine HA2.mono ?_
      rintro e' w3 ⟨rfl, hb3⟩
      have HW3 := HW2.trans (hb3.mono HW2.size)
      have hm3 := (hb3.block _ (by omega)).trans hm2
      have hz3 := hb3.size
      clear hm2 HA2 hb3
      cases P2
      · obtain ⟨x0, x1, x2, x3, x4, x5, x6⟩ := box7_of hm3
        by_cases hlen : 4096 < 1
        · exact absurd hlen (by omega)
        · have hlen2 : ¬ (4096 : Int) < ((1 : Nat) : Int) := by omega
          have HIN := inside_c 4 neg A n c e t LA ln lc KA kn kc w3
          obtain ⟨IV, iA, iN, iC, hIV, hiN⟩ : ∃ IV iA iN iC, (if hold 4 then Value.slice LA ln lc else .slice none 0 0) = IV ∧ IV = .slice iA iN iC ∧ iN = (if hold 4 then ln else 0) := by
            by_cases hh : hold 4 = true
            · rw [if_pos hh, if_pos hh]; exact ⟨_, _, _, _, rfl, rfl, rfl⟩
            · rw [if_neg hh, if_neg hh]; exact ⟨_, _, _, _, rfl, rfl, rfl⟩
          rw [hIV, hiN.1] at HIN
          have HIN2 := Lib.hid hiN.2
          clear hIV hiN
          unfold vv at HIN
          go_wp2_with fail
          refine HIN.mono ?_
          rintro e' w4 ⟨rfl, hb4⟩
          have HW4 := HW3.trans (hb4.mono HW3.size)
          have hm4 := (hb4.block _ (by omega)).trans hm3
          have hz4 := hb4.size
          clear hm3 HIN hb4 x0 x1 x2 x3 x4 x5 x6
          obtain ⟨x0, x1, x2, x3, x4, x5, x6⟩ := box7_of hm4
          by_cases hin : 4096 < iN
          · have hin2 : (4096 : Int) < (iN : Int) := by omega
            go_wp2_with fail
            go_ret
            refine ⟨?_, HW4⟩
            have hu := HU.out
            rw [HP1.out, HP2.out] at hu
            simp only [Bool.false_eq_true, if_false] at hu
            rw [if_pos (.inr (by rw [← HIN2.out]; exact hin))] at hu
            rw [hu]; rfl
          · have hin2 : ¬ (4096 : Int) < (iN : Int) := by omega
            have HF := isFit_c (k := 4) (neg := neg) (c := c) (e := e) (t := t) (LA := LA) (lc := lc) (kc := kc) (ln := ln) w4 (HR0.out.below HW4 hS) hn ht hln (hks.stay HW4 hS) hkn (fun b hb => Nat.lt_of_lt_of_le (hS b hb) HW4.size)
            unfold vv at HF
            obtain ⟨F, hF⟩ : ∃ F, fitN 4 neg xs e t ln ks = F := ⟨_, rfl⟩
            rw [hF] at HF
            have HFF := Lib.hid hF
            clear hF
            go_wp2_with fail
            refine HF.mono ?_
            rintro e' w5 ⟨rfl, hb5⟩
            have HW5 := HW4.trans (hb5.mono HW4.size)
            clear hm4 HF hb5 x0 x1 x2 x3 x4 x5 x6
            cases F
            all_goals
              go_wp2_with fail
              go_ret
              refine ⟨?_, HW5⟩
              have hu := HU.out
              rw [HP1.out, HP2.out] at hu
              simp only [Bool.false_eq_true, if_false] at hu
              rw [if_neg (fun h => h.elim (fun h => hlen (by simp at h)) (fun h => hin (by rw [HIN2.out]; exact h))), HFF.out] at hu
              rw [hu]; rfl
      · go_wp2_with fail
        go_ret
        refine ⟨?_, HW3⟩
        rw [HU.out, HP1.out, HP2.out]; rfl
    · go_wp2_with fail
      go_ret
      refine ⟨?_, HW2⟩
      rw [HU.out, HP1.out]; rfl
  · by_cases h6 : k = 6
    · subst h6
      have HU : Hid (R = aloneT ks (if hold 6 then ln else 0) (fitN 6 neg xs e t ln ks)) := by
        show _ = _
        rw [← HR.out]; rfl
      unfold aloneT at HU
      have hkl := hks.1
      have HW1 : Below w.heap.size w (w.alloc (.cells #[.int .i64 6, .bool neg, .slice A n c, .int .i64 e, .string t, .slice LA ln lc, .slice KA kn kc] 28)) := hW
      have hm1 : (w.alloc (.cells #[.int .i64 6, .bool neg, .slice A n c, .int .i64 e, .string t, .slice LA ln lc, .slice KA kn kc] 28)).heap[w.heap.size]? = some (.cells #[.int .i64 6, .bool neg, .slice A n c, .int .i64 e, .string t, .slice LA ln lc, .slice KA kn kc] 28) := World.alloc_heap_new w (.cells #[.int .i64 6, .bool neg, .slice A n c, .int .i64 e, .string t, .slice LA ln lc, .slice KA kn kc] 28)
      have hrt : RdT (w.alloc (.cells #[.int .i64 6, .bool neg, .slice A n c, .int .i64 e, .string t, .slice LA ln lc, .slice KA kn kc] 28)) (S) KA kn ks := hks.stay hW hS
      have hsz1 : (w.alloc (.cells #[.int .i64 6, .bool neg, .slice A n c, .int .i64 e, .string t, .slice LA ln lc, .slice KA kn kc] 28)).heap.size = w.heap.size + 1 := by simp
      have hS1 : ∀ b, (S) b → b < (w.alloc (.cells #[.int .i64 6, .bool neg, .slice A n c, .int .i64 e, .string t, .slice LA ln lc, .slice KA kn kc] 28)).heap.size := fun b hb => by rw [hsz1]; have := hS b hb; omega
      obtain ⟨x0, x1, x2, x3, x4, x5, x6⟩ := box7_of (World.alloc_heap_new w (.cells #[.int .i64 6, .bool neg, .slice A n c, .int .i64 e, .string t, .slice LA ln lc, .slice KA kn kc] 28))
      go_enter Tryz.func67, Tryz.ntmps67
      go_upto_region 9 with fail
      clear x0 x1 x2 x3 x4 x5 x6
      generalize (w.alloc (.cells #[.int .i64 6, .bool neg, .slice A n c, .int .i64 e, .string t, .slice LA ln lc, .slice KA kn kc] 28)) = W1 at *
      have hT1 := HTT.out.below HW1
      have HA := bad1Any_c (c := kc) W1 hrt hkn hS1 hT1
      obtain ⟨P1, hP1⟩ : ∃ P, (ks).any (fun s => !isT s.data.toList) = P := ⟨_, rfl⟩
      rw [hP1] at HA
      have HP1 := Lib.hid hP1
      have HM1 := Lib.hid hm1
      have HRT := Lib.hid hrt
      clear hP1 hm1 hrt hT1
      go_wp2_with fail
      refine HA.mono ?_
      rintro e' w2 ⟨rfl, hb2⟩
      have HW2 := HW1.trans (hb2.mono HW1.size)
      have hm2 := (hb2.block _ (by omega)).trans HM1.out
      cases P1
      · have HA2 := bad2Any_c (c := kc) w2 (HRT.out.stay hb2 hS1) hkn (fun b hb => Nat.lt_of_lt_of_le (hS1 b hb) hb2.size)
        obtain ⟨P2, hP2⟩ : ∃ P, (ks).any (fun s => decide (16384 < s.size)) = P := ⟨_, rfl⟩
        rw [hP2] at HA2
        have HP2 := Lib.hid hP2
        have hz2 := hb2.size
        clear hP2 HA hb2
        go_wp2_with fail
        refine HA2.mono ?_
        rintro e' w3 ⟨rfl, hb3⟩
        have HW3 := HW2.trans (hb3.mono HW2.size)
        have hm3 := (hb3.block _ (by omega)).trans hm2
        have hz3 := hb3.size
        clear hm2 HA2 hb3
        cases P2
        · obtain ⟨x0, x1, x2, x3, x4, x5, x6⟩ := box7_of hm3
          by_cases hlen : 4096 < kn
          · have hlen2 : (4096 : Int) < ((kn : Nat) : Int) := by omega
            go_wp2_with fail
            go_ret
            refine ⟨?_, HW3⟩
            have hu := HU.out
            rw [HP1.out, HP2.out] at hu
            simp only [Bool.false_eq_true, if_false] at hu
            rw [if_pos (.inl (by rw [hkl]; exact hlen))] at hu
            rw [hu]; rfl
          · have hlen2 : ¬ (4096 : Int) < ((kn : Nat) : Int) := by omega
            have HIN := inside_c 6 neg A n c e t LA ln lc KA kn kc w3
            obtain ⟨IV, iA, iN, iC, hIV, hiN⟩ : ∃ IV iA iN iC, (if hold 6 then Value.slice LA ln lc else .slice none 0 0) = IV ∧ IV = .slice iA iN iC ∧ iN = (if hold 6 then ln else 0) := by
              by_cases hh : hold 6 = true
              · rw [if_pos hh, if_pos hh]; exact ⟨_, _, _, _, rfl, rfl, rfl⟩
              · rw [if_neg hh, if_neg hh]; exact ⟨_, _, _, _, rfl, rfl, rfl⟩
            rw [hIV, hiN.1] at HIN
            have HIN2 := Lib.hid hiN.2
            clear hIV hiN
            unfold vv at HIN
            go_wp2_with fail
            refine HIN.mono ?_
            rintro e' w4 ⟨rfl, hb4⟩
            have HW4 := HW3.trans (hb4.mono HW3.size)
            have hm4 := (hb4.block _ (by omega)).trans hm3
            have hz4 := hb4.size
            clear hm3 HIN hb4 x0 x1 x2 x3 x4 x5 x6
            obtain ⟨x0, x1, x2, x3, x4, x5, x6⟩ := box7_of hm4
            by_cases hin : 4096 < iN
            · have hin2 : (4096 : Int) < (iN : Int) := by omega
              go_wp2_with fail
              go_ret
              refine ⟨?_, HW4⟩
              have hu := HU.out
              rw [HP1.out, HP2.out] at hu
              simp only [Bool.false_eq_true, if_false] at hu
              rw [if_pos (.inr (by rw [← HIN2.out]; exact hin))] at hu
              rw [hu]; rfl
            · have hin2 : ¬ (4096 : Int) < (iN : Int) := by omega
              have HF := isFit_c (k := 6) (neg := neg) (c := c) (e := e) (t := t) (LA := LA) (lc := lc) (kc := kc) (ln := ln) w4 (HR0.out.below HW4 hS) hn ht hln (hks.stay HW4 hS) hkn (fun b hb => Nat.lt_of_lt_of_le (hS b hb) HW4.size)
              unfold vv at HF
              obtain ⟨F, hF⟩ : ∃ F, fitN 6 neg xs e t ln ks = F := ⟨_, rfl⟩
              rw [hF] at HF
              have HFF := Lib.hid hF
              clear hF
              go_wp2_with fail
              refine HF.mono ?_
              rintro e' w5 ⟨rfl, hb5⟩
              have HW5 := HW4.trans (hb5.mono HW4.size)
              clear hm4 HF hb5 x0 x1 x2 x3 x4 x5 x6
              cases F
              all_goals
                go_wp2_with fail
                go_ret
                refine ⟨?_, HW5⟩
                have hu := HU.out
                rw [HP1.out, HP2.out] at hu
                simp only [Bool.false_eq_true, if_false] at hu
                rw [if_neg (fun h => h.elim (fun h => hlen (by rw [← hkl]; exact h)) (fun h => hin (by rw [HIN2.out]; exact h))), HFF.out] at hu
                rw [hu]; rfl
        · go_wp2_with fail
          go_ret
          refine ⟨?_, HW3⟩
          rw [HU.out, HP1.out, HP2.out]; rfl
      · go_wp2_with fail
        go_ret
        refine ⟨?_, HW2⟩
        rw [HU.out, HP1.out]; rfl
    · have b4 : (k == 4) = false := by rw [beq_eq_false_iff_ne]; exact h4
      have b6 : (k == 6) = false := by rw [beq_eq_false_iff_ne]; exact h6
      by_cases hk : k < 0 ∨ 6 < k
      · have HU : Hid (R = 23) := by
          show _ = _
          rw [← HR.out]; unfold aloneN; rw [if_pos hk]
        obtain ⟨x0, x1, x2, x3, x4, x5, x6⟩ := box7_of (World.alloc_heap_new w (.cells #[.int .i64 k, .bool neg, .slice A n c, .int .i64 e, .string t, .slice LA ln lc, .slice KA kn kc] 28))
        by_cases hk0 : k < 0
        · go_enter Tryz.func67, Tryz.ntmps67
          go_wp2_with fail
          go_ret
          refine ⟨?_, hW⟩
          rw [HU.out]; rfl
        · have hk6 : 6 < k := by omega
          go_enter Tryz.func67, Tryz.ntmps67
          go_wp2_with fail
          go_ret
          refine ⟨?_, hW⟩
          rw [HU.out]; rfl
      · have HU : Hid (R = aloneT [] (if hold k then ln else 0) (fitN k neg xs e t ln ks)) := by
          show _ = _
          rw [← HR.out]
          unfold aloneN ownTx
          rw [if_neg hk, if_neg h4, if_neg h6]
        unfold aloneT at HU
        have hk0 : ¬ k < 0 := by omega
        have hk6 : ¬ 6 < k := by omega
        clear hk
        have HW1 : Below w.heap.size w (w.alloc (.cells #[.int .i64 k, .bool neg, .slice A n c, .int .i64 e, .string t, .slice LA ln lc, .slice KA kn kc] 28)) := hW
        have hm1 : (w.alloc (.cells #[.int .i64 k, .bool neg, .slice A n c, .int .i64 e, .string t, .slice LA ln lc, .slice KA kn kc] 28)).heap[w.heap.size]? = some (.cells #[.int .i64 k, .bool neg, .slice A n c, .int .i64 e, .string t, .slice LA ln lc, .slice KA kn kc] 28) := World.alloc_heap_new w (.cells #[.int .i64 k, .bool neg, .slice A n c, .int .i64 e, .string t, .slice LA ln lc, .slice KA kn kc] 28)
        have hrt : RdT (w.alloc (.cells #[.int .i64 k, .bool neg, .slice A n c, .int .i64 e, .string t, .slice LA ln lc, .slice KA kn kc] 28)) (fun _ => False) none 0 ([] : List ByteArray) := ⟨rfl, fun h => absurd h (by omega)⟩
        have hsz1 : (w.alloc (.cells #[.int .i64 k, .bool neg, .slice A n c, .int .i64 e, .string t, .slice LA ln lc, .slice KA kn kc] 28)).heap.size = w.heap.size + 1 := by simp
        have hS1 : ∀ b, (fun _ => False) b → b < (w.alloc (.cells #[.int .i64 k, .bool neg, .slice A n c, .int .i64 e, .string t, .slice LA ln lc, .slice KA kn kc] 28)).heap.size := fun b hb => hb.elim
        obtain ⟨x0, x1, x2, x3, x4, x5, x6⟩ := box7_of (World.alloc_heap_new w (.cells #[.int .i64 k, .bool neg, .slice A n c, .int .i64 e, .string t, .slice LA ln lc, .slice KA kn kc] 28))
        go_enter Tryz.func67, Tryz.ntmps67
        go_upto_region 9 with fail
        clear x0 x1 x2 x3 x4 x5 x6
        generalize (w.alloc (.cells #[.int .i64 k, .bool neg, .slice A n c, .int .i64 e, .string t, .slice LA ln lc, .slice KA kn kc] 28)) = W1 at *
        have hT1 := HTT.out.below HW1
        have HA := bad1Any_c (c := 0) W1 hrt (by omega) hS1 hT1
        obtain ⟨P1, hP1⟩ : ∃ P, (([] : List ByteArray)).any (fun s => !isT s.data.toList) = P := ⟨_, rfl⟩
        rw [hP1] at HA
        have HP1 := Lib.hid hP1
        have HM1 := Lib.hid hm1
        have HRT := Lib.hid hrt
        clear hP1 hm1 hrt hT1
        go_wp2_with fail
        refine HA.mono ?_
        rintro e' w2 ⟨rfl, hb2⟩
        have HW2 := HW1.trans (hb2.mono HW1.size)
        have hm2 := (hb2.block _ (by omega)).trans HM1.out
        cases P1
        · have HA2 := bad2Any_c (c := 0) w2 (HRT.out.stay hb2 hS1) (by omega) (fun b hb => Nat.lt_of_lt_of_le (hS1 b hb) hb2.size)
          obtain ⟨P2, hP2⟩ : ∃ P, (([] : List ByteArray)).any (fun s => decide (16384 < s.size)) = P := ⟨_, rfl⟩
          rw [hP2] at HA2
          have HP2 := Lib.hid hP2
          have hz2 := hb2.size
          clear hP2 HA hb2
          go_wp2_with fail
          refine HA2.mono ?_
          rintro e' w3 ⟨rfl, hb3⟩
          have HW3 := HW2.trans (hb3.mono HW2.size)
          have hm3 := (hb3.block _ (by omega)).trans hm2
          have hz3 := hb3.size
          clear hm2 HA2 hb3
          cases P2
          · obtain ⟨x0, x1, x2, x3, x4, x5, x6⟩ := box7_of hm3
            by_cases hlen : 4096 < 0
            · exact absurd hlen (by omega)
            · have hlen2 : ¬ (4096 : Int) < ((0 : Nat) : Int) := by omega
              have HIN := inside_c k neg A n c e t LA ln lc KA kn kc w3
              obtain ⟨IV, iA, iN, iC, hIV, hiN⟩ : ∃ IV iA iN iC, (if hold k then Value.slice LA ln lc else .slice none 0 0) = IV ∧ IV = .slice iA iN iC ∧ iN = (if hold k then ln else 0) := by
                by_cases hh : hold k = true
                · rw [if_pos hh, if_pos hh]; exact ⟨_, _, _, _, rfl, rfl, rfl⟩
                · rw [if_neg hh, if_neg hh]; exact ⟨_, _, _, _, rfl, rfl, rfl⟩
              rw [hIV, hiN.1] at HIN
              have HIN2 := Lib.hid hiN.2
              clear hIV hiN
              unfold vv at HIN
              go_wp2_with fail
              refine HIN.mono ?_
              rintro e' w4 ⟨rfl, hb4⟩
              have HW4 := HW3.trans (hb4.mono HW3.size)
              have hm4 := (hb4.block _ (by omega)).trans hm3
              have hz4 := hb4.size
              clear hm3 HIN hb4 x0 x1 x2 x3 x4 x5 x6
              obtain ⟨x0, x1, x2, x3, x4, x5, x6⟩ := box7_of hm4
              by_cases hin : 4096 < iN
              · have hin2 : (4096 : Int) < (iN : Int) := by omega
                go_wp2_with fail
                go_ret
                refine ⟨?_, HW4⟩
                have hu := HU.out
                rw [HP1.out, HP2.out] at hu
                simp only [Bool.false_eq_true, if_false] at hu
                rw [if_pos (.inr (by rw [← HIN2.out]; exact hin))] at hu
                rw [hu]; rfl
              · have hin2 : ¬ (4096 : Int) < (iN : Int) := by omega
                have HF := isFit_c (k := k) (neg := neg) (c := c) (e := e) (t := t) (LA := LA) (lc := lc) (kc := kc) (ln := ln) w4 (HR0.out.below HW4 hS) hn ht hln (hks.stay HW4 hS) hkn (fun b hb => Nat.lt_of_lt_of_le (hS b hb) HW4.size)
                unfold vv at HF
                obtain ⟨F, hF⟩ : ∃ F, fitN k neg xs e t ln ks = F := ⟨_, rfl⟩
                rw [hF] at HF
                have HFF := Lib.hid hF
                clear hF
                go_wp2_with fail
                refine HF.mono ?_
                rintro e' w5 ⟨rfl, hb5⟩
                have HW5 := HW4.trans (hb5.mono HW4.size)
                clear hm4 HF hb5 x0 x1 x2 x3 x4 x5 x6
                cases F
                all_goals
                  go_wp2_with fail
                  go_ret
                  refine ⟨?_, HW5⟩
                  have hu := HU.out
                  rw [HP1.out, HP2.out] at hu
                  simp only [Bool.false_eq_true, if_false] at hu
                  rw [if_neg (fun h => h.elim (fun h => hlen (by simp at h)) (fun h => hin (by rw [HIN2.out]; exact h))), HFF.out] at hu
                  rw [hu]; rfl
          · go_wp2_with fail
            go_ret
            refine ⟨?_, HW3⟩
            rw [HU.out, HP1.out, HP2.out]; rfl
        · go_wp2_with fail
          go_ret
          refine ⟨?_, HW2⟩
          rw [HU.out, HP1.out]; rfl
end Go.Proofs.YtpmdcahomkdfmaaGreatDoor

namespace Go.Proofs.YtpmdcahomkdfmaaGreatDoor
open Go.RowKit Go.Lib
attribute [local go_sem] Oper.semAt_some

set_option maxRecDepth 100000 in
set_option maxHeartbeats 4000000 in
theorem VCheck_c {S : Nat → Prop} {x : VT} {cs : List Value} (w : World) (hT : Tabs w) (hx : VIn w S x cs) (hS : ∀ b, S b → b < w.heap.size) :
    Calls Tryz.prog 42 #[.agg cs.toArray] w fun e w' => e = .returned (.int .i64 ((errV x : Nat) : Int)) ∧ Below w.heap.size w w' := by
  have HX := Lib.hid hx
  obtain ⟨k, neg, xs, e, t, li, ks, hxk⟩ : ∃ k neg xs e t li ks, x = VT.mk k neg xs e t li ks := by cases x; exact ⟨_, _, _, _, _, _, _, rfl⟩
  rw [hxk] at hx
  obtain ⟨A, n, c, LA, ln, lc, KA, kn, kc, rfl, -⟩ := hx.parts
  clear hx hxk
  have HS := Lib.hid hS
  have HTT := Lib.hid hT
  clear hS hT
  obtain ⟨R, hR⟩ : ∃ R, errV x = R := ⟨_, rfl⟩
  rw [hR]
  have HR := Lib.hid hR
  clear hR
  refine (callsIn_wide (n := 0)).1 ?_
  refine callsIn_of_wp_marks Tryz.func42 rfl trivial ?_ rfl
  simp only [Tryz.ntmps42, List.size_toArray, List.length_cons, List.length_nil, Nat.reduceAdd, Nat.reduceSub, Array.replicate_succ, Array.replicate_zero, List.push_toArray, List.append_toArray, List.nil_append, List.cons_append]
  gi_wp2_with fail
  have hb1 : Below w.heap.size w ((w.alloc (.cells #[.int .i64 k, .bool neg, .slice A n c, .int .i64 e, .string t, .slice LA ln lc, .slice KA kn kc] 28)).alloc (.cells #[.int .i64 0] 30)) := ((Below.refl _ w).alloc (Nat.le_refl _) _).alloc (by simp) _
  have hz1 : ((w.alloc (.cells #[.int .i64 k, .bool neg, .slice A n c, .int .i64 e, .string t, .slice LA ln lc, .slice KA kn kc] 28)).alloc (.cells #[.int .i64 0] 30)).heap.size = w.heap.size + 2 := by simp
  have m1 : ((w.alloc (.cells #[.int .i64 k, .bool neg, .slice A n c, .int .i64 e, .string t, .slice LA ln lc, .slice KA kn kc] 28)).alloc (.cells #[.int .i64 0] 30)).heap[w.heap.size]? = some (.cells #[.int .i64 k, .bool neg, .slice A n c, .int .i64 e, .string t, .slice LA ln lc, .slice KA kn kc] 28) := (Below.heap_alloc _ _ _ (by simp)).trans (World.alloc_heap_new w _)
  have c1 : Boxed ((w.alloc (.cells #[.int .i64 k, .bool neg, .slice A n c, .int .i64 e, .string t, .slice LA ln lc, .slice KA kn kc] 28)).alloc (.cells #[.int .i64 0] 30)) (w.heap.size + 1) 30 (.int .i64 0) := by
    have := Boxed.new (w.alloc (.cells #[.int .i64 k, .bool neg, .slice A n c, .int .i64 e, .string t, .slice LA ln lc, .slice KA kn kc] 28)) 30 (.int .i64 0)
    rwa [World.size_alloc] at this
  generalize ((w.alloc (.cells #[.int .i64 k, .bool neg, .slice A n c, .int .i64 e, .string t, .slice LA ln lc, .slice KA kn kc] 28)).alloc (.cells #[.int .i64 0] 30)) = W1 at *
  refine ⟨trivial, rfl, ?_⟩
  refine (callsIn_wide.2 (deep_c 65 W1 (HX.out.keep fun p hp => hb1.cell (HS.out _ hp)) (fun b hb => by have := HS.out b hb; omega) (by omega) (by omega))).mono ?_
  rintro e' W2 ⟨o, rfl, ho, hb2⟩
  have m2 := (hb2.block _ (by omega)).trans m1
  have c2 : Boxed W2 (w.heap.size + 1) 30 (.int .i64 0) := (hb2.block _ (by omega)).trans c1
  have hw2 := hb1.trans (hb2.mono (by omega))
  have hz2 : w.heap.size + 2 ≤ W2.heap.size := by have := hb2.size; omega
  have HO := Lib.hid ho
  clear m1 c1 hb1 hb2 ho
  have hc2 := c2.cell
  have hf2 := c2.frozen
  by_cases hdp : 65 ≤ o
  · have hdp2 : (64 : Int) < (o : Int) := by omega
    have hr : Hid (R = 42) := by
      have := HO.out.1 hdp
      show _ = _
      rw [← HR.out]; unfold errV; rw [if_pos (by omega)]
    have hs := (c2.set (.int .i64 42)).cell
    gi_wp2_with fail
    exact ⟨.int .i64 42, by simp [results, Tryz.results42, go_sem, hs], by rw [hr.out]; rfl, hw2.setCell (by show w.heap.size ≤ w.heap.size + 1; omega) _⟩
  · have hdp2 : ¬ (64 : Int) < (o : Int) := by omega
    have HD : Hid (¬ 64 < deepL (seen x)) := fun h => hdp (HO.out.2 (by omega))
    obtain ⟨x0, x1, x2, x3, x4, x5, x6⟩ := box7_of m2
    gi_wp2_with fail
    refine ⟨trivial, rfl, ?_⟩
    refine (callsIn_wide.2 (size_c 16385 W2 (HX.out.keep fun p hp => hw2.cell (HS.out _ hp)) (fun b hb => by have := HS.out b hb; omega) (by omega) (by omega))).mono ?_
    rintro e' W3 ⟨rfl, hb3⟩
    have m3 := (hb3.block _ (by omega)).trans m2
    have c3 : Boxed W3 (w.heap.size + 1) 30 (.int .i64 0) := (hb3.block _ (by omega)).trans c2
    have hw3 := hw2.trans (hb3.mono (by omega))
    have hz3 : w.heap.size + 2 ≤ W3.heap.size := by have := hb3.size; omega
    clear m2 c2 hb3 hw2 hc2 hf2 x0 x1 x2 x3 x4 x5 x6 hz2
    have hc3 := c3.cell
    have hf3 := c3.frozen
    obtain ⟨q, hq⟩ : ∃ q : Nat, min 16385 (seen x).length = q := ⟨_, rfl⟩
    rw [hq]
    have HQ := Lib.hid hq
    clear hq
    by_cases hsz : 16385 ≤ q
    · have hsz2 : (16384 : Int) < (q : Int) := by omega
      have hr : Hid (R = 3) := by
        have := HQ.out
        show _ = _
        rw [← HR.out]; unfold errV; rw [if_neg HD.out, if_pos (by omega)]
      have hs := (c3.set (.int .i64 3)).cell
      gi_wp2_with fail
      exact ⟨.int .i64 3, by simp [results, Tryz.results42, go_sem, hs], by rw [hr.out]; rfl, hw3.setCell (by show w.heap.size ≤ w.heap.size + 1; omega) _⟩
    · have hsz2 : ¬ (16384 : Int) < (q : Int) := by omega
      have hr : Hid (R = firstBad (seen x)) := by
        have := HQ.out
        show _ = _
        rw [← HR.out]; unfold errV; rw [if_neg HD.out, if_neg (by omega)]
      obtain ⟨x0, x1, x2, x3, x4, x5, x6⟩ := box7_of m3
      gi_wp2_with fail
      refine ⟨trivial, rfl, ?_⟩
      refine (callsIn_wide.2 (vparts_c _ W3)).mono ?_
      rintro e' W4 ⟨rfl, hW4⟩
      have hb4 : Below W3.heap.size W3 W4 := by rw [hW4]; exact (Below.refl _ _).alloc (Nat.le_refl _) _
      have hz4 : W4.heap.size = W3.heap.size + 1 := by rw [hW4]; simp
      have hbox : W4.heap[W3.heap.size]? = some (.cells #[.int .i64 k, .bool neg, .slice A n c, .int .i64 e, .string t, .slice LA ln lc, .slice KA kn kc] 28) := by rw [hW4]; exact World.alloc_heap_new _ _
      have c4 : Boxed W4 (w.heap.size + 1) 30 (.int .i64 0) := (hb4.block _ (by omega)).trans c3
      have hw4 := hw3.trans (hb4.mono hw3.size)
      clear hW4 m3 c3 hw3 hc3 hf3 x0 x1 x2 x3 x4 x5 x6 hb4
      gi_wp2_with fail
      refine range_law_c (gf := 91) (lb := #[.pointer (some ⟨W3.heap.size, 0, none⟩)]) rfl (enters_of Tryz.func91 (by kernel_rfl) rfl) (Enc := EncV S) (C := fun k => k = w.heap.size + 1) (xs := seen x)
        (fun W C' hW h1 h2 => vparts1_iter W ((hW.block _ (by omega)).trans hbox) (HX.out.keep fun p hp => (hw4.trans (hW.mono (by omega))).cell (HS.out _ hp)) (fun b hb => by
          have h3 := HS.out b hb
          exact ⟨by have := hW.size; omega, fun h4 => by have := h1 b (by omega) h4; omega⟩) h2)
        (fun W p vs ⟨cs, h, _⟩ => by rw [h]; rfl)
        (encV_keep fun b hb => by have := HS.out b hb; omega) (fun k hk => by omega)
        (fun pre W => Hid (firstBad pre = 0) ∧ Boxed W (w.heap.size + 1) 30 (.int .i64 0) ∧ Below w.heap.size w W)
        (fun c pre W => c = .ret ∧ ∃ r : Nat, Hid (firstBad (seen x) = r) ∧ Boxed W (w.heap.size + 1) 30 (.int .i64 (r : Int)) ∧ Below w.heap.size w W)
        ?_ ?_ ?_ ?_ ?_ ?_
      · rintro pre X Y ⟨h1, h3, h4⟩ hb
        exact ⟨h1, (hb.block _ (by omega)).trans h3, h4.trans (hb.mono (by omega))⟩
      · rintro c pre X Y ⟨h0, r, h1, h3, h4⟩ hb
        exact ⟨h0, r, h1, (hb.block _ (by omega)).trans h3, h4.trans (hb.mono (by omega))⟩
      · intro W hW
        exact ⟨rfl, (hW.block _ (by omega)).trans c4, hw4.trans (hW.mono (by omega))⟩
      · rintro l pre ⟨lv, y⟩ rest vs Wv hx ⟨cs2, rfl, hv2⟩ W K hK
        have HK := Lib.hid hK
        have HPX := Lib.hid hx
        obtain ⟨k2, neg2, xs2, e2, t2, li2, ks2, hy⟩ : ∃ k2 neg2 xs2 e2 t2 li2 ks2, y = VT.mk k2 neg2 xs2 e2 t2 li2 ks2 := by cases y; exact ⟨_, _, _, _, _, _, _, rfl⟩
        rw [hy] at hv2
        obtain ⟨A2, n2, c2, LA2, ln2, lc2, KA2, kn2, kc2, rfl, -⟩ := hv2.parts
        have HY := Lib.hid hy
        clear hK hx hv2 hy
        have hW1 : Below W.heap.size W (W.alloc (.cells #[.int .i64 k2, .bool neg2, .slice A2 n2 c2, .int .i64 e2, .string t2, .slice LA2 ln2 lc2, .slice KA2 kn2 kc2] 28)) := (Below.refl _ _).alloc (Nat.le_refl _) _
        have hm1 := World.alloc_heap_new W (.cells #[.int .i64 k2, .bool neg2, .slice A2 n2 c2, .int .i64 e2, .string t2, .slice LA2 ln2 lc2, .slice KA2 kn2 kc2] 28)
        have hzz : (W.alloc (.cells #[.int .i64 k2, .bool neg2, .slice A2 n2 c2, .int .i64 e2, .string t2, .slice LA2 ln2 lc2, .slice KA2 kn2 kc2] 28)).heap.size = W.heap.size + 1 := by simp
        gi_wp2_with fail
        refine HK.out _ _ hW1 ?_
        rintro W5 ⟨h1, h3, h4⟩ ⟨cs3, hcs3, hv3⟩ hkc hsz3 hsz5 hof
        have hm5 := (hof _ (by rw [hzz]; omega) (by omega)).trans hm1
        have hcs4 : cs3 = [.int .i64 k2, .bool neg2, .slice A2 n2 c2, .int .i64 e2, .string t2, .slice LA2 ln2 lc2, .slice KA2 kn2 kc2] := by
          have h9 := congrArg (fun a : Array Value => a[1]?) hcs3
          simp at h9
          exact h9.symm
        subst hcs4
        rw [HY.out] at hv3
        obtain ⟨A', n', c', LA', ln', lc', KA', kn', kc', he, r1, r2, r3, r4, r5, r6, r7⟩ := hv3.parts
        simp only [List.cons.injEq, Value.slice.injEq] at he
        obtain ⟨_, _, ⟨rfl, rfl, rfl⟩, _, _, ⟨rfl, rfl, rfl⟩, ⟨rfl, rfl, rfl⟩, _⟩ := he
        have HC := checkAlone_c (k := k2) (neg := neg2) (c := c2) (e := e2) (t := t2) (LA := LA2) (lc := lc2) (kc := kc2) W5 (HTT.out.below h4) r1 r2 r3 r4.2.1 r5 r6 (fun b hb => Nat.lt_of_lt_of_le (HS.out b hb) h4.size)
        have hal : Hid (alone y = aloneN k2 neg2 xs2 e2 t2 ln2 ks2) := by
          show _ = _
          rw [HY.out, alone_mk, r4.1]
        unfold vv at HC
        clear hsz5 hof hkc hW1 hm1 hzz hv3 r1 r2 r3 r4 r5 r6 r7 hcs3
        obtain ⟨x0, x1, x2, x3, x4, x5, x6⟩ := box7_of hm5
        obtain ⟨AR, hAR⟩ : ∃ AR, aloneN k2 neg2 xs2 e2 t2 ln2 ks2 = AR := ⟨_, rfl⟩
        rw [hAR] at HC hal
        clear hAR
        gi_wp2_with fail
        refine ⟨trivial, rfl, ?_⟩
        refine CallsIn.inRound l ?_
        refine (callsIn_wide.2 HC).mono ?_
        rintro e' W6 ⟨rfl, hb6⟩
        have g3 : Boxed W6 (w.heap.size + 1) 30 (.int .i64 0) := (hb6.block _ h3.lt).trans h3
        have g4 := h4.trans (hb6.mono h4.size)
        have HK6 := Lib.hid (keeps_below hb6)
        have HC6 := Lib.hid (KeptC.of_below (C := fun k => k = w.heap.size + 1) hb6)
        have hc3 := g3.cell
        have hf3 := g3.frozen
        clear x0 x1 x2 x3 x4 x5 x6 hm5 hb6 HC
        have G4 := Lib.hid g4
        have HFB := Lib.hid h1.out
        clear h1 h3 h4 g4
        have hfa : firstBad (pre ++ [(lv, y)]) = if AR = 0 then 0 else AR := by
          rw [firstBad_append HFB.out]
          show (if alone y = 0 then _ else alone y) = _
          rw [hal.out]; rfl
        by_cases hA0 : AR = 0
        · subst hA0
          have hfa0 : Hid (firstBad (pre ++ [(lv, y)]) = 0) := by show _ = _; rw [hfa, if_pos rfl]
          clear hfa
          gi_wp2_with fail
          exact ⟨HK6.out, HC6.out, hfa0, g3, G4.out⟩
        · have hne : (((AR : Nat) : Int) == 0) = false := by rw [beq_eq_false_iff_ne]; omega
          have hfa0 : Hid (firstBad (seen x) = AR) := by
            show _ = _
            have h7 := HPX.out
            rw [h7, firstBad_append HFB.out]
            show (if alone y = 0 then _ else alone y) = _
            rw [hal.out, if_neg hA0]
          clear hfa
          have hset := g3.set (.int .i64 (AR : Int))
          gi_wp2_with fail
          exact ⟨HK6.out.trans (KeepsOthers.setCell _ _ _), rfl, AR, hfa0, hset, G4.out.setCell (by show w.heap.size ≤ w.heap.size + 1; omega) _⟩
      · rintro D W ⟨h1, h3, h4⟩ hD hK
        have hr0 : Hid (R = 0) := by show _ = _; rw [hr.out]; exact h1.out
        have hc3 := h3.cell
        have hf3 := h3.frozen
        have hset := h3.set (.int .i64 0)
        have hK2 : (W.setCell ⟨w.heap.size + 1, 0, none⟩ (.int .i64 0)).heap[D]? = some (.deferred (some [])) := (KeepsOthers.setCell _ _ _).same D _ hK rfl
        have hDl := (Array.getElem?_eq_some_iff.1 hK).1
        have hb7 := h4.setCell (p := ⟨w.heap.size + 1, 0, none⟩) (by show w.heap.size ≤ w.heap.size + 1; omega) (.int .i64 0)
        clear h1
        gi_wp2_with fail
        generalize (W.setCell ⟨w.heap.size + 1, 0, none⟩ (.int .i64 0)) = W7 at *
        have k1 : Boxed (W7.putObj D (.deferred none)) (w.heap.size + 1) 30 (.int .i64 0) := (World.putObj_heap_other (by omega)).trans hset
        refine ⟨by simp, .inl ⟨_, _, rfl, run_takeDeferred hK2, ?_⟩⟩
        exact ⟨.int .i64 0, by simp [results, Tryz.results42, go_sem, k1.cell], by rw [hr0.out]; rfl, hb7.trans (below_putC W7 _ (by omega))⟩
      · rintro D c pre W ⟨rfl, r, h1, h3, h4⟩ hD hK
        have hr0 : Hid (R = r) := by show _ = _; rw [hr.out]; exact h1.out
        clear h1
        gi_wp2_with fail
        have k1 : Boxed (W.putObj D (.deferred none)) (w.heap.size + 1) 30 (.int .i64 (r : Int)) := (World.putObj_heap_other (by omega)).trans h3
        refine ⟨by simp, .inl ⟨_, _, rfl, run_takeDeferred hK, ?_⟩⟩
        exact ⟨.int .i64 (r : Int), by simp [results, Tryz.results42, go_sem, k1.cell], by rw [hr0.out], h4.trans (below_putC W _ (by omega))⟩
end Go.Proofs.YtpmdcahomkdfmaaGreatDoor
