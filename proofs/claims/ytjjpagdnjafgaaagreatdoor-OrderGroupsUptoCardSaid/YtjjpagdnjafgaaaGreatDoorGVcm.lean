/-
  Contracts of the library's cmp.Compare and slices.Compare at this program: numbers, texts, rows of texts.
  Contract of value's compare: how two values that may be stand, as ordV tells of their trees.
  Contract of value's compare, by induction on the tree.
  Contract of value's Compare: the error of the first value that has one, else how they stand.
-/
import Derived.Test.YtjjpagdnjafgaaaGreatDoorGVchk
import Derived.Test.YtjjpagdnjafgaaaGreatDoorGVord
import Derived.Deep.Cut
import Derived.Deep.QuietTactic
import Derived.Test.YtjjpagdnjafgaaaGreatDoorGDtold
import Derived.Maps.OwnIn
set_option linter.unusedVariables false
set_option linter.unusedSimpArgs false
namespace Go.Proofs.YtjjpagdnjafgaaaGreatDoor
open Go.RowKit

theorem cmpI_tri (x y : Int) : (x < y ∧ cmpI x y = -1) ∨ (x = y ∧ cmpI x y = 0) ∨ (y < x ∧ cmpI x y = 1) := by
  unfold cmpI; repeat' split
  all_goals omega
set_option maxRecDepth 100000 in
theorem cmpInt_c (x y : Int) (w : World) : Calls Tryz.prog 125 #[.int .i64 x, .int .i64 y] w fun e w' => e = .returned (.int .i64 (cmpI x y)) ∧ w = w' := by
  rcases cmpI_tri x y with ⟨h, e⟩ | ⟨h, e⟩ | ⟨h, e⟩
  · rw [e]
    clear e
    go_enter Tryz.func125, Tryz.ntmps125
    go_wp2
    go_ret
    exact ⟨rfl, rfl⟩
  · rw [e]
    clear e
    have h1 : ¬ x < y := by omega
    have h2 : ¬ y < x := by omega
    clear h
    go_enter Tryz.func125, Tryz.ntmps125
    go_wp2
    go_ret
    exact ⟨rfl, rfl⟩
  · rw [e]
    clear e
    have h1 : ¬ x < y := by omega
    go_enter Tryz.func125, Tryz.ntmps125
    go_wp2
    go_ret
    exact ⟨rfl, rfl⟩
set_option maxRecDepth 100000 in
theorem cmpStr_c (x y : ByteArray) (w : World) : Calls Tryz.prog 126 #[.string x, .string y] w fun e w' => e = .returned (.int .i64 (cmpB x y)) ∧ w = w' := by
  rcases cmpB_three x y with ⟨h, e⟩ | ⟨h, e⟩ | ⟨h, e⟩
  · rw [e]
    clear e
    have h1 : Go.Op.bytesLess x.toList y.toList = true := by rw [bytesLess_eq, decide_eq_true_eq]; exact h
    clear h
    go_enter Tryz.func126, Tryz.ntmps126
    go_wp2
    go_ret
    exact ⟨rfl, rfl⟩
  · rw [e]
    clear e
    have h1 : Go.Op.bytesLess x.toList y.toList = false := by rw [bytesLess_eq, decide_eq_false_iff_not, h]; exact List.lt_irrefl _
    have h2 : (x.toList == y.toList) = true := by rw [h]; exact beq_self_eq_true _
    clear h
    go_enter Tryz.func126, Tryz.ntmps126
    go_wp2
    go_ret
    exact ⟨rfl, rfl⟩
  · rw [e]
    clear e
    have h1 : Go.Op.bytesLess x.toList y.toList = false := by rw [bytesLess_eq, decide_eq_false_iff_not]; exact List.lt_asymm h
    have h2 : (x.toList == y.toList) = false := by rw [beq_eq_false_iff_ne]; intro e; rw [e] at h; exact List.lt_irrefl _ h
    clear h
    go_enter Tryz.func126, Tryz.ntmps126
    go_wp2
    go_ret
    exact ⟨rfl, rfl⟩

theorem lexC_stop {α : Type} (f : α → α → Int) {l m : List α} {a : α} {k : Nat} (hl : l[k]? = some a) (hm : m.length ≤ k) : lexC f (l.drop k) (m.drop k) = 1 := by
  obtain ⟨h, rfl⟩ := List.getElem?_eq_some_iff.1 hl
  rw [List.drop_eq_getElem_cons h, List.drop_of_length_le hm]
  rfl
theorem lexC_step {α : Type} (f : α → α → Int) {l m : List α} {a b : α} {k : Nat} (hl : l[k]? = some a) (hm : m[k]? = some b) : lexC f (l.drop k) (m.drop k) = if f a b = 0 then lexC f (l.drop (k + 1)) (m.drop (k + 1)) else f a b := by
  obtain ⟨h, rfl⟩ := List.getElem?_eq_some_iff.1 hl
  obtain ⟨h2, rfl⟩ := List.getElem?_eq_some_iff.1 hm
  rw [List.drop_eq_getElem_cons h, List.drop_eq_getElem_cons h2]
  rfl
theorem lexC_end {α : Type} (f : α → α → Int) {l m : List α} {k : Nat} (hl : l.length ≤ k) : lexC f (l.drop k) (m.drop k) = if k < m.length then -1 else 0 := by
  rw [List.drop_of_length_le hl]
  split
  · rename_i h; rw [List.drop_eq_getElem_cons h]; rfl
  · rename_i h; rw [List.drop_of_length_le (by omega)]; rfl

set_option maxRecDepth 100000 in
set_option maxHeartbeats 2000000 in
theorem lexT_c {S : Nat → Prop} {A B : Option Addr} {n m c d : Nat} {ks js : List ByteArray} (w : World) (ha : RdT w S A n ks) (hb : RdT w S B m js) (hn : n ≤ 140737488355328) (hm : m ≤ 140737488355328) :
    Calls Tryz.prog 127 #[.slice A n c, .slice B m d] w fun e w' => e = .returned (.int .i64 (lexC cmpB ks js)) ∧ ∃ q, w' = w.drewN q := by
  have HA := Lib.hid ha
  have HB := Lib.hid hb
  have hl1 := ha.1
  have hl2 := hb.1
  obtain ⟨R, hR⟩ : ∃ R, lexC cmpB ks js = R := ⟨_, rfl⟩
  rw [hR]
  have HR := Lib.hid hR
  clear ha hb hR
  have HL1 := Lib.hid hl1
  have HL2 := Lib.hid hl2
  clear hl1 hl2
  go_enter Tryz.func127, Tryz.ntmps127
  go_wp2_with fail
  go_loopw [11] (fun i wr => ∃ k q : Nat, k ≤ n ∧ i = .int .i64 (k : Int) ∧ Hid (lexC cmpB (ks.drop k) (js.drop k) = R) ∧ wr = w.drewN q) (fun i _ => n - (intOf i).toNat)
  case atStart => exact ⟨0, 0, Nat.zero_le _, rfl, HR.out, rfl⟩
  case round =>
    obtain ⟨k, q, hk, rfl, hlx, rfl⟩ := hrel
    by_cases hkn : k < n
    · obtain ⟨b1, o1, s1, rfl, _, hs1, hc1⟩ := HA.out.at_ hkn
      have hlt : (k : Int) < (n : Int) := by omega
      have hk0 : (0 : Int) ≤ (k : Int) := by omega
      have hkt : ((k : Int)).toNat = k := by omega
      have hkw : IntKind.i64.wrap ((k : Int) + 1) = (k : Int) + 1 := IntWalk.i64_in _ (by omega)
      have HS1 := Lib.hid hs1
      clear hs1
      by_cases hkm : k < m
      · obtain ⟨b2, o2, s2, rfl, _, hs2, hc2⟩ := HB.out.at_ hkm
        have hlm : ¬ (m : Int) ≤ (k : Int) := by omega
        have hlm2 : (k : Int) < (m : Int) := by omega
        have hstep := lexC_step cmpB HS1.out hs2
        rw [hlx.out] at hstep
        have HST := Lib.hid hstep
        have HC := cmpStr_c s1 s2 (w.drewN q)
        obtain ⟨z, hz⟩ : ∃ z, cmpB s1 s2 = z := ⟨_, rfl⟩
        rw [hz] at HC HST
        clear hz hs2 hstep hlx
        by_cases hz0 : z = 0
        · subst hz0
          have HR2 : Hid (lexC cmpB (ks.drop (k + 1)) (js.drop (k + 1)) = R) := by
            have := HST.out
            rw [if_pos rfl] at this
            exact this.symm
          clear HST
          go_wp2_with (go_at_call 126; refine HC.mono ?_; rintro e' w' ⟨rfl, rfl⟩)
          go_roundw
          case rel => exact ⟨k + 1, _, by omega, by go_num, HR2, by first | rfl | (simp only [World.drewN_drewN])⟩
          case measure => simp [intOf]; omega
        · have hz1 : (z == 0) = false := by rw [beq_eq_false_iff_ne]; exact hz0
          have HR2 : Hid (R = z) := by
            have := HST.out
            rw [if_neg hz0] at this
            exact this
          clear HST
          go_wp2_with (go_at_call 126; refine HC.mono ?_; rintro e' w' ⟨rfl, rfl⟩)
          go_ret
          refine ⟨?_, by first | exact ⟨_, rfl⟩ | (simp only [World.drewN_drewN]; exact ⟨_, rfl⟩)⟩
          rw [HR2.out]; rfl
      · have hlm : (m : Int) ≤ (k : Int) := by omega
        have HR2 : Hid (R = 1) := by
          show _ = _
          rw [← hlx.out, lexC_stop cmpB HS1.out (by have := HL2.out; omega)]
        clear hlx
        go_wp2_with fail
        go_ret
        refine ⟨?_, by first | exact ⟨_, rfl⟩ | (simp only [World.drewN_drewN]; exact ⟨_, rfl⟩)⟩
        rw [HR2.out]; rfl
    · have hge : ¬ (k : Int) < (n : Int) := by omega
      have hkn2 : k = n := by omega
      have HR2 : Hid (R = if n < m then -1 else 0) := by
        show _ = _
        rw [← hlx.out, lexC_end cmpB (by have := HL1.out; omega), HL2.out, hkn2]
      clear hlx hkn2
      by_cases hnm : n < m
      · have hnm2 : (n : Int) < (m : Int) := by omega
        rw [if_pos hnm] at HR2
        go_wp2_with fail
        go_ret
        refine ⟨?_, by first | exact ⟨_, rfl⟩ | (simp only [World.drewN_drewN]; exact ⟨_, rfl⟩)⟩
        rw [HR2.out]; rfl
      · have hnm2 : ¬ (n : Int) < (m : Int) := by omega
        rw [if_neg hnm] at HR2
        go_wp2_with fail
        go_ret
        refine ⟨?_, by first | exact ⟨_, rfl⟩ | (simp only [World.drewN_drewN]; exact ⟨_, rfl⟩)⟩
        rw [HR2.out]; rfl
end Go.Proofs.YtjjpagdnjafgaaaGreatDoor


namespace Go.Proofs.YtjjpagdnjafgaaaGreatDoor
open Go.RowKit Go.Lib

theorem size_list {k : Int} {n : Bool} {x : List Nat} {e : Int} {t : ByteArray} {l : List VT} {ks : List ByteArray} {y : VT} (h : y ∈ l) : SizeOf.sizeOf y < SizeOf.sizeOf (VT.mk k n x e t l ks) := by
  have := List.sizeOf_lt_of_mem h
  simp
  omega
theorem fine_list {k : Int} {n : Bool} {x : List Nat} {e : Int} {t : ByteArray} {l : List VT} {ks : List ByteArray} (h : fine (.mk k n x e t l ks)) {y : VT} (hy : y ∈ l) : fine y := by
  obtain ⟨ha, _⟩ := fine_self h
  obtain ⟨_, _, hf⟩ := alone_fit ha
  by_cases hh : hold k = true
  · exact fine_in h (by rw [inner_mk, if_pos hh]; exact hy)
  · exfalso
    have h3 : ¬ k = 5 := fun e => hh (by rw [e]; rfl)
    have h4 : ¬ k = 6 := fun e => hh (by rw [e]; rfl)
    have hl : l.length = 0 := by
      rw [fitV_mk] at hf
      repeat' split at hf
      all_goals (simp only [Bool.and_eq_true, decide_eq_true_eq] at hf; omega)
    rw [List.eq_nil_of_length_eq_zero hl] at hy
    simp at hy
theorem fine_num {k : Int} {n : Bool} {x : List Nat} {e : Int} {t : ByteArray} {l : List VT} {ks : List ByteArray} (h : fine (.mk k n x e t l ks)) (hk : k = 3) : okB n x e = true := by
  obtain ⟨ha, _⟩ := fine_self h
  obtain ⟨_, _, hf⟩ := alone_fit ha
  rw [fitV_mk, if_pos hk] at hf
  simp only [Bool.and_eq_true] at hf
  exact hf.1

end Go.Proofs.YtjjpagdnjafgaaaGreatDoor

namespace Go.Proofs.YtjjpagdnjafgaaaGreatDoor
open Go.RowKit

theorem VIn.l32 {w : World} {S : Nat → Prop} {x : VT} {cs : List Value} (h : VIn w S x cs) : ∀ y ∈ partsV x, L32 y.num := by
  induction h with
  | @mk k neg xs e t l ks A LA KA n c ln lc kn kc cs hr hn ht hks hkn hl hln hlc hrow hall ih =>
    intro y hy
    rcases mem_parts.1 hy with rfl | ⟨z, hz, hyz⟩
    · exact hr.l32
    · rw [inner_mk] at hz
      split at hz
      · obtain ⟨i, hi⟩ := List.mem_iff_getElem?.1 hz
        exact ih i z hi y hyz
      · simp at hz
theorem fine_ok {w : World} {S : Nat → Prop} {x : VT} {cs : List Value} (h : VIn w S x cs) (ho : errV x = 0) : fine x := fun y hy => ⟨(okV_parts ho).1 y hy, h.l32 y hy⟩
end Go.Proofs.YtjjpagdnjafgaaaGreatDoor
