/-
  Contracts of SameStrings, of num.
-/
import Derived.Test.YtdacdppmgcaioaaDoorLTck
import Derived.Deep.QuietTactic
import Derived.BigQuiet
set_option linter.unusedVariables false
set_option linter.unusedSimpArgs false
namespace Go.Proofs.YtdacdppmgcaioaaDoor
open Go.RowKit Go.Lib

theorem below_drewsT (w : World) (k : Nat) : Below w.heap.size w (w.drewN k) := ⟨rfl, rfl, rfl, Nat.le_refl _, fun _ _ => rfl⟩
theorem neq_list {x y : ByteArray} (h : x ≠ y) : (x.toList == y.toList) = false := by
  rw [beq_eq_false_iff_ne]
  intro e
  rw [Lib.toList_data, Lib.toList_data] at e
  exact h (ByteArray.ext (Array.ext' e))
theorem lnum13_c (n : Int) (w : World) : Calls Tryd.prog 19 #[.int .i64 n] w fun e w' => e = .returned (.int .i64 n) ∧ w = w' := by
  go_enter Tryd.func19, Tryd.ntmps19
  go_wp2_with fail
  go_ret
  exact ⟨rfl, rfl⟩
set_option maxHeartbeats 2000000 in
set_option maxRecDepth 100000 in
theorem sameStrings_c {B : Nat} {A A' : Option Addr} {c c' : Nat} {xs ys : List ByteArray} (w : World) (hx : RdX w B A xs) (hy : RdX w B A' ys) (hn : xs.length ≤ 9223372036854775806) (hn2 : ys.length ≤ 9223372036854775806) :
    Calls Tryd.prog 20 #[.slice A xs.length c, .slice A' ys.length c'] w fun e w' => e = .returned (.bool (decide (xs = ys))) ∧ Below w.heap.size w w' := by
  obtain ⟨n, hnl⟩ : ∃ n, xs.length = n := ⟨_, rfl⟩
  obtain ⟨k, hkl⟩ : ∃ n, ys.length = n := ⟨_, rfl⟩
  rw [hnl] at hn ⊢
  rw [hkl] at hn2 ⊢
  have HX := Lib.hid hx
  have HY := Lib.hid hy
  have HN := Lib.hid hnl
  have HK := Lib.hid hkl
  clear hx hy hnl hkl
  by_cases hnk : n = k
  · subst hnk
    go_enter Tryd.func20, Tryd.ntmps20
    go_wp2_with fail
    go_loopw [5] (fun iv wr => ∃ i j : Nat, i ≤ n ∧ iv = .int .i64 (i : Int) ∧ Hid (xs.take i = ys.take i) ∧ wr = w.drewN j) (fun iv _ => n - (RowKit.intOf iv).toNat)
    case atStart => exact ⟨0, 0, Nat.zero_le _, rfl, rfl, rfl⟩
    case round =>
      obtain ⟨i, j, hin, rfl, hok, rfl⟩ := hrel
      by_cases hi : i < n
      · have hilt : (i : Int) < (n : Int) := by omega
        have hi0 : (0 : Int) ≤ (i : Int) := by omega
        have hit : ((i : Int)).toNat = i := by omega
        have hiw : IntKind.i64.wrap ((i : Int) + 1) = (i : Int) + 1 := IntWalk.i64_in _ (by omega)
        obtain ⟨x, hxi⟩ : ∃ x, xs[i]? = some x := ⟨_, List.getElem?_eq_getElem (by rw [HN.out]; exact hi)⟩
        obtain ⟨y, hyi⟩ : ∃ y, ys[i]? = some y := ⟨_, List.getElem?_eq_getElem (by rw [HK.out]; exact hi)⟩
        obtain ⟨g, off, rfl, hg, hc⟩ := HX.out i x hxi
        obtain ⟨g2, off2, rfl, hg2, hc2⟩ := HY.out i y hyi
        have HXI := Lib.hid hxi
        have HYI := Lib.hid hyi
        have HOK := Lib.hid hok.out
        clear hok hxi hyi
        by_cases hxy : x = y
        · subst hxy
          have hzz : (x.toList == x.toList) = true := by simp
          go_wp2
          go_quiet (fail)
          go_wp2
          go_roundw
          case rel =>
            refine ⟨i + 1, _, by omega, by go_num, ?_, rfl⟩
            show _ = _
            rw [List.take_add_one, List.take_add_one, HXI.out, HYI.out, HOK.out]
          case measure => simp [RowKit.intOf]; omega
        · have hne : ¬ xs = ys := fun e => hxy (by
            have h1 := HXI.out
            rw [e, HYI.out] at h1
            injection h1 with h1
            exact h1.symm)
          have hd : decide (xs = ys) = false := decide_eq_false hne
          have hxb : (x.toList == y.toList) = false := neq_list hxy
          have HD := Lib.hid hd
          clear hne hd
          go_wp2
          go_quiet (fail)
          go_wp2
          go_ret
          exact ⟨by rw [HD.out]; rfl, ⟨rfl, rfl, rfl, Nat.le_refl _, fun _ _ => rfl⟩⟩
      · have hni : ¬ (i : Int) < (n : Int) := by omega
        have he : xs = ys := by
          have := hok.out
          rwa [show i = n by omega, List.take_of_length_le (by rw [HN.out]; omega), List.take_of_length_le (by rw [HK.out]; omega)] at this
        have hd : decide (xs = ys) = true := decide_eq_true he
        have HD := Lib.hid hd
        clear hd he hok
        go_wp2
        go_ret
        exact ⟨by rw [HD.out]; rfl, below_drewsT w j⟩
  · have hd : decide (xs = ys) = false := decide_eq_false (fun e => hnk (by rw [← HN.out, ← HK.out, e]))
    have hnkI : ((n : Int) != (k : Int)) = true := by simp; omega
    rw [hd]
    clear hd
    go_enter Tryd.func20, Tryd.ntmps20
    go_wp2_with fail
    go_ret
    exact ⟨rfl, Below.refl _ _⟩
end Go.Proofs.YtdacdppmgcaioaaDoor
