/-
  Contract of slices.Equal of rows of limbs.
  Contracts of slices.IndexFunc and ContainsFunc of values, for any function that answers by a value's tree and keeps what there was.
-/
import Derived.Test.YtipomnogabnfdaaGreatDoorPKck
import Derived.BigQuiet
set_option linter.unusedVariables false
set_option linter.unusedSimpArgs false
namespace Go.Proofs.YtipomnogabnfdaaGreatDoor
open Go.RowKit Go.Lib

theorem below_drewsK (w : World) (k : Nat) : Below w.heap.size w (w.drewN k) := ⟨rfl, rfl, rfl, Nat.le_refl _, fun _ _ => rfl⟩
set_option maxRecDepth 100000 in
set_option maxHeartbeats 4000000 in
theorem equalU_c {S S' : Nat → Prop} {A B : Option Addr} {n c m d : Nat} {xs ys : List Nat} (w : World) (ha : Rd w S A n xs) (hb : Rd w S' B m ys) (hn : n ≤ 140737488355328) (hS : ∀ b, S b → b < w.heap.size) (hS' : ∀ b, S' b → b < w.heap.size) :
    Calls Tryz.prog 46 #[.slice A n c, .slice B m d] w fun e w' => e = .returned (.bool (decide (xs = ys))) ∧ Below w.heap.size w w' := by
  by_cases hnm : n = m
  case neg =>
    have hne : ¬ xs = ys := fun h => hnm (by rw [← ha.len, ← hb.len, h])
    have hb1 : ((n : Int) == (m : Int)) = false := by rw [beq_eq_false_iff_ne]; omega
    rw [decide_eq_false hne]
    clear ha hb
    go_enter Tryz.func46, Tryz.ntmps46
    go_wp2_with fail
    go_ret
    exact ⟨rfl, Below.refl _ _⟩
  subst hnm
  have HA := Lib.hid ha
  have HB := Lib.hid hb
  have hlx := ha.len
  have hly := hb.len
  have HLX := Lib.hid hlx
  have HLY := Lib.hid hly
  obtain ⟨R, hR⟩ : ∃ R, decide (xs = ys) = R := ⟨_, rfl⟩
  have HR := Lib.hid hR
  rw [hR]
  clear ha hb hlx hly hR
  go_enter Tryz.func46, Tryz.ntmps46
  go_upto_region 4 with fail
  go_loopw [13] (fun iv wr => ∃ i q : Nat, i ≤ n ∧ iv = .int .i64 (i : Int) ∧ Hid (∀ j, j < i → nth xs j = nth ys j) ∧ wr = w.drewN q) (fun iv _ => n - (RowKit.intOf iv).toNat)
  case atStart => exact ⟨0, 0, Nat.zero_le _, rfl, fun j hj => absurd hj (Nat.not_lt_zero _), rfl⟩
  case round =>
    obtain ⟨i, q, hin, rfl, HJ, rfl⟩ := hrel
    by_cases hi : i < n
    · have hilt : (i : Int) < (n : Int) := by omega
      have hi0 : (0 : Int) ≤ (i : Int) := by omega
      have hit : ((i : Int)).toNat = i := by omega
      have hiw : IntKind.i64.wrap ((i : Int) + 1) = ((i + 1 : Nat) : Int) := by rw [IntWalk.i64_in _ (by omega)]; omega
      obtain ⟨ab, ao, rfl, hSa, hca⟩ := HA.out.at_ hi
      obtain ⟨bb, bo, rfl, hSb, hcb⟩ := HB.out.at_ hi
      clear hSa hSb
      by_cases hx : nth xs i = nth ys i
      · rw [← hx] at hcb
        have hzz : ((nth xs i : Int) != (nth xs i : Int)) = false := by simp
        go_upto_region 6 with fail
        go_quiet (fail)
        go_wp2_with fail
        go_roundw
        case rel =>
          refine ⟨i + 1, _, by omega, by go_num, fun j hj => ?_, rfl⟩
          rcases Nat.lt_or_ge j i with h | h
          · exact HJ.out j h
          · obtain rfl : j = i := by omega
            exact hx
        case measure => simp [RowKit.intOf]; omega
      · have hb1 : ((nth xs i : Int) == (nth ys i : Int)) = false := by rw [beq_eq_false_iff_ne]; omega
        have hRF : R = false := by
          rw [← HR.out]
          exact decide_eq_false fun h => hx (by rw [h])
        subst hRF
        go_upto_region 6 with fail
        go_quiet (fail)
        go_wp2_with fail
        go_ret
        exact ⟨rfl, (below_drewsK w _).trans (below_drewsK (w.drewN _) _)⟩
    · have hni : ¬ (i : Int) < (n : Int) := by omega
      have hRT : R = true := by
        rw [← HR.out]
        exact decide_eq_true (List.ext_getElem (HLX.out.trans HLY.out.symm) fun j h1 h2 => by
          have := HJ.out j (by have := HLX.out; omega)
          rw [nth_get h1, nth_get h2] at this
          exact this)
      subst hRT
      go_wp2_with fail
      go_ret
      exact ⟨rfl, below_drewsK w _⟩
end Go.Proofs.YtipomnogabnfdaaGreatDoor

namespace Go.Proofs.YtipomnogabnfdaaGreatDoor
open Go.RowKit Go.Lib

/-- What IndexFunc answers: no place where there is none, else some place. -/
def FoundK (R : Bool) (e : Ending) : Prop := (e = .returned (.int .i64 (-1)) ∧ R = false) ∨ ∃ k : Nat, e = .returned (.int .i64 (k : Int)) ∧ R = true
/-- A function's answer, whatever is made in between. -/
def AnsK (S : Nat → Prop) (l : List VT) (P : VT → Bool) (cap : Value) (w : World) : Prop :=
  ∀ (x : VT) (cs : List Value) (wr : World), x ∈ l → VIn wr S x cs → Below w.heap.size w wr → Calls Tryz.prog 42 #[.agg cs.toArray, cap] wr fun e w' => e = .returned (.bool (P x)) ∧ Below wr.heap.size wr w'
set_option maxRecDepth 100000 in
set_option maxHeartbeats 4000000 in
theorem indexV_c {S : Nat → Prop} {A : Option Addr} {n c : Nat} {l : List VT} (P : VT → Bool) (cap : Value) (w : World) (hl : RdL w S A n l) (hS : ∀ b, S b → b < w.heap.size) (hf : AnsK S l P cap w) :
    Calls Tryz.prog 74 #[.slice A n c, .func (.func 42) #[] #[cap]] w fun e w' => FoundK (l.any P) e ∧ Below w.heap.size w w' := by
  have HL := Lib.hid hl
  have HF := Lib.hid hf
  have hll := hl.1
  have hnb := hl.2.1
  have HLL := Lib.hid hll
  obtain ⟨R, hR⟩ : ∃ R, l.any P = R := ⟨_, rfl⟩
  have HR := Lib.hid hR
  rw [hR]
  clear hl hf hll hR
  go_enter Tryz.func74, Tryz.ntmps74
  go_upto_region 2 with fail
  go_loopw [8] (fun iv wr => ∃ i : Nat, i ≤ n ∧ iv = .int .i64 (i : Int) ∧ Hid (∀ j x, j < i → l[j]? = some x → P x = false) ∧ Hid (Below w.heap.size w wr)) (fun iv _ => n - (RowKit.intOf iv).toNat)
  case atStart => exact ⟨0, Nat.zero_le _, rfl, fun j _ hj => absurd hj (Nat.not_lt_zero _), Below.refl _ _⟩
  case round =>
    obtain ⟨i, hin, rfl, HJ, HBR⟩ := hrel
    by_cases hi : i < n
    · have hilt : (i : Int) < (n : Int) := by omega
      have hi0 : (0 : Int) ≤ (i : Int) := by omega
      have hit : ((i : Int)).toNat = i := by omega
      have hiw : IntKind.i64.wrap ((i : Int) + 1) = ((i + 1 : Nat) : Int) := by rw [IntWalk.i64_in _ (by omega)]; omega
      have hlr := HL.out.keep (w' := wr) fun p hp => HBR.out.cell (p := p) (hS _ hp)
      obtain ⟨eb, off, item, csi, rfl, hSb, hit2, h7, hcells, hvi⟩ := hlr.at_ hi
      obtain ⟨k3, neg3, A3, n3, c3, ex3, t3, LA3, ln3, lc3, KA3, kn3, kc3, rfl, -, -⟩ := hvi.seven
      have hcw : ∀ a, a < 7 → wr.cell? ⟨eb, off + (i * 7 + a), none⟩ = _ := fun a ha => hcells a ha
      have d0 : wr.cell? ⟨eb, off + i * 7, none⟩ = some (.int .i64 k3) := hcw 0 (by omega)
      have d1 : wr.cell? ⟨eb, off + i * 7 + 1, none⟩ = some (.bool neg3) := hcw 1 (by omega)
      have d2 : wr.cell? ⟨eb, off + i * 7 + 2, none⟩ = some (.slice A3 n3 c3) := hcw 2 (by omega)
      have d3 : wr.cell? ⟨eb, off + i * 7 + 3, none⟩ = some (.int .i64 ex3) := hcw 3 (by omega)
      have d4 : wr.cell? ⟨eb, off + i * 7 + 4, none⟩ = some (.string t3) := hcw 4 (by omega)
      have d5 : wr.cell? ⟨eb, off + i * 7 + 5, none⟩ = some (.slice LA3 ln3 lc3) := hcw 5 (by omega)
      have d6 : wr.cell? ⟨eb, off + i * 7 + 6, none⟩ = some (.slice KA3 kn3 kc3) := hcw 6 (by omega)
      have hcall := HF.out item _ wr (List.mem_of_getElem? hit2) hvi HBR.out
      obtain ⟨B, hBe⟩ : ∃ B, P item = B := ⟨_, rfl⟩
      rw [hBe] at hcall
      have HC := Lib.hid hcall
      have HI := Lib.hid hit2
      have HBE := Lib.hid hBe
      clear hcw hcells hit2 h7 hvi hcall hlr hSb hBe
      go_wp2_with fail
      refine HC.out.mono ?_
      rintro e9 w6 ⟨rfl, hb6⟩
      have HB6 := Lib.hid (HBR.out.trans (hb6.mono HBR.out.size))
      clear hb6
      cases B with
      | true =>
        have hRT : R = true := by
          rw [← HR.out]
          exact List.any_eq_true.2 ⟨item, List.mem_of_getElem? HI.out, HBE.out⟩
        subst hRT
        go_wp2_with fail
        go_ret
        exact ⟨.inr ⟨i, rfl, rfl⟩, HB6.out⟩
      | false =>
        go_wp2_with fail
        go_roundw
        case rel =>
          refine ⟨i + 1, by omega, by go_num, fun j x hj hx => ?_, HB6.out⟩
          rcases Nat.lt_or_ge j i with h | h
          · exact HJ.out j x h hx
          · obtain rfl : j = i := by omega
            rw [HI.out] at hx
            injection hx with hx
            rw [← hx]; exact HBE.out
        case measure => simp [RowKit.intOf]; omega
    · have hni : ¬ (i : Int) < (n : Int) := by omega
      have hRF : R = false := by
        rw [← HR.out]
        rw [List.any_eq_false]
        intro x hx
        obtain ⟨j, hj, rfl⟩ := List.getElem_of_mem hx
        rw [HJ.out j _ (by have := HLL.out; omega) (List.getElem?_eq_getElem hj)]
        decide
      subst hRF
      go_wp2_with fail
      go_ret
      exact ⟨.inl ⟨rfl, rfl⟩, HBR.out⟩
theorem containsV_c {S : Nat → Prop} {A : Option Addr} {n c : Nat} {l : List VT} (P : VT → Bool) (cap : Value) (w : World) (hl : RdL w S A n l) (hS : ∀ b, S b → b < w.heap.size) (hf : AnsK S l P cap w) :
    Calls Tryz.prog 43 #[.slice A n c, .func (.func 42) #[] #[cap]] w fun e w' => e = .returned (.bool (l.any P)) ∧ Below w.heap.size w w' := by
  have hi := indexV_c (A := A) (n := n) (c := c) P cap w hl hS hf
  obtain ⟨R, hR⟩ : ∃ R, l.any P = R := ⟨_, rfl⟩
  rw [hR] at hi ⊢
  have HI := Lib.hid hi
  clear hi hR hl hf
  go_enter Tryz.func43, Tryz.ntmps43
  go_wp2_with fail
  refine HI.out.mono ?_
  rintro e9 w1 ⟨hfo, hb⟩
  have HB := Lib.hid hb
  clear hb
  rcases hfo with ⟨rfl, rfl⟩ | ⟨k, rfl, rfl⟩
  · go_wp2_with fail
    go_ret
    exact ⟨rfl, HB.out⟩
  · have h0 : (0 : Int) ≤ (k : Int) := by omega
    go_wp2_with fail
    go_ret
    exact ⟨rfl, HB.out⟩
/-- A function's answer, whatever is made in between. -/
def AnsK1 (S : Nat → Prop) (l : List VT) (P : VT → Bool) (cap : Value) (w : World) : Prop :=
  ∀ (x : VT) (cs : List Value) (wr : World), x ∈ l → VIn wr S x cs → Below w.heap.size w wr → Calls Tryz.prog 44 #[.agg cs.toArray, cap] wr fun e w' => e = .returned (.bool (P x)) ∧ Below wr.heap.size wr w'
set_option maxRecDepth 100000 in
set_option maxHeartbeats 4000000 in
theorem indexV1_c {S : Nat → Prop} {A : Option Addr} {n c : Nat} {l : List VT} (P : VT → Bool) (cap : Value) (w : World) (hl : RdL w S A n l) (hS : ∀ b, S b → b < w.heap.size) (hf : AnsK1 S l P cap w) :
    Calls Tryz.prog 74 #[.slice A n c, .func (.func 44) #[] #[cap]] w fun e w' => FoundK (l.any P) e ∧ Below w.heap.size w w' := by
  have HL := Lib.hid hl
  have HF := Lib.hid hf
  have hll := hl.1
  have hnb := hl.2.1
  have HLL := Lib.hid hll
  obtain ⟨R, hR⟩ : ∃ R, l.any P = R := ⟨_, rfl⟩
  have HR := Lib.hid hR
  rw [hR]
  clear hl hf hll hR
  go_enter Tryz.func74, Tryz.ntmps74
  go_upto_region 2 with fail
  go_loopw [8] (fun iv wr => ∃ i : Nat, i ≤ n ∧ iv = .int .i64 (i : Int) ∧ Hid (∀ j x, j < i → l[j]? = some x → P x = false) ∧ Hid (Below w.heap.size w wr)) (fun iv _ => n - (RowKit.intOf iv).toNat)
  case atStart => exact ⟨0, Nat.zero_le _, rfl, fun j _ hj => absurd hj (Nat.not_lt_zero _), Below.refl _ _⟩
  case round =>
    obtain ⟨i, hin, rfl, HJ, HBR⟩ := hrel
    by_cases hi : i < n
    · have hilt : (i : Int) < (n : Int) := by omega
      have hi0 : (0 : Int) ≤ (i : Int) := by omega
      have hit : ((i : Int)).toNat = i := by omega
      have hiw : IntKind.i64.wrap ((i : Int) + 1) = ((i + 1 : Nat) : Int) := by rw [IntWalk.i64_in _ (by omega)]; omega
      have hlr := HL.out.keep (w' := wr) fun p hp => HBR.out.cell (p := p) (hS _ hp)
      obtain ⟨eb, off, item, csi, rfl, hSb, hit2, h7, hcells, hvi⟩ := hlr.at_ hi
      obtain ⟨k3, neg3, A3, n3, c3, ex3, t3, LA3, ln3, lc3, KA3, kn3, kc3, rfl, -, -⟩ := hvi.seven
      have hcw : ∀ a, a < 7 → wr.cell? ⟨eb, off + (i * 7 + a), none⟩ = _ := fun a ha => hcells a ha
      have d0 : wr.cell? ⟨eb, off + i * 7, none⟩ = some (.int .i64 k3) := hcw 0 (by omega)
      have d1 : wr.cell? ⟨eb, off + i * 7 + 1, none⟩ = some (.bool neg3) := hcw 1 (by omega)
      have d2 : wr.cell? ⟨eb, off + i * 7 + 2, none⟩ = some (.slice A3 n3 c3) := hcw 2 (by omega)
      have d3 : wr.cell? ⟨eb, off + i * 7 + 3, none⟩ = some (.int .i64 ex3) := hcw 3 (by omega)
      have d4 : wr.cell? ⟨eb, off + i * 7 + 4, none⟩ = some (.string t3) := hcw 4 (by omega)
      have d5 : wr.cell? ⟨eb, off + i * 7 + 5, none⟩ = some (.slice LA3 ln3 lc3) := hcw 5 (by omega)
      have d6 : wr.cell? ⟨eb, off + i * 7 + 6, none⟩ = some (.slice KA3 kn3 kc3) := hcw 6 (by omega)
      have hcall := HF.out item _ wr (List.mem_of_getElem? hit2) hvi HBR.out
      obtain ⟨B, hBe⟩ : ∃ B, P item = B := ⟨_, rfl⟩
      rw [hBe] at hcall
      have HC := Lib.hid hcall
      have HI := Lib.hid hit2
      have HBE := Lib.hid hBe
      clear hcw hcells hit2 h7 hvi hcall hlr hSb hBe
      go_wp2_with fail
      refine HC.out.mono ?_
      rintro e9 w6 ⟨rfl, hb6⟩
      have HB6 := Lib.hid (HBR.out.trans (hb6.mono HBR.out.size))
      clear hb6
      cases B with
      | true =>
        have hRT : R = true := by
          rw [← HR.out]
          exact List.any_eq_true.2 ⟨item, List.mem_of_getElem? HI.out, HBE.out⟩
        subst hRT
        go_wp2_with fail
        go_ret
        exact ⟨.inr ⟨i, rfl, rfl⟩, HB6.out⟩
      | false =>
        go_wp2_with fail
        go_roundw
        case rel =>
          refine ⟨i + 1, by omega, by go_num, fun j x hj hx => ?_, HB6.out⟩
          rcases Nat.lt_or_ge j i with h | h
          · exact HJ.out j x h hx
          · obtain rfl : j = i := by omega
            rw [HI.out] at hx
            injection hx with hx
            rw [← hx]; exact HBE.out
        case measure => simp [RowKit.intOf]; omega
    · have hni : ¬ (i : Int) < (n : Int) := by omega
      have hRF : R = false := by
        rw [← HR.out]
        rw [List.any_eq_false]
        intro x hx
        obtain ⟨j, hj, rfl⟩ := List.getElem_of_mem hx
        rw [HJ.out j _ (by have := HLL.out; omega) (List.getElem?_eq_getElem hj)]
        decide
      subst hRF
      go_wp2_with fail
      go_ret
      exact ⟨.inl ⟨rfl, rfl⟩, HBR.out⟩
theorem containsV1_c {S : Nat → Prop} {A : Option Addr} {n c : Nat} {l : List VT} (P : VT → Bool) (cap : Value) (w : World) (hl : RdL w S A n l) (hS : ∀ b, S b → b < w.heap.size) (hf : AnsK1 S l P cap w) :
    Calls Tryz.prog 43 #[.slice A n c, .func (.func 44) #[] #[cap]] w fun e w' => e = .returned (.bool (l.any P)) ∧ Below w.heap.size w w' := by
  have hi := indexV1_c (A := A) (n := n) (c := c) P cap w hl hS hf
  obtain ⟨R, hR⟩ : ∃ R, l.any P = R := ⟨_, rfl⟩
  rw [hR] at hi ⊢
  have HI := Lib.hid hi
  clear hi hR hl hf
  go_enter Tryz.func43, Tryz.ntmps43
  go_wp2_with fail
  refine HI.out.mono ?_
  rintro e9 w1 ⟨hfo, hb⟩
  have HB := Lib.hid hb
  clear hb
  rcases hfo with ⟨rfl, rfl⟩ | ⟨k, rfl, rfl⟩
  · go_wp2_with fail
    go_ret
    exact ⟨rfl, HB.out⟩
  · have h0 : (0 : Int) ≤ (k : Int) := by omega
    go_wp2_with fail
    go_ret
    exact ⟨rfl, HB.out⟩
end Go.Proofs.YtipomnogabnfdaaGreatDoor
