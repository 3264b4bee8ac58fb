/-
  The contracts of nat's iterators groupSizes and groups: what each hands out, round by round.
-/
import Derived.Test.YtecpapkffinlbaaRed
import Derived.Test.YtecpapkffinlbaaIter
import Derived.Sort.LoopGhostIn
set_option linter.unusedVariables false
set_option linter.unusedSimpArgs false
namespace Go.Proofs.Ytecpapkffinlbaa
open Go.RowKit
attribute [local go_sem] Oper.semAt_some

/-- The sizes of the groups that n digits fall into, of the first k. -/
def sizesK (n k : Nat) : List Nat := (List.range k).map fun i => min (n - 9 * i) 9
def sizesL (n : Nat) : List Nat := sizesK n ((n + 8) / 9)
theorem sizesK_succ (n k : Nat) : sizesK n (k + 1) = sizesK n k ++ [min (n - 9 * k) 9] := by simp [sizesK, List.range_succ]
theorem sizesK_split (n : Nat) {k m : Nat} (h : k < m) : ∃ rest, sizesK n m = sizesK n k ++ min (n - 9 * k) 9 :: rest := by
  refine ⟨(List.range' (k + 1) (m - (k + 1))).map fun i => min (n - 9 * i) 9, ?_⟩
  have : List.range m = List.range k ++ k :: List.range' (k + 1) (m - (k + 1)) := by
    obtain ⟨j, rfl⟩ : ∃ j, m = k + (1 + j) := ⟨m - (k + 1), by omega⟩
    rw [List.range_eq_range', List.range_eq_range', show k + (1 + j) - (k + 1) = j by omega, ← List.range'_append_1, Nat.zero_add, ← List.range'_append_1]
    simp
  unfold sizesK
  rw [this]; simp
def enc1 (x : Nat) : Array Value := #[.int .i64 (x : Int)]
def encu (x : Nat) : Array Value := #[.int .u32 (x : Int)]

set_option maxRecDepth 100000 in
theorem groupSizes1_iter {n B1 : Nat} (W : World) (h1 : W.cell? ⟨B1, 0, none⟩ = some (.int .i64 (n : Int))) (hn : n ≤ 1099511627776) :
    Iter Try.prog 39 #[.pointer (some ⟨B1, 0, none⟩)] enc1 (fun _ => False) (sizesL n) W := by
  intro l J hJ h0 hY
  refine callsIn_of_wp Try.func39 rfl trivial ?_ rfl
  simp only [Try.ntmps39, List.size_toArray, List.length_cons, List.length_nil, Nat.reduceAdd, Nat.reduceSub, Array.replicate_succ, Array.replicate_zero, List.push_toArray, List.append_toArray, List.nil_append, List.cons_append]
  have HY := Lib.hid hY
  have HJ := Lib.hid hJ
  have H0 := Lib.hid h0
  clear hY hJ h0
  gi_wp2
  gi_loopw [3] (fun i wr => ∃ k : Nat, k ≤ (n + 8) / 9 ∧ i = .int .i64 ((n : Int) - 9 * (k : Int)) ∧ J none (sizesK n k) wr) (fun i _ => (intOf i + 9).toNat)
  case atStart => exact ⟨0, Nat.zero_le _, by go_num, H0.out none W (Below.refl _ _) (fun k e => by cases e)⟩
  case round =>
    obtain ⟨k, hk, rfl, hJk⟩ := hrel
    by_cases hlt : k < (n + 8) / 9
    · have hpos : (0 : Int) < (n : Int) - 9 * (k : Int) := by omega
      obtain ⟨rest, hsp⟩ := sizesK_split n hlt
      obtain ⟨x, hx⟩ : ∃ x, x = min (n - 9 * k) 9 := ⟨_, rfl⟩
      have hmn : min ((n : Int) - 9 * (k : Int)) 9 = ((x : Nat) : Int) := by omega
      rw [← hx] at hsp
      obtain ⟨fn, tmps, assign, body, hy, hR⟩ := HY.out none _ _ rest wr hJk hsp
      dsimp only [enc1] at hy
      have HX := Lib.hid hx
      clear hsp hx
      gi_wp2_with (refine ⟨rfl, ?_⟩; refine hR.mono ?_; rintro e W' ⟨rfl, hJ', hk'⟩)
      exact ⟨⟨k + 1, by omega, by go_num, by rw [sizesK_succ, ← HX.out]; exact hJ'⟩, by simp [intOf]; omega⟩
    · have hneg : (n : Int) - 9 * (k : Int) ≤ 0 := by omega
      have hke : k = (n + 8) / 9 := by omega
      have HK := Lib.hid hke
      clear hke
      gi_wp2
      go_end0
      refine ⟨⟨_, rfl⟩, none, ?_⟩
      unfold sizesL
      rw [← HK.out]; exact hJk

/-- The digits of a number in groups of nine, the lowest first. -/
def gOf : Nat → Nat → List Nat
  | 0, _ => []
  | f + 1, v => if v = 0 then [] else v % 1000000000 :: gOf f (v / 1000000000)
theorem gOf_more : ∀ (f v : Nat), v ≤ f → gOf f v = gOf v v
  | 0, v, h => by
    have e : v = 0 := by omega
    rw [e]
  | f + 1, v, h => by
    by_cases h0 : v = 0
    · subst h0; simp [gOf]
    · obtain ⟨u, rfl⟩ : ∃ u, v = u + 1 := ⟨v - 1, by omega⟩
      have e1 := gOf_more f ((u + 1) / 1000000000) (by omega)
      have e2 := gOf_more u ((u + 1) / 1000000000) (by omega)
      simp only [gOf, h0, if_false]
      rw [e1, e2]
termination_by f => f
/-- The groups of a number. -/
def gL (v : Nat) : List Nat := gOf v v
theorem gL_zero : gL 0 = [] := rfl
theorem gL_pos {v : Nat} (h : 0 < v) : gL v = v % 1000000000 :: gL (v / 1000000000) := by
  unfold gL
  obtain ⟨u, rfl⟩ : ∃ u, v = u + 1 := ⟨v - 1, by omega⟩
  have e2 := gOf_more u ((u + 1) / 1000000000) (by omega)
  simp only [gOf, show ¬ (u + 1 = 0) by omega, if_false]
  rw [e2]

set_option maxRecDepth 100000 in
theorem groups1_iter {S : Nat → Prop} {n c B1 : Nat} {A : Option Addr} {xs : List Nat} (W : World) (h1 : W.cell? ⟨B1, 0, none⟩ = some (.slice A n c)) (ha : Rd W S A n xs) (hS : ∀ b, S b → b < W.heap.size) (hcan : Can xs) (hn : n ≤ 1048576) :
    Iter Try.prog 40 #[.pointer (some ⟨B1, 0, none⟩)] encu (fun _ => False) (gL (val xs)) W := by
  intro l J hJ h0 hY
  refine callsIn_of_wp Try.func40 rfl trivial ?_ rfl
  simp only [Try.ntmps40, List.size_toArray, List.length_cons, List.length_nil, Nat.reduceAdd, Nat.reduceSub, Array.replicate_succ, Array.replicate_zero, List.push_toArray, List.append_toArray, List.nil_append, List.cons_append]
  have HY := Lib.hid hY
  have HJ := Lib.hid hJ
  have H0 := Lib.hid h0
  clear hY hJ h0
  gi_wp2_with (refine ⟨trivial, rfl, ?_⟩; gi_at_call 30; refine (callsIn_wide.2 (Clone_c W ha hS (by omega))).mono ?_; rintro e W0 ⟨A0, c0, rfl, hres, hbel, hblk⟩)
  gi_loopg [3] (val xs) (fun k left wr => ∃ (n' : Nat) (qs : List Nat) (pre : List Nat), left = .slice A0 n' c0 ∧ n' ≤ n ∧ Res wr W.heap.size A0 n' c0 qs ∧ Can qs ∧ Hid (val qs = k) ∧ Hid (gL (val xs) = pre ++ gL (val qs)) ∧ J (A0.map (·.block)) pre wr)
  case atStart => exact ⟨n, xs, [], rfl, Nat.le_refl _, hres, hcan, rfl, rfl, H0.out _ _ hbel (fun k e => by
    rcases hres.form with ⟨h, _⟩ | ⟨g, h, hb, hlt⟩
    · rw [h] at e; cases e
    · rw [h] at e; simp at e; omega)⟩
  case round =>
    obtain ⟨n', qs, pre, rfl, hn', hr, hc, hk, hsp, hJk⟩ := hrel
    by_cases h0 : n' = 0
    · subst h0
      have hq : qs = [] := List.eq_nil_of_length_eq_zero hr.len
      have hs := hsp.out
      rw [hq, val_nil, gL_zero, List.append_nil] at hs
      have HS := Lib.hid hs
      clear hs hq
      gi_wp2
      go_end0
      exact ⟨⟨_, rfl⟩, _, by rw [HS.out]; exact hJk⟩
    · have hpos : 0 < val qs := by
        rcases Nat.eq_zero_or_pos (val qs) with h | h
        · have := hc.val_zero h
          have hl := hr.len
          rw [this] at hl
          exact absurd hl.symm h0
        · exact h
      have hlt : 0 < n' := by omega
      have hs := hsp.out
      rw [gL_pos hpos] at hs
      have HS := Lib.hid hs
      clear hs hsp
      have hred := reduce_c (c := c0) 1000000000 wr hr (by omega) (by omega) (by omega)
      have HR := Lib.hid hred
      clear hred
      obtain ⟨g, hA⟩ : ∃ g, A0 = some ⟨g, 0, none⟩ := by
        rcases hr.form with ⟨_, h, _⟩ | ⟨g, h, _⟩
        · omega
        · exact ⟨g, h⟩
      subst hA
      gi_wp2_with (fail)
      refine ⟨trivial, rfl, ?_⟩
      refine (callsIn_wide.2 HR.out).mono ?_
      rintro e w1 ⟨n2, qs2, gr, rfl, hr2, hc2, hv2, hgr, hn2, hg2⟩
      have hJ1 := HJ.out _ _ _ _ hJk hg2
      have hd : val qs / 1000000000 = val qs2 ∧ val qs % 1000000000 = gr := by omega
      have hs2 := HS.out
      rw [hd.1, hd.2] at hs2
      obtain ⟨fn, tmps, assign, body, hy, hR⟩ := HY.out _ pre gr (gL (val qs2)) w1 hJ1 hs2
      dsimp only [encu] at hy
      have HD := Lib.hid hd
      have HS2 := Lib.hid hs2
      have HV := Lib.hid hv2
      clear hd hs2 hv2
      gi_wp2_with (refine ⟨rfl, ?_⟩; refine hR.mono ?_; rintro e W' ⟨rfl, hJ', hk'⟩)
      gi_roundg (val qs2)
      case measure => have h5 := hk.out; have h6 := HV.out; omega
      case rel =>
        refine ⟨n2, qs2, pre ++ [gr], rfl, by omega, hr2.keep (fun g' e => ?_), hc2, rfl, ?_, hJ'⟩
        · injection e with e
          injection e with e
          subst e
          exact hk'.block g (.inr rfl)
        · show _ = _
          rw [HS2.out]; simp
end Go.Proofs.Ytecpapkffinlbaa
