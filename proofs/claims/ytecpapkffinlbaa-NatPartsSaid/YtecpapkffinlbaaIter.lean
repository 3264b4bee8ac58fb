/-
  The contracts of nat's three iterators (pairs, groupSizes, groups): what each hands out, round by round.
-/
import Derived.Test.YtecpapkffinlbaaComp
import Derived.Test.YtecpapkffinlbaaRange
import Derived.Sort.QuietTacIn
import Derived.Shelf.RegionOpen
import Derived.Outline
import Derived.Lib.MinMax
set_option linter.unusedVariables false
set_option linter.unusedSimpArgs false
namespace Go.Proofs.Ytecpapkffinlbaa
open Go.RowKit
attribute [local go_sem] Oper.semAt_some

/-- What pairs hands out: so many limbs of two numbers side by side. -/
def pairsL (xs ys : List Nat) (k : Nat) : List (Nat × Nat) := (List.range k).map fun i => (nth xs i, nth ys i)
theorem pairsL_succ (xs ys : List Nat) (k : Nat) : pairsL xs ys (k + 1) = pairsL xs ys k ++ [(nth xs k, nth ys k)] := by
  simp [pairsL, List.range_succ]
theorem pairsL_split (xs ys : List Nat) {k n : Nat} (h : k < n) : ∃ rest, pairsL xs ys n = pairsL xs ys k ++ (nth xs k, nth ys k) :: rest := by
  refine ⟨(List.range' (k + 1) (n - (k + 1))).map fun i => (nth xs i, nth ys i), ?_⟩
  have : List.range n = List.range k ++ k :: List.range' (k + 1) (n - (k + 1)) := by
    obtain ⟨j, rfl⟩ : ∃ j, n = k + (1 + j) := ⟨n - (k + 1), by omega⟩
    rw [List.range_eq_range', List.range_eq_range', show k + (1 + j) - (k + 1) = j by omega, ← List.range'_append_1, Nat.zero_add, ← List.range'_append_1]
    simp
  unfold pairsL
  rw [this]; simp
theorem pairsL_lt {xs ys : List Nat} (hx : L32 xs) (hy : L32 ys) {n : Nat} {pre rest : List (Nat × Nat)} {x y : Nat} (h : pairsL xs ys n = pre ++ (x, y) :: rest) : x < 4294967296 ∧ y < 4294967296 ∧ pre.length < n := by
  have hm : (x, y) ∈ pairsL xs ys n := by rw [h]; simp
  obtain ⟨i, _, hi⟩ := List.mem_map.1 hm
  injection hi with h1 h2
  have hl := congrArg List.length h
  simp [pairsL] at hl
  exact ⟨h1 ▸ nth_lt hx i, h2 ▸ nth_lt hy i, by omega⟩
theorem val_range_nth {xs : List Nat} {n : Nat} (h : xs.length ≤ n) : val ((List.range n).map (nth xs)) = val xs := by
  have e : (List.range n).map (nth xs) = xs ++ List.replicate (n - xs.length) 0 := by
    apply List.ext_getElem
    · simp; omega
    · intro i h1 h2
      rw [List.getElem_map, List.getElem_range]
      by_cases hi : i < xs.length
      · rw [List.getElem_append_left hi, nth_get hi]
      · rw [List.getElem_append_right (by omega), nth_none (by omega)]; simp
  rw [e, val_append, val_replicate]; simp
theorem pairsL_fst (xs ys : List Nat) (n : Nat) : (pairsL xs ys n).map Prod.fst = (List.range n).map (nth xs) := by simp [pairsL, Function.comp_def]
theorem pairsL_snd (xs ys : List Nat) (n : Nat) : (pairsL xs ys n).map Prod.snd = (List.range n).map (nth ys) := by simp [pairsL, Function.comp_def]
def enc2 (p : Nat × Nat) : Array Value := #[.int .u32 (p.1 : Int), .int .u32 (p.2 : Int)]

set_option maxRecDepth 100000 in
theorem pairs1_iter {S S' : Nat → Prop} {n m c d B1 B2 : Nat} {A B : Option Addr} {xs ys : List Nat} (W : World) (h1 : W.cell? ⟨B1, 0, none⟩ = some (.slice A n c)) (h2 : W.cell? ⟨B2, 0, none⟩ = some (.slice B m d))
    (ha : Rd W S A n xs) (hb : Rd W S' B m ys) (hn : n ≤ 9223372036854775807) (hm : m ≤ 9223372036854775807) :
    Iter Try.prog 44 #[.pointer (some ⟨B1, 0, none⟩), .pointer (some ⟨B2, 0, none⟩)] enc2 (fun k => k = B1 ∨ k = B2 ∨ S k ∨ S' k) (pairsL xs ys (max n m)) W := by
  intro l J hJ h0 hY
  refine callsIn_of_wp Try.func44 rfl trivial ?_ rfl
  simp only [Try.ntmps44, List.size_toArray, List.length_cons, List.length_nil, Nat.reduceAdd, Nat.reduceSub, Array.replicate_succ, Array.replicate_zero, List.push_toArray, List.append_toArray, List.nil_append, List.cons_append]
  generalize hN : max n m = N at hY ⊢
  have hN1 : n ≤ N := by omega
  have hN2 : m ≤ N := by omega
  have hmx : max (n : Int) (m : Int) = ((N : Nat) : Int) := by omega
  clear hN
  have HY := Lib.hid hY
  have HJ := Lib.hid hJ
  have H0 := Lib.hid h0
  clear hY hJ h0
  gi_wp2
  gi_loopw [4, 10] (fun _ i wr => ∃ k : Nat, k ≤ N ∧ i = .int .i64 (k : Int) ∧ J none (pairsL xs ys k) wr ∧ Kept (fun k => k = B1 ∨ k = B2 ∨ S k ∨ S' k) none W wr) (fun _ i _ => N - (intOf i).toNat)
  case atStart => exact ⟨0, Nat.zero_le _, rfl, H0.out none W (Below.refl _ _) (fun k e => by cases e), Kept.refl _ _ _⟩
  case round =>
    obtain ⟨k, hk, rfl, hJk, hkp⟩ := hrel
    by_cases hlt : k < N
    · have hc1 : wr.cell? ⟨B1, 0, none⟩ = some (.slice A n c) := (World.cell?_of_block (hkp.block _ (.inl (.inl rfl)))).trans h1
      have hc2 : wr.cell? ⟨B2, 0, none⟩ = some (.slice B m d) := (World.cell?_of_block (hkp.block _ (.inl (.inr (.inl rfl))))).trans h2
      have har := ha.keep (w' := wr) (fun p hp => World.cell?_of_block (hkp.block _ (.inl (.inr (.inr (.inl hp))))))
      have hbr := hb.keep (w' := wr) (fun p hp => World.cell?_of_block (hkp.block _ (.inl (.inr (.inr (.inr hp))))))
      obtain ⟨rest, hsp⟩ := pairsL_split xs ys hlt
      obtain ⟨fn, tmps, assign, body, hy, hR⟩ := HY.out none _ _ rest wr.drew (HJ.out none _ _ _ hJk (only_drew (World.grownBy.refl wr _))) hsp
      dsimp only [enc2] at hy
      have HS := Lib.hid hsp
      clear hsp
      gi_wp2
      have hmx : Try.prog.follows .mixedOrders = true := by kernel_rfl
      gi_region_with_o (first | (refine ⟨trivial, rfl, ?_⟩; gi_at_call 45; refine (callsIn_wide.2 (limbAt_c k _ (by first | exact har | exact hbr | exact har.drew | exact hbr.drew) (by assumption))).mono ?_; rintro e w' ⟨rfl, rfl⟩) | (refine ⟨rfl, ?_⟩; refine hR.mono ?_; rintro e W' ⟨rfl, hJ', hk'⟩))
      all_goals gi_wp2
      all_goals exact ⟨⟨k + 1, by omega, by go_num, by rw [pairsL_succ]; exact hJ', hkp.trans ⟨hk'.size, fun i hi => hk'.block i hi⟩⟩, by simp [intOf]; omega⟩
    · obtain rfl : k = N := by omega
      gi_wp2
      go_end0
      exact ⟨⟨_, rfl⟩, none, hJk⟩
end Go.Proofs.Ytecpapkffinlbaa
