/-
  Contracts of isPlain and of escape at the characters that stand in no text as they are.
-/
import Derived.Test.YtcanfiaooabocaaGreatDoorQWfi
set_option linter.unusedVariables false
set_option linter.unusedSimpArgs false
namespace Go.Proofs.YtcanfiaooabocaaGreatDoor
open Go.RowKit Go.Lib

/-- Whether a character stands in a text as it is. -/
def plainB (c : Int) : Bool := decide (32 ≤ c) && !(c == 34) && !(c == 92) && !(c == 127)
set_option maxRecDepth 100000 in
theorem isPlain_c (c : Int) (w : World) (h0 : 0 ≤ c) (h1 : c ≤ 1114111) : Calls Tryz.prog 24 #[.int .i32 c] w fun e w' => e = .returned (.bool (plainB c)) ∧ w = w' := by
  go_enter Tryz.func24, Tryz.ntmps24
  go_wp2_with fail
  all_goals
    go_ret
    refine ⟨?_, rfl⟩
    first
      | (simp_all [plainB, bne]; done)
      | (simp_all [plainB, bne]; omega)

theorem ix_none {n : Nat} (h : n < 32 ∨ n = 127) (h8 : n ≠ 8) (h9 : n ≠ 9) (h10 : n ≠ 10) (h12 : n ≠ 12) (h13 : n ≠ 13) : Lib.indexByte [34, 92, 8, 9, 10, 12, 13] ((n : Int).toNat.toUInt8) = -1 := by
  have hc : n = 0 ∨ n = 1 ∨ n = 2 ∨ n = 3 ∨ n = 4 ∨ n = 5 ∨ n = 6 ∨ n = 7 ∨ n = 11 ∨ n = 14 ∨ n = 15 ∨ n = 16 ∨ n = 17 ∨ n = 18 ∨ n = 19 ∨ n = 20 ∨ n = 21 ∨ n = 22 ∨ n = 23 ∨ n = 24 ∨ n = 25 ∨ n = 26 ∨ n = 27 ∨ n = 28 ∨ n = 29 ∨ n = 30 ∨ n = 31 ∨ n = 127 := by omega
  rcases hc with rfl | rfl | rfl | rfl | rfl | rfl | rfl | rfl | rfl | rfl | rfl | rfl | rfl | rfl | rfl | rfl | rfl | rfl | rfl | rfl | rfl | rfl | rfl | rfl | rfl | rfl | rfl | rfl <;> rfl
theorem quote_coded {n : Nat} (h : n < 32 ∨ n = 127) (h8 : n ≠ 8) (h9 : n ≠ 9) (h10 : n ≠ 10) (h12 : n ≠ 12) (h13 : n ≠ 13) : quoteC (n : Int) = codedL n := by
  have hc : n = 0 ∨ n = 1 ∨ n = 2 ∨ n = 3 ∨ n = 4 ∨ n = 5 ∨ n = 6 ∨ n = 7 ∨ n = 11 ∨ n = 14 ∨ n = 15 ∨ n = 16 ∨ n = 17 ∨ n = 18 ∨ n = 19 ∨ n = 20 ∨ n = 21 ∨ n = 22 ∨ n = 23 ∨ n = 24 ∨ n = 25 ∨ n = 26 ∨ n = 27 ∨ n = 28 ∨ n = 29 ∨ n = 30 ∨ n = 31 ∨ n = 127 := by omega
  rcases hc with rfl | rfl | rfl | rfl | rfl | rfl | rfl | rfl | rfl | rfl | rfl | rfl | rfl | rfl | rfl | rfl | rfl | rfl | rfl | rfl | rfl | rfl | rfl | rfl | rfl | rfl | rfl | rfl <;> rfl
set_option maxRecDepth 100000 in
set_option maxHeartbeats 1000000 in
theorem escCoded_c (n : Nat) (hix : (n : Int) < 128 → Lib.indexByte [34, 92, 8, 9, 10, 12, 13] ((n : Int).toNat.toUInt8) = -1) (hn : n < 128) (w : World) (ht : w.cell? ⟨5, 15, none⟩ = some (.int .u8 4)) :
    Calls Tryz.prog 56 #[.int .i32 (n : Int)] w fun e w' => e = .returned (.string ⟨(codedL n).toArray⟩) ∧ Below w.heap.size w w' := by
  have hi := Tryz.strings_IndexRune_ascii ⟨#[34, 92, 8, 9, 10, 12, 13]⟩ (n : Int) w (by omega) (by omega)
  have hx := hix (by omega)
  have hlist : (⟨#[34, 92, 8, 9, 10, 12, 13]⟩ : ByteArray).data.toList = [34, 92, 8, 9, 10, 12, 13] := rfl
  rw [hlist, hx] at hi
  have hc := pcoded_c n (by omega) w ht
  have hle : (n : Int) ≤ 65535 := by omega
  clear hix hx hlist
  go_enter Tryz.func56, Tryz.ntmps56
  go_wp2_with fail
  refine hi.mono ?_
  rintro e w1 ⟨rfl, rfl⟩
  go_wp2_with fail
  refine hc.mono ?_
  rintro e w1 ⟨rfl, hb⟩
  go_wp2_with fail
  go_ret
  exact ⟨rfl, hb⟩
set_option maxRecDepth 100000 in
set_option maxHeartbeats 1000000 in
theorem escShort_c (c k : Nat) (x : UInt8) (hc : (c, k, x) = (34, 0, 34) ∨ (c, k, x) = (92, 1, 92) ∨ (c, k, x) = (8, 2, 98) ∨ (c, k, x) = (9, 3, 116) ∨ (c, k, x) = (10, 4, 110) ∨ (c, k, x) = (12, 5, 102) ∨ (c, k, x) = (13, 6, 114)) (w : World) :
    Calls Tryz.prog 56 #[.int .i32 (c : Int)] w fun e w' => e = .returned (.string ⟨#[92, x]⟩) ∧ w = w' := by
  have hlist : (⟨#[34, 92, 8, 9, 10, 12, 13]⟩ : ByteArray).data.toList = [34, 92, 8, 9, 10, 12, 13] := rfl
  have hi := Tryz.strings_IndexRune_ascii ⟨#[34, 92, 8, 9, 10, 12, 13]⟩ (c : Int) w (by omega) (by rcases hc with h | h | h | h | h | h | h <;> injection h with h1 _ <;> omega)
  have hx : Lib.indexByte [34, 92, 8, 9, 10, 12, 13] ((c : Int).toNat.toUInt8) = (k : Int) := by
    rcases hc with h | h | h | h | h | h | h <;> injection h with h1 h2 <;> injection h2 with h2 h3 <;> subst h1 h2 <;> rfl
  have hk : k < 7 := by rcases hc with h | h | h | h | h | h | h <;> injection h with h1 h2 <;> injection h2 with h2 h3 <;> omega
  have hs : (⟨#[92]⟩ : ByteArray) ++ (⟨#[34, 92, 98, 116, 110, 102, 114]⟩ : ByteArray).extract k (k + 1) = ⟨#[92, x]⟩ := by
    rcases hc with h | h | h | h | h | h | h <;> injection h with h1 h2 <;> injection h2 with h2 h3 <;> subst h1 h2 h3 <;> rfl
  rw [hlist, hx] at hi
  clear hx hlist hc
  have hk0 : (0 : Int) ≤ (k : Int) := by omega
  have hkw : IntKind.i64.wrap ((k : Int) + 1) = ((k + 1 : Nat) : Int) := by rw [IntWalk.i64_in _ (by omega)]; omega
  go_enter Tryz.func56, Tryz.ntmps56
  go_wp2_with fail
  refine hi.mono ?_
  rintro e w1 ⟨rfl, rfl⟩
  go_wp2_with fail
  go_ret
  exact ⟨rfl, rfl⟩

/-- What a character that stands in no text as it is is written as. -/
theorem escLow_c (c : Int) (h0 : 0 ≤ c) (h : plainB c = false) (hc : c < 128) (w : World) (ht : w.cell? ⟨5, 15, none⟩ = some (.int .u8 4)) :
    Calls Tryz.prog 56 #[.int .i32 c] w fun e w' => e = .returned (.string ⟨(quoteC c).toArray⟩) ∧ Below w.heap.size w w' := by
  obtain ⟨n, rfl⟩ : ∃ n : Nat, c = (n : Int) := ⟨c.toNat, by omega⟩
  have hn : n < 32 ∨ n = 34 ∨ n = 92 ∨ n = 127 := by
    unfold plainB at h
    simp only [Bool.and_eq_false_iff, decide_eq_false_iff_not, Bool.not_eq_false', beq_iff_eq] at h
    omega
  have hs : (n = 34 ∨ n = 92 ∨ n = 8 ∨ n = 9 ∨ n = 10 ∨ n = 12 ∨ n = 13) ∨ ((n < 32 ∨ n = 127) ∧ n ≠ 8 ∧ n ≠ 9 ∧ n ≠ 10 ∧ n ≠ 12 ∧ n ≠ 13) := by omega
  rcases hs with hs | ⟨h1, h8, h9, h10, h12, h13⟩
  · obtain ⟨k, x, hk, hx⟩ : ∃ k x, ((n, k, x) = (34, 0, 34) ∨ (n, k, x) = (92, 1, 92) ∨ (n, k, x) = (8, 2, 98) ∨ (n, k, x) = (9, 3, 116) ∨ (n, k, x) = (10, 4, 110) ∨ (n, k, x) = (12, 5, 102) ∨ (n, k, x) = (13, 6, 114)) ∧ quoteC (n : Int) = [92, x] := by
      rcases hs with rfl | rfl | rfl | rfl | rfl | rfl | rfl
      · exact ⟨0, 34, by simp, rfl⟩
      · exact ⟨1, 92, by simp, rfl⟩
      · exact ⟨2, 98, by simp, rfl⟩
      · exact ⟨3, 116, by simp, rfl⟩
      · exact ⟨4, 110, by simp, rfl⟩
      · exact ⟨5, 102, by simp, rfl⟩
      · exact ⟨6, 114, by simp, rfl⟩
    refine (escShort_c n k x hk w).mono ?_
    rintro e w' ⟨rfl, rfl⟩
    exact ⟨by rw [hx], Below.refl _ _⟩
  · rw [quote_coded h1 h8 h9 h10 h12 h13]
    exact escCoded_c n (fun _ => ix_none h1 h8 h9 h10 h12 h13) (by omega) w ht
end Go.Proofs.YtcanfiaooabocaaGreatDoor
