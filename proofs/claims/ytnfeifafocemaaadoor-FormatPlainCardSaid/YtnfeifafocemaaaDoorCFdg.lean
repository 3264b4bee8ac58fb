/-
  Contracts of toDigits and toOctets.
-/
import Derived.Test.YtnfeifafocemaaaDoorCFpc
import Derived.Laws.BitsAllLaws
import Derived.Laws.Bits64b
set_option linter.unusedVariables false
set_option linter.unusedSimpArgs false
namespace Go.Proofs.YtnfeifafocemaaaDoor
open Go.RowKit Go.Lib

theorem or_i64F (a b k : Nat) (hb : b < 2 ^ k) (h : a * 2 ^ k + b < 4611686018427387904) : bits .or .i64 ((a * 2 ^ k : Nat) : Int) (b : Int) = ((a * 2 ^ k + b : Nat) : Int) := by
  show IntKind.i64.wrap ((BitVec.ofInt 64 ((a * 2 ^ k : Nat) : Int) ||| BitVec.ofInt 64 (b : Int)).toNat : Int) = _
  rw [BitVec.toNat_or, ofInt_u64 _ (by omega), ofInt_u64 b (by omega), IntKind.wrap_i64]
  have h2 := Nat.two_pow_add_eq_or_of_lt (i := k) (b := b) hb a
  rw [Nat.mul_comm] at h2
  rw [← h2]
  omega
theorem and63F (n : Int) : bits .and .i64 n 63 = n % 64 := by
  have h127 : (BitVec.ofInt 64 63).toNat = 2 ^ 6 - 1 := by decide
  have key : (BitVec.ofInt 64 n &&& BitVec.ofInt 64 63).toNat = (n % ((2 ^ 64 : Nat) : Int)).toNat % 2 ^ 6 := by
    rw [BitVec.toNat_and, BitVec.toNat_ofInt, h127, Nat.and_two_pow_sub_one_eq_mod]
  show IntKind.i64.wrap ((BitVec.ofInt 64 n &&& BitVec.ofInt 64 63).toNat : Nat) = n % 64
  rw [key, IntKind.wrap_i64]
  omega
theorem digF_ext (n : Nat) (h : n < 64) : (⟨#[65, 66, 67, 68, 69, 70, 71, 72, 73, 74, 75, 76, 77, 78, 79, 80, 81, 82, 83, 84, 85, 86, 87, 88, 89, 90, 97, 98, 99, 100, 101, 102, 103, 104, 105, 106, 107, 108, 109, 110, 111, 112, 113, 114, 115, 116, 117, 118, 119, 120, 121, 122, 48, 49, 50, 51, 52, 53, 54, 55, 56, 57, 43, 47]⟩ : ByteArray).extract n (n + 1) = mk8 [at64 n] := by
  rw [← mk8_of (s := (⟨#[65, 66, 67, 68, 69, 70, 71, 72, 73, 74, 75, 76, 77, 78, 79, 80, 81, 82, 83, 84, 85, 86, 87, 88, 89, 90, 97, 98, 99, 100, 101, 102, 103, 104, 105, 106, 107, 108, 109, 110, 111, 112, 113, 114, 115, 116, 117, 118, 119, 120, 121, 122, 48, 49, 50, 51, 52, 53, 54, 55, 56, 57, 43, 47]⟩ : ByteArray).extract n (n + 1))]
  refine congrArg mk8 ?_
  rw [ByteArray.data_extract, Array.toList_extract]
  show (digF.drop n).take (n + 1 - n) = _
  have hl : n < digF.length := h
  rw [Nat.add_sub_cancel_left, List.drop_eq_getElem_cons hl]
  unfold at64
  rw [List.getD_eq_getElem?_getD, List.getElem?_eq_getElem hl]
  rfl
theorem snocF (l : List UInt8) (x : UInt8) : mk8 l ++ mk8 [x] = mk8 (l ++ [x]) := by
  rw [← mk8_of (s := mk8 l ++ mk8 [x])]
  refine congrArg mk8 ?_
  simp [mk8]
theorem dig3_take (c : List UInt8) (i : Nat) (h : i < 4) : (dig3 c).take (i + 1) = (dig3 c).take i ++ [dgF c i] := by
  match i, h with
  | 0, _ => rfl
  | 1, _ => rfl
  | 2, _ => rfl
  | 3, _ => rfl
theorem wrap64F {x : Nat} (h : x < 4611686018427387904) : wrap64 (x : Int) = (x : Int) := by
  unfold wrap64
  omega
theorem mk8_getF (c : List UInt8) (i : Nat) (h : i < (mk8 c).size) : (mk8 c)[i] = c.getD i 0 := by
  have hi : i < c.length := by have := mk8_size c; omega
  show c.toArray[i]'(by simpa using hi) = _
  rw [List.getElem_toArray, List.getD_eq_getElem?_getD, List.getElem?_eq_getElem hi]
  rfl
set_option maxRecDepth 100000 in
set_option maxHeartbeats 2000000 in
theorem toDigits_c (c : List UInt8) (w : World) (h1 : 1 ≤ c.length) (h3 : c.length ≤ 3) :
    Calls Tryd.prog 12 #[.string (mk8 c)] w fun e w' => e = .returned (.string (mk8 (dig3 c))) ∧ Below w.heap.size w w' := by
  obtain ⟨s, hs⟩ : ∃ s, mk8 c = s := ⟨_, rfl⟩
  have hsz : s.size = c.length := by rw [← hs]; exact mk8_size c
  have hget : ∀ (i : Nat) (h : i < s.size), s[i] = c.getD i 0 := by subst hs; exact mk8_getF c
  rw [hs]
  have HS := Lib.hid hs
  have HG := Lib.hid hget
  have HB := Lib.hid (bv_lt c)
  clear hs hget
  go_enter Tryd.func12, Tryd.ntmps12
  go_upto_region 3 with fail
  go_loopw [3, 4, 8] (fun bv _ iv wr => ∃ i : Nat, i ≤ 3 ∧ iv = .int .i64 (i : Int) ∧ bv = .int .i64 (bvF c i : Int) ∧ w = wr) (fun _ _ iv _ => 3 - (RowKit.intOf iv).toNat)
  case atStart => exact ⟨0, by omega, rfl, rfl, rfl⟩
  case round =>
    obtain ⟨i, hi, rfl, rfl, rfl⟩ := hrel
    by_cases hlt : i < 3
    · have hltz : (i : Int) < 3 := by omega
      have hbi : bvF c i < 16777216 := by
        have := HB.out i
        have h2 : (256 : Nat) ^ i ≤ 256 ^ 3 := Nat.pow_le_pow_right (by omega) (by omega)
        omega
      have hbz : 0 ≤ (bvF c i : Int) ∧ (bvF c i : Int) < 16777216 := by omega
      by_cases hic : i < c.length
      · have hicz : (i : Int) < (c.length : Int) := by omega
        have hgi := HG.out i (by omega)
        go_wp2_with fail
        refine ⟨⟨i + 1, by omega, rfl, ?_, trivial⟩, by simp [RowKit.intOf]; omega⟩
        have hx := (c.getD i 0).toNat_lt
        have hce : c[i] = c.getD i 0 := by rw [List.getD_eq_getElem?_getD, List.getElem?_eq_getElem hic]; rfl
        rw [hce, show (bvF c i : Int) * 256 = ((bvF c i * 2 ^ 8 : Nat) : Int) by omega, wrap64F (by omega)]
        rw [or_i64F _ _ _ (by omega) (by omega)]
        rfl
      · have hicz : ¬ (i : Int) < (c.length : Int) := by omega
        have hg0 : c.getD i 0 = 0 := by rw [List.getD_eq_getElem?_getD, List.getElem?_eq_none (by omega)]; rfl
        go_wp2_with fail
        refine ⟨⟨i + 1, by omega, rfl, ?_, trivial⟩, by simp [RowKit.intOf]; omega⟩
        show Value.int IntKind.i64 _ = Value.int IntKind.i64 ((bvF c i * 256 + (c.getD i 0).toNat : Nat) : Int)
        rw [hg0, show (bvF c i : Int) * 256 = ((bvF c i * 256 : Nat) : Int) by omega]
        rfl
    · obtain rfl : i = 3 := by omega
      have hbi : bvF c 3 < 16777216 := HB.out 3
      go_upto_region 11 with fail
      go_loopw [5, 6, 7, 24] (fun sv _ _ iv wr => ∃ i : Nat, i ≤ 4 ∧ iv = .int .i64 (i : Int) ∧ sv = .string (mk8 ((dig3 c).take i)) ∧ w = wr) (fun _ _ _ iv _ => 4 - (RowKit.intOf iv).toNat)
      case atStart => exact ⟨0, by omega, rfl, rfl, rfl⟩
      case round =>
        obtain ⟨i, hi, rfl, rfl, rfl⟩ := hrel
        obtain ⟨b, hb⟩ : ∃ b, bvF c 3 = b := ⟨_, rfl⟩
        rw [hb] at hbi ⊢
        obtain ⟨T, hT⟩ : ∃ T, mk8 ((dig3 c).take i) = T := ⟨_, rfl⟩
        have hTs : T.size ≤ 4 := by rw [← hT, mk8_size, List.length_take]; omega
        have HT := Lib.hid hT
        rw [hT]
        have HBB := Lib.hid hb
        clear hT hb
        by_cases hlt : i < 4
        · have hltz : (i : Int) < 4 := by omega
          by_cases hic : c.length < i
          · have hicz : (c.length : Int) < (i : Int) := by omega
            have hadd : ∀ W, (Op.stringOp .add T ⟨#[61]⟩).run Tryd.prog W = .ok (.string (T ++ ⟨#[61]⟩)) W := fun W => run_string_add_sum W T ⟨#[61]⟩ (by show T.size + 1 ≤ _; omega)
            go_wp2_with fail
            refine ⟨⟨i + 1, by omega, rfl, ?_, trivial⟩, by simp [RowKit.intOf]; omega⟩
            rw [← HT.out, dig3_take c i hlt, ← snocF]
            unfold dgF
            rw [if_pos hic]
            rfl
          · have hicz : ¬ (c.length : Int) < (i : Int) := by omega
            match i with
            | 0 =>
              obtain ⟨n, hn⟩ : ∃ n, b / 262144 % 64 = n := ⟨_, rfl⟩
              have hn64 : n < 64 := by omega
              have hat : bits .and .i64 ((b : Int) / 262144) 63 = (n : Int) := by rw [and63F]; omega
              have hext := digF_ext n hn64
              have hadd : ∀ W, (Op.stringOp .add T (mk8 [at64 n])).run Tryd.prog W = .ok (.string (T ++ mk8 [at64 n])) W := fun W => run_string_add_sum W T (mk8 [at64 n]) (by show T.size + 1 ≤ _; omega)
              have HNN := Lib.hid hn
              clear hn
              go_wp2_with fail
              refine ⟨⟨1, by omega, rfl, ?_, trivial⟩, by simp [RowKit.intOf]⟩
              rw [← HT.out, dig3_take c 0 (by omega), ← snocF]
              unfold dgF
              rw [if_neg (by omega), HBB.out]
              show _ = Value.string (_ ++ mk8 [at64 (b / 262144 % 64)])
              rw [HNN.out]
            | 1 =>
              obtain ⟨n, hn⟩ : ∃ n, b / 4096 % 64 = n := ⟨_, rfl⟩
              have hn64 : n < 64 := by omega
              have hat : bits .and .i64 ((b : Int) / 4096) 63 = (n : Int) := by rw [and63F]; omega
              have hext := digF_ext n hn64
              have hadd : ∀ W, (Op.stringOp .add T (mk8 [at64 n])).run Tryd.prog W = .ok (.string (T ++ mk8 [at64 n])) W := fun W => run_string_add_sum W T (mk8 [at64 n]) (by show T.size + 1 ≤ _; omega)
              have HNN := Lib.hid hn
              clear hn
              go_wp2_with fail
              refine ⟨⟨2, by omega, rfl, ?_, trivial⟩, by simp [RowKit.intOf]⟩
              rw [← HT.out, dig3_take c 1 (by omega), ← snocF]
              unfold dgF
              rw [if_neg (by omega), HBB.out]
              show _ = Value.string (_ ++ mk8 [at64 (b / 4096 % 64)])
              rw [HNN.out]
            | 2 =>
              obtain ⟨n, hn⟩ : ∃ n, b / 64 % 64 = n := ⟨_, rfl⟩
              have hn64 : n < 64 := by omega
              have hat : bits .and .i64 ((b : Int) / 64) 63 = (n : Int) := by rw [and63F]; omega
              have hext := digF_ext n hn64
              have hadd : ∀ W, (Op.stringOp .add T (mk8 [at64 n])).run Tryd.prog W = .ok (.string (T ++ mk8 [at64 n])) W := fun W => run_string_add_sum W T (mk8 [at64 n]) (by show T.size + 1 ≤ _; omega)
              have HNN := Lib.hid hn
              clear hn
              go_wp2_with fail
              refine ⟨⟨3, by omega, rfl, ?_, trivial⟩, by simp [RowKit.intOf]⟩
              rw [← HT.out, dig3_take c 2 (by omega), ← snocF]
              unfold dgF
              rw [if_neg (by omega), HBB.out]
              show _ = Value.string (_ ++ mk8 [at64 (b / 64 % 64)])
              rw [HNN.out]
            | 3 =>
              obtain ⟨n, hn⟩ : ∃ n, b / 1 % 64 = n := ⟨_, rfl⟩
              have hn64 : n < 64 := by omega
              have hat : bits .and .i64 (b : Int) 63 = (n : Int) := by rw [and63F]; omega
              have hext := digF_ext n hn64
              have hadd : ∀ W, (Op.stringOp .add T (mk8 [at64 n])).run Tryd.prog W = .ok (.string (T ++ mk8 [at64 n])) W := fun W => run_string_add_sum W T (mk8 [at64 n]) (by show T.size + 1 ≤ _; omega)
              have HNN := Lib.hid hn
              clear hn
              go_wp2_with fail
              refine ⟨⟨4, by omega, rfl, ?_, trivial⟩, by simp [RowKit.intOf]⟩
              rw [← HT.out, dig3_take c 3 (by omega), ← snocF]
              unfold dgF
              rw [if_neg (by omega), HBB.out]
              show _ = Value.string (_ ++ mk8 [at64 (b / 1 % 64)])
              rw [HNN.out]
        · obtain rfl : i = 4 := by omega
          go_wp2_with fail
          go_ret
          exact ⟨congrArg (fun x => Ending.returned (.string x)) HT.out.symm, Below.refl _ _⟩
end Go.Proofs.YtnfeifafocemaaaDoor
