/-
  Contracts of the reference's zeros and plain.
-/
import Derived.Test.YtpjllcengnolkaaGreatDoorSVcm
import Derived.Lib.ItoaLen
import Derived.Test.YtpjllcengnolkaaGreatDoorSDa
set_option linter.unusedVariables false
set_option linter.unusedSimpArgs false
namespace Go.Proofs.YtpjllcengnolkaaGreatDoor
open Go.RowKit

/-- So many 0. -/
def repS (k : Nat) : ByteArray := txt (List.replicate k 48)
theorem octs_repS (k : Nat) : octs (repS k) = List.replicate k 48 := octs_txt (fun x hx => by rw [List.mem_replicate] at hx; omega)
theorem repS_size (k : Nat) : (repS k).size = k := by rw [← octs_length, octs_repS, List.length_replicate]
theorem repS_succ (k : Nat) : repS k ++ ⟨#[48]⟩ = repS (k + 1) := by
  apply octs_inj
  rw [octs_append, octs_repS, octs_repS, List.replicate_succ']
  rfl
set_option maxRecDepth 100000 in
theorem zeros_c (k : Nat) (z : Int) (w : World) (hz : z = (k : Int)) (hk : k ≤ 100000) : Calls Tryz.prog 25 #[.int .i64 z] w fun e w' => e = .returned (.string (repS k)) ∧ w' = w := by
  subst hz
  go_enter Tryz.func25, Tryz.ntmps25
  go_wp2
  go_loopw [3, 4] (fun s i wr => ∃ j : Nat, j ≤ k ∧ i = .int .i64 (j : Int) ∧ s = .string (repS j) ∧ wr = w) (fun _ i _ => k - (RowKit.intOf i).toNat)
  case atStart => exact ⟨0, Nat.zero_le _, rfl, rfl, rfl⟩
  case round =>
    obtain ⟨j, hj, rfl, rfl, rfl⟩ := hrel
    by_cases hlt : j < k
    · have hsz := repS_size j
      have hsc := repS_succ j
      have HSC := Lib.hid hsc
      clear hsc
      go_wp2
      go_roundw
      case rel => exact ⟨j + 1, by omega, by go_num, by rw [HSC.out], by first | trivial | rfl⟩
      case measure => simp [RowKit.intOf]; omega
    · obtain rfl : j = k := by omega
      go_wp2
      go_ret
      exact ⟨rfl, rfl⟩
theorem ResB.one (w : World) (x : Nat) (hx : x < 256) : ResB (w.alloc (.cells #[.int .u8 (x : Int)] 5)) w.heap.size (some ⟨w.heap.size, 0, none⟩) 1 1 [x] := by
  refine ⟨rfl, L8.one hx, ?_⟩
  have h := World.ownsRow_lit (base := w.heap.size) (e := 5) (size := 1) w #[.int .u8 (x : Int)] 1 (Nat.le_refl _) (by unfold maxLen; omega) (by simp)
  show World.ownsRow _ _ _ _ _ _ [Value.int .u8 (x : Int)]
  simpa using h
theorem ito_small {k : Nat} (h : k < 10) : itoO (k : Int) = [48 + k] := by
  unfold itoO Lib.itoa
  rw [if_neg (by omega), Int.toNat_natCast, Lib.decDigits, dif_pos h]
  simp [UInt8.toNat_ofNat']
  omega
theorem ito_big {k : Nat} (h : ¬ k < 10) : itoO (k : Int) = itoO ((k / 10 : Nat) : Int) ++ itoO ((k % 10 : Nat) : Int) := by
  rw [ito_small (show k % 10 < 10 by omega)]
  unfold itoO Lib.itoa
  rw [if_neg (by omega), if_neg (by omega), Int.toNat_natCast, Int.toNat_natCast, Lib.decDigits, dif_neg h]
  simp [UInt8.toNat_ofNat']
  omega
set_option maxRecDepth 100000 in
theorem plainN_c (k : Nat) : ∀ (w : World), k ≤ 1000000000 → Calls Tryz.prog 26 #[.int .i64 (k : Int)] w fun e w' => ∃ t, e = .returned (.string t) ∧ octs t = itoO (k : Int) ∧ t.size ≤ 100 ∧ Below w.heap.size w w' := by
  induction k using Nat.strongRecOn with
  | _ k ih =>
    intro w hk
    by_cases h : k < 10
    · have hcv := conv_txt (ResB.one w (48 + k) (by omega))
      have h10 : (k : Int) < 10 := by omega
      have hw1 : IntKind.i64.wrap (48 + (k : Int)) = 48 + (k : Int) := IntWalk.i64_in _ (by omega)
      have hw2 : IntKind.u8.wrap (48 + (k : Int)) = 48 + (k : Int) := IntWalk.u8_in _ (by omega)
      have e1 : ((48 + k : Nat) : Int) = 48 + (k : Int) := by omega
      rw [e1] at hcv
      have hi : Hid (octs (txt [48 + k]) = itoO (k : Int)) := by show _ = _; rw [ito_small h]; exact octs_txt (L8.one (by omega))
      have hs : Hid ((txt [48 + k]).size ≤ 100) := by show _ ≤ _; rw [← octs_length, octs_txt (L8.one (by omega))]; simp
      clear e1 ih
      go_enter Tryz.func26, Tryz.ntmps26
      go_wp2
      go_ret
      exact ⟨_, rfl, hi.out, hs.out, (Below.refl _ _).alloc (Nat.le_refl _) _⟩
    · have h10 : ¬ ((k : Int) < 10) := by omega
      have h1 := ih (k / 10) (by omega)
      have h2 := ih (k % 10) (by omega)
      have hd : (k : Int).tdiv 10 = ((k / 10 : Nat) : Int) := by rw [Int.tdiv_eq_ediv_of_nonneg (by omega)]; omega
      have hm : (k : Int).tmod 10 = ((k % 10 : Nat) : Int) := by rw [Int.tmod_eq_emod_of_nonneg (by omega)]; omega
      have hb := Lib.hid (ito_big h)
      have hlen : Hid ((itoO (k : Int)).length ≤ 21) := by
        show _ ≤ _
        unfold itoO
        rw [List.length_map]
        exact Lib.itoa_length_le _ (by omega) (by omega)
      have hq : k / 10 ≤ 1000000000 := by omega
      have hr : k % 10 ≤ 1000000000 := by omega
      generalize k / 10 = q at *
      generalize k % 10 = r at *
      have H1 := Lib.hid h1
      have H2 := Lib.hid h2
      clear h1 h2 ih h
      go_enter Tryz.func26, Tryz.ntmps26
      go_wp2_with fail
      refine (H1.out w hq).mono ?_
      rintro e w1 ⟨t1, rfl, ht1, hs1, hb1⟩
      have HT1 := Lib.hid ht1
      clear ht1
      go_wp2_with fail
      refine (H2.out w1 hr).mono ?_
      rintro e w2 ⟨t2, rfl, ht2, hs2, hb2⟩
      have HT2 := Lib.hid ht2
      clear ht2
      go_wp2
      go_ret
      have ho : octs (t1 ++ t2) = itoO (k : Int) := by rw [octs_append, HT1.out, HT2.out, hb.out]
      exact ⟨_, rfl, ho, by rw [← octs_length, ho]; have := hlen.out; omega, hb1.trans (hb2.mono hb1.size)⟩
end Go.Proofs.YtpjllcengnolkaaGreatDoor
