/-
  Contracts of dec's numeral: take and skip.
-/
import Derived.Test.YtjhaoncganoaaaaGreatDoorDnum
set_option linter.unusedVariables false
set_option linter.unusedSimpArgs false
namespace Go.Proofs.YtjhaoncganoaaaaGreatDoor
open Go.RowKit

theorem tw_ge {p : Nat → Bool} : ∀ {xs : List Nat} {k : Nat}, k < (xs.takeWhile p).length → p (nth xs k) = true ∧ k < xs.length
  | [], k, h => by simp at h
  | x :: xs, k, h => by
    by_cases hp : p x = true
    · rw [List.takeWhile_cons_of_pos hp, List.length_cons] at h
      cases k with
      | zero => exact ⟨hp, by simp⟩
      | succ k =>
        have := tw_ge (p := p) (xs := xs) (k := k) (by omega)
        exact ⟨this.1, by rw [List.length_cons]; omega⟩
    · rw [List.takeWhile_cons_of_neg hp] at h; simp at h
theorem tw_stop {p : Nat → Bool} : ∀ {xs : List Nat}, (xs.takeWhile p).length < xs.length → p (nth xs (xs.takeWhile p).length) = false
  | [], h => by simp at h
  | x :: xs, h => by
    by_cases hp : p x = true
    · rw [List.takeWhile_cons_of_pos hp, List.length_cons, List.length_cons] at h
      rw [List.takeWhile_cons_of_pos hp, List.length_cons]
      exact tw_stop (xs := xs) (by omega)
    · rw [List.takeWhile_cons_of_neg hp]
      simpa [nth] using hp
theorem tw_le (p : Nat → Bool) (xs : List Nat) : (xs.takeWhile p).length ≤ xs.length := (List.takeWhile_sublist p).length_le

def isZ (x : Nat) : Bool := x == 48

set_option maxRecDepth 100000 in
theorem takeD_c {b : Nat} {neg sk : Bool} {dg fr pw lf : ByteArray} (w : World) (hs : lf.size ≤ 9223372036854775807) (hb : w.heap[b]? = some (numBx neg dg fr pw sk lf)) :
    Calls Tryz.prog 129 #[.pointer (some ⟨b, 0, none⟩), .func (.func 130) #[] #[]] w fun e w' => e = .returned (.string (lf.extract 0 ((octs lf).takeWhile isDig).length)) ∧
      w'.heap[b]? = some (numBx neg dg fr pw sk (lf.extract ((octs lf).takeWhile isDig).length lf.size)) ∧ Below b w w' := by
  have hf := fun (x : UInt8) (V : World) => isDigit_c x V
  obtain ⟨m, hm⟩ : ∃ m, m = ((octs lf).takeWhile isDig).length := ⟨_, rfl⟩
  rw [← hm]
  have hmle : m ≤ lf.size := by rw [hm, ← octs_length]; exact tw_le _ _
  have hin : ∀ k (hk : k < lf.size), k < m → isDig (lf[k].toNat) = true := fun k hk h => by
    rw [hm] at h
    rw [← octs_get lf k hk]; exact (tw_ge h).1
  have hout : ∀ (hk : m < lf.size), isDig (lf[m].toNat) = false := fun hk => by
    rw [← octs_get lf m hk, hm]
    exact tw_stop (by rw [← hm, octs_length]; exact hk)
  obtain ⟨hc7, hf7⟩ := num_lf hb
  have HSET := Lib.hid (num_set hb (lf.extract m lf.size))
  have HIN := Lib.hid hin
  have HOUT := Lib.hid hout
  have HF := Lib.hid hf
  have HBK : Hid (b < w.heap.size) := (Array.getElem?_eq_some_iff.1 hb).1
  clear hin hout hf hm hb
  go_enter Tryz.func129, Tryz.ntmps129
  go_wp2
  go_loopw [5] (fun i wr => ∃ k : Nat, k ≤ m ∧ i = .int .i64 (k : Int) ∧ wr = w) (fun i _ => m - (RowKit.intOf i).toNat)
  case atStart => exact ⟨0, Nat.zero_le _, rfl, rfl⟩
  case round =>
    obtain ⟨k, hk, rfl, rfl⟩ := hrel
    by_cases hlt : k < m
    · have hks : k < lf.size := by omega
      have hp := HIN.out k hks hlt
      have HP := Lib.hid hp
      clear hp
      go_wp2_with fail
      refine (HF.out lf[k] wr).mono ?_
      rintro e w' ⟨rfl, rfl⟩
      rw [HP.out]
      go_wp2
      go_roundw
      case rel => exact ⟨k + 1, by omega, by go_num, by first | trivial | rfl⟩
      case measure => simp [RowKit.intOf]; omega
    · obtain rfl : k = m := by omega
      by_cases hend : k < lf.size
      · have HP := Lib.hid (HOUT.out hend)
        go_wp2_with fail
        refine (HF.out lf[k] wr).mono ?_
        rintro e w' ⟨rfl, rfl⟩
        rw [HP.out]
        go_wp2
        go_ret
        exact ⟨rfl, HSET.out, (Below.refl _ _).setCell (p := ⟨b, 7, none⟩) (Nat.le_refl _) _⟩
      · obtain rfl : k = lf.size := by omega
        have e1 : lf.extract 0 lf.size = lf := by simp
        have e2 : lf.extract lf.size lf.size = ByteArray.empty := by simp
        have HS2 := HSET.out
        rw [e2] at HS2
        have HS3 := Lib.hid HS2
        have E1 := Lib.hid e1
        have E2 := Lib.hid e2
        clear HSET HS2 e1 e2
        go_wp2
        go_ret
        exact ⟨by rw [E1.out]; rfl, by rw [E2.out]; exact HS3.out, (Below.refl _ _).setCell (p := ⟨b, 7, none⟩) (Nat.le_refl _) _⟩

set_option maxRecDepth 100000 in
theorem takeZ_c {b : Nat} {neg sk : Bool} {dg fr pw lf : ByteArray} (w : World) (hs : lf.size ≤ 9223372036854775807) (hb : w.heap[b]? = some (numBx neg dg fr pw sk lf)) :
    Calls Tryz.prog 129 #[.pointer (some ⟨b, 0, none⟩), .func (.func 132) #[] #[]] w fun e w' => e = .returned (.string (lf.extract 0 ((octs lf).takeWhile isZ).length)) ∧
      w'.heap[b]? = some (numBx neg dg fr pw sk (lf.extract ((octs lf).takeWhile isZ).length lf.size)) ∧ Below b w w' := by
  have hf : ∀ (x : UInt8) (V : World), Calls Tryz.prog 132 #[.int .u8 (x.toNat : Int)] V fun e w' => e = .returned (.bool (isZ x.toNat)) ∧ V = w' := fun x V => isZero_c x V
  obtain ⟨m, hm⟩ : ∃ m, m = ((octs lf).takeWhile isZ).length := ⟨_, rfl⟩
  rw [← hm]
  have hmle : m ≤ lf.size := by rw [hm, ← octs_length]; exact tw_le _ _
  have hin : ∀ k (hk : k < lf.size), k < m → isZ (lf[k].toNat) = true := fun k hk h => by
    rw [hm] at h
    rw [← octs_get lf k hk]; exact (tw_ge h).1
  have hout : ∀ (hk : m < lf.size), isZ (lf[m].toNat) = false := fun hk => by
    rw [← octs_get lf m hk, hm]
    exact tw_stop (by rw [← hm, octs_length]; exact hk)
  obtain ⟨hc7, hf7⟩ := num_lf hb
  have HSET := Lib.hid (num_set hb (lf.extract m lf.size))
  have HIN := Lib.hid hin
  have HOUT := Lib.hid hout
  have HF := Lib.hid hf
  have HBK : Hid (b < w.heap.size) := (Array.getElem?_eq_some_iff.1 hb).1
  clear hin hout hf hm hb
  go_enter Tryz.func129, Tryz.ntmps129
  go_wp2
  go_loopw [5] (fun i wr => ∃ k : Nat, k ≤ m ∧ i = .int .i64 (k : Int) ∧ wr = w) (fun i _ => m - (RowKit.intOf i).toNat)
  case atStart => exact ⟨0, Nat.zero_le _, rfl, rfl⟩
  case round =>
    obtain ⟨k, hk, rfl, rfl⟩ := hrel
    by_cases hlt : k < m
    · have hks : k < lf.size := by omega
      have hp := HIN.out k hks hlt
      have HP := Lib.hid hp
      clear hp
      go_wp2_with fail
      refine (HF.out lf[k] wr).mono ?_
      rintro e w' ⟨rfl, rfl⟩
      rw [HP.out]
      go_wp2
      go_roundw
      case rel => exact ⟨k + 1, by omega, by go_num, by first | trivial | rfl⟩
      case measure => simp [RowKit.intOf]; omega
    · obtain rfl : k = m := by omega
      by_cases hend : k < lf.size
      · have HP := Lib.hid (HOUT.out hend)
        go_wp2_with fail
        refine (HF.out lf[k] wr).mono ?_
        rintro e w' ⟨rfl, rfl⟩
        rw [HP.out]
        go_wp2
        go_ret
        exact ⟨rfl, HSET.out, (Below.refl _ _).setCell (p := ⟨b, 7, none⟩) (Nat.le_refl _) _⟩
      · obtain rfl : k = lf.size := by omega
        have e1 : lf.extract 0 lf.size = lf := by simp
        have e2 : lf.extract lf.size lf.size = ByteArray.empty := by simp
        have HS2 := HSET.out
        rw [e2] at HS2
        have HS3 := Lib.hid HS2
        have E1 := Lib.hid e1
        have E2 := Lib.hid e2
        clear HSET HS2 e1 e2
        go_wp2
        go_ret
        exact ⟨by rw [E1.out]; rfl, by rw [E2.out]; exact HS3.out, (Below.refl _ _).setCell (p := ⟨b, 7, none⟩) (Nat.le_refl _) _⟩
end Go.Proofs.YtjhaoncganoaaaaGreatDoor
