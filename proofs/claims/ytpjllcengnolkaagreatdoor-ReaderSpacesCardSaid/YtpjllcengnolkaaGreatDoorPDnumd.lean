/-
  Contracts of dec's numeral, a number's text on its way: slices.Index, Contains, isDigit, skip, take.
  Contracts of dec's numeral: take and skip.
  Contract of dec's numeral: skip.
  Contracts of dec's numeral: readWhole and readFraction, told by the places of the form.
-/
import Derived.Test.YtpjllcengnolkaaGreatDoorPDset
import Derived.Test.YtpjllcengnolkaaGreatDoorPDpar
set_option linter.unusedVariables false
set_option linter.unusedSimpArgs false
namespace Go.Proofs.YtpjllcengnolkaaGreatDoor
open Go.RowKit

/-- The box of a numeral that has no sign of its own decimal but Neg. -/
abbrev numBx (neg : Bool) (dg fr pw : ByteArray) (sk : Bool) (lf : ByteArray) : Obj := .cells #[.bool neg, .slice none 0 0, .int .i64 0, .string dg, .string fr, .string pw, .bool sk, .string lf] 110
theorem num_lf {w : World} {b : Nat} {neg sk : Bool} {dg fr pw lf : ByteArray} (h : w.heap[b]? = some (numBx neg dg fr pw sk lf)) : w.cell? ⟨b, 7, none⟩ = some (.string lf) ∧ w.frozen? ⟨b, 7, none⟩ = false := ⟨cell_of h rfl, frozen_of 7 h⟩
theorem num_set {w : World} {b : Nat} {neg sk : Bool} {dg fr pw lf : ByteArray} (h : w.heap[b]? = some (numBx neg dg fr pw sk lf)) (l2 : ByteArray) : (w.setCell ⟨b, 7, none⟩ (.string l2)).heap[b]? = some (numBx neg dg fr pw sk l2) := by
  rw [Go.heap_setCell_same w b 7 _ _ _ h]; rfl
theorem num_set_dg {w : World} {b : Nat} {neg sk : Bool} {dg fr pw lf : ByteArray} (h : w.heap[b]? = some (numBx neg dg fr pw sk lf)) (l2 : ByteArray) : (w.setCell ⟨b, 3, none⟩ (.string l2)).heap[b]? = some (numBx neg l2 fr pw sk lf) := by
  rw [Go.heap_setCell_same w b 3 _ _ _ h]; rfl
theorem num_set_fr {w : World} {b : Nat} {neg sk : Bool} {dg fr pw lf : ByteArray} (h : w.heap[b]? = some (numBx neg dg fr pw sk lf)) (l2 : ByteArray) : (w.setCell ⟨b, 4, none⟩ (.string l2)).heap[b]? = some (numBx neg dg l2 pw sk lf) := by
  rw [Go.heap_setCell_same w b 4 _ _ _ h]; rfl
theorem num_set_pw {w : World} {b : Nat} {neg sk : Bool} {dg fr pw lf : ByteArray} (h : w.heap[b]? = some (numBx neg dg fr pw sk lf)) (l2 : ByteArray) : (w.setCell ⟨b, 5, none⟩ (.string l2)).heap[b]? = some (numBx neg dg fr l2 sk lf) := by
  rw [Go.heap_setCell_same w b 5 _ _ _ h]; rfl
theorem num_set_sk {w : World} {b : Nat} {neg sk : Bool} {dg fr pw lf : ByteArray} (h : w.heap[b]? = some (numBx neg dg fr pw sk lf)) (s2 : Bool) : (w.setCell ⟨b, 6, none⟩ (.bool s2)).heap[b]? = some (numBx neg dg fr pw s2 lf) := by
  rw [Go.heap_setCell_same w b 6 _ _ _ h]; rfl
theorem num_set_neg {w : World} {b : Nat} {neg sk : Bool} {dg fr pw lf : ByteArray} (h : w.heap[b]? = some (numBx neg dg fr pw sk lf)) (s2 : Bool) : (w.setCell ⟨b, 0, none⟩ (.bool s2)).heap[b]? = some (numBx s2 dg fr pw sk lf) := by
  rw [Go.heap_setCell_same w b 0 _ _ _ h]; rfl
theorem octs_extract (s : ByteArray) (a b : Nat) : octs (s.extract a b) = ((octs s).take b).drop a := by
  unfold octs
  rw [ByteArray.data_extract, Array.toList_extract, List.extract_eq_take_drop, List.map_take, List.map_drop, List.drop_take]
theorem octs_rest (s : ByteArray) (a : Nat) : octs (s.extract a s.size) = (octs s).drop a := by
  rw [octs_extract, List.take_of_length_le (by rw [octs_length]; exact Nat.le_refl _)]

set_option maxRecDepth 100000 in
theorem isDigit_c (x : UInt8) (w : World) : Calls Tryz.prog 119 #[.int .u8 (x.toNat : Int)] w fun e w' => e = .returned (.bool (isDig x.toNat)) ∧ w = w' := by
  by_cases h1 : x.toNat < 48
  · have HD : Hid (isDig x.toNat = false) := decide_eq_false (by omega)
    have g1 : ¬ ((48 : Int) ≤ (x.toNat : Int)) := by omega
    clear h1
    go_enter Tryz.func119, Tryz.ntmps119
    go_wp2
    go_ret
    rw [HD.out]
    exact ⟨by first | rfl | simp, rfl⟩
  · have g1 : (48 : Int) ≤ (x.toNat : Int) := by omega
    by_cases h2 : x.toNat ≤ 57
    · have HD : Hid (isDig x.toNat = true) := decide_eq_true (by omega)
      have g2 : (x.toNat : Int) ≤ 57 := by omega
      clear h1 h2
      go_enter Tryz.func119, Tryz.ntmps119
      go_wp2
      go_ret
      rw [HD.out]
      exact ⟨by first | rfl | simp, rfl⟩
    · have HD : Hid (isDig x.toNat = false) := decide_eq_false (by omega)
      have g2 : ¬ ((x.toNat : Int) ≤ 57) := by omega
      clear h1 h2
      go_enter Tryz.func119, Tryz.ntmps119
      go_wp2
      go_ret
      rw [HD.out]
      exact ⟨by first | rfl | simp, rfl⟩
set_option maxRecDepth 100000 in
theorem isZero_c (x : UInt8) (w : World) : Calls Tryz.prog 121 #[.int .u8 (x.toNat : Int)] w fun e w' => e = .returned (.bool (x.toNat == 48)) ∧ w = w' := by
  go_enter Tryz.func121, Tryz.ntmps121
  go_wp2
  go_ret
  refine ⟨?_, rfl⟩
  have : ((x.toNat : Int) == 48) = (x.toNat == 48) := by
    rw [Bool.eq_iff_iff, beq_iff_eq, beq_iff_eq]; omega
  rw [← this]
  try rfl

/-- The octets of a row of bytes. -/
def RdB (w : World) (g : Nat) (l : List UInt8) : Prop := ∀ (j : Nat) (z : UInt8), l[j]? = some z → w.cell? ⟨g, j, none⟩ = some (.int .u8 (z.toNat : Int))
set_option maxRecDepth 100000 in
theorem Index_c {l : List UInt8} {n c g : Nat} (x : UInt8) (w : World) (hl : l.length = n) (hc : RdB w g l) (hn : n ≤ 1000) :
    Calls Tryz.prog 143 #[.slice (some ⟨g, 0, none⟩) n c, .int .u8 (x.toNat : Int)] w fun e w' => (∃ r : Int, e = .returned (.int .i64 r) ∧ decide (0 ≤ r) = l.contains x) ∧ w = w' := by
  have HL := Lib.hid hl
  have HC := Lib.hid hc
  clear hl hc
  go_enter Tryz.func143, Tryz.ntmps143
  go_wp2
  go_loopw [8] (fun i wr => ∃ k : Nat, k ≤ n ∧ i = .int .i64 (k : Int) ∧ Hid ((l.take k).contains x = false) ∧ wr = w) (fun i _ => n - (RowKit.intOf i).toNat)
  case atStart => exact ⟨0, Nat.zero_le _, rfl, rfl, rfl⟩
  case round =>
    obtain ⟨k, hk, rfl, hno, rfl⟩ := hrel
    by_cases hlt : k < n
    · obtain ⟨z, hz⟩ : ∃ z, l[k]? = some z := ⟨l[k]'(by rw [HL.out]; exact hlt), List.getElem?_eq_getElem (by rw [HL.out]; exact hlt)⟩
      have hcc := HC.out k z hz
      by_cases hxz : x = z
      · have he : ((x.toNat : Int) == (z.toNat : Int)) = true := by rw [hxz]; simp
        have hres : Hid (decide ((0 : Int) ≤ (k : Int)) = l.contains x) := by
          show _ = _
          rw [decide_eq_true (by omega), eq_comm, List.contains_iff_mem, hxz]
          exact List.mem_of_getElem? hz
        clear hz hxz
        go_wp2
        go_ret
        exact ⟨⟨_, rfl, hres.out⟩, rfl⟩
      · have he : ((x.toNat : Int) == (z.toNat : Int)) = false := by
          rw [beq_eq_false_iff_ne]
          intro h
          exact hxz (UInt8.toNat_inj.1 (by omega))
        have hno2 : Hid ((l.take (k + 1)).contains x = false) := by
          show _ = _
          rw [List.take_add_one, hz, List.contains_eq_any_beq, List.any_append, ← List.contains_eq_any_beq, hno.out]
          simp [hxz]
        clear hz hxz hno
        go_wp2
        go_roundw
        case rel => exact ⟨k + 1, by omega, by go_num, hno2, by first | trivial | rfl⟩
        case measure => simp [RowKit.intOf]; omega
    · obtain rfl : k = n := by omega
      have hres : Hid (decide ((0 : Int) ≤ -1) = l.contains x) := by
        show _ = _
        have := hno.out
        rw [List.take_of_length_le (by rw [HL.out]; exact Nat.le_refl _)] at this
        rw [this]; rfl
      clear hno hlt
      go_wp2
      go_ret
      exact ⟨⟨-1, rfl, hres.out⟩, rfl⟩
set_option maxRecDepth 100000 in
theorem Contains_c {l : List UInt8} {n c g : Nat} (x : UInt8) (w : World) (hl : l.length = n) (hc : RdB w g l) (hn : n ≤ 1000) :
    Calls Tryz.prog 117 #[.slice (some ⟨g, 0, none⟩) n c, .int .u8 (x.toNat : Int)] w fun e w' => e = .returned (.bool (l.contains x)) ∧ w = w' := by
  have h := Lib.hid (Index_c (c := c) x w hl hc hn)
  clear hl hc
  go_enter Tryz.func117, Tryz.ntmps117
  go_wp2_with fail
  refine h.out.mono ?_
  rintro e w' ⟨⟨r, rfl, hr⟩, rfl⟩
  have HR := Lib.hid hr
  clear hr
  go_wp2
  go_ret
  rw [← HR.out]
  exact ⟨rfl, rfl⟩
end Go.Proofs.YtpjllcengnolkaaGreatDoor

namespace Go.Proofs.YtpjllcengnolkaaGreatDoor
open Go.RowKit

theorem tw_ge {p : Nat → Bool} : ∀ {xs : List Nat} {k : Nat}, k < (xs.takeWhile p).length → p (nth xs k) = true ∧ k < xs.length
  | [], k, h => by simp at h
  | x :: xs, k, h => by
    by_cases hp : p x = true
    · rw [List.takeWhile_cons_of_pos hp, List.length_cons] at h
      cases k with
      | zero => exact ⟨hp, by simp⟩
      | succ k =>
        have := tw_ge (p := p) (xs := xs) (k := k) (by omega)
        exact ⟨this.1, by rw [List.length_cons]; omega⟩
    · rw [List.takeWhile_cons_of_neg hp] at h; simp at h
theorem tw_stop {p : Nat → Bool} : ∀ {xs : List Nat}, (xs.takeWhile p).length < xs.length → p (nth xs (xs.takeWhile p).length) = false
  | [], h => by simp at h
  | x :: xs, h => by
    by_cases hp : p x = true
    · rw [List.takeWhile_cons_of_pos hp, List.length_cons, List.length_cons] at h
      rw [List.takeWhile_cons_of_pos hp, List.length_cons]
      exact tw_stop (xs := xs) (by omega)
    · rw [List.takeWhile_cons_of_neg hp]
      simpa [nth] using hp
theorem tw_le (p : Nat → Bool) (xs : List Nat) : (xs.takeWhile p).length ≤ xs.length := (List.takeWhile_sublist p).length_le

def isZ (x : Nat) : Bool := x == 48

set_option maxRecDepth 100000 in
theorem takeD_c {b : Nat} {neg sk : Bool} {dg fr pw lf : ByteArray} (w : World) (hs : lf.size ≤ 9223372036854775807) (hb : w.heap[b]? = some (numBx neg dg fr pw sk lf)) :
    Calls Tryz.prog 118 #[.pointer (some ⟨b, 0, none⟩), .func (.func 119) #[] #[]] w fun e w' => e = .returned (.string (lf.extract 0 ((octs lf).takeWhile isDig).length)) ∧
      w'.heap[b]? = some (numBx neg dg fr pw sk (lf.extract ((octs lf).takeWhile isDig).length lf.size)) ∧ Below b w w' := by
  have hf := fun (x : UInt8) (V : World) => isDigit_c x V
  obtain ⟨m, hm⟩ : ∃ m, m = ((octs lf).takeWhile isDig).length := ⟨_, rfl⟩
  rw [← hm]
  have hmle : m ≤ lf.size := by rw [hm, ← octs_length]; exact tw_le _ _
  have hin : ∀ k (hk : k < lf.size), k < m → isDig (lf[k].toNat) = true := fun k hk h => by
    rw [hm] at h
    rw [← octs_get lf k hk]; exact (tw_ge h).1
  have hout : ∀ (hk : m < lf.size), isDig (lf[m].toNat) = false := fun hk => by
    rw [← octs_get lf m hk, hm]
    exact tw_stop (by rw [← hm, octs_length]; exact hk)
  obtain ⟨hc7, hf7⟩ := num_lf hb
  have HSET := Lib.hid (num_set hb (lf.extract m lf.size))
  have HIN := Lib.hid hin
  have HOUT := Lib.hid hout
  have HF := Lib.hid hf
  have HBK : Hid (b < w.heap.size) := (Array.getElem?_eq_some_iff.1 hb).1
  clear hin hout hf hm hb
  go_enter Tryz.func118, Tryz.ntmps118
  go_wp2
  go_loopw [5] (fun i wr => ∃ k : Nat, k ≤ m ∧ i = .int .i64 (k : Int) ∧ wr = w) (fun i _ => m - (RowKit.intOf i).toNat)
  case atStart => exact ⟨0, Nat.zero_le _, rfl, rfl⟩
  case round =>
    obtain ⟨k, hk, rfl, rfl⟩ := hrel
    by_cases hlt : k < m
    · have hks : k < lf.size := by omega
      have hp := HIN.out k hks hlt
      have HP := Lib.hid hp
      clear hp
      go_wp2_with fail
      refine (HF.out lf[k] wr).mono ?_
      rintro e w' ⟨rfl, rfl⟩
      rw [HP.out]
      go_wp2
      go_roundw
      case rel => exact ⟨k + 1, by omega, by go_num, by first | trivial | rfl⟩
      case measure => simp [RowKit.intOf]; omega
    · obtain rfl : k = m := by omega
      by_cases hend : k < lf.size
      · have HP := Lib.hid (HOUT.out hend)
        go_wp2_with fail
        refine (HF.out lf[k] wr).mono ?_
        rintro e w' ⟨rfl, rfl⟩
        rw [HP.out]
        go_wp2
        go_ret
        exact ⟨rfl, HSET.out, (Below.refl _ _).setCell (p := ⟨b, 7, none⟩) (Nat.le_refl _) _⟩
      · obtain rfl : k = lf.size := by omega
        have e1 : lf.extract 0 lf.size = lf := by simp
        have e2 : lf.extract lf.size lf.size = ByteArray.empty := by simp
        have HS2 := HSET.out
        rw [e2] at HS2
        have HS3 := Lib.hid HS2
        have E1 := Lib.hid e1
        have E2 := Lib.hid e2
        clear HSET HS2 e1 e2
        go_wp2
        go_ret
        exact ⟨by rw [E1.out]; rfl, by rw [E2.out]; exact HS3.out, (Below.refl _ _).setCell (p := ⟨b, 7, none⟩) (Nat.le_refl _) _⟩

set_option maxRecDepth 100000 in
theorem takeZ_c {b : Nat} {neg sk : Bool} {dg fr pw lf : ByteArray} (w : World) (hs : lf.size ≤ 9223372036854775807) (hb : w.heap[b]? = some (numBx neg dg fr pw sk lf)) :
    Calls Tryz.prog 118 #[.pointer (some ⟨b, 0, none⟩), .func (.func 121) #[] #[]] w fun e w' => e = .returned (.string (lf.extract 0 ((octs lf).takeWhile isZ).length)) ∧
      w'.heap[b]? = some (numBx neg dg fr pw sk (lf.extract ((octs lf).takeWhile isZ).length lf.size)) ∧ Below b w w' := by
  have hf : ∀ (x : UInt8) (V : World), Calls Tryz.prog 121 #[.int .u8 (x.toNat : Int)] V fun e w' => e = .returned (.bool (isZ x.toNat)) ∧ V = w' := fun x V => isZero_c x V
  obtain ⟨m, hm⟩ : ∃ m, m = ((octs lf).takeWhile isZ).length := ⟨_, rfl⟩
  rw [← hm]
  have hmle : m ≤ lf.size := by rw [hm, ← octs_length]; exact tw_le _ _
  have hin : ∀ k (hk : k < lf.size), k < m → isZ (lf[k].toNat) = true := fun k hk h => by
    rw [hm] at h
    rw [← octs_get lf k hk]; exact (tw_ge h).1
  have hout : ∀ (hk : m < lf.size), isZ (lf[m].toNat) = false := fun hk => by
    rw [← octs_get lf m hk, hm]
    exact tw_stop (by rw [← hm, octs_length]; exact hk)
  obtain ⟨hc7, hf7⟩ := num_lf hb
  have HSET := Lib.hid (num_set hb (lf.extract m lf.size))
  have HIN := Lib.hid hin
  have HOUT := Lib.hid hout
  have HF := Lib.hid hf
  have HBK : Hid (b < w.heap.size) := (Array.getElem?_eq_some_iff.1 hb).1
  clear hin hout hf hm hb
  go_enter Tryz.func118, Tryz.ntmps118
  go_wp2
  go_loopw [5] (fun i wr => ∃ k : Nat, k ≤ m ∧ i = .int .i64 (k : Int) ∧ wr = w) (fun i _ => m - (RowKit.intOf i).toNat)
  case atStart => exact ⟨0, Nat.zero_le _, rfl, rfl⟩
  case round =>
    obtain ⟨k, hk, rfl, rfl⟩ := hrel
    by_cases hlt : k < m
    · have hks : k < lf.size := by omega
      have hp := HIN.out k hks hlt
      have HP := Lib.hid hp
      clear hp
      go_wp2_with fail
      refine (HF.out lf[k] wr).mono ?_
      rintro e w' ⟨rfl, rfl⟩
      rw [HP.out]
      go_wp2
      go_roundw
      case rel => exact ⟨k + 1, by omega, by go_num, by first | trivial | rfl⟩
      case measure => simp [RowKit.intOf]; omega
    · obtain rfl : k = m := by omega
      by_cases hend : k < lf.size
      · have HP := Lib.hid (HOUT.out hend)
        go_wp2_with fail
        refine (HF.out lf[k] wr).mono ?_
        rintro e w' ⟨rfl, rfl⟩
        rw [HP.out]
        go_wp2
        go_ret
        exact ⟨rfl, HSET.out, (Below.refl _ _).setCell (p := ⟨b, 7, none⟩) (Nat.le_refl _) _⟩
      · obtain rfl : k = lf.size := by omega
        have e1 : lf.extract 0 lf.size = lf := by simp
        have e2 : lf.extract lf.size lf.size = ByteArray.empty := by simp
        have HS2 := HSET.out
        rw [e2] at HS2
        have HS3 := Lib.hid HS2
        have E1 := Lib.hid e1
        have E2 := Lib.hid e2
        clear HSET HS2 e1 e2
        go_wp2
        go_ret
        exact ⟨by rw [E1.out]; rfl, by rw [E2.out]; exact HS3.out, (Below.refl _ _).setCell (p := ⟨b, 7, none⟩) (Nat.le_refl _) _⟩
end Go.Proofs.YtpjllcengnolkaaGreatDoor

namespace Go.Proofs.YtpjllcengnolkaaGreatDoor
open Go.RowKit

theorem str_empty {lf : ByteArray} (h : lf.size = 0) : (lf.toList == []) = true := by
  have : lf.toList = [] := by
    rw [Lib.toList_data]
    exact List.eq_nil_of_length_eq_zero (by rw [Array.length_toList]; exact h)
  rw [this]; rfl
theorem str_full {lf : ByteArray} (h : 0 < lf.size) : (lf.toList == []) = false := by
  rw [beq_eq_false_iff_ne, Lib.toList_data]
  intro e
  have h1 := congrArg List.length e
  rw [Array.length_toList, List.length_nil] at h1
  have h2 : lf.size = lf.data.size := rfl
  omega
/-- Is the first octet one of those? -/
def heads (l : List UInt8) (xs : List Nat) : Bool := (l.map (·.toNat)).contains (nth xs 0)
theorem heads_of {l : List UInt8} {lf : ByteArray} (h : 0 < lf.size) : heads l (octs lf) = l.contains lf[0] := by
  unfold heads
  rw [octs_get lf 0 h, Bool.eq_iff_iff, List.contains_iff_mem, List.contains_iff_mem, List.mem_map]
  constructor
  · rintro ⟨z, hz, e⟩
    rw [← UInt8.toNat_inj.1 e]; exact hz
  · intro hz; exact ⟨_, hz, rfl⟩
theorem heads_nil {l : List UInt8} (hp : ∀ z ∈ l, 0 < z.toNat) {lf : ByteArray} (h : lf.size = 0) : heads l (octs lf) = false := by
  unfold heads
  rw [nth_none (by rw [octs_length]; omega)]
  cases hc : (l.map (·.toNat)).contains 0 with
  | false => rfl
  | true =>
    rw [List.contains_iff_mem, List.mem_map] at hc
    obtain ⟨z, hz, e⟩ := hc
    have := hp z hz
    omega

set_option maxRecDepth 100000 in
theorem skip_c {b : Nat} {neg sk : Bool} {dg fr pw lf : ByteArray} {l : List UInt8} {n c g : Nat} (w : World) (hs : lf.size ≤ 9223372036854775807) (hb : w.heap[b]? = some (numBx neg dg fr pw sk lf))
    (hl : l.length = n) (hc : RdB w g l) (hn : n ≤ 1000) (hp : ∀ z ∈ l, 0 < z.toNat) :
    Calls Tryz.prog 93 #[.pointer (some ⟨b, 0, none⟩), .slice (some ⟨g, 0, none⟩) n c] w fun e w' => e = .returned (.bool (heads l (octs lf))) ∧
      w'.heap[b]? = some (numBx neg dg fr pw sk (if heads l (octs lf) = true then lf.extract 1 lf.size else lf)) ∧ Below b w w' := by
  obtain ⟨hc7, hf7⟩ := num_lf hb
  by_cases h0 : lf.size = 0
  · rw [heads_nil hp h0]
    have he := str_empty h0
    have HB := Lib.hid hb
    clear hb hp hc h0
    go_enter Tryz.func93, Tryz.ntmps93
    go_wp2
    go_ret
    exact ⟨rfl, HB.out, Below.refl _ _⟩
  · have h1 : 0 < lf.size := by omega
    have he := str_full h1
    rw [heads_of h1]
    have hC := Contains_c (c := c) lf[0] w hl hc hn
    have HC := Lib.hid hC
    cases ht : l.contains lf[0] with
    | false =>
      have HB := Lib.hid hb
      rw [ht] at HC
      clear hb hp hc h0 hC ht
      go_enter Tryz.func93, Tryz.ntmps93
      go_wp2_with fail
      refine HC.out.mono ?_
      rintro e w' ⟨rfl, rfl⟩
      go_wp2
      go_ret
      exact ⟨rfl, HB.out, Below.refl _ _⟩
    | true =>
      have HSET := Lib.hid (num_set hb (lf.extract 1 lf.size))
      rw [ht] at HC
      clear hb hp hc h0 hC ht
      go_enter Tryz.func93, Tryz.ntmps93
      go_wp2_with fail
      refine HC.out.mono ?_
      rintro e w' ⟨rfl, rfl⟩
      go_wp2
      go_ret
      exact ⟨rfl, HSET.out, (Below.refl _ _).setCell (p := ⟨b, 7, none⟩) (Nat.le_refl _) _⟩
end Go.Proofs.YtpjllcengnolkaaGreatDoor

namespace Go.Proofs.YtpjllcengnolkaaGreatDoor
open Go.RowKit

theorem nth_drop0 (X : List Nat) (k : Nat) : nth (X.drop k) 0 = nth X k := by
  unfold nth
  rw [List.getD_eq_getElem?_getD, List.getD_eq_getElem?_getD, List.getElem?_drop, Nat.add_zero]
theorem tw_dEnd (X : List Nat) (k : Nat) : ((X.drop k).takeWhile isDig).length = dEnd X k - k := by unfold dEnd; omega
theorem tw_pos {X : List Nat} {k : Nat} : isDig (nth X k) = true ↔ 0 < ((X.drop k).takeWhile isDig).length := by
  constructor
  · intro h
    rw [drop_eq_nth (dig_lt h), List.takeWhile_cons_of_pos h]; simp
  · intro h
    have := (tw_ge h).1
    rwa [nth_drop0] at this
theorem RdB1 (w : World) (x : UInt8) : RdB (w.alloc (.cells #[.int .u8 (x.toNat : Int)] 5)) w.heap.size [x] := by
  intro j z h
  have hj := (List.getElem?_eq_some_iff.1 h).1
  have hj0 : j = 0 := by simpa using hj
  subst hj0
  have hz : x = z := by simpa using h
  subst hz
  exact cell_of (World.alloc_heap_new w _) rfl
theorem RdB2 (w : World) (x y : UInt8) : RdB (w.alloc (.cells #[.int .u8 (x.toNat : Int), .int .u8 (y.toNat : Int)] 5)) w.heap.size [x, y] := by
  intro j z h
  have hj := (List.getElem?_eq_some_iff.1 h).1
  have hj0 : j = 0 ∨ j = 1 := by simp at hj; omega
  rcases hj0 with rfl | rfl
  · have hz : x = z := by simpa using h
    subst hz
    exact cell_of (World.alloc_heap_new w _) rfl
  · have hz : y = z := by simpa using h
    subst hz
    exact cell_of (World.alloc_heap_new w _) rfl
theorem heads1 (x : UInt8) (xs : List Nat) : heads [x] xs = decide (nth xs 0 = x.toNat) := by
  unfold heads
  rw [Bool.eq_iff_iff, List.contains_iff_mem, decide_eq_true_eq]
  simp
theorem heads2 (x y : UInt8) (xs : List Nat) : heads [x, y] xs = decide (nth xs 0 = x.toNat ∨ nth xs 0 = y.toNat) := by
  unfold heads
  rw [Bool.eq_iff_iff, List.contains_iff_mem, decide_eq_true_eq]
  simp
theorem ext0_size {lf : ByteArray} {m : Nat} (h : m ≤ lf.size) : (lf.extract 0 m).size = m := by
  rw [ByteArray.size_extract]; omega

set_option maxRecDepth 100000 in
theorem readWhole_c {b k : Nat} {neg sk : Bool} {dg fr pw lf : ByteArray} {X : List Nat} (w : World) (hs : lf.size ≤ 9223372036854775807) (hb : w.heap[b]? = some (numBx neg dg fr pw sk lf)) (hx : octs lf = X.drop k) :
    Calls Tryz.prog 94 #[.pointer (some ⟨b, 0, none⟩)] w fun e w' => e = .returned (.bool (isDig (nth X k))) ∧
      (isDig (nth X k) = true → ∃ dg' lf', w'.heap[b]? = some (numBx neg dg' fr pw sk lf') ∧ lf'.size ≤ lf.size ∧ octs lf' = X.drop (if nth X k = 48 then k + 1 else dEnd X k) ∧ octs dg' = if nth X k = 48 then octs dg else (X.drop k).take (dEnd X k - k)) ∧ Below b w w' := by
  have hlt : b < w.heap.size := (Array.getElem?_eq_some_iff.1 hb).1
  have hb1 : (w.alloc (.cells #[.int .u8 48] 5)).heap[b]? = some (numBx neg dg fr pw sk lf) := (Below.heap_alloc _ _ _ hlt).trans hb
  have hS := skip_c (l := [48]) (n := 1) (c := 1) (w.alloc (.cells #[.int .u8 48] 5)) hs hb1 rfl (RdB1 w 48) (by omega) (by decide)
  have hB0 : Below b w (w.alloc (.cells #[.int .u8 48] 5)) := (Below.refl _ _).alloc (by omega) _
  rw [heads1, hx, nth_drop0] at hS
  by_cases h48 : nth X k = 48
  · rw [show decide (nth X k = (48 : UInt8).toNat) = true from decide_eq_true h48, if_pos rfl] at hS
    have hdg : isDig (nth X k) = true := by rw [h48]; decide
    have hl2 : octs (lf.extract 1 lf.size) = X.drop (k + 1) := by rw [octs_rest, hx, List.drop_drop]
    have hls : (lf.extract 1 lf.size).size ≤ lf.size := by rw [ByteArray.size_extract]; omega
    rw [hdg, if_pos h48, if_pos h48]
    have HS := Lib.hid hS
    have HL2 := Lib.hid hl2
    have HLS := Lib.hid hls
    have HB0 := Lib.hid hB0
    clear hS hl2 hls hB0 hb1 hb hx h48 hdg
    go_enter Tryz.func94, Tryz.ntmps94
    go_wp2_with fail
    refine HS.out.mono ?_
    rintro e w2 ⟨rfl, hb2, hbel⟩
    go_wp2
    go_ret
    exact ⟨rfl, fun _ => ⟨dg, _, hb2, HLS.out, HL2.out, rfl⟩, HB0.out.trans hbel⟩
  · rw [show decide (nth X k = (48 : UInt8).toNat) = false from decide_eq_false h48, if_neg (by decide)] at hS
    rw [if_neg h48, if_neg h48]
    obtain ⟨m, hm⟩ : ∃ m, m = ((octs lf).takeWhile isDig).length := ⟨_, rfl⟩
    have hmle : m ≤ lf.size := by rw [hm, ← octs_length]; exact tw_le _ _
    have hmd : m = dEnd X k - k := by rw [hm, hx, tw_dEnd]
    have hmp : isDig (nth X k) = decide (0 < m) := by rw [Bool.eq_iff_iff, tw_pos, decide_eq_true_eq, hm, hx]
    have hT := fun V (h : V.heap[b]? = some (numBx neg dg fr pw sk lf)) => takeD_c V hs h
    rw [← hm] at hT
    have hl2 : octs (lf.extract m lf.size) = X.drop (dEnd X k) := by
      rw [octs_rest, hx, List.drop_drop, hmd]
      have := dEnd_ge X k
      rw [show k + (dEnd X k - k) = dEnd X k by omega]
    have hl3 : octs (lf.extract 0 m) = (X.drop k).take (dEnd X k - k) := by rw [octs_extract, hx, hmd, List.drop_zero]
    have hls : (lf.extract m lf.size).size ≤ lf.size := by rw [ByteArray.size_extract]; omega
    have hes := ext0_size hmle
    rw [hmp]
    have HS := Lib.hid hS
    have HL2 := Lib.hid hl2
    have HL3 := Lib.hid hl3
    have HLS := Lib.hid hls
    have HB0 := Lib.hid hB0
    have HT := Lib.hid hT
    clear hS hl2 hl3 hls hB0 hb1 hb hx h48 hT hm hmd hmp
    generalize lf.extract m lf.size = L2 at *
    generalize lf.extract 0 m = D2 at *
    by_cases hm0 : m = 0
    · have he := str_empty (show D2.size = 0 by omega)
      have hd : decide (0 < m) = false := decide_eq_false (by omega)
      rw [hd]
      clear hd hm0 hes
      go_enter Tryz.func94, Tryz.ntmps94
      go_wp2_with fail
      refine HS.out.mono ?_
      rintro e w2 ⟨rfl, hb2, hbel⟩
      go_wp2_with fail
      refine (HT.out w2 hb2).mono ?_
      rintro e w3 ⟨rfl, hb3, hbel3⟩
      have hc3 := cell_of (k := 3) hb3 rfl
      have hf3 := frozen_of 3 hb3
      go_wp2
      go_ret
      exact ⟨rfl, (fun h => by cases h), (HB0.out.trans (hbel.trans hbel3)).setCell (p := ⟨b, 3, none⟩) (Nat.le_refl _) _⟩
    · have he := str_full (show 0 < D2.size by omega)
      have hd : decide (0 < m) = true := decide_eq_true (by omega)
      rw [hd]
      clear hd hm0 hes
      go_enter Tryz.func94, Tryz.ntmps94
      go_wp2_with fail
      refine HS.out.mono ?_
      rintro e w2 ⟨rfl, hb2, hbel⟩
      go_wp2_with fail
      refine (HT.out w2 hb2).mono ?_
      rintro e w3 ⟨rfl, hb3, hbel3⟩
      have hc3 := cell_of (k := 3) hb3 rfl
      have hf3 := frozen_of 3 hb3
      have HSET := Lib.hid (num_set_dg hb3 D2)
      go_wp2
      go_ret
      exact ⟨rfl, (fun _ => ⟨D2, L2, HSET.out, HLS.out, HL2.out, HL3.out⟩), (HB0.out.trans (hbel.trans hbel3)).setCell (p := ⟨b, 3, none⟩) (Nat.le_refl _) _⟩
end Go.Proofs.YtpjllcengnolkaaGreatDoor
