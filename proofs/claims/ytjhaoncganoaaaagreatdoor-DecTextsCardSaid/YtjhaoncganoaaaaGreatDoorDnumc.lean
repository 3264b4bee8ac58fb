/-
  Contract of dec's numeral: skip.
-/
import Derived.Test.YtjhaoncganoaaaaGreatDoorDnumb
set_option linter.unusedVariables false
set_option linter.unusedSimpArgs false
namespace Go.Proofs.YtjhaoncganoaaaaGreatDoor
open Go.RowKit

theorem str_empty {lf : ByteArray} (h : lf.size = 0) : (lf.toList == []) = true := by
  have : lf.toList = [] := by
    rw [Lib.toList_data]
    exact List.eq_nil_of_length_eq_zero (by rw [Array.length_toList]; exact h)
  rw [this]; rfl
theorem str_full {lf : ByteArray} (h : 0 < lf.size) : (lf.toList == []) = false := by
  rw [beq_eq_false_iff_ne, Lib.toList_data]
  intro e
  have h1 := congrArg List.length e
  rw [Array.length_toList, List.length_nil] at h1
  have h2 : lf.size = lf.data.size := rfl
  omega
/-- Is the first octet one of those? -/
def heads (l : List UInt8) (xs : List Nat) : Bool := (l.map (·.toNat)).contains (nth xs 0)
theorem heads_of {l : List UInt8} {lf : ByteArray} (h : 0 < lf.size) : heads l (octs lf) = l.contains lf[0] := by
  unfold heads
  rw [octs_get lf 0 h, Bool.eq_iff_iff, List.contains_iff_mem, List.contains_iff_mem, List.mem_map]
  constructor
  · rintro ⟨z, hz, e⟩
    rw [← UInt8.toNat_inj.1 e]; exact hz
  · intro hz; exact ⟨_, hz, rfl⟩
theorem heads_nil {l : List UInt8} (hp : ∀ z ∈ l, 0 < z.toNat) {lf : ByteArray} (h : lf.size = 0) : heads l (octs lf) = false := by
  unfold heads
  rw [nth_none (by rw [octs_length]; omega)]
  cases hc : (l.map (·.toNat)).contains 0 with
  | false => rfl
  | true =>
    rw [List.contains_iff_mem, List.mem_map] at hc
    obtain ⟨z, hz, e⟩ := hc
    have := hp z hz
    omega

set_option maxRecDepth 100000 in
theorem skip_c {b : Nat} {neg sk : Bool} {dg fr pw lf : ByteArray} {l : List UInt8} {n c g : Nat} (w : World) (hs : lf.size ≤ 9223372036854775807) (hb : w.heap[b]? = some (numBx neg dg fr pw sk lf))
    (hl : l.length = n) (hc : RdB w g l) (hn : n ≤ 1000) (hp : ∀ z ∈ l, 0 < z.toNat) :
    Calls Tryz.prog 89 #[.pointer (some ⟨b, 0, none⟩), .slice (some ⟨g, 0, none⟩) n c] w fun e w' => e = .returned (.bool (heads l (octs lf))) ∧
      w'.heap[b]? = some (numBx neg dg fr pw sk (if heads l (octs lf) = true then lf.extract 1 lf.size else lf)) ∧ Below b w w' := by
  obtain ⟨hc7, hf7⟩ := num_lf hb
  by_cases h0 : lf.size = 0
  · rw [heads_nil hp h0]
    have he := str_empty h0
    have HB := Lib.hid hb
    clear hb hp hc h0
    go_enter Tryz.func89, Tryz.ntmps89
    go_wp2
    go_ret
    exact ⟨rfl, HB.out, Below.refl _ _⟩
  · have h1 : 0 < lf.size := by omega
    have he := str_full h1
    rw [heads_of h1]
    have hC := Contains_c (c := c) lf[0] w hl hc hn
    have HC := Lib.hid hC
    cases ht : l.contains lf[0] with
    | false =>
      have HB := Lib.hid hb
      rw [ht] at HC
      clear hb hp hc h0 hC ht
      go_enter Tryz.func89, Tryz.ntmps89
      go_wp2_with fail
      refine HC.out.mono ?_
      rintro e w' ⟨rfl, rfl⟩
      go_wp2
      go_ret
      exact ⟨rfl, HB.out, Below.refl _ _⟩
    | true =>
      have HSET := Lib.hid (num_set hb (lf.extract 1 lf.size))
      rw [ht] at HC
      clear hb hp hc h0 hC ht
      go_enter Tryz.func89, Tryz.ntmps89
      go_wp2_with fail
      refine HC.out.mono ?_
      rintro e w' ⟨rfl, rfl⟩
      go_wp2
      go_ret
      exact ⟨rfl, HSET.out, (Below.refl _ _).setCell (p := ⟨b, 7, none⟩) (Nat.le_refl _) _⟩
end Go.Proofs.YtjhaoncganoaaaaGreatDoor
