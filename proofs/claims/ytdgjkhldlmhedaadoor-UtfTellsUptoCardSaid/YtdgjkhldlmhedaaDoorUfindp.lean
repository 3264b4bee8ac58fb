/-
  What the places that Find tells are, on plain lists: there the other's characters stand, rising; and a text put between two others is among them. No condition.
-/
import Derived.Test.YtdgjkhldlmhedaaDoorUfind
import Derived.Test.YtdgjkhldlmhedaaDoorUfinde
set_option linter.unusedVariables false
set_option linter.unusedSimpArgs false
namespace Go.Proofs.YtdgjkhldlmhedaaDoor
open Go.RowKit Go.Lib

theorem prefix_suffix {S T : List UInt8} {p : Nat} (h : T <+: S.drop p) (hT : 0 < T.length) : p + T.length ≤ S.length ∧ T <:+ S.take (p + T.length - 1 + 1) := by
  obtain ⟨t, ht⟩ := h
  have hl : p + T.length ≤ S.length := by
    have h1 := congrArg List.length ht
    rw [List.length_append, List.length_drop] at h1
    omega
  refine ⟨hl, ⟨S.take p, ?_⟩⟩
  rw [show p + T.length - 1 + 1 = p + T.length by omega, List.take_add]
  congr 1
  rw [← ht, List.take_left]
theorem occ_mem {S T : List UInt8} (hT : 0 < T.length) {p : Nat} : p ∈ occ S T ↔ T <+: S.drop p := by
  unfold occ
  rw [if_neg (by intro e; rw [e] at hT; simp at hT)]
  constructor
  · intro h
    obtain ⟨i, hi, hs, rfl⟩ := occK_mem h
    exact suffix_prefix hi hs
  · intro h
    obtain ⟨h1, h2⟩ := prefix_suffix h hT
    unfold occK
    rw [List.mem_map]
    refine ⟨p + T.length - 1, ?_, by omega⟩
    rw [List.mem_filter, List.mem_range, List.isSuffixOf_iff_suffix]
    exact ⟨by omega, h2⟩
theorem enc_pos {b : List Int} (h : b ≠ []) : 0 < (enc b).length := by
  cases b with
  | nil => exact absurd rfl h
  | cons c r => rw [enc_cons, List.length_append]; have := enc_len c; omega
theorem findN_mem {a b : List Int} (ha : ∀ c ∈ a, isCh c) (hb : ∀ c ∈ b, isCh c) (hne : b ≠ []) {j : Nat} : j ∈ findN (enc a) (enc b) ↔ j < a.length ∧ b <+: a.drop j := by
  unfold findN
  rw [List.mem_map]
  constructor
  · rintro ⟨p, hp, rfl⟩
    rw [occ_mem (enc_pos hne)] at hp
    obtain ⟨i, rfl, hi, hpre⟩ := (stands_iff ha hb hne _).1 hp
    rw [cntS_at ha (by omega)]
    exact ⟨hi, hpre⟩
  · rintro ⟨h1, h2⟩
    refine ⟨(enc (a.take j)).length, ?_, cntS_at ha (by omega)⟩
    rw [occ_mem (enc_pos hne)]
    exact (stands_iff ha hb hne _).2 ⟨j, rfl, h1, h2⟩
theorem findN_sorted {a b : List Int} (ha : ∀ c ∈ a, isCh c) (hb : ∀ c ∈ b, isCh c) (hne : b ≠ []) : (findN (enc a) (enc b)).Pairwise (· < ·) := by
  unfold findN
  rw [List.pairwise_map]
  have hs : (occ (enc a) (enc b)).Pairwise (· < ·) := by
    unfold occ
    split
    · exact List.Pairwise.nil
    · exact (occK_sorted _ _ _).1
  refine List.Pairwise.imp_of_mem (fun {p q} hp hq hpq => ?_) hs
  obtain ⟨i, hi, rfl⟩ := occ_char ha hb hne hp
  obtain ⟨j, hj, rfl⟩ := occ_char ha hb hne hq
  rw [cntS_at ha (by omega), cntS_at ha (by omega)]
  rcases Nat.lt_or_ge i j with h | h
  · exact h
  · exfalso
    rcases Nat.lt_or_ge j i with h1 | h1
    · have := enc_take_len (a := a) h1 (by omega); omega
    · have : i = j := by omega
      rw [this] at hpq; omega
/-- Put between two others: what is cut off a text of characters is one. -/
theorem split_text {a b : List Int} (ha : ∀ c ∈ a, isCh c) {R : List UInt8} (h : isT (enc a ++ R) = true) : isT R = true := by
  rw [isT_iff] at h ⊢
  intro p hp
  exact h p (by rw [pcs_enc ha]; exact List.mem_append_right _ hp)
/-- What Slice tells at a place that Find told. -/
theorem slice_found {a b : List Int} (ha : ∀ c ∈ a, isCh c) {j : Nat} (hj : j < a.length) (h : b <+: a.drop j) : sliceT (enc a) (j : Int) ((j : Int) + (b.length : Int)) = enc b ∧ j + b.length ≤ a.length := by
  obtain ⟨t, ht⟩ := h
  have hl : j + b.length ≤ a.length := by
    have h1 := congrArg List.length ht
    rw [List.length_append, List.length_drop] at h1
    omega
  refine ⟨?_, hl⟩
  unfold sliceT
  rw [if_pos (isT_enc ha), chars_enc ha]
  have e1 : wi (a.length : Int) (j : Int) = (j : Int) := by unfold wi; omega
  have e2 : bnd2 (a.length : Int) (j : Int) ((j : Int) + (b.length : Int)) = ((j + b.length : Nat) : Int) := by unfold bnd2; rw [e1]; unfold wi; omega
  rw [e1, e2]
  rw [show ((j + b.length : Nat) : Int).toNat - ((j : Int)).toNat = b.length by omega, show ((j : Int)).toNat = j by omega, ← ht, List.take_left]
end Go.Proofs.YtdgjkhldlmhedaaDoor
