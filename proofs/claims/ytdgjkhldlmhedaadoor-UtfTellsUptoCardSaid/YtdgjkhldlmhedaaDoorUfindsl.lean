/-
  What UtfFinds asks of the places that Find tells, on plain lists of octets. No condition.
-/
import Derived.Test.YtdgjkhldlmhedaaDoorUfindp
import Derived.Test.YtdgjkhldlmhedaaDoorUcutsw
set_option linter.unusedVariables false
set_option linter.unusedSimpArgs false
namespace Go.Proofs.YtdgjkhldlmhedaaDoor
open Go.RowKit Go.Lib

theorem isT_rest {A R : List UInt8} (hA : isT A = true) (h : isT (A ++ R) = true) : isT R = true := by
  refine split_text (a := chars A) (b := []) (chars_ch hA) ?_
  rw [enc_chars hA]; exact h
theorem chars_cat {A R : List UInt8} (hA : isT A = true) (hR : isT R = true) : chars (A ++ R) = chars A ++ chars R := by
  have h : A ++ R = enc (chars A ++ chars R) := by rw [enc_append, enc_chars hA, enc_chars hR]
  rw [h, chars_enc]
  intro c hc
  rcases List.mem_append.1 hc with h1 | h1
  · exact chars_ch hA c h1
  · exact chars_ch hR c h1
theorem chars_ne {T : List UInt8} (hT : isT T = true) (hne : T ≠ []) : chars T ≠ [] := by
  intro h
  have := enc_chars hT
  rw [h] at this
  exact hne this.symm
structure FindsL (S T : List UInt8) (n k : Nat) (N : List Nat) : Prop where
  at_ : ∀ i j : Nat, N[i]? = some j → sliceT S (j : Int) ((j : Int) + (k : Int)) = T ∧ j ≤ S.length
  sorted : N.Pairwise (· < ·)
  mem : n ∈ N
theorem findsL {A T B : List UInt8} (hA : isT A = true) (hT : isT T = true) (hS : isT (A ++ T ++ B) = true) (hne : T ≠ []) :
    FindsL (A ++ T ++ B) T (cntT A) (cntT T) (findN (A ++ T ++ B) T) := by
  have e1 : cntT A = (chars A).length := by unfold cntT; rw [if_pos hA, chars_len]
  have e2 : cntT T = (chars T).length := by unfold cntT; rw [if_pos hT, chars_len]
  have hR : isT (T ++ B) = true := isT_rest hA (by rw [← List.append_assoc]; exact hS)
  have hB : isT B = true := isT_rest hT hR
  have hcs : chars (A ++ T ++ B) = chars A ++ (chars T ++ chars B) := by rw [List.append_assoc, chars_cat hA hR, chars_cat hT hB]
  have ha := chars_ch hS
  have hb := chars_ch hT
  have hne2 := chars_ne hT hne
  have eS := enc_chars hS
  have eT := enc_chars hT
  rw [e1, e2]
  refine ⟨fun i j h => ?_, ?_, ?_⟩
  · have hm : j ∈ findN (enc (chars (A ++ T ++ B))) (enc (chars T)) := by rw [eS, eT]; exact List.mem_of_getElem? h
    obtain ⟨h1, h2⟩ := (findN_mem ha hb hne2).1 hm
    obtain ⟨h3, h4⟩ := slice_found ha h1 h2
    rw [eS, eT] at h3
    refine ⟨h3, ?_⟩
    have h5 := pcs_len (A ++ T ++ B)
    rw [← chars_len] at h5
    omega
  · have := findN_sorted ha hb hne2
    rwa [eS, eT] at this
  · have : (chars A).length ∈ findN (enc (chars (A ++ T ++ B))) (enc (chars T)) := by
      refine (findN_mem ha hb hne2).2 ⟨?_, ?_⟩
      · rw [hcs, List.length_append, List.length_append]
        have := List.length_pos_iff.2 hne2
        omega
      · rw [hcs, List.drop_left]
        exact List.prefix_append _ _
    rwa [eS, eT] at this
theorem findN_nil (S : List UInt8) : findN S [] = [] := by unfold findN occ; rw [if_pos rfl]; rfl
theorem cntT_zero {T : List UInt8} (hT : isT T = true) : cntT T = 0 ↔ T = [] := by
  have e2 : cntT T = (chars T).length := by unfold cntT; rw [if_pos hT, chars_len]
  rw [e2]
  constructor
  · intro h
    have h1 := List.eq_nil_of_length_eq_zero h
    have := enc_chars hT
    rw [h1] at this
    exact this.symm
  · rintro rfl; rfl
theorem mem_take_succ {N : List Nat} {i j n : Nat} (h : N[i]? = some j) : n ∈ N.take (i + 1) ↔ n ∈ N.take i ∨ j = n := by
  rw [List.take_add_one, List.mem_append, h]
  simp [eq_comm]
theorem sorted_at {N : List Nat} (h : N.Pairwise (· < ·)) {i j j' : Nat} (h1 : N[i]? = some j) (h2 : N[i + 1]? = some j') : j < j' := by
  obtain ⟨g1, rfl⟩ := List.getElem?_eq_some_iff.1 h1
  obtain ⟨g2, rfl⟩ := List.getElem?_eq_some_iff.1 h2
  exact List.pairwise_iff_getElem.1 h i (i + 1) g1 g2 (by omega)
end Go.Proofs.YtdgjkhldlmhedaaDoor
