/-
  The parts of a text that is cut are texts, pure.
-/
import Derived.Test.YtdacdppmgcaioaaDoorBTsp
import Derived.Test.YtdacdppmgcaioaaDoorBUsync
set_option linter.unusedVariables false
set_option linter.unusedSimpArgs false
namespace Go.Proofs.YtdacdppmgcaioaaDoor
open Go.RowKit Go.Lib

theorem parts_T {nx : List UInt8 → Option (Nat × Nat)} (hg : GoesT nx) (hnx : ∀ L a z, isT L = true → nx L = some (a, z) → isT (L.take a) = true ∧ isT (L.drop (a + z)) = true) : ∀ (n : Nat) (L : List UInt8), L.length ≤ n → isT L = true → ∀ p ∈ cutP nx L, isT p = true := by
  intro n
  induction n with
  | zero =>
    intro L hn hL
    cases h : nx L with
    | none => rw [cutP_none h]; intro p hp; rw [show p = L by simpa using hp]; exact hL
    | some q => obtain ⟨a, z⟩ := q; have := hg _ _ _ h; omega
  | succ n ih =>
    intro L hn hL
    cases h : nx L with
    | none => rw [cutP_none h]; intro p hp; rw [show p = L by simpa using hp]; exact hL
    | some q =>
      obtain ⟨a, z⟩ := q
      have hq := hg _ _ _ h
      obtain ⟨h1, h2⟩ := hnx _ _ _ hL h
      rw [cutP_some hg h]
      intro p hp
      rcases List.mem_cons.1 hp with rfl | hp
      · exact h1
      · exact ih _ (by rw [List.length_drop]; omega) h2 p hp
theorem isT_drop_wid {L : List UInt8} (hL : L ≠ []) (h : isT L = true) : isT (L.take (wid L)) = true ∧ isT (L.drop (wid L)) = true := by
  have hc := pcs_cons hL
  have h2 := (isT_iff L).1 h
  rw [hc] at h2
  refine ⟨?_, (isT_iff _).2 fun p hp => h2 p (List.mem_cons_of_mem _ hp)⟩
  have h3 : partOf L ≠ -1 := h2 (L.take (wid L), partOf L) (by simp)
  rcases part_cases hL with ⟨h4, -⟩ | ⟨-, h5, h6, -⟩
  · exact absurd h4 h3
  · have := isT_enc (cs := [partOf L]) (fun c hc => by rw [show c = partOf L by simpa using hc]; exact h5)
    rw [enc_cons, enc_nil, List.append_nil] at this
    rw [h6]
    exact this
theorem nxCh_T (L : List UInt8) (a z : Nat) (hL : isT L = true) (h : nxCh L = some (a, z)) : isT (L.take a) = true ∧ isT (L.drop (a + z)) = true := by
  obtain ⟨h1, rfl, rfl, -⟩ := nxCh_some h
  exact isT_drop_wid h1 hL
theorem nxOf_T {sep : List UInt8} (hsep : isT sep = true) (L : List UInt8) (a z : Nat) (hL : isT L = true) (h : nxOf sep L = some (a, z)) : isT (L.take a) = true ∧ isT (L.drop (a + z)) = true := by
  obtain ⟨hne, rfl, hle, heq, -⟩ := nxOf_some h
  have ha := chars_ch hL
  have hb := chars_ch hsep
  have ea := enc_chars hL
  have eb := enc_chars hsep
  have hbne : uchars sep ≠ [] := fun e => hne (by rw [← eb, e]; rfl)
  have hpre : enc (uchars sep) <+: (enc (uchars L)).drop a := by
    rw [ea, eb]
    conv => rhs; rw [heq]
    rw [List.append_assoc, List.drop_append_of_le_length (by rw [List.length_take]; omega), List.drop_of_length_le (by rw [List.length_take]; omega), List.nil_append]
    exact List.prefix_append _ _
  obtain ⟨i, hp, hi, hq⟩ := (stands_iff ha hb hbne a).1 hpre
  have hsplit : enc (uchars L) = enc ((uchars L).take i) ++ enc ((uchars L).drop i) := by rw [← enc_append, List.take_append_drop]
  obtain ⟨r, hr⟩ := hq
  have hdr : enc ((uchars L).drop i) = sep ++ enc r := by rw [← hr, enc_append, eb]
  have e1 : L.take a = enc ((uchars L).take i) := by
    conv => lhs; rw [← ea, hsplit, hp]
    exact List.take_left
  have e2 : L.drop (a + sep.length) = enc r := by
    conv => lhs; rw [← ea, hsplit, hdr, hp]
    rw [← List.drop_drop, List.drop_left, List.drop_left]
  refine ⟨?_, ?_⟩
  · rw [e1]; exact isT_enc fun c hc => ha c (List.mem_of_mem_take hc)
  · rw [e2]; exact isT_enc fun c hc => ha c (List.mem_of_mem_drop (i := i) (by rw [← hr]; exact List.mem_append_right _ hc))
theorem split_T {sep L : List UInt8} (hsep : isT sep = true) (hL : isT L = true) : ∀ p ∈ splitP sep L, isT p = true := by
  unfold splitP
  split
  · exact parts_T nxCh_goes nxCh_T _ L (Nat.le_refl _) hL
  · exact parts_T (nxOf_goes sep) (nxOf_T hsep) _ L (Nat.le_refl _) hL
end Go.Proofs.YtdacdppmgcaioaaDoor
