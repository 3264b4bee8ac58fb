/-
  Contract of the reference's Check.
-/
import Derived.Test.YtdacdppmgcaioaaDoorLUfirst
set_option linter.unusedVariables false
set_option linter.unusedSimpArgs false
namespace Go.Proofs.YtdacdppmgcaioaaDoor
open Go.RowKit Go.Lib

/-- So far: what a text falls into up to a place. -/
structure AtP (L : List UInt8) (p : Nat) (pre : List (List UInt8 × Int)) : Prop where
  cut : pcs L = pre ++ pcs (L.drop p)
  at_ : p = (flat pre).length
  le : p ≤ L.length
theorem AtP.zero (L : List UInt8) : AtP L 0 [] := ⟨rfl, rfl, Nat.zero_le _⟩
theorem drop_ne {L : List UInt8} {p : Nat} (h : p < L.length) : L.drop p ≠ [] := by
  intro e
  have := congrArg List.length e
  rw [List.length_drop, List.length_nil] at this
  omega
theorem AtP.step {L : List UInt8} {p : Nat} {pre : List (List UInt8 × Int)} (h : AtP L p pre) (hp : p < L.length) : AtP L (p + wid (L.drop p)) (pre ++ [((L.drop p).take (wid (L.drop p)), partOf (L.drop p))]) ∧ wid (L.drop p) ≤ L.length - p := by
  have hne := drop_ne hp
  have hw := wid_le hne
  rw [List.length_drop] at hw
  refine ⟨⟨?_, ?_, by omega⟩, hw⟩
  · rw [h.cut, pcs_cons hne, List.drop_drop, List.append_assoc]; rfl
  · unfold flat
    rw [List.flatMap_append, List.length_append]
    show p + _ = (flat pre).length + _
    rw [← h.at_]
    simp only [List.flatMap_cons, List.flatMap_nil, List.append_nil, List.length_take, List.length_drop]
    omega
theorem AtP.end_ {L : List UInt8} {pre : List (List UInt8 × Int)} (h : AtP L L.length pre) : pcs L = pre := by
  have := h.cut
  rw [List.drop_length, pcs_nil, List.append_nil] at this
  exact this
theorem AtP.bad {L : List UInt8} {p : Nat} {pre : List (List UInt8 × Int)} (h : AtP L p pre) (hg : ∀ q ∈ pre, q.2 ≠ -1) (hp : p < L.length) (hb : partOf (L.drop p) = -1) : badAt L = p ∧ errT L = 61 := by
  have hc := h.cut
  rw [pcs_cons (drop_ne hp)] at hc
  constructor
  · unfold badAt
    rw [hc, List.takeWhile_append_of_pos (fun q hq => by simpa using hg q hq), List.takeWhile_cons_of_neg (by simp [hb]), List.append_nil]
    exact h.at_.symm
  · unfold errT
    rw [if_neg]
    intro ht
    rw [isT_iff] at ht
    exact ht ((L.drop p).take (wid (L.drop p)), partOf (L.drop p)) (by rw [hc]; simp) hb
theorem AtP.all {L : List UInt8} {pre : List (List UInt8 × Int)} (h : AtP L L.length pre) (hg : ∀ q ∈ pre, q.2 ≠ -1) : badAt L = L.length ∧ errT L = 0 := by
  have ht : isT L = true := by rw [isT_iff, h.end_]; exact hg
  exact ⟨badAt_text ht, by unfold errT; rw [if_pos ht]⟩
theorem fstP_bad {R : List UInt8} (hb : partOf R = -1) : fstP R = (0, 0) := by unfold fstP; rw [if_pos (.inr hb)]
theorem fstP_good {R : List UInt8} (hne : R ≠ []) (hb : partOf R ≠ -1) : fstP R = (partOf R, wid R) := by unfold fstP; rw [if_neg (fun h => h.elim hne hb)]
theorem mk8_rest (L : List UInt8) (p : Nat) : (mk8 L).extract p L.length = mk8 (L.drop p) := by rw [mk8_mid, List.take_length]

set_option maxRecDepth 100000 in
set_option maxHeartbeats 1000000 in
theorem URCheck_c (L : List UInt8) (w : World) (hs : L.length ≤ 140737488355328) : Calls Tryd.prog 36 #[.string (mk8 L)] w fun e w' => e = .returned (.tuple #[.int .i64 (badAt L : Int), .int .i64 (errT L : Int)]) ∧ Below w.heap.size w w' := by
  have hsz : (mk8 L).size = L.length := mk8_size L
  have hex := mk8_rest L
  have hF := fun p V => First_c (L.drop p) V (by rw [List.length_drop]; omega)
  generalize mk8 L = S at *
  have HEX := Lib.hid hex
  have HF := Lib.hid hF
  clear hex hF
  obtain ⟨B, hB⟩ : ∃ B, B = badAt L := ⟨_, rfl⟩
  obtain ⟨E, hE⟩ : ∃ E, E = errT L := ⟨_, rfl⟩
  rw [← hB, ← hE]
  have HB := Lib.hid hB
  have HE := Lib.hid hE
  clear hB hE
  go_enter Tryd.func36, Tryd.ntmps36
  go_wp2
  go_loopw [4] (fun i wr => ∃ (p : Nat) (pre : List (List UInt8 × Int)), i = .int .i64 (p : Int) ∧ p ≤ L.length ∧ Hid (AtP L p pre) ∧ Hid (∀ q ∈ pre, q.2 ≠ -1) ∧ Below w.heap.size w wr) (fun i _ => L.length - (RowKit.intOf i).toNat)
  case atStart => exact ⟨0, [], rfl, Nat.zero_le _, AtP.zero L, (fun q h => by cases h), Below.refl _ _⟩
  case round =>
    obtain ⟨p, pre, rfl, hp, hat, hgd, hbel⟩ := hrel
    have HBEL := Lib.hid hbel
    clear hbel
    by_cases hlt : p < L.length
    · have hexp := HEX.out p
      by_cases hb : partOf (L.drop p) = -1
      · have hbb := hat.out.bad hgd.out hlt hb
        have h1 := HF.out p wr
        rw [fstP_bad hb] at h1
        have HFP := Lib.hid h1
        obtain rfl : B = p := HB.out.trans hbb.1
        obtain rfl : E = 61 := HE.out.trans hbb.2
        clear hb hbb h1
        go_wp2_with fail
        try rw [hexp]
        refine HFP.out.mono ?_
        rintro e w2 ⟨rfl, hb2⟩
        go_wp2
        go_ret2
        exact ⟨rfl, HBEL.out.trans (hb2.mono HBEL.out.size)⟩
      · obtain ⟨hst, hwl⟩ := hat.out.step hlt
        have h1 := HF.out p wr
        rw [fstP_good (drop_ne hlt) hb] at h1
        have hwg := wid_ge (L.drop p)
        have hg2 : ∀ q ∈ pre ++ [((L.drop p).take (wid (L.drop p)), partOf (L.drop p))], q.2 ≠ -1 := fun q hq => by
          rcases List.mem_append.1 hq with h | h
          · exact hgd.out q h
          · rw [List.mem_singleton] at h; subst h; exact hb
        have HFP := Lib.hid h1
        have HST := Lib.hid hst
        have HG2 := Lib.hid hg2
        clear hb hst h1 hg2
        generalize partOf (L.drop p) = c at *
        generalize wid (L.drop p) = d at *
        have hd0 : ((d : Int) == 0) = false := by rw [beq_eq_false_iff_ne]; omega
        go_wp2_with fail
        try rw [hexp]
        refine HFP.out.mono ?_
        rintro e w2 ⟨rfl, hb2⟩
        go_wp2
        go_roundw
        case rel => exact ⟨p + d, _, by go_num, by omega, HST.out, HG2.out, HBEL.out.trans (hb2.mono HBEL.out.size)⟩
        case measure => simp [RowKit.intOf]; omega
    · obtain rfl : p = L.length := by omega
      have hbb := hat.out.all hgd.out
      obtain rfl : B = L.length := HB.out.trans hbb.1
      obtain rfl : E = 0 := HE.out.trans hbb.2
      clear hbb hlt
      go_wp2
      go_ret2
      exact ⟨rfl, HBEL.out⟩
end Go.Proofs.YtdacdppmgcaioaaDoor
