/-
  Contract of the reference's Slice.
-/
import Derived.Test.YtdgjkhldlmhedaaDoorUrruns
set_option linter.unusedVariables false
set_option linter.unusedSimpArgs false
namespace Go.Proofs.YtdgjkhldlmhedaaDoor
open Go.RowKit Go.Lib

theorem RdV.cut {w : World} {S : Nat → Prop} {g n f t : Nat} {l : List Int} (h : RdV w S (some ⟨g, 0, none⟩) n (zs64 l)) (hf : f ≤ t) (ht : t ≤ n) : RdV w S (some ⟨g, f, none⟩) (t - f) (zs64 ((l.drop f).take (t - f))) := by
  have hl : l.length = n := by rw [← h.len, zs64_length]
  refine ⟨by rw [zs64_length, List.length_take, List.length_drop]; omega, fun hn => ?_⟩
  obtain ⟨b, off, e, hS, hc⟩ := h.cells (by omega)
  injection e with e
  injection e with e1 e2
  subst e1; subst e2
  refine ⟨g, f, rfl, hS, fun j v hv => ?_⟩
  have hj := (List.getElem?_eq_some_iff.1 hv).1
  rw [zs64_length, List.length_take, List.length_drop] at hj
  have := hc (f + j) v (by
    rw [← hv]
    unfold zs64
    rw [List.getElem?_map, List.getElem?_map, List.getElem?_take, if_pos (by omega), List.getElem?_drop])
  rw [Nat.zero_add] at this
  exact this

theorem badC_none {cs : List Int} (h : ∀ c ∈ cs, isCh c) : badC cs = false := by
  cases hb : badC cs with
  | false => rfl
  | true =>
    unfold badC at hb
    rw [List.any_eq_true] at hb
    obtain ⟨c, hc, h2⟩ := hb
    rw [decide_eq_true (h c hc)] at h2; cases h2

set_option maxRecDepth 100000 in
set_option maxHeartbeats 1000000 in
theorem RSlice_c (L : List UInt8) (a b : Int) (w : World) (hs : L.length ≤ 16777216) (ha : -9223372036854775808 ≤ a ∧ a ≤ 9223372036854775807) (hb : -9223372036854775808 ≤ b ∧ b ≤ 9223372036854775807) :
    Calls Tryd.prog 16 #[.string (mk8 L), .int .i64 a, .int .i64 b] w fun e w' => e = .returned (.tuple #[.string (mk8 (sliceT L a b)), .int .i64 (errT L : Int)]) ∧ Below w.heap.size w w' := by
  have hR := RRunes_c L w hs
  by_cases hok : isT L = true
  · have e1 : errT L = 0 := by unfold errT; rw [if_pos hok]
    have e2 : runesT L = chars L := by unfold runesT; rw [if_pos hok]
    have hnl : (chars L).length ≤ L.length := by rw [chars_len]; exact pcs_len L
    rw [e1, e2] at hR
    rw [e1]
    obtain ⟨n, hn⟩ : ∃ n, n = (chars L).length := ⟨_, rfl⟩
    obtain ⟨f, hf⟩ : ∃ f : Nat, (f : Int) = wi (n : Int) a := ⟨(wi (n : Int) a).toNat, by have := wi_bound (n := (n : Int)) (p := a) (by omega); omega⟩
    obtain ⟨t, ht⟩ : ∃ t : Nat, (t : Int) = bnd2 (n : Int) a b := ⟨(bnd2 (n : Int) a b).toNat, by have := bnd2_bound (n := (n : Int)) (a := a) (b := b) (by omega); have := wi_bound (n := (n : Int)) (p := a) (by omega); omega⟩
    have hft : f ≤ t ∧ t ≤ n := by
      have := bnd2_bound (n := (n : Int)) (a := a) (b := b) (by omega)
      omega
    have hB := fun V => RBounds_c (n : Int) a b V (by omega) (by omega) ha hb
    rw [← hf, ← ht] at hB
    have hsl : sliceT L a b = enc (((chars L).drop f).take (t - f)) := by
      unfold sliceT
      rw [if_pos hok, ← hn, ← hf, ← ht]; rfl
    have hch := chars_ch hok
    have hch2 : ∀ x ∈ ((chars L).drop f).take (t - f), isCh x := fun x hx => hch x (List.mem_of_mem_drop (List.mem_of_mem_take hx))
    have htx : textT (((chars L).drop f).take (t - f)) = enc (((chars L).drop f).take (t - f)) ∧ textE (((chars L).drop f).take (t - f)) = 0 := by
      unfold textT textE
      rw [badC_none hch2]
      exact ⟨rfl, rfl⟩
    have hT := fun V A' c' (h : RdV V (fun x => w.heap.size ≤ x ∧ x < V.heap.size) A' (t - f) (zs64 (((chars L).drop f).take (t - f)))) => RText_c (c := c') V h (fun _ h => h.2) (by omega)
    rw [htx.1, htx.2] at hT
    rw [hsl]
    have hlen : ((chars L).drop f).take (t - f) = ((chars L).drop f).take (t - f) := rfl
    generalize enc (((chars L).drop f).take (t - f)) = R at *
    generalize mk8 R = SR at *
    generalize mk8 L = S at *
    obtain ⟨hft1, hft2⟩ := hft
    have HR := Lib.hid hR
    have HB := Lib.hid hB
    have HT := Lib.hid hT
    have HN := Lib.hid hn
    clear hR hB hT hn hf ht hch hch2 htx hsl hlen e1 e2 hok
    have hnb : n ≤ 16777216 := by rw [HN.out]; omega
    go_enter Tryd.func16, Tryd.ntmps16
    go_wp2_with fail
    refine HR.out.mono ?_
    rintro e w1 ⟨A, n', c, rfl, hr, hb1⟩
    obtain rfl : n' = n := by rw [HN.out, ← hr.len, zs64_length]
    have hnc := hr.n_le
    obtain ⟨hnc1, hnc2⟩ := hnc
    unfold maxLen at hnc2
    rcases hr.form with ⟨rfl, rfl, rfl⟩ | ⟨g, rfl, hg1, hg2⟩
    · obtain rfl : f = 0 := by omega
      obtain rfl : t = 0 := by omega
      have hT0 := HT.out w1 none 0 ⟨by simp [zs64], fun h => by omega⟩
      have HT0 := Lib.hid hT0
      clear hT0 hr
      go_wp2_with fail
      refine (HB.out w1).mono ?_
      rintro e w2 ⟨rfl, hw2⟩
      subst hw2
      go_wp2_with fail
      refine HT0.out.mono ?_
      rintro e w3 ⟨rfl, hb3⟩
      go_wp2
      go_ret2
      exact ⟨rfl, hb1.trans (hb3.mono hb1.size)⟩
    · by_cases hfc : f = c
      · subst hfc
        obtain rfl : n' = f := by omega
        obtain rfl : t = n' := by omega
        have hnil : (t - t : Nat) = 0 := by omega
        have hT0 := HT.out w1 (some ⟨g, 0, none⟩) 0 ⟨by rw [zs64_length, List.length_take, List.length_drop]; omega, fun h => by omega⟩
        rw [hnil] at hT0
        have HT0 := Lib.hid hT0
        clear hT0 hr hnil
        go_wp2_with fail
        refine (HB.out w1).mono ?_
        rintro e w2 ⟨rfl, hw2⟩
        subst hw2
        go_wp2_with fail
        refine HT0.out.mono ?_
        rintro e w3 ⟨rfl, hb3⟩
        go_wp2
        go_ret2
        exact ⟨rfl, hb1.trans (hb3.mono hb1.size)⟩
      · have hfl : f < c := by omega
        have hT0 := HT.out w1 (some ⟨g, f, none⟩) (c - f) (hr.rd.cut hft1 hft2)
        have HT0 := Lib.hid hT0
        clear hT0 hr
        go_wp2_with fail
        refine (HB.out w1).mono ?_
        rintro e w2 ⟨rfl, hw2⟩
        subst hw2
        go_wp2_with fail
        refine HT0.out.mono ?_
        rintro e w3 ⟨rfl, hb3⟩
        go_wp2
        go_ret2
        exact ⟨rfl, hb1.trans (hb3.mono hb1.size)⟩
  · have e1 : errT L = 61 := by unfold errT; rw [if_neg hok]
    have e2 : sliceT L a b = [] := by unfold sliceT; rw [if_neg hok]
    rw [e1] at hR
    rw [e1, e2]
    have e3 : mk8 [] = ⟨#[]⟩ := rfl
    rw [e3]
    generalize runesT L = R at *
    have HR := Lib.hid hR
    clear hR e1 e2 hok e3
    go_enter Tryd.func16, Tryd.ntmps16
    go_wp2_with fail
    refine HR.out.mono ?_
    rintro e w1 ⟨A, n, c, rfl, hr, hb1⟩
    go_wp2
    go_ret2
    exact ⟨rfl, hb1⟩
end Go.Proofs.YtdgjkhldlmhedaaDoor
