/-
  The walk of PrinterPlain.
-/
import Derived.Test.YtpbfdgjeocmikaaGreatDoorQWal
set_option linter.unusedVariables false
set_option linter.unusedSimpArgs false
namespace Go.Proofs.YtpbfdgjeocmikaaGreatDoor
open Go.RowKit Go.Lib

theorem scan_out_self {x : VT} (hx : Gp x) : scanP false (prV quoteC numP 0 0 x) = some false := by
  have h := scan_value plain_in numP_in 0 x hx []
  rw [List.append_nil] at h
  rw [h]; rfl
/-- What is told of a text and an error: an error and nothing, or no error and something of which P holds. -/
def TldP (P : List UInt8 → Prop) (a : ByteArray) (r : Int) : Prop := P a.data.toList ∧ a.size ≤ 1048576 ∧ ((r ≠ 0 ∧ a = ⟨#[]⟩) ∨ (r = 0 ∧ a.size ≠ 0))
theorem wr_told {P : List UInt8 → Prop} {out : List UInt8} {e : Ending} (h : WrE out 1048576 e) (h0 : P []) (h1 : P out) (hne : out ≠ []) : ∃ a r, e = .returned (.tuple #[.string a, .int .i64 r]) ∧ TldP P a r := by
  rcases h with ⟨hl, rfl⟩ | ⟨hl, rfl⟩
  · refine ⟨_, _, rfl, by simpa using h1, ?_, .inr ⟨rfl, ?_⟩⟩
    · show out.toArray.size ≤ 1048576
      rw [List.size_toArray]; exact hl
    · show out.toArray.size ≠ 0
      rw [List.size_toArray]
      intro h; exact hne (List.eq_nil_of_length_eq_zero h)
  · exact ⟨_, _, rfl, h0, by decide, .inl ⟨by decide, rfl⟩⟩
theorem ind_told {x : VT} {e : Ending} (hl : ∀ y ∈ partsV x, L32 y.num) (h : IndE x 0 e) : ∃ a r, e = .returned (.tuple #[.string a, .int .i64 r]) ∧ TldP (fun l => scanP false l = some false) a r := by
  unfold IndE at h
  split at h
  · rename_i h0
    exact ⟨_, _, h, rfl, by decide, .inl ⟨by omega, rfl⟩⟩
  · rename_i h0
    rw [if_neg (by omega)] at h
    obtain ⟨g1, -, -⟩ := okV_gp (x := x) (by unfold okV; omega) hl
    exact wr_told h rfl (scan_out_self g1) (prV_ne g1)
theorem asc_told {x : VT} {e : Ending} (hl : ∀ y ∈ partsV x, L32 y.num) (h : AscE x e) : ∃ a r, e = .returned (.tuple #[.string a, .int .i64 r]) ∧ TldP Asc a r := by
  unfold AscE at h
  split at h
  · rename_i h0
    exact ⟨_, _, h, Asc.nil, by decide, .inl ⟨by omega, rfl⟩⟩
  · rename_i h0
    obtain ⟨g1, -, -⟩ := okV_gp (x := x) (by unfold okV; omega) hl
    exact wr_told h Asc.nil (asc_value numP_in 0 x g1) (prV_ne g1)
theorem drop_at (a : ByteArray) (k : Nat) (h : k < a.size) : a.data.toList.drop k = a[k] :: a.data.toList.drop (k + 1) := by
  have hl : k < a.data.toList.length := by rw [Array.length_toList]; exact h
  rw [List.drop_eq_getElem_cons hl]
  rfl
theorem u8n {c : UInt8} {n : Nat} (h : n < 256) : c = n.toUInt8 ↔ (c.toNat : Int) = n := by
  constructor
  · rintro rfl
    show ((n % 256 : Nat) : Int) = n
    omega
  · intro e
    apply UInt8.toNat.inj
    show c.toNat = n % 256
    omega

theorem is34 {c : UInt8} : c = 34 ↔ (c.toNat : Int) = 34 := u8n (n := 34) (by omega)
theorem is92 {c : UInt8} : c = 92 ↔ (c.toNat : Int) = 92 := u8n (n := 92) (by omega)
theorem is32 {c : UInt8} : c = 32 ↔ (c.toNat : Int) = 32 := u8n (n := 32) (by omega)
theorem scan_cons0 (c : UInt8) (t : List UInt8) : scanP false (c :: t) = if c = 34 then scanP true t else if c = 32 ∨ c < 32 then none else scanP false t := by
  conv => lhs; unfold scanP

set_option maxRecDepth 100000 in
set_option maxHeartbeats 4000000 in
theorem printerPlain_c {S : Nat → Prop} {x : VT} {cs : List Value} (w : World) (hG : Gl w.heap.size w) (hx : VIn w S x cs) (hS : ∀ b, S b → b < w.heap.size) :
    Calls Tryz.prog 4 #[.agg cs.toArray] w fun e w' => e = .returned (.bool true) ∧ Below w.heap.size w w' := by
  have hl := hx.l32
  obtain ⟨k, neg, A, nn, c, e, t, LA, ln, lc, KA, kn, kc, rfl, -, -⟩ := hx.seven
  obtain ⟨bp, hbp⟩ : ∃ b, w.heap.size = b := ⟨_, rfl⟩
  have hb : Below w.heap.size w (w.alloc (.cells #[.int .i64 k, .bool neg, .slice A nn c, .int .i64 e, .string t, .slice LA ln lc, .slice KA kn kc] 28)) := (Below.refl _ w).alloc (Nat.le_refl _) _
  have hm := World.alloc_heap_new w (.cells #[.int .i64 k, .bool neg, .slice A nn c, .int .i64 e, .string t, .slice LA ln lc, .slice KA kn kc] 28)
  have hsz : (w.alloc (.cells #[.int .i64 k, .bool neg, .slice A nn c, .int .i64 e, .string t, .slice LA ln lc, .slice KA kn kc] 28)).heap.size = bp + 1 := by rw [World.size_alloc, hbp]
  have hx1 := hx.keep (w' := w.alloc (.cells #[.int .i64 k, .bool neg, .slice A nn c, .int .i64 e, .string t, .slice LA ln lc, .slice KA kn kc] 28)) fun p hp => hb.cell (p := p) (hS _ hp)
  have hG1 := hG.low hb
  rw [hbp] at hb hG1 hm hS ⊢
  have HL := Lib.hid hl
  have HX := Lib.hid hx1
  have HG := Lib.hid hG1
  have HB := Lib.hid hb
  have HM := Lib.hid hm
  have HS := Lib.hid hS
  clear hl hx hx1 hG hG1 hb hm hS
  go_enter Tryz.func4, Tryz.ntmps4
  go_wp2_with fail
  try rw [hbp]
  clear hbp
  generalize (w.alloc (.cells #[.int .i64 k, .bool neg, .slice A nn c, .int .i64 e, .string t, .slice LA ln lc, .slice KA kn kc] 28)) = w1 at *
  refine (alive9_c w1 (HG.out.up (by omega))).mono ?_
  rintro e9 w2 ⟨rfl, hb2⟩
  rw [hsz] at hb2
  have hm2 := (hb2.block bp (by omega)).trans HM.out
  obtain ⟨y0, y1, y2, y3, y4, y5, y6⟩ := box7_of hm2
  have hsz2 : bp + 1 ≤ w2.heap.size := by have := hb2.size; omega
  have hc := compact_c w2 (((HG.out.up (C := bp + 1) (by omega)).low hb2).up hsz2) (HX.out.keep fun p hp => hb2.cell (p := p) (by have := HS.out _ hp; omega)) (fun b h => by have := HS.out b h; omega)
  have HC := Lib.hid hc
  have HB2 := Lib.hid hb2
  clear hb2 hm2 hc
  go_wp2_with fail
  refine HC.out.mono ?_
  rintro e9 w3 ⟨he, hb3⟩
  obtain ⟨a, r, rfl, ha⟩ := ind_told HL.out he
  have hb13 := HB2.out.trans (hb3.mono hsz2)
  have hm3 := (hb13.block bp (by omega)).trans HM.out
  have hsz3 : bp + 1 ≤ w3.heap.size := by have := hb13.size; omega
  have hc := asciiV_c w3 (((HG.out.up (C := bp + 1) (by omega)).low hb13).up hsz3) (HX.out.keep fun p hp => hb13.cell (p := p) (by have := HS.out _ hp; omega)) (fun b h => by have := HS.out b h; omega)
  have HC2 := Lib.hid hc
  have HB3 := Lib.hid hb13
  have HA := Lib.hid ha
  clear hb13 hb3 hc he ha y0 y1 y2 y3 y4 y5 y6 HC
  obtain ⟨y0, y1, y2, y3, y4, y5, y6⟩ := box7_of hm3
  clear hm3
  go_wp2_with fail
  refine HC2.out.mono ?_
  rintro e9 w4 ⟨he, hb4⟩
  obtain ⟨b, r2, rfl, hbt⟩ := asc_told HL.out he
  have HBT := Lib.hid hbt
  have HB4 := Lib.hid ((HB.out.trans (HB3.out.mono (by omega))).trans (hb4.mono (by omega)))
  clear he hb4 hbt y0 y1 y2 y3 y4 y5 y6 HC2
  have hsa : a.size ≤ 1048576 := HA.out.2.1
  have hsb : b.size ≤ 1048576 := HBT.out.2.1
  have hs0 : Hid (scanP false (a.data.toList.drop 0) = some false) := HA.out.1
  go_wp2_with fail
  go_loop [7, 8] (fun inv iv => ∃ (f : Bool) (k : Nat), k ≤ a.size ∧ inv = .bool f ∧ iv = .int .i64 (k : Int) ∧ Hid (scanP f (a.data.toList.drop k) = some false)) (fun _ iv => a.size - (RowKit.intOf iv).toNat)
  case atStart => exact ⟨false, 0, Nat.zero_le _, rfl, rfl, hs0⟩
  case round =>
    clear hs0
    obtain ⟨f, k, hk, rfl, rfl, hsc⟩ := hrel
    by_cases hlt : k < a.size
    · obtain ⟨T, hT⟩ : ∃ T, a.data.toList.drop (k + 1) = T := ⟨_, rfl⟩
      have hd := drop_at a k hlt
      rw [hT] at hd
      have hsc2 : Hid (scanP f (a[k] :: T) = some false) := by show _ = _; rw [← hd]; exact hsc.out
      have HT := Lib.hid hT
      clear hd hT hsc
      cases f with
      | true =>
        by_cases h92 : (a[k].toNat : Int) = 92
        · have e92 : ((a[k].toNat : Int) == 92) = true := by rw [h92]; rfl
          have hnx : k + 1 < a.size ∧ Hid (scanP true (a.data.toList.drop (k + 2)) = some false) := by
            have h9 := hsc2.out
            rw [scan_cons, if_pos (is92.2 h92)] at h9
            cases T with
            | nil => simp at h9
            | cons y u =>
              have hl : k + 1 < a.size := by
                rcases Nat.lt_or_ge (k + 1) a.size with h | h
                · exact h
                · have := HT.out
                  rw [List.drop_eq_nil_of_le (by rw [Array.length_toList]; exact h)] at this
                  cases this
              have hd := drop_at a (k + 1) hl
              rw [HT.out] at hd
              injection hd with _ hd
              exact ⟨hl, by show _ = _; rw [← hd]; exact h9⟩
          obtain ⟨hl, hn⟩ := hnx
          clear hsc2
          go_wp2
          exact ⟨⟨true, k + 2, by omega, rfl, by go_num, hn⟩, by simp [RowKit.intOf]; omega⟩
        · have e92 : ((a[k].toNat : Int) == 92) = false := by rw [beq_eq_false_iff_ne]; exact h92
          have hnx : Hid (scanP (!decide ((a[k].toNat : Int) = 34)) T = some false) := by
            have h9 := hsc2.out
            rw [scan_cons, if_neg (fun h => h92 (is92.1 h))] at h9
            show _ = _
            by_cases h34 : (a[k].toNat : Int) = 34
            · rw [if_pos (is34.2 h34)] at h9
              simp only [h34, decide_true, Bool.not_true]; exact h9
            · rw [if_neg (fun h => h34 (is34.1 h))] at h9
              simp only [h34, decide_false, Bool.not_false]; exact h9
          have hnx2 : Hid (scanP (!decide ((a[k].toNat : Int) = 34)) (a.data.toList.drop (k + 1)) = some false) := by show _ = _; rw [HT.out]; exact hnx.out
          clear hsc2 hnx
          by_cases h34 : (a[k].toNat : Int) = 34
          · have e34 : ((a[k].toNat : Int) == 34) = true := by rw [h34]; rfl
            rw [show decide ((a[k].toNat : Int) = 34) = true by rw [decide_eq_true_iff]; exact h34] at hnx2
            go_wp2
            exact ⟨⟨false, k + 1, by omega, rfl, by go_num, hnx2⟩, by simp [RowKit.intOf]; omega⟩
          · have e34 : ((a[k].toNat : Int) == 34) = false := by rw [beq_eq_false_iff_ne]; exact h34
            rw [show decide ((a[k].toNat : Int) = 34) = false by rw [decide_eq_false_iff_not]; exact h34] at hnx2
            go_wp2
            exact ⟨⟨true, k + 1, by omega, rfl, by go_num, hnx2⟩, by simp [RowKit.intOf]; omega⟩
      | false =>
        have h9 := hsc2.out
        rw [scan_cons0] at h9
        clear hsc2
        by_cases h34 : (a[k].toNat : Int) = 34
        · have e34 : ((a[k].toNat : Int) == 34) = true := by rw [h34]; rfl
          rw [if_pos (is34.2 h34), ← HT.out] at h9
          have hn := Lib.hid h9
          clear h9
          go_wp2
          exact ⟨⟨true, k + 1, by omega, rfl, by go_num, hn⟩, by simp [RowKit.intOf]; omega⟩
        · have e34 : ((a[k].toNat : Int) == 34) = false := by rw [beq_eq_false_iff_ne]; exact h34
          rw [if_neg (fun h => h34 (is34.1 h))] at h9
          by_cases hsp : a[k] = 32 ∨ a[k] < 32
          · rw [if_pos hsp] at h9; cases h9
          · rw [if_neg hsp, ← HT.out] at h9
            have hn := Lib.hid h9
            have h32 : ¬ (a[k].toNat : Int) = 32 := fun h => hsp (.inl (is32.2 h))
            have e32 : ((a[k].toNat : Int) == 32) = false := by rw [beq_eq_false_iff_ne]; exact h32
            have l32 : ¬ (a[k].toNat : Int) < 32 := fun h => hsp (.inr (by show a[k].toNat < 32; omega))
            clear h9 hsp
            go_wp2
            exact ⟨⟨false, k + 1, by omega, rfl, by go_num, hn⟩, by simp [RowKit.intOf]; omega⟩
    · have he : k = a.size := by omega
      subst he
      have hf : f = false := by
        have h9 := hsc.out
        rw [List.drop_eq_nil_of_le (by rw [Array.length_toList]; exact Nat.le_refl a.size)] at h9
        cases f with
        | false => rfl
        | true => cases h9
      subst hf
      have hB : Hid (∀ j (h : j < b.size), ¬ (b[j].toNat : Int) < 32 ∧ ¬ 126 < (b[j].toNat : Int)) := fun j h => by
        have h9 := HBT.out.1 b[j] (by
          have : b[j] = b.data[j] := rfl
          rw [this]
          exact Array.mem_toList_iff.2 (Array.getElem_mem h))
        have h1 : 32 ≤ b[j].toNat := h9.1
        have h2 : b[j].toNat ≤ 126 := h9.2
        omega
      clear hsc
      go_wp2
      go_loop [9] (fun iv => ∃ (q : Nat), q ≤ b.size ∧ iv = .int .i64 (q : Int)) (fun iv => b.size - (RowKit.intOf iv).toNat)
      case atStart => exact ⟨0, Nat.zero_le _, rfl⟩
      case round =>
        obtain ⟨q, hq, rfl⟩ := hrel
        by_cases hlt2 : q < b.size
        · obtain ⟨n1, n2⟩ := hB.out q hlt2
          go_wp2
          exact ⟨⟨q + 1, by omega, by go_num⟩, by simp [RowKit.intOf]; omega⟩
        · have ne_l : ∀ z : ByteArray, z.size ≠ 0 → z.toList.isEmpty = false := fun z hz => by
            rw [Lib.toList_data]
            cases h : z.data.toList with
            | nil =>
              exfalso
              apply hz
              show z.data.size = 0
              rw [← Array.length_toList, h]; rfl
            | cons y u => rfl
          rcases HA.out.2.2 with ⟨hr0, rfl⟩ | ⟨rfl, ha0⟩ <;> rcases HBT.out.2.2 with ⟨hr2, rfl⟩ | ⟨rfl, hb0⟩
          · have e1 : (r == 0) = false := by rw [beq_eq_false_iff_ne]; exact hr0
            have e2 : (r2 == 0) = false := by rw [beq_eq_false_iff_ne]; exact hr2
            clear ne_l hB
            go_wp2_with (first | (go_at_call 12; refine (lnum9_c _ _).mono ?_; rintro e' w' ⟨rfl, rfl⟩))
            go_ret
            exact ⟨by simp [e1, e2], HB4.out⟩
          · have e1 : (r == 0) = false := by rw [beq_eq_false_iff_ne]; exact hr0
            have e2 := ne_l b hb0
            clear ne_l hB
            go_wp2_with (first | (go_at_call 12; refine (lnum9_c _ _).mono ?_; rintro e' w' ⟨rfl, rfl⟩))
            go_ret
            exact ⟨by simp [e1, e2], HB4.out⟩
          · have e1 := ne_l a ha0
            have e2 : (r2 == 0) = false := by rw [beq_eq_false_iff_ne]; exact hr2
            clear ne_l hB
            go_wp2_with (first | (go_at_call 12; refine (lnum9_c _ _).mono ?_; rintro e' w' ⟨rfl, rfl⟩))
            go_ret
            exact ⟨by simp [e1, e2], HB4.out⟩
          · have e1 := ne_l a ha0
            have e2 := ne_l b hb0
            clear ne_l hB
            go_wp2_with (first | (go_at_call 12; refine (lnum9_c _ _).mono ?_; rintro e' w' ⟨rfl, rfl⟩))
            go_ret
            exact ⟨by simp [e1, e2], HB4.out⟩
end Go.Proofs.YtpbfdgjeocmikaaGreatDoor
