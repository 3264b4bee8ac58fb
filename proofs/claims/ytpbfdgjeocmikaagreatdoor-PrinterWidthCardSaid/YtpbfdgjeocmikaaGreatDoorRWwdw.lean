/-
  The walk of PrinterWidth.
-/
import Derived.Test.YtpbfdgjeocmikaaGreatDoorRWwd
set_option linter.unusedVariables false
set_option linter.unusedSimpArgs false
namespace Go.Proofs.YtpbfdgjeocmikaaGreatDoor
open Go.RowKit Go.Lib

theorem wr_det {out : List UInt8} {room : Nat} {e e' : Ending} (h : WrE out room e) (h' : WrE out room e') : e = e' := by
  rcases h with ⟨h1, rfl⟩ | ⟨h1, rfl⟩ <;> rcases h' with ⟨h2, rfl⟩ | ⟨h2, rfl⟩ <;> first | rfl | omega
theorem ind_det {x : VT} {n : Int} {e e' : Ending} (h : IndE x n e) (h' : IndE x n e') : e = e' := by
  unfold IndE at h h'
  split at h
  · rename_i h0
    rw [if_pos h0] at h'
    rw [h, h']
  · rename_i h0
    rw [if_neg h0] at h'
    split at h
    · rename_i h1
      rw [if_pos h1] at h'
      rw [h, h']
    · rename_i h1
      rw [if_neg h1] at h'
      exact wr_det h h'
theorem is10 {c : UInt8} : c = 10 ↔ (c.toNat : Int) = 10 := u8n (n := 10) (by omega)
theorem wide_ge : ∀ (s : List UInt8) (k : Nat), k ≤ wideL s k
  | [], k => Nat.le_refl _
  | c :: t, k => by
    unfold wideL
    split
    · omega
    · have := wide_ge t (k + 1); omega
set_option maxRecDepth 100000 in
set_option maxHeartbeats 4000000 in
theorem printerWidth_c {S : Nat → Prop} {x : VT} {cs : List Value} (n : Int) (w : World) (hG : Gl w.heap.size w) (hx : VIn w S x cs) (hS : ∀ b, S b → b < w.heap.size) :
    Calls Tryz.prog 7 #[.agg cs.toArray, .int .i64 n] w fun e w' => e = .returned (.bool true) ∧ Below w.heap.size w w' := by
  obtain ⟨k, neg, A, nn, c, e, t, LA, ln, lc, KA, kn, kc, rfl, -, -⟩ := hx.seven
  obtain ⟨bp, hbp⟩ : ∃ b, w.heap.size = b := ⟨_, rfl⟩
  have hb : Below w.heap.size w (w.alloc (.cells #[.int .i64 k, .bool neg, .slice A nn c, .int .i64 e, .string t, .slice LA ln lc, .slice KA kn kc] 28)) := (Below.refl _ w).alloc (Nat.le_refl _) _
  have hm := World.alloc_heap_new w (.cells #[.int .i64 k, .bool neg, .slice A nn c, .int .i64 e, .string t, .slice LA ln lc, .slice KA kn kc] 28)
  have hsz : (w.alloc (.cells #[.int .i64 k, .bool neg, .slice A nn c, .int .i64 e, .string t, .slice LA ln lc, .slice KA kn kc] 28)).heap.size = bp + 1 := by rw [World.size_alloc, hbp]
  have hx1 := hx.keep (w' := (w.alloc (.cells #[.int .i64 k, .bool neg, .slice A nn c, .int .i64 e, .string t, .slice LA ln lc, .slice KA kn kc] 28))) fun p hp => hb.cell (p := p) (hS _ hp)
  have hG1 := hG.low hb
  rw [hbp] at hb hG1 hm hS ⊢
  have HX := Lib.hid hx1
  have HG := Lib.hid hG1
  have HB := Lib.hid hb
  have HM := Lib.hid hm
  have HS := Lib.hid hS
  clear hx hx1 hG hG1 hb hm hS
  go_enter Tryz.func7, Tryz.ntmps7
  go_wp2_with fail
  try rw [hbp]
  clear hbp
  generalize (w.alloc (.cells #[.int .i64 k, .bool neg, .slice A nn c, .int .i64 e, .string t, .slice LA ln lc, .slice KA kn kc] 28)) = w1 at *
  refine (alive9_c w1 (HG.out.up (by omega))).mono ?_
  rintro e9 w2 ⟨rfl, hb2⟩
  rw [hsz] at hb2
  have hm2 := (hb2.block bp (by omega)).trans HM.out
  obtain ⟨y0, y1, y2, y3, y4, y5, y6⟩ := box7_of hm2
  have hsz2 : bp + 1 ≤ w2.heap.size := by have := hb2.size; omega
  have hc := pwidth_c n w2 (((HG.out.up (C := bp + 1) (by omega)).low hb2).up hsz2) (HX.out.keep fun p hp => hb2.cell (p := p) (by have := HS.out _ hp; omega)) (fun b h => by have := HS.out b h; omega)
  have HC := Lib.hid hc
  have HB2 := Lib.hid hb2
  clear hb2 hm2 hc
  go_wp2_with fail
  refine HC.out.mono ?_
  rintro e9 w3 ⟨⟨a, r, he, has, rfl⟩, hb3⟩
  have hb13 := HB2.out.trans (hb3.mono hsz2)
  have hm3 := (hb13.block bp (by omega)).trans HM.out
  have hsz3 : bp + 1 ≤ w3.heap.size := by have := hb13.size; omega
  have hc := indent_c n w3 (((HG.out.up (C := bp + 1) (by omega)).low hb13).up hsz3) (HX.out.keep fun p hp => hb13.cell (p := p) (by have := HS.out _ hp; omega)) (fun b h => by have := HS.out b h; omega)
  obtain ⟨Wd, hWd⟩ : ∃ Wd : Nat, (if r = 0 then wideL a.data.toList 0 else 0) = Wd := ⟨_, rfl⟩
  rw [hWd]
  have HC2 := Lib.hid hc
  have HB3 := Lib.hid hb13
  have HE := Lib.hid he
  have HWD := Lib.hid hWd
  clear hb13 hb3 hc he y0 y1 y2 y3 y4 y5 y6 HC hWd
  obtain ⟨y0, y1, y2, y3, y4, y5, y6⟩ := box7_of hm3
  clear hm3
  go_wp2_with fail
  refine HC2.out.mono ?_
  rintro e9 w4 ⟨he2, hb4⟩
  obtain rfl := ind_det he2 HE.out
  have HB4 := Lib.hid ((HB.out.trans (HB3.out.mono (by omega))).trans (hb4.mono (by omega)))
  clear he2 hb4 y0 y1 y2 y3 y4 y5 y6 HC2
  by_cases hr : r = 0
  case neg =>
    have e0 : (r != 0) = true := by rw [bne_iff_ne]; exact hr
    have hw0 : Wd = 0 := by rw [← HWD.out, if_neg hr]
    subst hw0
    go_wp2_with (first | (go_at_call 12; refine (lnum9_c _ _).mono ?_; rintro e' w' ⟨rfl, rfl⟩))
    go_ret
    exact ⟨rfl, HB4.out⟩
  subst hr
  have hwd : wideL a.data.toList 0 = Wd := by rw [← HWD.out, if_pos rfl]
  have hf0 : Hid (foundL Wd (a.data.toList.drop 0) 0 false = true) := by show _ = _; rw [List.drop_zero, ← hwd]; exact foundL_wide _ _ _
  have hw0 : Hid (wideL (a.data.toList.drop 0) 0 ≤ Wd) := by show _ ≤ _; rw [List.drop_zero, hwd]; exact Nat.le_refl _
  have hwm : Wd ≤ 1048576 := by
    have key : ∀ (l : List UInt8) (q : Nat), wideL l q ≤ l.length + q := by
      intro l
      induction l with
      | nil => intro q; simp [wideL]
      | cons d u ih =>
        intro q
        unfold wideL
        split
        · have := ih 0; simp only [List.length_cons]; omega
        · have := ih (q + 1); simp only [List.length_cons]; omega
    have := key a.data.toList 0
    rw [hwd, Array.length_toList] at this
    have h9 : a.data.size = a.size := rfl
    omega
  clear hwd
  go_wp2_with (first | (go_at_call 12; refine (lnum9_c _ _).mono ?_; rintro e' w' ⟨rfl, rfl⟩))
  go_loop [9, 10, 11] (fun ov fv iv => ∃ (q o : Nat) (f : Bool), ov = .int .i64 (o : Int) ∧ fv = .bool f ∧ iv = .int .i64 (q : Int) ∧ ((q ≤ a.size ∧ o ≤ Wd ∧ Hid (foundL Wd (a.data.toList.drop q) o f = true) ∧ Hid (wideL (a.data.toList.drop q) o ≤ Wd)) ∨ (q = a.size + 1 ∧ f = true))) (fun _ _ iv => a.size + 1 - (RowKit.intOf iv).toNat)
  case atStart => exact ⟨0, 0, false, rfl, rfl, rfl, .inl ⟨Nat.zero_le _, Nat.zero_le _, hf0, hw0⟩⟩
  case round =>
    clear hf0 hw0
    obtain ⟨q, o, f, rfl, rfl, rfl, hq⟩ := hrel
    rcases hq with ⟨hq, ho, hf, hw⟩ | ⟨rfl, rfl⟩
    · by_cases hlt : q < a.size
      · obtain ⟨T, hT⟩ : ∃ T, a.data.toList.drop (q + 1) = T := ⟨_, rfl⟩
        have hd := drop_at a q hlt
        rw [hT] at hd
        have hf2 := hf.out
        have hw2 := hw.out
        rw [hd] at hf2 hw2
        unfold foundL at hf2
        unfold wideL at hw2
        have hne : ((q : Int) == (a.size : Int)) = false := by rw [beq_eq_false_iff_ne]; omega
        clear hf hw hd
        by_cases h10 : (a[q].toNat : Int) = 10
        · rw [if_pos (is10.2 h10)] at hf2 hw2
          have e10 : ((a[q].toNat : Int) == 10) = true := by rw [h10]; rfl
          have hn1 : Hid (foundL Wd (a.data.toList.drop (q + 1)) 0 (f || o == Wd) = true) := by show _ = _; rw [hT]; exact hf2
          have hn2 : Hid (wideL (a.data.toList.drop (q + 1)) 0 ≤ Wd) := by show _ ≤ _; rw [hT]; omega
          have hoi : ((o : Int) == (Wd : Int)) = (o == Wd) := by rw [Bool.eq_iff_iff]; simp only [beq_iff_eq]; omega
          clear hf2 hw2 hT
          cases f with
          | true =>
            go_wp2
            exact ⟨⟨q + 1, 0, true, rfl, rfl, by go_num, .inl ⟨by omega, Nat.zero_le _, hn1, hn2⟩⟩, by simp [RowKit.intOf]; omega⟩
          | false =>
            go_wp2
            exact ⟨⟨q + 1, 0, o == Wd, rfl, by rw [← hoi], by go_num, .inl ⟨by omega, Nat.zero_le _, hn1, hn2⟩⟩, by simp [RowKit.intOf]; omega⟩
        · rw [if_neg (fun h => h10 (is10.1 h))] at hf2 hw2
          have e10 : ((a[q].toNat : Int) == 10) = false := by rw [beq_eq_false_iff_ne]; exact h10
          have hn1 : Hid (foundL Wd (a.data.toList.drop (q + 1)) (o + 1) f = true) := by show _ = _; rw [hT]; exact hf2
          have hn2 : Hid (wideL (a.data.toList.drop (q + 1)) (o + 1) ≤ Wd) := by show _ ≤ _; rw [hT]; exact hw2
          have hge := wide_ge T (o + 1)
          have hle : o + 1 ≤ Wd := Nat.le_trans hge hw2
          have hnl : ¬ (Wd : Int) < (o : Int) + 1 := by omega
          clear hf2 hw2 hT hge
          go_wp2
          exact ⟨⟨q + 1, o + 1, f, by go_num, rfl, by go_num, .inl ⟨by omega, hle, hn1, hn2⟩⟩, by simp [RowKit.intOf]; omega⟩
      · have he : q = a.size := by omega
        subst he
        have hf2 := hf.out
        rw [List.drop_eq_nil_of_le (by rw [Array.length_toList]; exact Nat.le_refl a.size)] at hf2
        have hf3 : Hid ((f || o == Wd) = true) := hf2
        have hoi : ((o : Int) == (Wd : Int)) = (o == Wd) := by rw [Bool.eq_iff_iff]; simp only [beq_iff_eq]; omega
        clear hf hw hf2
        cases f with
        | true =>
          go_wp2
          exact ⟨⟨a.size + 1, 0, true, rfl, rfl, by go_num, .inr ⟨rfl, rfl⟩⟩, by simp [RowKit.intOf]⟩
        | false =>
          have hf4 : (o == Wd) = true := by simpa using hf3.out
          rw [hf4] at hoi
          go_wp2
          exact ⟨⟨a.size + 1, 0, true, rfl, by first | rfl | (rw [hoi]) | simp [hoi], by go_num, .inr ⟨rfl, rfl⟩⟩, by simp [RowKit.intOf]⟩
    · have hbig : ¬ ((a.size + 1 : Nat) : Int) ≤ (a.size : Int) := by omega
      go_wp2_with (first | (go_at_call 12; refine (lnum9_c _ _).mono ?_; rintro e' w' ⟨rfl, rfl⟩))
      go_ret
      exact ⟨rfl, HB4.out⟩
end Go.Proofs.YtpbfdgjeocmikaaGreatDoor
