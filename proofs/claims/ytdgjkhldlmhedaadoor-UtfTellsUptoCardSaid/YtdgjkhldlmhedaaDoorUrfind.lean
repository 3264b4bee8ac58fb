/-
  Contract of the reference's Find; both Finds in one form.
-/
import Derived.Test.YtdgjkhldlmhedaaDoorUrruns
import Derived.Test.YtdgjkhldlmhedaaDoorUfindsw
set_option linter.unusedVariables false
set_option linter.unusedSimpArgs false
namespace Go.Proofs.YtdgjkhldlmhedaaDoor
open Go.RowKit Go.Lib

def pfx (a b : List Int) (i : Nat) : Bool := decide (b = (a.drop i).take b.length)
/-- The places, below a bound, where b stands in a. -/
def mtch (a b : List Int) (k : Nat) : List Nat := (List.range k).filter (pfx a b)
theorem mtch_succ (a b : List Int) (k : Nat) : mtch a b (k + 1) = if pfx a b k = true then mtch a b k ++ [k] else mtch a b k := by
  unfold mtch
  rw [List.range_succ, List.filter_append]
  by_cases h : pfx a b k = true
  · rw [if_pos h, List.filter_cons_of_pos h]; rfl
  · rw [if_neg h, List.filter_cons_of_neg h]; simp
theorem mtch_len (a b : List Int) (k : Nat) : (mtch a b k).length ≤ k := by
  have := List.length_filter_le (pfx a b) (List.range k)
  rw [List.length_range] at this
  exact this
theorem pfx_iff {a b : List Int} {i : Nat} : pfx a b i = true ↔ b <+: a.drop i := by
  unfold pfx
  rw [decide_eq_true_eq]
  constructor
  · intro h; rw [h]; exact List.take_prefix _ _
  · intro h; exact (List.prefix_iff_eq_take.1 h)
theorem pairs_lt (k : Nat) : (List.range k).Pairwise (· < ·) := List.pairwise_lt_range
theorem mtch_find {a b : List Int} (ha : ∀ c ∈ a, isCh c) (hb : ∀ c ∈ b, isCh c) (hne : b ≠ []) : mtch a b (a.length + 1 - b.length) = findN (enc a) (enc b) := by
  refine sorted_ext _ _ ?_ (findN_sorted ha hb hne) ?_
  · unfold mtch
    exact (pairs_lt _).filter _
  · intro j
    rw [findN_mem ha hb hne]
    unfold mtch
    rw [List.mem_filter, List.mem_range, pfx_iff]
    have hbl := List.length_pos_iff.2 hne
    constructor
    · rintro ⟨h1, h2⟩; exact ⟨by omega, h2⟩
    · rintro ⟨h1, h2⟩
      have := h2.length_le
      rw [List.length_drop] at this
      exact ⟨by omega, h2⟩
theorem take_step {a b : List Int} {q : Nat} {x y : Int} (h1 : b[q]? = some x) (h2 : a[q]? = some y) : decide (b.take (q + 1) = a.take (q + 1)) = (decide (b.take q = a.take q) && (y == x)) := by
  rw [Bool.eq_iff_iff, Bool.and_eq_true, decide_eq_true_eq, decide_eq_true_eq, beq_iff_eq]
  rw [List.take_add_one, List.take_add_one, h1, h2]
  constructor
  · intro h
    have hl : (b.take q).length = (a.take q).length := by
      have e1 := (List.getElem?_eq_some_iff.1 h1).1
      have e2 := (List.getElem?_eq_some_iff.1 h2).1
      rw [List.length_take, List.length_take]; omega
    obtain ⟨h3, h4⟩ := List.append_inj h hl
    simp at h4
    exact ⟨h3, h4.symm⟩
  · rintro ⟨h3, rfl⟩; rw [h3]
def both (S T : List UInt8) : Bool := isT S && isT T
def findT (S T : List UInt8) : List Nat := if both S T = true then findN S T else []
def findE (S T : List UInt8) : Nat := if both S T = true then 0 else 61

set_option maxRecDepth 100000 in
set_option maxHeartbeats 1000000 in
theorem RFind_c (S T : List UInt8) (w : World) (hs : S.length ≤ 16777216) (ht : T.length ≤ 16777216) :
    Calls Tryd.prog 18 #[.string (mk8 S), .string (mk8 T)] w fun e w' => ∃ A n c, e = .returned (.tuple #[.slice A n c, .int .i64 (findE S T : Int)]) ∧ RowV w' w.heap.size 3 A n c (nz (findT S T)) ∧ Below w.heap.size w w' := by
  have hR1 := fun V => RRunes_c S V hs
  have hR2 := fun V => RRunes_c T V ht
  by_cases h1 : isT S = true
  · have e1 : errT S = 0 := by unfold errT; rw [if_pos h1]
    rw [e1] at hR1
    by_cases h2 : isT T = true
    · have e2 : errT T = 0 := by unfold errT; rw [if_pos h2]
      have e3 : runesT S = chars S := by unfold runesT; rw [if_pos h1]
      have e4 : runesT T = chars T := by unfold runesT; rw [if_pos h2]
      have hbo : both S T = true := by unfold both; rw [h1, h2]; rfl
      have eE : findE S T = 0 := by unfold findE; rw [if_pos hbo]
      have eF : findT S T = findN S T := by unfold findT; rw [if_pos hbo]
      rw [e2, e4] at hR2
      rw [e3] at hR1
      rw [eE, eF]
      have hla : (chars S).length ≤ 16777216 := by rw [chars_len]; have := pcs_len S; omega
      have hlb : (chars T).length ≤ 16777216 := by rw [chars_len]; have := pcs_len T; omega
      have hN : findN S T = if (chars T).length = 0 then [] else mtch (chars S) (chars T) ((chars S).length + 1 - (chars T).length) := by
        by_cases h : (chars T).length = 0
        · rw [if_pos h]
          have h3 : T = [] := by
            have h4 := List.eq_nil_of_length_eq_zero h
            have := enc_chars h2
            rw [h4] at this
            exact this.symm
          rw [h3, findN_nil]
        · rw [if_neg h]
          have := mtch_find (chars_ch h1) (chars_ch h2) (fun e => h (by rw [e]; rfl))
          rw [this, enc_chars h1, enc_chars h2]
      obtain ⟨RES, hRS⟩ : ∃ R, R = findN S T := ⟨_, rfl⟩
      rw [← hRS] at hN ⊢
      clear hRS
      generalize chars S = a at *
      generalize chars T = b at *
      generalize mk8 S = SS at *
      generalize mk8 T = ST at *
      obtain ⟨la, hla'⟩ : ∃ la, la = a.length := ⟨_, rfl⟩
      obtain ⟨lb, hlb'⟩ : ∃ lb, lb = b.length := ⟨_, rfl⟩
      rw [← hla'] at hla
      rw [← hlb'] at hlb
      have HN := Lib.hid hN
      have HLA := Lib.hid hla'
      have HLB := Lib.hid hlb'
      have HR1 := Lib.hid hR1
      have HR2 := Lib.hid hR2
      clear hR1 hR2 h1 h2 e1 e2 e3 e4 hbo eE eF hN hla' hlb'
      go_enter Tryd.func18, Tryd.ntmps18
      go_wp2_with fail
      refine (HR1.out w).mono ?_
      rintro e w1 ⟨A1, n1, c1, rfl, hr1, hb1⟩
      have HRA := Lib.hid hr1
      have HB1 := Lib.hid hb1
      clear hr1 hb1
      go_wp2_with fail
      refine (HR2.out w1).mono ?_
      rintro e w2 ⟨A2, n2, c2, rfl, hr2, hb2⟩
      have hra := HRA.out.below hb2 (Nat.le_refl _)
      have hrb := hr2.more HB1.out.size
      have hbel0 := HB1.out.trans (hb2.mono HB1.out.size)
      obtain rfl : n1 = la := by rw [HLA.out, ← hra.len, zs64_length]
      obtain rfl : n2 = lb := by rw [HLB.out, ← hrb.len, zs64_length]
      clear hb2 hr2 HRA HB1
      have HRA := Lib.hid hra.rd
      have HRB := Lib.hid hrb.rd
      have HBEL0 := Lib.hid hbel0
      clear hra hrb hbel0
      obtain ⟨M, hM⟩ : ∃ M, M = if n2 = 0 then 0 else n1 + 1 - n2 := ⟨_, rfl⟩
      have hRES : RES = mtch a b M := by
        rw [HN.out, ← HLA.out, ← HLB.out, hM]
        by_cases h : n2 = 0
        · rw [if_pos h, if_pos h]; rfl
        · rw [if_neg h, if_neg h]
      have HRES := Lib.hid hRES
      have HM := Lib.hid hM
      clear hRES hM
      go_wp2
      go_loopw [10, 11] (fun v i wr => ∃ (k n c : Nat) (A : Option Addr), i = .int .i64 (k : Int) ∧ v = .slice A n c ∧ Hid (k ≤ M) ∧ k ≤ 16777216 ∧ n ≤ k ∧ RowV wr w2.heap.size 3 A n c (nz (mtch a b k)) ∧ Below w2.heap.size w2 wr) (fun _ i _ => M - (RowKit.intOf i).toNat)
      case atStart => exact ⟨0, 0, 0, none, rfl, rfl, Nat.zero_le _, by omega, by omega, RowV.nil _ _ _, Below.refl _ _⟩
      case round =>
        obtain ⟨k, n, c, A, rfl, rfl, hk, hkb, hn, hrow, hbel⟩ := hrel
        have HROW := Lib.hid hrow
        have HBEL := Lib.hid hbel
        clear hrow hbel
        by_cases hb0 : n2 = 0
        · have hk0 : k = M := by have := hk.out; have h2 := HM.out; rw [if_pos hb0] at h2; omega
          subst hb0
          have hRow : RowV wr w2.heap.size 3 A n c (nz (mtch a b M)) := by rw [← hk0]; exact HROW.out
          have HRW := Lib.hid hRow
          have hM0 : M = 0 := by rw [HM.out, if_pos rfl]
          clear hRow
          rw [hM0] at hk0
          subst hk0
          clear hM0
          go_wp2
          go_ret2
          exact ⟨A, n, c, rfl, by rw [HRES.out]; exact HRW.out.more HBEL0.out.size, HBEL0.out.trans (HBEL.out.mono HBEL0.out.size)⟩
        · have hMv : M = n1 + 1 - n2 := by rw [HM.out, if_neg hb0]
          by_cases hle : k + n2 ≤ n1
          · have hb1 : decide ((0 : Int) < (n2 : Int)) = true := decide_eq_true (by omega)
            have HPX : Hid (b.length = n2) := HLB.out.symm
            have hMk : k + 1 ≤ M := by omega
            clear hMv hk
            go_wp2
            go_loopw [12, 13] (fun sm j wi => ∃ q m : Nat, j = .int .i64 (q : Int) ∧ q ≤ n2 ∧ sm = .bool (decide (b.take q = (a.drop k).take q)) ∧ wi = wr.drewN m) (fun _ j _ => n2 - (RowKit.intOf j).toNat)
            case atStart => exact ⟨0, 0, rfl, Nat.zero_le _, by simp, rfl⟩
            case round =>
              obtain ⟨q, m, rfl, hq, rfl, rfl⟩ := hrel
              obtain ⟨sm, hsm⟩ : ∃ sm, sm = decide (b.take q = (a.drop k).take q) := ⟨_, rfl⟩
              rw [← hsm]
              by_cases hlt : q < n2
              · obtain ⟨x, hx⟩ : ∃ x, b[q]? = some x := ⟨b[q]'(by rw [HPX.out]; exact hlt), List.getElem?_eq_getElem (by rw [HPX.out]; exact hlt)⟩
                obtain ⟨y, hy⟩ : ∃ y, a[k + q]? = some y := ⟨a[k + q]'(by rw [← HLA.out]; omega), List.getElem?_eq_getElem (by rw [← HLA.out]; omega)⟩
                have hy2 : (a.drop k)[q]? = some y := by rw [List.getElem?_drop]; exact hy
                have hts := take_step hx hy2
                rw [← hsm] at hts
                have HTS := Lib.hid hts
                obtain ⟨g1, o1, rfl, _, d1⟩ := (HRA.out.below HBEL.out (fun _ h => h.2)).at_ (zs64_get hy)
                obtain ⟨g2, o2, rfl, _, d2⟩ := (HRB.out.below HBEL.out (fun _ h => h.2)).at_ (zs64_get hx)
                have hkq : IntKind.i64.wrap ((k : Int) + (q : Int)) = ((k + q : Nat) : Int) := by rw [IntWalk.i64_in _ (by omega)]; simp
                have hkq2 : k + q < n1 := by omega
                clear hsm hts hx hy hy2
                generalize hkq3 : k + q = r at *
                clear hkq3
                cases sm
                all_goals
                  go_wp2
                  go_quiet (fail)
                  go_wp2
                  go_roundw
                  case rel => exact ⟨q + 1, _, by go_num, by omega, by rw [HTS.out]; rfl, rfl⟩
                  case measure => simp [RowKit.intOf]; omega
              · obtain rfl : q = n2 := by omega
                have hpf : sm = pfx a b k := by
                  rw [hsm]; unfold pfx
                  rw [HPX.out, List.take_of_length_le (by rw [HPX.out]; exact Nat.le_refl _)]
                have hst := mtch_succ a b k
                rw [← hpf] at hst
                have HST := Lib.hid hst
                clear hsm hpf hst
                cases sm
                · go_wp2
                  go_roundw
                  case rel => exact ⟨k + 1, n, c, A, by go_num, rfl, hMk, by omega, by omega, by rw [HST.out]; exact HROW.out.below (below_drews _ m) (Nat.le_refl _), HBEL.out.trans ((below_drews wr m).mono HBEL.out.size)⟩
                  case measure => simp [RowKit.intOf]; omega
                · have hro := ((HROW.out.below (below_drews _ m) (Nat.le_refl _))).alloc (.cells #[.int .i64 (k : Int)] 3)
                  have hbel2 := HBEL.out.trans ((below_drews wr m).mono HBEL.out.size)
                  have hbel3 := hbel2.alloc hbel2.size (.cells #[.int .i64 (k : Int)] 3)
                  have HB3 := Lib.hid hbel3
                  have hsz3 : w2.heap.size ≤ ((wr.drewN m).alloc (.cells #[.int .i64 (k : Int)] 3)).heap.size := hbel3.size
                  have HRO := Lib.hid hro
                  clear hbel2 hbel3 hro
                  obtain ⟨i0, hi, hz0, hz1, hz2⟩ := info_parts info64
                  go_wp2_with (at_builtin; refine wpList_append_own _ rfl (.tmp 65) (.tmp 67) _ rfl w2.heap.size 3 i0 (.int .i64 0) 1 8 Tryd.underlying27 hi hz0 hz1 hz2 rfl (by decide) (.slice A n c) n (nz (mtch a b k)) rfl HRO.out.own ⟨(wr.drewN m).heap.size, 0, none⟩ 1 1 [.int .i64 (k : Int)] rfl rfl (cell_new1 (wr.drewN m) _ _ _ rfl) (by simp [Value.oneCell']) (by unfold maxLen; omega) (by omega) hsz3 ?_; intro v' w3 hown3 hg3 _)
                  obtain ⟨A3, c3, e3, hr3⟩ := RowV.of_row (by rw [List.length_append, HRO.out.len]; rfl) hown3
                  subst e3
                  have hgb := HRO.out.below_self HB3.out hsz3 hg3
                  refine ⟨⟨k + 1, n + 1, c3, A3, by go_num, rfl, hMk, by omega, by omega, ?_, hgb⟩, by simp [RowKit.intOf]; omega⟩
                  rw [HST.out, if_pos rfl]
                  show RowV _ _ _ _ _ _ (zs64 _)
                  rw [List.map_append, zs64_append]
                  exact hr3
          · have hk0 : k = M := by have := hk.out; omega
            have hRow : RowV wr w2.heap.size 3 A n c (nz (mtch a b M)) := by rw [← hk0]; exact HROW.out
            have HRW := Lib.hid hRow
            have hgt : ¬ ((k : Int) + (n2 : Int) ≤ (n1 : Int)) := by omega
            clear hRow hk0 hMv
            go_wp2
            go_ret2
            exact ⟨A, n, c, rfl, by rw [HRES.out]; exact HRW.out.more HBEL0.out.size, HBEL0.out.trans (HBEL.out.mono HBEL0.out.size)⟩
    · have e2 : errT T = 61 := by unfold errT; rw [if_neg h2]
      rw [e2] at hR2
      have hbo : ¬ both S T = true := by unfold both; rw [Bool.and_eq_true]; exact fun h => h2 h.2
      have eE : findE S T = 61 := by unfold findE; rw [if_neg hbo]
      have eF : findT S T = [] := by unfold findT; rw [if_neg hbo]
      rw [eE, eF]
      have HR1 := Lib.hid hR1
      have HR2 := Lib.hid hR2
      clear hR1 hR2 e1 e2 hbo eE eF h1 h2
      generalize mk8 S = SS at *
      generalize mk8 T = ST at *
      generalize runesT S = a at *
      generalize runesT T = b at *
      go_enter Tryd.func18, Tryd.ntmps18
      go_wp2_with fail
      refine (HR1.out w).mono ?_
      rintro e w1 ⟨A1, n1, c1, rfl, hr1, hb1⟩
      have HB1 := Lib.hid hb1
      clear hb1 hr1
      go_wp2_with fail
      refine (HR2.out w1).mono ?_
      rintro e w2 ⟨A2, n2, c2, rfl, hr2, hb2⟩
      go_wp2
      go_ret2
      exact ⟨none, 0, 0, rfl, RowV.nil _ _ _, HB1.out.trans (hb2.mono HB1.out.size)⟩
  · have e1 : errT S = 61 := by unfold errT; rw [if_neg h1]
    rw [e1] at hR1
    have hbo : ¬ both S T = true := by unfold both; rw [Bool.and_eq_true]; exact fun h => h1 h.1
    have eE : findE S T = 61 := by unfold findE; rw [if_neg hbo]
    have eF : findT S T = [] := by unfold findT; rw [if_neg hbo]
    rw [eE, eF]
    have HR1 := Lib.hid hR1
    clear hR1 hR2 e1 hbo eE eF h1
    generalize mk8 S = SS at *
    generalize mk8 T = ST at *
    generalize runesT S = a at *
    go_enter Tryd.func18, Tryd.ntmps18
    go_wp2_with fail
    refine (HR1.out w).mono ?_
    rintro e w1 ⟨A1, n1, c1, rfl, hr1, hb1⟩
    go_wp2
    go_ret2
    exact ⟨none, 0, 0, rfl, RowV.nil _ _ _, hb1⟩
end Go.Proofs.YtdgjkhldlmhedaaDoor
