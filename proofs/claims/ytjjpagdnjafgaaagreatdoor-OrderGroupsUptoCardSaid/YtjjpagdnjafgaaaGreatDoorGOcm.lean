/-
  Contract of cmp.Or over numbers; how two values that may be stand, as order.compare asks it.
  Contract of order.compare: how two values that may be stand.
-/
import Derived.Test.YtjjpagdnjafgaaaGreatDoorGVcm
import Derived.Deep.RegionHeld3
import Derived.Deep.Cut
set_option linter.unusedVariables false
set_option linter.unusedSimpArgs false
namespace Go.Proofs.YtjjpagdnjafgaaaGreatDoor
open Go.RowKit

/-- The first that is not 0. -/
def firstNZ : List Int → Int
  | [] => 0
  | a :: r => if a = 0 then firstNZ r else a

set_option maxRecDepth 100000 in
set_option maxHeartbeats 1000000 in
theorem or_c {b n : Nat} {zs : List Int} (w : World) (hn : zs.length = n) (hb : n ≤ 1000) (hc : ∀ i z, zs[i]? = some z → w.cell? ⟨b, i, none⟩ = some (.int .i64 z)) :
    Calls Tryz.prog 133 #[.slice (some ⟨b, 0, none⟩) n n] w fun e w' => e = .returned (.int .i64 (firstNZ zs)) ∧ w = w' := by
  obtain ⟨R, hR⟩ : ∃ R, firstNZ zs = R := ⟨_, rfl⟩
  rw [hR]
  have HR := Lib.hid hR
  have HC := Lib.hid hc
  clear hR hc
  go_enter Tryz.func133, Tryz.ntmps133
  go_upto_region 3 with fail
  go_loopw [8] (fun v wr => ∃ k : Nat, k ≤ n ∧ v = .int .i64 (k : Int) ∧ wr = w ∧ Hid (firstNZ (zs.drop k) = R)) (fun v _ => n - (RowKit.intOf v).toNat)
  case atStart => exact ⟨0, Nat.zero_le _, rfl, rfl, HR⟩
  case round =>
    obtain ⟨k, hkn, rfl, rfl, hd⟩ := hrel
    by_cases hk : k < n
    · have hlt : (k : Int) < (n : Int) := by omega
      have hk0 : (0 : Int) ≤ (k : Int) := by omega
      have hkt : ((k : Int)).toNat = k := by omega
      have hkw : IntKind.i64.wrap ((k : Int) + 1) = (k : Int) + 1 := IntWalk.i64_in _ (by omega)
      have hz : zs[k]? = some zs[k] := List.getElem?_eq_getElem (by omega)
      have hcell := HC.out k _ hz
      have hdr : zs.drop k = zs[k] :: zs.drop (k + 1) := List.drop_eq_getElem_cons (by omega)
      obtain ⟨z, hzz⟩ : ∃ z, zs[k] = z := ⟨_, rfl⟩
      rw [hzz] at hcell hdr
      have hd2 := hd.out
      rw [hdr] at hd2
      unfold firstNZ at hd2
      clear hz hzz hdr hd
      by_cases h0 : z = 0
      · subst h0
        rw [if_pos rfl] at hd2
        have HD2 := Lib.hid hd2
        clear hd2
        go_wp2_with fail
        go_roundw
        case rel => exact ⟨k + 1, by omega, by go_num, by first | rfl | trivial, HD2⟩
        case measure => first | (simp [intOf]; omega) | (simp [RowKit.intOf]; omega) | (show _ - _ < _ - _; simp only [RowKit.intOf]; omega)
      · rw [if_neg h0] at hd2
        subst hd2
        have hne : (z == 0) = false := by rw [beq_eq_false_iff_ne]; exact h0
        go_wp2_with fail
        go_ret
        first | exact ⟨rfl, rfl⟩ | exact ⟨rfl, trivial⟩
    · have hnk : ¬ (k : Int) < (n : Int) := by omega
      have hd2 := hd.out
      rw [List.drop_eq_nil_of_le (by omega)] at hd2
      have hR0 : R = 0 := hd2.symm
      subst hR0
      clear hd2 hd
      go_wp2_with fail
      go_ret
      first | exact ⟨rfl, rfl⟩ | exact ⟨rfl, trivial⟩

theorem cmpI_self (x : Int) : cmpI x x = 0 := cmpI_eq.2 rfl
theorem cmpB_self (x : ByteArray) : cmpB x x = 0 := cmpB_eq.2 rfl
theorem size_zero {t : ByteArray} (h : t.size = 0) : t = ⟨#[]⟩ := by
  cases t with
  | mk a =>
    have : a = #[] := Array.eq_empty_of_size_eq_zero h
    rw [this]
/-- What a value that may be does not use is nothing. -/
theorem fine_rest {k : Int} {n : Bool} {x : List Nat} {e : Int} {t : ByteArray} {l : List VT} {ks : List ByteArray} (h : fine (.mk k n x e t l ks)) :
    (k ≠ 3 → x = [] ∧ n = false ∧ e = 0) ∧ (k ≠ 4 → t = ⟨#[]⟩) ∧ (k = 3 ∨ k = 4 → l = [] ∧ ks = []) := by
  obtain ⟨ha, _⟩ := fine_self h
  obtain ⟨_, _, hf⟩ := alone_fit ha
  rw [fitV_mk] at hf
  refine ⟨fun h3 => ?_, fun h4 => ?_, fun h34 => ?_⟩
  · rw [if_neg h3] at hf
    repeat' split at hf
    all_goals
      simp only [Bool.and_eq_true, decide_eq_true_eq, Bool.not_eq_true'] at hf
      exact ⟨List.eq_nil_of_length_eq_zero (by omega), by simp_all, by omega⟩
  · repeat' split at hf
    all_goals first
      | exact absurd (by assumption) h4
      | (simp only [Bool.and_eq_true, decide_eq_true_eq, Bool.not_eq_true'] at hf
         exact size_zero (by omega))
  · rcases h34 with h3 | h4
    · rw [if_pos h3] at hf
      simp only [Bool.and_eq_true, decide_eq_true_eq] at hf
      exact ⟨List.eq_nil_of_length_eq_zero (by omega), List.eq_nil_of_length_eq_zero (by omega)⟩
    · rw [if_neg (by omega), if_pos h4] at hf
      simp only [Bool.and_eq_true, decide_eq_true_eq] at hf
      exact ⟨List.eq_nil_of_length_eq_zero (by omega), List.eq_nil_of_length_eq_zero (by omega)⟩
theorem fine_okB {k : Int} {n : Bool} {x : List Nat} {e : Int} {t : ByteArray} {l : List VT} {ks : List ByteArray} (h : fine (.mk k n x e t l ks)) : okB n x e = true := by
  by_cases h3 : k = 3
  · exact fine_num h h3
  · obtain ⟨rfl, rfl, rfl⟩ := (fine_rest h).1 h3
    decide
theorem ord_or {k k' : Int} {n n' : Bool} {x x' : List Nat} {e e' : Int} {t t' : ByteArray} {l l' : List VT} {ks ks' : List ByteArray} (h : fine (.mk k n x e t l ks)) (h' : fine (.mk k' n' x' e' t' l' ks')) :
    ordV (.mk k n x e t l ks) (.mk k' n' x' e' t' l' ks') = if firstNZ [cmpI k k', cmpI (sv n (val x) e) (sv n' (val x') e'), cmpB t t', lexC cmpB ks ks'] = 0 then ordL l l' else firstNZ [cmpI k k', cmpI (sv n (val x) e) (sv n' (val x') e'), cmpB t t', lexC cmpB ks ks'] := by
  obtain ⟨r1, r2, r3⟩ := fine_rest h
  obtain ⟨s1, s2, s3⟩ := fine_rest h'
  by_cases hk : k = k'
  · subst hk
    rw [ordV, if_pos rfl, cmpI_self]
    simp only [firstNZ, if_pos rfl]
    by_cases h3 : k = 3
    · obtain ⟨rfl, rfl⟩ := r3 (.inl h3)
      obtain ⟨rfl, rfl⟩ := s3 (.inl h3)
      rw [r2 (by omega), s2 (by omega), cmpB_self, if_pos h3]
      generalize cmpI (sv n (val x) e) (sv n' (val x') e') = z
      by_cases hz : z = 0 <;> simp [lexC, ordL, hz]
    · obtain ⟨rfl, rfl, rfl⟩ := r1 h3
      obtain ⟨rfl, rfl, rfl⟩ := s1 h3
      rw [if_neg h3, cmpI_self]
      simp only [if_pos rfl]
      by_cases h4 : k = 4
      · obtain ⟨rfl, rfl⟩ := r3 (.inr h4)
        obtain ⟨rfl, rfl⟩ := s3 (.inr h4)
        rw [if_pos h4]
        generalize cmpB t t' = z
        by_cases hz : z = 0 <;> simp [lexC, ordL, hz]
      · rw [if_neg h4, r2 h4, s2 h4, cmpB_self]
        simp
        split <;> simp_all
  · have hc : cmpI k k' ≠ 0 := fun h0 => hk (cmpI_eq.1 h0)
    rw [ordV, if_neg hk]
    simp only [firstNZ, if_neg hc]
end Go.Proofs.YtjjpagdnjafgaaaGreatDoor

namespace Go.Proofs.YtjjpagdnjafgaaaGreatDoor
open Go.RowKit

/-- order.compare of a value that may be, and another one. -/
def CmpO (x : VT) : Prop := ∀ (y : VT) (S : Nat → Prop) (cs ds : List Value) (w : World), fine x → fine y → VIn w S x cs → VIn w S y ds → (∀ b, S b → b < w.heap.size) →
  Calls Tryz.prog 90 #[.agg cs.toArray, .agg ds.toArray] w fun e w' => e = .returned (.int .i64 (ordV x y)) ∧ Below w.heap.size w w'

set_option maxRecDepth 100000 in
set_option maxHeartbeats 2000000 in
theorem lexO_c {S : Nat → Prop} {A B : Option Addr} {n m c d : Nat} {l r : List VT} (w : World) (ha : RdL w S A n l) (hb : RdL w S B m r) (hS : ∀ b, S b → b < w.heap.size) (hl : ∀ x ∈ l, CmpO x ∧ fine x) (hr : ∀ x ∈ r, fine x) :
    Calls Tryz.prog 128 #[.slice A n c, .slice B m d, .func (.func 90) #[] #[]] w fun e w' => e = .returned (.int .i64 (ordL l r)) ∧ Below w.heap.size w w' := by
  have HA := Lib.hid ha
  have HB := Lib.hid hb
  have HL1 := Lib.hid ha.1
  have HL2 := Lib.hid hb.1
  have hn := ha.2.1
  have hm := hb.2.1
  have HHS := Lib.hid hS
  have HHL := Lib.hid hl
  have HHR := Lib.hid hr
  obtain ⟨R, hR⟩ : ∃ R, ordL l r = R := ⟨_, rfl⟩
  rw [hR]
  rw [ordL_lex] at hR
  have HR := Lib.hid hR
  clear ha hb hR hS hl hr
  go_enter Tryz.func128, Tryz.ntmps128
  go_wp2_with fail
  go_loopw [13] (fun i wr => ∃ k : Nat, k ≤ n ∧ i = .int .i64 (k : Int) ∧ Hid (lexC ordV (l.drop k) (r.drop k) = R) ∧ Below w.heap.size w wr) (fun i _ => n - (RowKit.intOf i).toNat)
  case atStart => exact ⟨0, Nat.zero_le _, rfl, HR.out, Below.refl _ _⟩
  case round =>
    obtain ⟨k, hk, rfl, hlx, hbel⟩ := hrel
    have HBEL := Lib.hid hbel
    have HLX := Lib.hid hlx.out
    clear hbel hlx
    by_cases hkn : k < n
    · obtain ⟨b1, o1, x, cs, rfl, hSb1, hx, hcl, hcc, hvx⟩ := HA.out.at_ hkn
      have hlt : (k : Int) < (n : Int) := by omega
      have hk0 : (0 : Int) ≤ (k : Int) := by omega
      have hkt : ((k : Int)).toNat = k := by omega
      have hkw : IntKind.i64.wrap ((k : Int) + 1) = (k : Int) + 1 := IntWalk.i64_in _ (by omega)
      obtain ⟨k2, neg2, xs2, e2, t2, li2, ks2, hx2⟩ : ∃ k2 neg2 xs2 e2 t2 li2 ks2, x = VT.mk k2 neg2 xs2 e2 t2 li2 ks2 := by cases x; exact ⟨_, _, _, _, _, _, _, rfl⟩
      have hvx2 := hvx
      rw [hx2] at hvx2
      obtain ⟨A2, n2, c2, LA2, ln2, lc2, KA2, kn2, kc2, rfl, -⟩ := hvx2.parts
      have hcw : ∀ j, j < 7 → wr.cell? ⟨b1, o1 + (k * 7 + j), none⟩ = _ := fun j hj => (HBEL.out.cell (p := ⟨b1, o1 + (k * 7 + j), none⟩) (HHS.out _ hSb1)).trans (hcc j hj)
      have d0 : wr.cell? ⟨b1, o1 + k * 7, none⟩ = some (.int .i64 k2) := hcw 0 (by omega)
      have d1 : wr.cell? ⟨b1, o1 + k * 7 + 1, none⟩ = some (.bool neg2) := hcw 1 (by omega)
      have d2 : wr.cell? ⟨b1, o1 + k * 7 + 2, none⟩ = some (.slice A2 n2 c2) := hcw 2 (by omega)
      have d3 : wr.cell? ⟨b1, o1 + k * 7 + 3, none⟩ = some (.int .i64 e2) := hcw 3 (by omega)
      have d4 : wr.cell? ⟨b1, o1 + k * 7 + 4, none⟩ = some (.string t2) := hcw 4 (by omega)
      have d5 : wr.cell? ⟨b1, o1 + k * 7 + 5, none⟩ = some (.slice LA2 ln2 lc2) := hcw 5 (by omega)
      have d6 : wr.cell? ⟨b1, o1 + k * 7 + 6, none⟩ = some (.slice KA2 kn2 kc2) := hcw 6 (by omega)
      have HX := Lib.hid hx
      have HVX := Lib.hid hvx
      clear hcw hcc hvx2 hx hvx hx2 hcl
      by_cases hkm : k < m
      · have hlm : ¬ (m : Int) ≤ (k : Int) := by omega
        have hlm2 : (k : Int) < (m : Int) := by omega
        obtain ⟨b2, o2, y, ds, rfl, hSb2, hy, hcl, hcc, hvy⟩ := HB.out.at_ hkm
        obtain ⟨k3, neg3, xs3, e3, t3, li3, ks3, hy2⟩ : ∃ k3 neg3 xs3 e3 t3 li3 ks3, y = VT.mk k3 neg3 xs3 e3 t3 li3 ks3 := by cases y; exact ⟨_, _, _, _, _, _, _, rfl⟩
        have hvy2 := hvy
        rw [hy2] at hvy2
        obtain ⟨A3, n3, c3, LA3, ln3, lc3, KA3, kn3, kc3, rfl, -⟩ := hvy2.parts
        go_upto_region 6 with fail
        have hW1 : Below wr.heap.size wr (wr.alloc (.cells #[.int .i64 k2, .bool neg2, .slice A2 n2 c2, .int .i64 e2, .string t2, .slice LA2 ln2 lc2, .slice KA2 kn2 kc2] 53)) := (Below.refl _ wr).alloc (Nat.le_refl _) _
        have hm1 := World.alloc_heap_new wr (.cells #[.int .i64 k2, .bool neg2, .slice A2 n2 c2, .int .i64 e2, .string t2, .slice LA2 ln2 lc2, .slice KA2 kn2 kc2] 53)
        have hz1 : (wr.alloc (.cells #[.int .i64 k2, .bool neg2, .slice A2 n2 c2, .int .i64 e2, .string t2, .slice LA2 ln2 lc2, .slice KA2 kn2 kc2] 53)).heap.size = wr.heap.size + 1 := by simp
        generalize (wr.alloc (.cells #[.int .i64 k2, .bool neg2, .slice A2 n2 c2, .int .i64 e2, .string t2, .slice LA2 ln2 lc2, .slice KA2 kn2 kc2] 53)) = W1 at *
        have hwW1 := HBEL.out.trans (hW1.mono HBEL.out.size)
        have hcw : ∀ j, j < 7 → W1.cell? ⟨b2, o2 + (k * 7 + j), none⟩ = _ := fun j hj => (hwW1.cell (p := ⟨b2, o2 + (k * 7 + j), none⟩) (HHS.out _ hSb2)).trans (hcc j hj)
        have g0 : W1.cell? ⟨b2, o2 + k * 7, none⟩ = some (.int .i64 k3) := hcw 0 (by omega)
        have g1 : W1.cell? ⟨b2, o2 + k * 7 + 1, none⟩ = some (.bool neg3) := hcw 1 (by omega)
        have g2 : W1.cell? ⟨b2, o2 + k * 7 + 2, none⟩ = some (.slice A3 n3 c3) := hcw 2 (by omega)
        have g3 : W1.cell? ⟨b2, o2 + k * 7 + 3, none⟩ = some (.int .i64 e3) := hcw 3 (by omega)
        have g4 : W1.cell? ⟨b2, o2 + k * 7 + 4, none⟩ = some (.string t3) := hcw 4 (by omega)
        have g5 : W1.cell? ⟨b2, o2 + k * 7 + 5, none⟩ = some (.slice LA3 ln3 lc3) := hcw 5 (by omega)
        have g6 : W1.cell? ⟨b2, o2 + k * 7 + 6, none⟩ = some (.slice KA3 kn3 kc3) := hcw 6 (by omega)
        clear d0 d1 d2 d3 d4 d5 d6 hcw hcc hcl
        go_upto_region 7 with fail
        have hW2 : Below W1.heap.size W1 (W1.alloc (.cells #[.int .i64 k3, .bool neg3, .slice A3 n3 c3, .int .i64 e3, .string t3, .slice LA3 ln3 lc3, .slice KA3 kn3 kc3] 53)) := (Below.refl _ W1).alloc (Nat.le_refl _) _
        have hm2 := World.alloc_heap_new W1 (.cells #[.int .i64 k3, .bool neg3, .slice A3 n3 c3, .int .i64 e3, .string t3, .slice LA3 ln3 lc3, .slice KA3 kn3 kc3] 53)
        have hz2 : (W1.alloc (.cells #[.int .i64 k3, .bool neg3, .slice A3 n3 c3, .int .i64 e3, .string t3, .slice LA3 ln3 lc3, .slice KA3 kn3 kc3] 53)).heap.size = W1.heap.size + 1 := by simp
        generalize (W1.alloc (.cells #[.int .i64 k3, .bool neg3, .slice A3 n3 c3, .int .i64 e3, .string t3, .slice LA3 ln3 lc3, .slice KA3 kn3 kc3] 53)) = W2 at *
        have hm12 := (hW2.block _ (by omega)).trans hm1
        have hwW2 := hwW1.trans (hW2.mono hwW1.size)
        clear g0 g1 g2 g3 g4 g5 g6 hm1
        obtain ⟨x0, x1, x2, x3, x4, x5, x6⟩ := box7_of hm12
        rw [hz1] at hm2
        obtain ⟨y0, y1, y2, y3, y4, y5, y6⟩ := box7_of hm2
        have hxm := List.mem_of_getElem? HX.out
        have HC := (HHL.out x hxm).1 y S _ _ W2 (HHL.out x hxm).2 (HHR.out y (List.mem_of_getElem? hy)) (HVX.out.keep fun p hp => hwW2.cell (HHS.out _ hp)) (hvy.keep fun p hp => hwW2.cell (HHS.out _ hp)) (fun b hb => Nat.lt_of_lt_of_le (HHS.out b hb) hwW2.size)
        obtain ⟨z, hz⟩ : ∃ z, ordV x y = z := ⟨_, rfl⟩
        have hstep := lexC_step ordV HX.out hy
        rw [HLX.out, hz] at hstep
        rw [hz] at HC
        have HST := Lib.hid hstep
        have HWW2 := Lib.hid hwW2
        clear hz hstep hy hvy hvy2 hy2 hW1 hW2 hwW1 hwW2 hm2 hm12
        by_cases hz0 : z = 0
        · subst hz0
          have HR2 : Hid (lexC ordV (l.drop (k + 1)) (r.drop (k + 1)) = R) := by
            have := HST.out
            rw [if_pos rfl] at this
            exact this.symm
          clear HST
          go_wp2_with fail
          refine HC.mono ?_
          rintro e' W3 ⟨rfl, hb3⟩
          have hb4 := HWW2.out.trans (hb3.mono HWW2.out.size)
          clear HC hb3 x0 x1 x2 x3 x4 x5 x6 y0 y1 y2 y3 y4 y5 y6
          go_wp2_with fail
          go_roundw
          case rel => exact ⟨k + 1, by omega, by go_num, HR2, hb4⟩
          case measure => simp [RowKit.intOf]; omega
        · have hz1' : (z == 0) = false := by rw [beq_eq_false_iff_ne]; exact hz0
          have HR2 : Hid (R = z) := by
            have := HST.out
            rw [if_neg hz0] at this
            exact this
          clear HST
          go_wp2_with fail
          refine HC.mono ?_
          rintro e' W3 ⟨rfl, hb3⟩
          have hb4 := HWW2.out.trans (hb3.mono HWW2.out.size)
          clear HC hb3 x0 x1 x2 x3 x4 x5 x6 y0 y1 y2 y3 y4 y5 y6
          go_wp2_with fail
          go_ret
          refine ⟨?_, hb4⟩
          rw [HR2.out]; rfl
      · have hlm : (m : Int) ≤ (k : Int) := by omega
        have HR2 : Hid (R = 1) := by
          show _ = _
          rw [← HLX.out, lexC_stop ordV HX.out (by have := HL2.out; omega)]
        go_wp2_with fail
        go_ret
        refine ⟨?_, HBEL.out.alloc HBEL.out.size _⟩
        rw [HR2.out]; rfl
    · have hge : ¬ (k : Int) < (n : Int) := by omega
      have hkn2 : k = n := by omega
      have HR2 : Hid (R = if n < m then -1 else 0) := by
        show _ = _
        rw [← HLX.out, lexC_end ordV (by have := HL1.out; omega), HL2.out, hkn2]
      clear hkn2
      by_cases hnm : n < m
      · have hnm2 : (n : Int) < (m : Int) := by omega
        rw [if_pos hnm] at HR2
        go_wp2_with fail
        go_ret
        refine ⟨?_, HBEL.out⟩
        rw [HR2.out]; rfl
      · have hnm2 : ¬ (n : Int) < (m : Int) := by omega
        rw [if_neg hnm] at HR2
        go_wp2_with fail
        go_ret
        refine ⟨?_, HBEL.out⟩
        rw [HR2.out]; rfl

set_option maxRecDepth 100000 in
set_option maxHeartbeats 4000000 in
theorem compareO_n : ∀ (N : Nat) (x : VT), SizeOf.sizeOf x < N → CmpO x := by
  intro N
  induction N with
  | zero => intro x h; exact absurd h (Nat.not_lt_zero _)
  | succ N ih =>
    intro x hN y S cs ds w hfx hfy hvx hvy hS
    obtain ⟨k1, n1, u1, e1, t1, l1, ks1⟩ := x
    obtain ⟨k2, n2, u2, e2, t2, l2, ks2⟩ := y
    obtain ⟨A1, m1, c1, LA1, lm1, lc1, KA1, km1, kc1, rfl, a1, a2, a3, a4, a5, a6, a7⟩ := hvx.parts
    obtain ⟨A2, m2, c2, LA2, lm2, lc2, KA2, km2, kc2, rfl, b1, b2, b3, b4, b5, b6, b7⟩ := hvy.parts
    have hli : ∀ z ∈ l1, CmpO z ∧ fine z := fun z hz => ⟨ih z (by have := size_list (k := k1) (n := n1) (x := u1) (e := e1) (t := t1) (ks := ks1) hz; omega), fine_list hfx hz⟩
    have hlj : ∀ z ∈ l2, fine z := fun z hz => fine_list hfy hz
    obtain ⟨R, hR⟩ : ∃ R, ordV (.mk k1 n1 u1 e1 t1 l1 ks1) (.mk k2 n2 u2 e2 t2 l2 ks2) = R := ⟨_, rfl⟩
    rw [hR]
    rw [ord_or hfx hfy] at hR
    have hok : okE2 n1 u1 e1 n2 u2 e2 = 0 := okE2_zero.2 ⟨fine_okB hfx, fine_okB hfy⟩
    obtain ⟨N, hNN⟩ : ∃ N, cmpI (sv n1 (val u1) e1) (sv n2 (val u2) e2) = N := ⟨_, rfl⟩
    rw [hNN] at hR
    have HLI := Lib.hid hli
    have HLJ := Lib.hid hlj
    have HHS := Lib.hid hS
    have HR := Lib.hid hR
    clear ih hN hfx hfy hvx hvy hli hlj hS hR
    have hW : Below w.heap.size w ((w.alloc (.cells #[.int .i64 k1, .bool n1, .slice A1 m1 c1, .int .i64 e1, .string t1, .slice LA1 lm1 lc1, .slice KA1 km1 kc1] 53)).alloc (.cells #[.int .i64 k2, .bool n2, .slice A2 m2 c2, .int .i64 e2, .string t2, .slice LA2 lm2 lc2, .slice KA2 km2 kc2] 53)) := ((Below.refl _ w).alloc (Nat.le_refl _) _).alloc (by simp) _
    have hm1 : ((w.alloc (.cells #[.int .i64 k1, .bool n1, .slice A1 m1 c1, .int .i64 e1, .string t1, .slice LA1 lm1 lc1, .slice KA1 km1 kc1] 53)).alloc (.cells #[.int .i64 k2, .bool n2, .slice A2 m2 c2, .int .i64 e2, .string t2, .slice LA2 lm2 lc2, .slice KA2 km2 kc2] 53)).heap[w.heap.size]? = some (.cells #[.int .i64 k1, .bool n1, .slice A1 m1 c1, .int .i64 e1, .string t1, .slice LA1 lm1 lc1, .slice KA1 km1 kc1] 53) := (Below.heap_alloc _ _ _ (by simp)).trans (World.alloc_heap_new w _)
    have hm2 : ((w.alloc (.cells #[.int .i64 k1, .bool n1, .slice A1 m1 c1, .int .i64 e1, .string t1, .slice LA1 lm1 lc1, .slice KA1 km1 kc1] 53)).alloc (.cells #[.int .i64 k2, .bool n2, .slice A2 m2 c2, .int .i64 e2, .string t2, .slice LA2 lm2 lc2, .slice KA2 km2 kc2] 53)).heap[w.heap.size + 1]? = some (.cells #[.int .i64 k2, .bool n2, .slice A2 m2 c2, .int .i64 e2, .string t2, .slice LA2 lm2 lc2, .slice KA2 km2 kc2] 53) := by
      have := World.alloc_heap_new (w.alloc (.cells #[.int .i64 k1, .bool n1, .slice A1 m1 c1, .int .i64 e1, .string t1, .slice LA1 lm1 lc1, .slice KA1 km1 kc1] 53)) (.cells #[.int .i64 k2, .bool n2, .slice A2 m2 c2, .int .i64 e2, .string t2, .slice LA2 lm2 lc2, .slice KA2 km2 kc2] 53)
      rwa [World.size_alloc] at this
    have hz : ((w.alloc (.cells #[.int .i64 k1, .bool n1, .slice A1 m1 c1, .int .i64 e1, .string t1, .slice LA1 lm1 lc1, .slice KA1 km1 kc1] 53)).alloc (.cells #[.int .i64 k2, .bool n2, .slice A2 m2 c2, .int .i64 e2, .string t2, .slice LA2 lm2 lc2, .slice KA2 km2 kc2] 53)).heap.size = w.heap.size + 2 := by simp
    go_enter Tryz.func90, Tryz.ntmps90
    go_upto_region 1 with fail
    generalize ((w.alloc (.cells #[.int .i64 k1, .bool n1, .slice A1 m1 c1, .int .i64 e1, .string t1, .slice LA1 lm1 lc1, .slice KA1 km1 kc1] 53)).alloc (.cells #[.int .i64 k2, .bool n2, .slice A2 m2 c2, .int .i64 e2, .string t2, .slice LA2 lm2 lc2, .slice KA2 km2 kc2] 53)) = W1 at *
    obtain ⟨x0, x1, x2, x3, x4, x5, x6⟩ := box7_of hm1
    obtain ⟨y0, y1, y2, y3, y4, y5, y6⟩ := box7_of hm2
    have HD := DCompare_v (c := c1) (d := c2) n1 n2 e1 e2 W1 (a1.below hW HHS.out) (b1.below hW HHS.out) (fun b hb => by have := HHS.out b hb; omega) (by omega) (by omega)
    rw [hok] at HD
    unfold cmpV at HD
    rw [if_pos hok, hNN] at HD
    unfold dv at HD
    clear hok hNN
    go_wp2_with fail
    refine HD.mono ?_
    rintro e' w3 ⟨rfl, hb3⟩
    clear HD x0 x1 x2 x3 x4 x5 x6 y0 y1 y2 y3 y4 y5 y6
    have hw3 := hW.trans (hb3.mono hW.size)
    have hzz := hb3.size
    have g1 := (hb3.block _ (by omega)).trans hm1
    have g2 := (hb3.block _ (by omega)).trans hm2
    have hSS : ∀ W, Below w3.heap.size w3 W → W.cell? ⟨w.heap.size, 0, none⟩ = some (.int .i64 k1) ∧ W.cell? ⟨w.heap.size, 4, none⟩ = some (.string t1) ∧ W.cell? ⟨w.heap.size, 6, none⟩ = some (.slice KA1 km1 kc1) ∧ W.cell? ⟨w.heap.size + 1, 0, none⟩ = some (.int .i64 k2) ∧ W.cell? ⟨w.heap.size + 1, 4, none⟩ = some (.string t2) ∧ W.cell? ⟨w.heap.size + 1, 6, none⟩ = some (.slice KA2 km2 kc2) := fun W hW => by
      obtain ⟨x0, x1, x2, x3, x4, x5, x6⟩ := box7_of ((hW.block _ (by omega)).trans g1)
      obtain ⟨y0, y1, y2, y3, y4, y5, y6⟩ := box7_of ((hW.block _ (by omega)).trans g2)
      exact ⟨x0, x4, x6, y0, y4, y6⟩
    have HSS := Lib.hid hSS
    have HW3 := Lib.hid hw3
    clear hSS hm1 hm2 hW hw3 hb3
    go_upto_region 2 with fail
    refine wp_region_held_drew (S := fun w' => w'.cell? ⟨w.heap.size, 0, none⟩ = some (.int .i64 k1) ∧ w'.cell? ⟨w.heap.size, 4, none⟩ = some (.string t1) ∧ w'.cell? ⟨w.heap.size, 6, none⟩ = some (.slice KA1 km1 kc1) ∧ w'.cell? ⟨w.heap.size + 1, 0, none⟩ = some (.int .i64 k2) ∧ w'.cell? ⟨w.heap.size + 1, 4, none⟩ = some (.string t2) ∧ w'.cell? ⟨w.heap.size + 1, 6, none⟩ = some (.slice KA2 km2 kc2)) (by kernel_rfl) (HSS.out _ (Below.refl _ _).drew) (fun hHeld => ?_)
    (try simp only [List.size_toArray, List.length_cons, List.length_nil, Nat.reduceAdd, Array.replicate_succ, Array.replicate_zero, List.push_toArray, List.append_toArray, List.nil_append, List.cons_append])
    refine wpAnyH_take (i := 0) (oi := ⟨_, _, _, _, _, _⟩) (v := ?_) rfl (by kernel_rfl) (by kernel_rfl) (by kernel_rfl) (fun _ _ _ h => h) (Or.inl ⟨by rfl, ?_⟩) (by assumption) ?_
    rotate_left
    · intro w hSw
      (try dsimp only at hSw)
      go_split_ands
      go_simp
      try with_reducible rfl
    try simp only [Act.put, List.setIfInBounds_toArray, List.set_cons_zero, List.set_cons_succ]
    refine wpAnyH_take (i := 1) (oi := ⟨_, _, _, _, _, _⟩) (v := ?_) rfl (by kernel_rfl) (by kernel_rfl) (by kernel_rfl) (fun _ _ _ h => h) (Or.inl ⟨by rfl, ?_⟩) (by assumption) ?_
    rotate_left
    · intro w hSw
      (try dsimp only at hSw)
      go_split_ands
      go_simp
      try with_reducible rfl
    try simp only [Act.put, List.setIfInBounds_toArray, List.set_cons_zero, List.set_cons_succ]
    refine wpAnyH_take (i := 2) (oi := ⟨_, _, _, _, _, _⟩) (v := ?_) rfl (by kernel_rfl) (by kernel_rfl) (by kernel_rfl) (fun _ _ _ h => h) (Or.inl ⟨by rfl, ?_⟩) (by assumption) ?_
    rotate_left
    · intro w hSw
      (try dsimp only at hSw)
      go_split_ands
      go_simp
      try with_reducible rfl
    try simp only [Act.put, List.setIfInBounds_toArray, List.set_cons_zero, List.set_cons_succ]
    refine wpAnyH_take (i := 3) (oi := ⟨_, _, _, _, _, _⟩) (v := ?_) rfl (by kernel_rfl) (by kernel_rfl) (by kernel_rfl) (fun _ _ _ h => h) (Or.inl ⟨by rfl, ?_⟩) (by assumption) ?_
    rotate_left
    · intro w hSw
      (try dsimp only at hSw)
      go_split_ands
      go_simp
      try with_reducible rfl
    try simp only [Act.put, List.setIfInBounds_toArray, List.set_cons_zero, List.set_cons_succ]
    refine wpAnyH_take (i := 5) (oi := ⟨_, _, _, _, _, _⟩) (v := ?_) rfl (by kernel_rfl) (by kernel_rfl) (by kernel_rfl) (fun _ _ _ h => h) (Or.inl ⟨by rfl, ?_⟩) (by assumption) ?_
    rotate_left
    · intro w hSw
      (try dsimp only at hSw)
      go_split_ands
      go_simp
      try with_reducible rfl
    try simp only [Act.put, List.setIfInBounds_toArray, List.set_cons_zero, List.set_cons_succ]
    refine wpAnyH_take (i := 6) (oi := ⟨_, _, _, _, _, _⟩) (v := ?_) rfl (by kernel_rfl) (by kernel_rfl) (by kernel_rfl) (fun _ _ _ h => h) (Or.inl ⟨by rfl, ?_⟩) (by assumption) ?_
    rotate_left
    · intro w hSw
      (try dsimp only at hSw)
      go_split_ands
      go_simp
      try with_reducible rfl
    try simp only [Act.put, List.setIfInBounds_toArray, List.set_cons_zero, List.set_cons_succ]
    refine wpAnyH_take (i := 7) (oi := ⟨_, _, _, _, _, _⟩) (v := ?_) rfl (by kernel_rfl) (by kernel_rfl) (by kernel_rfl) (fun _ _ _ h => h) (Or.inl ⟨by rfl, ?_⟩) (by assumption) ?_
    rotate_left
    · intro w hSw
      (try dsimp only at hSw)
      go_split_ands
      go_simp
      try with_reducible rfl
    try simp only [Act.put, List.setIfInBounds_toArray, List.set_cons_zero, List.set_cons_succ]
    refine wpAnyH_take (i := 8) (oi := ⟨_, _, _, _, _, _⟩) (v := ?_) rfl (by kernel_rfl) (by kernel_rfl) (by kernel_rfl) (fun _ _ _ h => h) (Or.inl ⟨by rfl, ?_⟩) (by assumption) ?_
    rotate_left
    · intro w hSw
      (try dsimp only at hSw)
      go_split_ands
      go_simp
      try with_reducible rfl
    try simp only [Act.put, List.setIfInBounds_toArray, List.set_cons_zero, List.set_cons_succ]
    refine wpAnyH_take (i := 9) (oi := ⟨_, _, _, _, _, _⟩) (v := ?_) rfl (by kernel_rfl) (by kernel_rfl) (by kernel_rfl) (fun _ _ _ h => h) (Or.inl ⟨by rfl, ?_⟩) (by assumption) ?_
    rotate_left
    · intro w hSw
      (try dsimp only at hSw)
      go_split_ands
      go_simp
      try with_reducible rfl
    try simp only [Act.put, List.setIfInBounds_toArray, List.set_cons_zero, List.set_cons_succ]
    refine wpAnyH_take (i := 11) (oi := ⟨_, _, _, _, _, _⟩) (v := ?_) rfl (by kernel_rfl) (by kernel_rfl) (by kernel_rfl) (fun _ _ _ h => h) (Or.inl ⟨by rfl, ?_⟩) (by assumption) ?_
    rotate_left
    · intro w hSw
      (try dsimp only at hSw)
      go_split_ands
      go_simp
      try with_reducible rfl
    try simp only [Act.put, List.setIfInBounds_toArray, List.set_cons_zero, List.set_cons_succ]
    refine wpAnyH_take (i := 12) (oi := ⟨_, _, _, _, _, _⟩) (v := ?_) rfl (by kernel_rfl) (by kernel_rfl) (by kernel_rfl) (fun _ _ _ h => h) (Or.inl ⟨by rfl, ?_⟩) (by assumption) ?_
    rotate_left
    · intro w hSw
      (try dsimp only at hSw)
      go_split_ands
      go_simp
      try with_reducible rfl
    try simp only [Act.put, List.setIfInBounds_toArray, List.set_cons_zero, List.set_cons_succ]
    refine wpAnyH_take (i := 13) (oi := ⟨_, _, _, _, _, _⟩) (v := ?_) rfl (by kernel_rfl) (by kernel_rfl) (by kernel_rfl) (fun _ _ _ h => h) (Or.inl ⟨by rfl, ?_⟩) (by assumption) ?_
    rotate_left
    · intro w hSw
      (try dsimp only at hSw)
      go_split_ands
      go_simp
      try with_reducible rfl
    try simp only [Act.put, List.setIfInBounds_toArray, List.set_cons_zero, List.set_cons_succ]
    refine wpAnyH_take (i := 14) (oi := ⟨_, _, _, _, _, _⟩) (v := ?_) rfl (by kernel_rfl) (by kernel_rfl) (by kernel_rfl) (fun _ _ _ h => h) (Or.inl ⟨by rfl, ?_⟩) (by assumption) ?_
    rotate_left
    · intro w hSw
      (try dsimp only at hSw)
      go_split_ands
      go_simp
      try with_reducible rfl
    try simp only [Act.put, List.setIfInBounds_toArray, List.set_cons_zero, List.set_cons_succ]
    refine wpAnyH_ready (rs := [4]) (by kernel_rfl) (by simp) (AllReadyH.cons (o := ⟨_, _, _, _, _, _⟩) rfl (fun K hK => ?_) AllReadyH.nil)
    go_simp
    refine (cmpInt_c k1 k2 w3.drew).mono ?_
    rintro e' w' ⟨rfl, rfl⟩
    (try dsimp only)
    refine hK.out _ _ (HSS.out _ (Below.refl _ _).drew) (fun hHeld2 => ?_)
    clear hK K hHeld
    try simp only [Act.put, List.setIfInBounds_toArray, List.set_cons_zero, List.set_cons_succ]
    refine wpAnyH_ready (rs := [10]) (by kernel_rfl) (by simp) (AllReadyH.cons (o := ⟨_, _, _, _, _, _⟩) rfl (fun K hK => ?_) AllReadyH.nil)
    go_simp
    refine (cmpStr_c t1 t2 w3.drew).mono ?_
    rintro e' w' ⟨rfl, rfl⟩
    (try dsimp only)
    refine hK.out _ _ (HSS.out _ (Below.refl _ _).drew) (fun hHeld3 => ?_)
    clear hK K hHeld2
    try simp only [Act.put, List.setIfInBounds_toArray, List.set_cons_zero, List.set_cons_succ]
    refine wpAnyH_ready (rs := [15]) (by kernel_rfl) (by simp) (AllReadyH.cons (o := ⟨_, _, _, _, _, _⟩) rfl (fun K hK => ?_) AllReadyH.nil)
    go_simp
    have HX := lexT_c (c := kc1) (d := kc2) w3.drew (a5.stay HW3.out.drew HHS.out) (b5.stay HW3.out.drew HHS.out) (by omega) (by omega)
    obtain ⟨z, hzk⟩ : ∃ z, lexC cmpB ks1 ks2 = z := ⟨_, rfl⟩
    have HZK := Lib.hid hzk
    rw [hzk] at HX
    clear hzk
    refine HX.mono ?_
    rintro e' w4 ⟨rfl, q, rfl⟩
    (try dsimp only)
    have hb4 : Below w3.heap.size w3 (w3.drew.drewN q) := below_drewN (Below.refl _ _).drew q
    refine hK.out _ _ (HSS.out _ hb4) (fun hHeld4 => ?_)
    clear hK K hHeld3 HX
    try simp only [Act.put, List.setIfInBounds_toArray, List.set_cons_zero, List.set_cons_succ]
    refine wpAnyH_ready (rs := [16]) (by kernel_rfl) (by simp) (AllReadyH.cons (o := ⟨_, _, _, _, _, _⟩) rfl (fun K hK => ?_) AllReadyH.nil)
    go_simp
    have hb5 : Below w3.heap.size w3 ((w3.drewN (1 + q)).alloc (.cells #[.int .i64 (cmpI k1 k2), .int .i64 N, .int .i64 (cmpB t1 t2), .int .i64 z] 3)) := (below_drewN (Below.refl w3.heap.size w3) (1 + q)).alloc (by simp) _
    have hnew : ((w3.drewN (1 + q)).alloc (.cells #[.int .i64 (cmpI k1 k2), .int .i64 N, .int .i64 (cmpB t1 t2), .int .i64 z] 3)).heap[w3.heap.size]? = some (.cells #[.int .i64 (cmpI k1 k2), .int .i64 N, .int .i64 (cmpB t1 t2), .int .i64 z] 3) := World.alloc_heap_new (w3.drewN (1 + q)) _
    have HO := or_c (b := w3.heap.size) (n := 4) (zs := [cmpI k1 k2, N, cmpB t1 t2, z]) ((w3.drewN (1 + q)).alloc (.cells #[.int .i64 (cmpI k1 k2), .int .i64 N, .int .i64 (cmpB t1 t2), .int .i64 z] 3)) rfl (by omega) (fun i v hi => by
      match i, hi with
      | 0, hi => injection hi with hi; subst hi; exact cell_at hnew rfl
      | 1, hi => injection hi with hi; subst hi; exact cell_at hnew rfl
      | 2, hi => injection hi with hi; subst hi; exact cell_at hnew rfl
      | 3, hi => injection hi with hi; subst hi; exact cell_at hnew rfl)
    obtain ⟨F, hF⟩ : ∃ F, firstNZ [cmpI k1 k2, N, cmpB t1 t2, z] = F := ⟨_, rfl⟩
    rw [hF] at HO
    have HRF : Hid ((if F = 0 then ordL l1 l2 else F) = R) := Lib.hid (by
      have h := HR.out
      rw [HZK.out, hF] at h
      exact h)
    clear hF hnew
    refine hK.out _ _ (HSS.out _ hb5) (fun hHeld5 => ?_)
    clear hK K hHeld4
    try simp only [Act.put, List.setIfInBounds_toArray, List.set_cons_zero, List.set_cons_succ]
    refine wpAnyH_ready (rs := [17]) (by kernel_rfl) (by simp) (AllReadyH.cons (o := ⟨_, _, _, _, _, _⟩) rfl (fun K hK => ?_) AllReadyH.nil)
    go_simp
    refine HO.mono ?_
    rintro e' w' ⟨rfl, rfl⟩
    (try dsimp only)
    refine hK.out _ _ (HSS.out _ hb5) (fun hHeld6 => ?_)
    clear hK K hHeld5 HO
    try simp only [Act.put, List.setIfInBounds_toArray, List.set_cons_zero, List.set_cons_succ]
    refine wpAnyH_take (i := 18) (oi := ⟨_, _, _, _, _, _⟩) (v := ?_) rfl (by kernel_rfl) (by kernel_rfl) (by kernel_rfl) (fun _ _ _ h => h) (Or.inl ⟨by rfl, ?_⟩) (by assumption) ?_
    rotate_left
    · intro w hSw
      (try dsimp only at hSw)
      go_split_ands
      go_simp
      try with_reducible rfl
    try simp only [Act.put, List.setIfInBounds_toArray, List.set_cons_zero, List.set_cons_succ]
    refine wpAnyH_done (by kernel_rfl) ?_ _
    generalize ((w3.drewN (1 + q)).alloc (.cells #[.int .i64 (cmpI k1 k2), .int .i64 N, .int .i64 (cmpB t1 t2), .int .i64 z] 3)) = w5 at *
    have g5 := (hb5.block _ (by omega)).trans g1
    have h5 := (hb5.block _ (by omega)).trans g2
    have HW5 := Lib.hid (HW3.out.trans (hb5.mono HW3.out.size))
    clear hb4 hb5 hHeld6 HSS g1 g2
    obtain ⟨x0, x1, x2, x3, x4, x5, x6⟩ := box7_of g5
    obtain ⟨y0, y1, y2, y3, y4, y5, y6⟩ := box7_of h5
    by_cases hF0 : F = 0
    · subst hF0
      have HR2 : Hid (ordL l1 l2 = R) := Lib.hid (by have := HRF.out; rwa [if_pos rfl] at this)
      go_wp2_with fail
      have HL := lexO_c (c := lc1) (d := lc2) w5 (a4.stay HW5.out HHS.out) (b4.stay HW5.out HHS.out) (fun b hb => Nat.lt_of_lt_of_le (HHS.out b hb) HW5.out.size) HLI.out HLJ.out
      rw [HR2.out] at HL
      refine HL.mono ?_
      rintro e' w6 ⟨rfl, hb6⟩
      go_wp2_with fail
      go_ret
      exact ⟨rfl, HW5.out.trans (hb6.mono HW5.out.size)⟩
    · have HR2 : Hid (F = R) := Lib.hid (by have := HRF.out; rwa [if_neg hF0] at this)
      have hF1 : (F == 0) = false := by rw [beq_eq_false_iff_ne]; exact hF0
      go_wp2_with fail
      go_ret
      refine ⟨?_, HW5.out⟩
      rw [← HR2.out]
      rfl
theorem compareO_c (x : VT) : CmpO x := compareO_n _ x (Nat.lt_succ_self _)
end Go.Proofs.YtjjpagdnjafgaaaGreatDoor
