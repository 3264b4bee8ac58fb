/-
  The walk of value's ValueKeys.
-/
import Derived.Test.YtklpfgjnlheikaaGreatDoorVget
import Derived.Test.YtklpfgjnlheikaaGreatDoorValv
import Derived.Deep.QuietTactic
import Derived.BigQuiet
set_option linter.unusedVariables false
set_option linter.unusedSimpArgs false
namespace Go.Proofs.YtklpfgjnlheikaaGreatDoor
open Go.RowKit

/-- Whether no key from p on (p itself apart), ahead of k, is that at p. -/
def lastB (ks : List ByteArray) (p k : Nat) : Bool := (List.range k).all fun q => decide (q ≤ p) || decide (ks.getD q ⟨#[]⟩ ≠ ks.getD p ⟨#[]⟩)
theorem set7_box {w : World} {b : Nat} {o0 o1 o2 o3 o4 o5 o6 : Value} {t : TypeId} (h : w.heap[b]? = some (.cells #[o0, o1, o2, o3, o4, o5, o6] t)) (v0 v1 v2 v3 v4 v5 v6 : Value) :
    (((((((w.setCell ⟨b, 0, none⟩ v0).setCell ⟨b, 1, none⟩ v1).setCell ⟨b, 2, none⟩ v2).setCell ⟨b, 3, none⟩ v3).setCell ⟨b, 4, none⟩ v4).setCell ⟨b, 5, none⟩ v5).setCell ⟨b, 6, none⟩ v6).heap[b]? = some (.cells #[v0, v1, v2, v3, v4, v5, v6] t) := by
  have h1 : (w.setCell ⟨b, 0, none⟩ v0).heap[b]? = some (.cells #[v0, o1, o2, o3, o4, o5, o6] t) := (setCell_box h v0).trans (by rfl)
  have h2 : ((w.setCell ⟨b, 0, none⟩ v0).setCell ⟨b, 1, none⟩ v1).heap[b]? = some (.cells #[v0, v1, o2, o3, o4, o5, o6] t) := (setCell_box h1 v1).trans (by rfl)
  have h3 : (((w.setCell ⟨b, 0, none⟩ v0).setCell ⟨b, 1, none⟩ v1).setCell ⟨b, 2, none⟩ v2).heap[b]? = some (.cells #[v0, v1, v2, o3, o4, o5, o6] t) := (setCell_box h2 v2).trans (by rfl)
  have h4 : ((((w.setCell ⟨b, 0, none⟩ v0).setCell ⟨b, 1, none⟩ v1).setCell ⟨b, 2, none⟩ v2).setCell ⟨b, 3, none⟩ v3).heap[b]? = some (.cells #[v0, v1, v2, v3, o4, o5, o6] t) := (setCell_box h3 v3).trans (by rfl)
  have h5 : (((((w.setCell ⟨b, 0, none⟩ v0).setCell ⟨b, 1, none⟩ v1).setCell ⟨b, 2, none⟩ v2).setCell ⟨b, 3, none⟩ v3).setCell ⟨b, 4, none⟩ v4).heap[b]? = some (.cells #[v0, v1, v2, v3, v4, o5, o6] t) := (setCell_box h4 v4).trans (by rfl)
  have h6 : ((((((w.setCell ⟨b, 0, none⟩ v0).setCell ⟨b, 1, none⟩ v1).setCell ⟨b, 2, none⟩ v2).setCell ⟨b, 3, none⟩ v3).setCell ⟨b, 4, none⟩ v4).setCell ⟨b, 5, none⟩ v5).heap[b]? = some (.cells #[v0, v1, v2, v3, v4, v5, o6] t) := (setCell_box h5 v5).trans (by rfl)
  have h7 : (((((((w.setCell ⟨b, 0, none⟩ v0).setCell ⟨b, 1, none⟩ v1).setCell ⟨b, 2, none⟩ v2).setCell ⟨b, 3, none⟩ v3).setCell ⟨b, 4, none⟩ v4).setCell ⟨b, 5, none⟩ v5).setCell ⟨b, 6, none⟩ v6).heap[b]? = some (.cells #[v0, v1, v2, v3, v4, v5, v6] t) := (setCell_box h6 v6).trans (by rfl)
  exact h7
theorem under_mem {y : VT} : ∀ {l : List VT}, y ∈ l → under y ≤ underL l
  | a :: r, h => by
    rcases List.mem_cons.1 h with rfl | h
    · show under y ≤ 1 + under y + underL r; omega
    · have := under_mem (y := y) (l := r) h
      show under y ≤ 1 + under a + underL r; omega
theorem lastB_start (ks : List ByteArray) (p : Nat) : lastB ks p (p + 1) = true := by
  unfold lastB
  rw [List.all_eq_true]
  intro q hq
  have := List.mem_range.1 hq
  simp; omega
theorem lastB_step (ks : List ByteArray) (p k : Nat) (h : p < k) : lastB ks p (k + 1) = (lastB ks p k && decide (ks.getD k ⟨#[]⟩ ≠ ks.getD p ⟨#[]⟩)) := by
  unfold lastB
  rw [List.range_succ, List.all_append]
  have : decide (k ≤ p) = false := by simp; omega
  simp [this]
theorem lastB_at {ks : List ByteArray} {p : Nat} (h : lastB ks p ks.length = true) (hp : p < ks.length) : lastAt ks (ks.getD p ⟨#[]⟩) ks.length = some p := by
  cases hl : lastAt ks (ks.getD p ⟨#[]⟩) ks.length with
  | none => exact absurd rfl (lastAt_none hl p hp)
  | some i =>
    obtain ⟨h1, h2, h3⟩ := lastAt_some hl
    rcases Nat.lt_trichotomy i p with h4 | h4 | h4
    · exact absurd rfl (h3 p h4 hp)
    · rw [h4]
    · unfold lastB at h
      rw [List.all_eq_true] at h
      have := h i (List.mem_range.2 h1)
      simp only [Bool.or_eq_true, decide_eq_true_eq] at this
      rcases this with h5 | h5
      · omega
      · exact absurd h2 h5

set_option maxRecDepth 100000 in
set_option maxHeartbeats 8000000 in
theorem valueKeys_c {S : Nat → Prop} (w : World) {KA LA : Option Addr} {n m kc lc : Nat} {ks : List ByteArray} {l : List VT} (hT : Tabs w) (hk : RdT w S KA n ks) (hl : RdL w S LA m l) (hn : n ≤ 8796093022208) (hm : m ≤ 1256584717458) (hS : ∀ b, S b → b < w.heap.size) :
    Calls Tryz.prog 7 #[.slice KA n kc, .slice LA m lc] w fun e w' => e = .returned (.bool true) ∧ Below w.heap.size w w' := by
  have hkl := hk.1
  have hll := hl.1
  have HK := Lib.hid hk
  have HL := Lib.hid hl
  have HS := Lib.hid hS
  have HT := Lib.hid hT
  clear hk hl hS hT
  have HA := alive_c w HT.out
  go_enter Tryz.func7, Tryz.ntmps7
  go_upto_region 2 with (first | (refine HA.mono ?_; rintro e' w1 ⟨rfl, hb1⟩))
  go_upto_region 3 with fail
  have HC := object_c (kc := kc) (lc := lc) w1 (HT.out.below hb1) (HK.out.stay hb1 HS.out) (HL.out.stay hb1 HS.out) hn hm (fun b hb => Nat.lt_of_lt_of_le (HS.out b hb) hb1.size)
  obtain ⟨E, hE⟩ : ∃ E, errO ks l = E := ⟨_, rfl⟩
  obtain ⟨R, hR⟩ : ∃ R, resO ks l = R := ⟨_, rfl⟩
  rw [hE, hR] at HC
  have HE := Lib.hid hE
  have HR := Lib.hid hR
  have HB1 := Lib.hid hb1
  clear hE hR hb1 HA
  go_wp2_with fail
  refine HC.mono ?_
  rintro e' w2 ⟨cs, rfl, hv, hb2⟩
  clear HC
  have HV := Lib.hid hv
  clear hv
  by_cases hE0 : E = 0
  · subst hE0
    have hR6 : R = objV ks l := by rw [← HR.out]; unfold resO; rw [if_pos HE.out]
    have HV6 : Hid (VIn w2 (Own' w1.heap.size w2) (objV ks l) cs) := Lib.hid (hR6 ▸ HV.out)
    obtain ⟨A, c0, c, LA2, ln, lc2, KA2, kn, kc2, rfl, _, _, _, hl2, hk2, _, _⟩ := HV6.out.parts
    have hok : okV (objV ks l) := by
      have h1 := HE.out
      unfold errO at h1
      split at h1
      · exact h1
      · exact absurd h1 (by decide)
    have hnm : n = m := by
      have h1 := HE.out
      unfold errO at h1
      split at h1
      · omega
      · exact absurd h1 (by decide)
    subst hnm
    have HOK := Lib.hid hok
    have HB2 := Lib.hid (HB1.out.trans (hb2.mono HB1.out.size))
    clear hR6 hok hb2
    have hkn := hk2.1
    have hkn2 : kn ≤ n := by have := keysB_length ks; omega
    have HK2 := Lib.hid hk2
    have HL2 := Lib.hid hl2
    clear hk2 hl2
    go_upto_region 4 with fail
    have hbx := World.alloc_heap_new w2 (.cells #[.int .i64 6, .bool false, .slice A c0 c, .int .i64 0, .string ⟨#[]⟩, .slice LA2 ln lc2, .slice KA2 kn kc2] 53)
    have hb3 : Below w2.heap.size w2 (w2.alloc (.cells #[.int .i64 6, .bool false, .slice A c0 c, .int .i64 0, .string ⟨#[]⟩, .slice LA2 ln lc2, .slice KA2 kn kc2] 53)) := (Below.refl _ w2).alloc (Nat.le_refl _) _
    generalize (w2.alloc (.cells #[.int .i64 6, .bool false, .slice A c0 c, .int .i64 0, .string ⟨#[]⟩, .slice LA2 ln lc2, .slice KA2 kn kc2] 53)) = w3 at *
    have HBX := Lib.hid hbx
    have HB3 := Lib.hid hb3
    have HB03 := Lib.hid (HB2.out.trans (hb3.mono HB2.out.size))
    have hz3 := (Array.getElem?_eq_some_iff.1 hbx).1
    clear hbx hb3
    go_upto_region 7 with (first | (go_at_call 35; refine (lnum_c _ _).mono ?_; rintro e' w' ⟨rfl, rfl⟩))
    go_loopw [7] (fun v wr => ∃ k q : Nat, (k ≤ kn ∨ k = 1) ∧ 1 ≤ k ∧ v = .int .i64 (k : Int) ∧ wr = w3.drewN q) (fun v _ => kn + 1 - (RowKit.intOf v).toNat)
    case atStart => exact ⟨1, 0, .inr rfl, Nat.le_refl _, rfl, rfl⟩
    case round =>
      obtain ⟨k, q, hk, hk1, rfl, rfl⟩ := hrel
      by_cases hkn3 : k < kn
      · obtain ⟨j, rfl⟩ : ∃ j, k = j + 1 := ⟨k - 1, by omega⟩
        obtain ⟨b1, o1, s1, rfl, hb1, hs1, hc1⟩ := HK2.out.at_ (k := j) (by omega)
        obtain ⟨b2, o2, s2, e2, _, hs2, hc2⟩ := HK2.out.at_ (k := j + 1) (by omega)
        rw [Option.some.injEq, Addr.mk.injEq] at e2
        obtain ⟨rfl, rfl, -⟩ := e2
        have hris : rises (keysB ks) = true := by
          have h1 := (okV_parts HOK.out).1 (objV ks l) (mem_parts.2 (.inl rfl))
          have h2 := (alone_fit h1).2.2
          unfold objV at h2
          rw [fitV_mk] at h2
          simp only [Bool.and_eq_true] at h2
          have h3 := h2
          simp at h3
          exact h3.1
        have hBL : Go.Op.bytesLess s1.toList s2.toList = true := (rises_iff _).1 hris j s1 s2 (by omega) hs1 hs2
        rw [bytesLess_eq, decide_eq_true_eq] at hBL
        have hL1 : Go.Op.bytesLess s2.toList s1.toList = false := by rw [bytesLess_eq, decide_eq_false_iff_not]; exact List.lt_asymm hBL
        have hL2 : (s2.toList == s1.toList) = false := by rw [beq_eq_false_iff_ne]; intro e; rw [e] at hBL; exact List.lt_irrefl _ hBL
        clear hBL
        have c1 : w3.cell? ⟨b1, o1 + j, none⟩ = some (.string s1) := (HB3.out.cell (p := ⟨b1, o1 + j, none⟩) hb1.2).trans hc1
        have c2 : w3.cell? ⟨b1, o1 + (j + 1), none⟩ = some (.string s2) := (HB3.out.cell (p := ⟨b1, o1 + (j + 1), none⟩) hb1.2).trans hc2
        have hji : (((j + 1 : Nat) : Int) - 1) = (j : Int) := by omega
        have hwj : IntKind.i64.wrap (j : Int) = (j : Int) := IntWalk.i64_in _ (by omega)
        have hjn : (j : Int) < (kn : Int) := by omega
        have hjn1 : (j : Int) + 1 < (kn : Int) := by omega
        have hjp : 0 ≤ (j : Int) + 1 := by omega
        have hjp0 : 0 ≤ (j : Int) := by omega
        have hjt : ((j : Int) + 1).toNat = j + 1 := by omega
        have hjt0 : ((j : Int)).toNat = j := by omega
        obtain ⟨x0, x1, x2, x3, x4, x5, x6⟩ := box7_of HBX.out
        clear hris hs1 hs2 hc1 hc2 hb1
        go_wp2
        go_quiet (fail)
        go_wp2
        go_roundw
        case rel => exact ⟨j + 1 + 1, _, .inl (by omega), by omega, by go_num, by first | rfl | (simp only [World.drewN_drewN])⟩
        case measure => first | (simp [intOf]; omega) | (simp [RowKit.intOf]; omega) | (show _ - _ < _ - _; simp only [RowKit.intOf]; omega)
      · have hnk : ¬ (k : Int) < (kn : Int) := by omega
        obtain ⟨x0, x1, x2, x3, x4, x5, x6⟩ := box7_of HBX.out
        have hwn : IntKind.i64.wrap ((n : Int) - 1) = (n : Int) - 1 := IntWalk.i64_in _ (by omega)
        go_upto_region 12 with fail
        clear x0 x1 x2 x3 x4 x5 x6 hk hk1 hnk
        have hwq : Below w3.heap.size w3 (w3.drewN q) := below_drewN (Below.refl _ _) q
        generalize (w3.drewN q) = wq at *
        have HWQ := Lib.hid hwq
        clear hwq
        go_loopw [8] (fun v wr => ∃ r : Nat, r ≤ n ∧ v = .int .i64 ((r : Int) - 1) ∧ Below w3.heap.size w3 wr) (fun v _ => ((RowKit.intOf v) + 1).toNat)
        case atStart => exact ⟨n, Nat.le_refl _, rfl, HWQ.out⟩
        case round =>
          obtain ⟨r, hrn, rfl, hbel⟩ := hrel
          have HBEL := Lib.hid hbel
          clear hbel
          by_cases hr0 : r = 0
          · subst hr0
            have hbx8 := (HBEL.out.block w2.heap.size hz3).trans HBX.out
            have hBend := HB03.out.trans (HBEL.out.mono HB03.out.size)
            have HBE := Lib.hid hBend
            clear hBend
            have hkn9 : (kn : Int) ≤ (n : Int) := by omega
            have hneg : ¬ (0 : Int) ≤ ((0 : Nat) : Int) - 1 := by omega
            have hneg2 : ((0 : Nat) : Int) - 1 = -1 := by omega
            obtain ⟨x0, x1, x2, x3, x4, x5, x6⟩ := box7_of hbx8
            rw [hneg2] at *
            clear hneg2
            go_wp2_with fail
            go_ret
            first | exact ⟨rfl, HBE.out⟩ | (trace_state; fail)
          · obtain ⟨p, rfl⟩ : ∃ p, r = p + 1 := ⟨r - 1, by omega⟩
            have hpi : (((p + 1 : Nat) : Int) - 1) = (p : Int) := by omega
            rw [hpi]
            have hp0 : (0 : Int) ≤ (p : Int) := by omega
            have hpn : (p : Int) < (n : Int) := by omega
            have hpt : ((p : Int)).toNat = p := by omega
            have hwp : IntKind.i64.wrap ((p : Int) + 1) = (p : Int) + 1 := IntWalk.i64_in _ (by omega)
            have hwp2 : IntKind.i64.wrap ((p : Int) - 1) = (p : Int) - 1 := IntWalk.i64_in _ (by omega)
            obtain ⟨b, off, rfl, hSb, hcp0, hszp⟩ := HK.out.getD (k := p) (by omega)
            obtain ⟨s, hs⟩ : ∃ s, ks.getD p ⟨#[]⟩ = s := ⟨_, rfl⟩
            rw [hs] at hcp0 hszp
            have hbw : b < w3.heap.size := by have h1 := HS.out b hSb; have h2 := HB03.out.size; omega
            have hcp3 : ∀ W, Below w3.heap.size w3 W → W.cell? ⟨b, off + p, none⟩ = some (.string s) := fun W hW => (hW.cell (p := ⟨b, off + p, none⟩) hbw).trans ((HB03.out.cell (p := ⟨b, off + p, none⟩) (HS.out b hSb)).trans hcp0)
            have hcp := hcp3 wr HBEL.out
            have HCP3 := Lib.hid hcp3
            have HS0 := Lib.hid hs
            clear hcp3 hcp0 hs
            go_upto_region 16 with fail
            go_loopw [9, 10] (fun lv kv wr' => ∃ k q : Nat, p + 1 ≤ k ∧ k ≤ n ∧ kv = .int .i64 (k : Int) ∧ lv = .bool (lastB ks p k) ∧ wr' = wr.drewN q) (fun _ kv _ => n - (RowKit.intOf kv).toNat)
            case atStart => exact ⟨p + 1, 0, Nat.le_refl _, by omega, by first | rfl | go_num, by rw [lastB_start], rfl⟩
            case round =>
              obtain ⟨k2, q2, hk1, hk2, rfl, rfl, rfl⟩ := hrel
              by_cases hkn4 : k2 < n
              · obtain ⟨b', off', e2, _, hcq0, hszq⟩ := HK.out.getD (k := k2) (by omega)
                rw [Option.some.injEq, Addr.mk.injEq] at e2
                obtain ⟨rfl, rfl, -⟩ := e2
                obtain ⟨t, ht⟩ : ∃ t, ks.getD k2 ⟨#[]⟩ = t := ⟨_, rfl⟩
                rw [ht] at hcq0
                have hcq : wr.cell? ⟨b, off + k2, none⟩ = some (.string t) := (HBEL.out.cell (p := ⟨b, off + k2, none⟩) hbw).trans ((HB03.out.cell (p := ⟨b, off + k2, none⟩) (HS.out b hSb)).trans hcq0)
                have hstep := lastB_step ks p k2 (by omega)
                rw [ht, HS0.out] at hstep
                have hkk : (k2 : Int) < (n : Int) := by omega
                have hkk0 : (0 : Int) ≤ (k2 : Int) := by omega
                have hkkt : ((k2 : Int)).toNat = k2 := by omega
                have hkkw : IntKind.i64.wrap ((k2 : Int) + 1) = (k2 : Int) + 1 := IntWalk.i64_in _ (by omega)
                clear hcq0 ht hszq
                cases hLB : lastB ks p k2 with
                | true =>
                  rw [hLB] at hstep
                  have HST := Lib.hid hstep
                  clear hstep hLB
                  by_cases hts : t = s
                  · subst hts
                    have hq : (t.toList == t.toList) = true := by simp
                    have hst2 : lastB ks p (k2 + 1) = false := by rw [HST.out]; simp
                    have HST2 := Lib.hid hst2
                    clear hst2
                    go_wp2
                    go_quiet (fail)
                    go_wp2
                    go_roundw
                    case rel => exact ⟨k2 + 1, _, by omega, by omega, by go_num, by rw [HST2.out], by first | rfl | (simp only [World.drewN_drewN])⟩
                    case measure => first | (simp [intOf]; omega) | (simp [RowKit.intOf]; omega) | (show _ - _ < _ - _; simp only [RowKit.intOf]; omega)
                  · have hq : (t.toList == s.toList) = false := by rw [ba_beq, decide_eq_false hts]
                    have hst2 : lastB ks p (k2 + 1) = true := by rw [HST.out]; simp [hts]
                    have HST2 := Lib.hid hst2
                    clear hst2 hts
                    go_wp2
                    go_quiet (fail)
                    go_wp2
                    go_roundw
                    case rel => exact ⟨k2 + 1, _, by omega, by omega, by go_num, by rw [HST2.out], by first | rfl | (simp only [World.drewN_drewN])⟩
                    case measure => first | (simp [intOf]; omega) | (simp [RowKit.intOf]; omega) | (show _ - _ < _ - _; simp only [RowKit.intOf]; omega)
                | false =>
                  have hst2 : lastB ks p (k2 + 1) = false := by rw [hstep, hLB]; simp
                  have HST2 := Lib.hid hst2
                  clear hstep hLB hst2
                  go_wp2
                  go_quiet (fail)
                  go_wp2
                  go_roundw
                  case rel => exact ⟨k2 + 1, _, by omega, by omega, by go_num, by rw [HST2.out], by first | rfl | (simp only [World.drewN_drewN])⟩
                  case measure => first | (simp [intOf]; omega) | (simp [RowKit.intOf]; omega) | (show _ - _ < _ - _; simp only [RowKit.intOf]; omega)
              · obtain rfl : k2 = n := by omega
                have hkk : ¬ (k2 : Int) < (k2 : Int) := by omega
                -- the place of the key in the object
                have hmem : s ∈ keysB ks := keysB_mem.2 (by
                  cases hl : lastAt ks s ks.length with
                  | none => exact absurd HS0.out (lastAt_none hl p (by omega))
                  | some i => rfl)
                obtain ⟨i0, hi0l, hi0⟩ := List.mem_iff_getElem.1 hmem
                have hi1 : (keysB ks)[i0]? = some s := by rw [List.getElem?_eq_getElem hi0l, hi0]
                have hlt1 : ∀ j, j < i0 → (keysB ks)[j]? ≠ some s := fun j hj e => by
                  have h1 := (List.getElem?_eq_some_iff.1 e).1
                  have h2 := List.pairwise_iff_getElem.1 (keysB_nodup ks) j i0 h1 hi0l hj
                  rw [List.getElem?_eq_getElem h1] at e
                  injection e with e
                  exact h2 (e.trans hi0.symm)
                obtain ⟨y, hy⟩ : ∃ y, lastV ks l s = y := ⟨_, rfl⟩
                have hy1 : ((keysB ks).map (lastV ks l))[i0]? = some y := by rw [List.getElem?_map, hi1, ← hy]; rfl
                have huy : under y ≤ 21474836 := by
                  have h1 := under_ok HOK.out
                  have h2 : underL ((keysB ks).map (lastV ks l)) ≤ 16383 := h1
                  have h3 := under_mem (List.mem_of_getElem? hy1)
                  omega
                have hwi : Below w3.heap.size w3 (wr.drewN q2) := below_drewN HBEL.out q2
                have HY := Lib.hid hy
                clear hy hi0 hmem hi0l
                go_upto_region 19 with fail
                generalize (wr.drewN q2) = wi at *
                have hbxi := (hwi.block w2.heap.size hz3).trans HBX.out
                obtain ⟨x0, x1, x2, x3, x4, x5, x6⟩ := box7_of hbxi
                have hck := HCP3.out wi hwi
                have hvi : VIn wi (Own' w1.heap.size w2) (objV ks l) [.int .i64 6, .bool false, .slice A c0 c, .int .i64 0, .string ⟨#[]⟩, .slice LA2 ln lc2, .slice KA2 kn kc2] := HV6.out.keep fun p hp => (hwi.cell (Nat.lt_trans hp.2 hz3)).trans (HB3.out.cell hp.2)
                have hHz : ∀ B, Own' w1.heap.size w2 B → B < wi.heap.size := fun B hB => by have h1 := hB.2; have h2 := hwi.size; omega
                have HVI := Lib.hid hvi
                have HWI := Lib.hid hwi
                have HHZ := Lib.hid hHz
                have HI1 := Lib.hid hi1
                have HLT1 := Lib.hid hlt1
                have HY1 := Lib.hid hy1
                clear hvi hwi hHz hi1 hlt1 hy1 hbxi
                refine wp_region_held_drew (S := fun w' => w'.cell? ⟨w2.heap.size, 0, none⟩ = some (.int .i64 6) ∧ w'.cell? ⟨w2.heap.size, 1, none⟩ = some (.bool false) ∧ w'.cell? ⟨w2.heap.size, 2, none⟩ = some (.slice A c0 c) ∧ w'.cell? ⟨w2.heap.size, 3, none⟩ = some (.int .i64 0) ∧ w'.cell? ⟨w2.heap.size, 4, none⟩ = some (.string ⟨#[]⟩) ∧ w'.cell? ⟨w2.heap.size, 5, none⟩ = some (.slice LA2 ln lc2) ∧ w'.cell? ⟨w2.heap.size, 6, none⟩ = some (.slice KA2 kn kc2) ∧ w'.cell? ⟨b, off + p, none⟩ = some (.string s)) (by kernel_rfl) ⟨x0, x1, x2, x3, x4, x5, x6, hck⟩ (fun hHeld => ?_)
                (try simp only [List.size_toArray, List.length_cons, List.length_nil, Nat.reduceAdd, Array.replicate_succ, Array.replicate_zero, List.push_toArray, List.append_toArray, List.nil_append, List.cons_append])
                refine wpAnyH_take (i := 0) (oi := ⟨_, _, _, _, _, _⟩) (v := ?_) rfl (by kernel_rfl) (by kernel_rfl) (by kernel_rfl) (fun _ _ _ h => h) (Or.inl ⟨by rfl, ?_⟩) (by assumption) ?_
                rotate_left
                · intro w hSw
                  (try dsimp only at hSw)
                  go_split_ands
                  go_simp
                  try with_reducible rfl
                try simp only [Act.put, List.setIfInBounds_toArray, List.set_cons_zero, List.set_cons_succ]
                refine wpAnyH_take (i := 1) (oi := ⟨_, _, _, _, _, _⟩) (v := ?_) rfl (by kernel_rfl) (by kernel_rfl) (by kernel_rfl) (fun _ _ _ h => h) (Or.inl ⟨by rfl, ?_⟩) (by assumption) ?_
                rotate_left
                · intro w hSw
                  (try dsimp only at hSw)
                  go_split_ands
                  go_simp
                  try with_reducible rfl
                try simp only [Act.put, List.setIfInBounds_toArray, List.set_cons_zero, List.set_cons_succ]
                refine wpAnyH_take (i := 2) (oi := ⟨_, _, _, _, _, _⟩) (v := ?_) rfl (by kernel_rfl) (by kernel_rfl) (by kernel_rfl) (fun _ _ _ h => h) (Or.inl ⟨by rfl, ?_⟩) (by assumption) ?_
                rotate_left
                · intro w hSw
                  (try dsimp only at hSw)
                  go_split_ands
                  go_simp
                  try with_reducible rfl
                try simp only [Act.put, List.setIfInBounds_toArray, List.set_cons_zero, List.set_cons_succ]
                refine wpAnyH_take (i := 3) (oi := ⟨_, _, _, _, _, _⟩) (v := ?_) rfl (by kernel_rfl) (by kernel_rfl) (by kernel_rfl) (fun _ _ _ h => h) (Or.inl ⟨by rfl, ?_⟩) (by assumption) ?_
                rotate_left
                · intro w hSw
                  (try dsimp only at hSw)
                  go_split_ands
                  go_simp
                  try with_reducible rfl
                try simp only [Act.put, List.setIfInBounds_toArray, List.set_cons_zero, List.set_cons_succ]
                refine wpAnyH_take (i := 4) (oi := ⟨_, _, _, _, _, _⟩) (v := ?_) rfl (by kernel_rfl) (by kernel_rfl) (by kernel_rfl) (fun _ _ _ h => h) (Or.inl ⟨by rfl, ?_⟩) (by assumption) ?_
                rotate_left
                · intro w hSw
                  (try dsimp only at hSw)
                  go_split_ands
                  go_simp
                  try with_reducible rfl
                try simp only [Act.put, List.setIfInBounds_toArray, List.set_cons_zero, List.set_cons_succ]
                refine wpAnyH_ready (rs := [5, 9]) (by kernel_rfl) (by simp) (AllReadyH.cons (o := ⟨_, _, _, _, _, _⟩) rfl (fun K hK => ?ga) (AllReadyH.cons (o := ⟨_, _, _, _, _, _⟩) rfl (fun K hK => ?gb) AllReadyH.nil))
                case' ga =>
                  go_simp
                  refine (get_c (x := objV ks l) wi.drew (HVI.out.keep fun _ _ => rfl) HHZ.out rfl HI1.out HLT1.out HY1.out huy).mono ?_
                  rintro e' w4 ⟨csy, rfl, hvy, hb4⟩
                  obtain ⟨k3, g3, u3, e3, t3, l3, s3, hy3⟩ : ∃ k neg xs e t li ks, y = VT.mk k neg xs e t li ks := by cases y; exact ⟨_, _, _, _, _, _, _, rfl⟩
                  have HVY := Lib.hid hvy
                  rw [hy3] at hvy
                  obtain ⟨A3, m3, c3, LA3, lm3, lc3, KA3, km3, kc3, rfl, -⟩ := hvy.parts
                  have hzi : w2.heap.size < wi.heap.size := Nat.lt_of_lt_of_le hz3 HWI.out.size
                  have hbi : b < wi.heap.size := Nat.lt_of_lt_of_le hbw HWI.out.size
                  have hW4 : ∀ {p : Addr}, p.block < wi.heap.size → w4.cell? p = wi.cell? p := fun {p} hp => hb4.cell (p := p) hp
                  refine hK.out _ _ ⟨(hW4 (p := ⟨w2.heap.size, 0, none⟩) hzi).trans x0, (hW4 (p := ⟨w2.heap.size, 1, none⟩) hzi).trans x1, (hW4 (p := ⟨w2.heap.size, 2, none⟩) hzi).trans x2, (hW4 (p := ⟨w2.heap.size, 3, none⟩) hzi).trans x3, (hW4 (p := ⟨w2.heap.size, 4, none⟩) hzi).trans x4, (hW4 (p := ⟨w2.heap.size, 5, none⟩) hzi).trans x5, (hW4 (p := ⟨w2.heap.size, 6, none⟩) hzi).trans x6, (hW4 (p := ⟨b, off + p, none⟩) hbi).trans hck⟩ (fun hHeld2 => ?_)
                  clear hK K hvy hHeld
                  try simp only [Act.put, List.setIfInBounds_toArray, List.set_cons_zero, List.set_cons_succ]
                  refine wpAnyH_take (i := 6) (oi := ⟨_, _, _, _, _, _⟩) (v := ?_) rfl (by kernel_rfl) (by kernel_rfl) (by kernel_rfl) (fun _ _ _ h => h) (Or.inl ⟨by rfl, ?_⟩) (by assumption) ?_
                  rotate_left
                  · intro w hSw
                    (try dsimp only at hSw)
                    go_split_ands
                    go_simp
                    try with_reducible rfl
                  try simp only [Act.put, List.setIfInBounds_toArray, List.set_cons_zero, List.set_cons_succ]
                  refine wpAnyH_take (i := 7) (oi := ⟨_, _, _, _, _, _⟩) (v := ?_) rfl (by kernel_rfl) (by kernel_rfl) (by kernel_rfl) (fun _ _ _ h => h) (Or.inl ⟨by rfl, ?_⟩) (by assumption) ?_
                  rotate_left
                  · intro w hSw
                    (try dsimp only at hSw)
                    go_split_ands
                    go_simp
                    try with_reducible rfl
                  try simp only [Act.put, List.setIfInBounds_toArray, List.set_cons_zero, List.set_cons_succ]
                  refine wpAnyH_take (i := 8) (oi := ⟨_, _, _, _, _, _⟩) (v := ?_) rfl (by kernel_rfl) (by kernel_rfl) (by kernel_rfl) (fun _ _ _ h => h) (Or.inl ⟨by rfl, ?_⟩) (by assumption) ?_
                  rotate_left
                  · intro w hSw
                    (try dsimp only at hSw)
                    go_split_ands
                    go_simp
                    try with_reducible rfl
                  try simp only [Act.put, List.setIfInBounds_toArray, List.set_cons_zero, List.set_cons_succ]
                  refine wpAnyH_ready (rs := [9]) (by kernel_rfl) (by simp) (AllReadyH.cons (o := ⟨_, _, _, _, _, _⟩) rfl (fun K hK => ?_) AllReadyH.nil)
                  go_simp
                  have hW5 : ∀ {p : Addr}, p.block < wi.heap.size → (w4.alloc (.cells #[.int .i64 0, .bool false, .slice none 0 0, .int .i64 0, .string ⟨#[]⟩, .slice none 0 0, .slice none 0 0] 53)).cell? p = wi.cell? p := fun {p} hp => (((Below.refl w4.heap.size w4).alloc (Nat.le_refl _) _).cell (p := p) (Nat.lt_of_lt_of_le hp hb4.size)).trans (hW4 hp)
                  refine hK.out _ _ ⟨(hW5 (p := ⟨w2.heap.size, 0, none⟩) hzi).trans x0, (hW5 (p := ⟨w2.heap.size, 1, none⟩) hzi).trans x1, (hW5 (p := ⟨w2.heap.size, 2, none⟩) hzi).trans x2, (hW5 (p := ⟨w2.heap.size, 3, none⟩) hzi).trans x3, (hW5 (p := ⟨w2.heap.size, 4, none⟩) hzi).trans x4, (hW5 (p := ⟨w2.heap.size, 5, none⟩) hzi).trans x5, (hW5 (p := ⟨w2.heap.size, 6, none⟩) hzi).trans x6, (hW5 (p := ⟨b, off + p, none⟩) hbi).trans hck⟩ (fun hHeld3 => ?_)
                  clear hK K hHeld2
                  try simp only [Act.put, List.setIfInBounds_toArray, List.set_cons_zero, List.set_cons_succ]
                  refine wpAnyH_ready (rs := [10]) (by kernel_rfl) (by simp) (AllReadyH.cons (o := ⟨_, _, _, _, _, _⟩) rfl (fun K hK => ?_) AllReadyH.nil)
                  go_simp
                  have hW6 : ∀ {p : Addr}, p.block < wi.heap.size → (w4.alloc (.cells #[.int .i64 k3, .bool g3, .slice A3 m3 c3, .int .i64 e3, .string t3, .slice LA3 lm3 lc3, .slice KA3 km3 kc3] 53)).cell? p = wi.cell? p := fun {p} hp => (((Below.refl w4.heap.size w4).alloc (Nat.le_refl _) _).cell (p := p) (Nat.lt_of_lt_of_le hp hb4.size)).trans (hW4 hp)
                  refine hK.out _ _ ⟨(hW6 (p := ⟨w2.heap.size, 0, none⟩) hzi).trans x0, (hW6 (p := ⟨w2.heap.size, 1, none⟩) hzi).trans x1, (hW6 (p := ⟨w2.heap.size, 2, none⟩) hzi).trans x2, (hW6 (p := ⟨w2.heap.size, 3, none⟩) hzi).trans x3, (hW6 (p := ⟨w2.heap.size, 4, none⟩) hzi).trans x4, (hW6 (p := ⟨w2.heap.size, 5, none⟩) hzi).trans x5, (hW6 (p := ⟨w2.heap.size, 6, none⟩) hzi).trans x6, (hW6 (p := ⟨b, off + p, none⟩) hbi).trans hck⟩ (fun hHeld4 => ?_)
                  clear hK K hHeld3
                  try simp only [Act.put, List.setIfInBounds_toArray, List.set_cons_zero, List.set_cons_succ]
                  refine wpAnyH_take (i := 11) (oi := ⟨_, _, _, _, _, _⟩) (v := ?_) rfl (by kernel_rfl) (by kernel_rfl) (by kernel_rfl) (fun _ _ _ h => h) (Or.inl ⟨by rfl, ?_⟩) (by assumption) ?_
                  rotate_left
                  · intro w hSw
                    (try dsimp only at hSw)
                    go_split_ands
                    go_simp
                    try with_reducible rfl
                  try simp only [Act.put, List.setIfInBounds_toArray, List.set_cons_zero, List.set_cons_succ]
                  refine wpAnyH_done (by kernel_rfl) ?_ _
                  have hal : Below w4.heap.size w4 (w4.alloc (.cells #[.int .i64 k3, .bool g3, .slice A3 m3 c3, .int .i64 e3, .string t3, .slice LA3 lm3 lc3, .slice KA3 km3 kc3] 53)) := (Below.refl w4.heap.size w4).alloc (Nat.le_refl _) _
                  obtain ⟨SY, HVY7, HSY7⟩ : ∃ SY, Hid (VIn (w4.alloc (.cells #[.int .i64 k3, .bool g3, .slice A3 m3 c3, .int .i64 e3, .string t3, .slice LA3 lm3 lc3, .slice KA3 km3 kc3] 53)) SY y [.int .i64 k3, .bool g3, .slice A3 m3 c3, .int .i64 e3, .string t3, .slice LA3 lm3 lc3, .slice KA3 km3 kc3]) ∧ Hid (∀ b, SY b → b < (w4.alloc (.cells #[.int .i64 k3, .bool g3, .slice A3 m3 c3, .int .i64 e3, .string t3, .slice LA3 lm3 lc3, .slice KA3 km3 kc3] 53)).heap.size) := ⟨_, Lib.hid (HVY.out.keep fun p hp => hal.cell hp.2), Lib.hid fun b hb => Nat.lt_of_lt_of_le hb.2 hal.size⟩
                  have HXB := Lib.hid (World.alloc_heap_new w4 (.cells #[.int .i64 k3, .bool g3, .slice A3 m3 c3, .int .i64 e3, .string t3, .slice LA3 lm3 lc3, .slice KA3 km3 kc3] 53))
                  have HB7 : Hid (Below w3.heap.size w3 (w4.alloc (.cells #[.int .i64 k3, .bool g3, .slice A3 m3 c3, .int .i64 e3, .string t3, .slice LA3 lm3 lc3, .slice KA3 km3 kc3] 53))) := Lib.hid ((HWI.out.trans ((Below.refl wi.heap.size wi).drew.trans hb4 |>.mono HWI.out.size)).trans (hal.mono (by have h1 := HWI.out.size; have h2 := hb4.size; exact Nat.le_trans h1 h2)))
                  generalize (w4.alloc (.cells #[.int .i64 k3, .bool g3, .slice A3 m3 c3, .int .i64 e3, .string t3, .slice LA3 lm3 lc3, .slice KA3 km3 kc3] 53)) = W7 at *
                  generalize w4.heap.size = bx at *
                  clear hHeld4 hW4 hW5 hW6 hal hb4 HVY
                case' gb =>
                  go_simp
                  have hal : Below wi.heap.size wi (wi.alloc (.cells #[.int .i64 0, .bool false, .slice none 0 0, .int .i64 0, .string ⟨#[]⟩, .slice none 0 0, .slice none 0 0] 53)) := (Below.refl wi.heap.size wi).alloc (Nat.le_refl _) _
                  have hzi : w2.heap.size < wi.heap.size := Nat.lt_of_lt_of_le hz3 HWI.out.size
                  have hbi : b < wi.heap.size := Nat.lt_of_lt_of_le hbw HWI.out.size
                  have hzb := World.alloc_heap_new wi (.cells #[.int .i64 0, .bool false, .slice none 0 0, .int .i64 0, .string ⟨#[]⟩, .slice none 0 0, .slice none 0 0] 53)
                  have hW3 : ∀ {p : Addr}, p.block < wi.heap.size → ((wi.alloc (.cells #[.int .i64 0, .bool false, .slice none 0 0, .int .i64 0, .string ⟨#[]⟩, .slice none 0 0, .slice none 0 0] 53)).drew).cell? p = wi.cell? p := fun {p} hp => hal.cell (p := p) hp
                  refine hK.out _ _ ⟨(hW3 (p := ⟨w2.heap.size, 0, none⟩) hzi).trans x0, (hW3 (p := ⟨w2.heap.size, 1, none⟩) hzi).trans x1, (hW3 (p := ⟨w2.heap.size, 2, none⟩) hzi).trans x2, (hW3 (p := ⟨w2.heap.size, 3, none⟩) hzi).trans x3, (hW3 (p := ⟨w2.heap.size, 4, none⟩) hzi).trans x4, (hW3 (p := ⟨w2.heap.size, 5, none⟩) hzi).trans x5, (hW3 (p := ⟨w2.heap.size, 6, none⟩) hzi).trans x6, (hW3 (p := ⟨b, off + p, none⟩) hbi).trans hck⟩ (fun hHeld2 => ?_)
                  clear hK K hHeld
                  try simp only [Act.put, List.setIfInBounds_toArray, List.set_cons_zero, List.set_cons_succ]
                  refine wpAnyH_ready (rs := [5]) (by kernel_rfl) (by simp) (AllReadyH.cons (o := ⟨_, _, _, _, _, _⟩) rfl (fun K hK => ?_) AllReadyH.nil)
                  go_simp
                  have hzz : ((wi.alloc (.cells #[.int .i64 0, .bool false, .slice none 0 0, .int .i64 0, .string ⟨#[]⟩, .slice none 0 0, .slice none 0 0] 53)).drew).heap.size = wi.heap.size + 1 := by simp
                  have hHZ2 : ∀ B, Own' w1.heap.size w2 B → B < ((wi.alloc (.cells #[.int .i64 0, .bool false, .slice none 0 0, .int .i64 0, .string ⟨#[]⟩, .slice none 0 0, .slice none 0 0] 53)).drew).heap.size := fun B hB => by have := HHZ.out B hB; omega
                  have hvi2 : VIn ((wi.alloc (.cells #[.int .i64 0, .bool false, .slice none 0 0, .int .i64 0, .string ⟨#[]⟩, .slice none 0 0, .slice none 0 0] 53)).drew) (Own' w1.heap.size w2) (objV ks l) [.int .i64 6, .bool false, .slice A c0 c, .int .i64 0, .string ⟨#[]⟩, .slice LA2 ln lc2, .slice KA2 kn kc2] := HVI.out.keep fun p hp => hW3 (HHZ.out _ hp)
                  refine (get_c (x := objV ks l) ((wi.alloc (.cells #[.int .i64 0, .bool false, .slice none 0 0, .int .i64 0, .string ⟨#[]⟩, .slice none 0 0, .slice none 0 0] 53)).drew) hvi2 hHZ2 rfl HI1.out HLT1.out HY1.out huy).mono ?_
                  rintro e' w4 ⟨csy, rfl, hvy, hb4⟩
                  have hzz2 := hb4.size
                  rw [hzz] at hzz2
                  obtain ⟨k3, g3, u3, e3, t3, l3, s3, hy3⟩ : ∃ k neg xs e t li ks, y = VT.mk k neg xs e t li ks := by cases y; exact ⟨_, _, _, _, _, _, _, rfl⟩
                  have HVY := Lib.hid hvy
                  rw [hy3] at hvy
                  obtain ⟨A3, m3, c3, LA3, lm3, lc3, KA3, km3, kc3, rfl, -⟩ := hvy.parts
                  have hW4 : ∀ {p : Addr}, p.block < wi.heap.size → w4.cell? p = wi.cell? p := fun {p} hp => (hb4.cell (p := p) (by rw [hzz]; omega)).trans (hW3 hp)
                  refine hK.out _ _ ⟨(hW4 (p := ⟨w2.heap.size, 0, none⟩) hzi).trans x0, (hW4 (p := ⟨w2.heap.size, 1, none⟩) hzi).trans x1, (hW4 (p := ⟨w2.heap.size, 2, none⟩) hzi).trans x2, (hW4 (p := ⟨w2.heap.size, 3, none⟩) hzi).trans x3, (hW4 (p := ⟨w2.heap.size, 4, none⟩) hzi).trans x4, (hW4 (p := ⟨w2.heap.size, 5, none⟩) hzi).trans x5, (hW4 (p := ⟨w2.heap.size, 6, none⟩) hzi).trans x6, (hW4 (p := ⟨b, off + p, none⟩) hbi).trans hck⟩ (fun hHeld3 => ?_)
                  clear hK K hvy hHeld2 hvi2 hHZ2
                  try simp only [Act.put, List.setIfInBounds_toArray, List.set_cons_zero, List.set_cons_succ]
                  refine wpAnyH_take (i := 6) (oi := ⟨_, _, _, _, _, _⟩) (v := ?_) rfl (by kernel_rfl) (by kernel_rfl) (by kernel_rfl) (fun _ _ _ h => h) (Or.inl ⟨by rfl, ?_⟩) (by assumption) ?_
                  rotate_left
                  · intro w hSw
                    (try dsimp only at hSw)
                    go_split_ands
                    go_simp
                    try with_reducible rfl
                  try simp only [Act.put, List.setIfInBounds_toArray, List.set_cons_zero, List.set_cons_succ]
                  refine wpAnyH_take (i := 7) (oi := ⟨_, _, _, _, _, _⟩) (v := ?_) rfl (by kernel_rfl) (by kernel_rfl) (by kernel_rfl) (fun _ _ _ h => h) (Or.inl ⟨by rfl, ?_⟩) (by assumption) ?_
                  rotate_left
                  · intro w hSw
                    (try dsimp only at hSw)
                    go_split_ands
                    go_simp
                    try with_reducible rfl
                  try simp only [Act.put, List.setIfInBounds_toArray, List.set_cons_zero, List.set_cons_succ]
                  refine wpAnyH_take (i := 8) (oi := ⟨_, _, _, _, _, _⟩) (v := ?_) rfl (by kernel_rfl) (by kernel_rfl) (by kernel_rfl) (fun _ _ _ h => h) (Or.inl ⟨by rfl, ?_⟩) (by assumption) ?_
                  rotate_left
                  · intro w hSw
                    (try dsimp only at hSw)
                    go_split_ands
                    go_simp
                    try with_reducible rfl
                  try simp only [Act.put, List.setIfInBounds_toArray, List.set_cons_zero, List.set_cons_succ]
                  refine wpAnyH_ready (rs := [10]) (by kernel_rfl) (by simp) (AllReadyH.cons (o := ⟨_, _, _, _, _, _⟩) rfl (fun K hK => ?_) AllReadyH.nil)
                  have hzb4 : w4.heap[wi.heap.size]? = some (.cells #[.int .i64 0, .bool false, .slice none 0 0, .int .i64 0, .string ⟨#[]⟩, .slice none 0 0, .slice none 0 0] 53) := (hb4.block _ (by rw [hzz]; omega)).trans hzb
                  obtain ⟨z0, z1, z2, z3, z4, z5, z6⟩ := box7_of hzb4
                  have fz : ∀ j, w4.frozen? ⟨wi.heap.size, j, none⟩ = false := fun j => frozen_of_row w4 _ j _ _ hzb4
                  go_simp
                  have hXB := set7_box hzb4 (.int .i64 k3) (.bool g3) (.slice A3 m3 c3) (.int .i64 e3) (.string t3) (.slice LA3 lm3 lc3) (.slice KA3 km3 kc3)
                  have hW6 : ∀ {p : Addr}, p.block < wi.heap.size → (((((((w4.setCell ⟨wi.heap.size, 0, none⟩ (.int .i64 k3)).setCell ⟨wi.heap.size, 1, none⟩ (.bool g3)).setCell ⟨wi.heap.size, 2, none⟩ (.slice A3 m3 c3)).setCell ⟨wi.heap.size, 3, none⟩ (.int .i64 e3)).setCell ⟨wi.heap.size, 4, none⟩ (.string t3)).setCell ⟨wi.heap.size, 5, none⟩ (.slice LA3 lm3 lc3)).setCell ⟨wi.heap.size, 6, none⟩ (.slice KA3 km3 kc3)).cell? p = wi.cell? p := fun {p} hp => (cell_seven (by omega) _ _ _ _ _ _ _).trans (hW4 hp)
                  refine hK.out _ _ ⟨(hW6 (p := ⟨w2.heap.size, 0, none⟩) hzi).trans x0, (hW6 (p := ⟨w2.heap.size, 1, none⟩) hzi).trans x1, (hW6 (p := ⟨w2.heap.size, 2, none⟩) hzi).trans x2, (hW6 (p := ⟨w2.heap.size, 3, none⟩) hzi).trans x3, (hW6 (p := ⟨w2.heap.size, 4, none⟩) hzi).trans x4, (hW6 (p := ⟨w2.heap.size, 5, none⟩) hzi).trans x5, (hW6 (p := ⟨w2.heap.size, 6, none⟩) hzi).trans x6, (hW6 (p := ⟨b, off + p, none⟩) hbi).trans hck⟩ (fun hHeld4 => ?_)
                  clear hK K hHeld3 z0 z1 z2 z3 z4 z5 z6 fz
                  try simp only [Act.put, List.setIfInBounds_toArray, List.set_cons_zero, List.set_cons_succ]
                  refine wpAnyH_take (i := 11) (oi := ⟨_, _, _, _, _, _⟩) (v := ?_) rfl (by kernel_rfl) (by kernel_rfl) (by kernel_rfl) (fun _ _ _ h => h) (Or.inl ⟨by rfl, ?_⟩) (by assumption) ?_
                  rotate_left
                  · intro w hSw
                    (try dsimp only at hSw)
                    go_split_ands
                    go_simp
                    try with_reducible rfl
                  try simp only [Act.put, List.setIfInBounds_toArray, List.set_cons_zero, List.set_cons_succ]
                  refine wpAnyH_done (by kernel_rfl) ?_ _
                  obtain ⟨SY, HVY7, HSY7⟩ : ∃ SY, Hid (VIn (((((((w4.setCell ⟨wi.heap.size, 0, none⟩ (.int .i64 k3)).setCell ⟨wi.heap.size, 1, none⟩ (.bool g3)).setCell ⟨wi.heap.size, 2, none⟩ (.slice A3 m3 c3)).setCell ⟨wi.heap.size, 3, none⟩ (.int .i64 e3)).setCell ⟨wi.heap.size, 4, none⟩ (.string t3)).setCell ⟨wi.heap.size, 5, none⟩ (.slice LA3 lm3 lc3)).setCell ⟨wi.heap.size, 6, none⟩ (.slice KA3 km3 kc3)) SY y [.int .i64 k3, .bool g3, .slice A3 m3 c3, .int .i64 e3, .string t3, .slice LA3 lm3 lc3, .slice KA3 km3 kc3]) ∧ Hid (∀ b, SY b → b < (((((((w4.setCell ⟨wi.heap.size, 0, none⟩ (.int .i64 k3)).setCell ⟨wi.heap.size, 1, none⟩ (.bool g3)).setCell ⟨wi.heap.size, 2, none⟩ (.slice A3 m3 c3)).setCell ⟨wi.heap.size, 3, none⟩ (.int .i64 e3)).setCell ⟨wi.heap.size, 4, none⟩ (.string t3)).setCell ⟨wi.heap.size, 5, none⟩ (.slice LA3 lm3 lc3)).setCell ⟨wi.heap.size, 6, none⟩ (.slice KA3 km3 kc3)).heap.size) := ⟨_, Lib.hid (HVY.out.keep fun p hp => cell_seven (by have := hp.1; rw [hzz] at this; omega) _ _ _ _ _ _ _), Lib.hid fun b hb => by have := hb.2; simpa [World.setCell] using this⟩
                  have HXB := Lib.hid hXB
                  have HB7 : Hid (Below w3.heap.size w3 (((((((w4.setCell ⟨wi.heap.size, 0, none⟩ (.int .i64 k3)).setCell ⟨wi.heap.size, 1, none⟩ (.bool g3)).setCell ⟨wi.heap.size, 2, none⟩ (.slice A3 m3 c3)).setCell ⟨wi.heap.size, 3, none⟩ (.int .i64 e3)).setCell ⟨wi.heap.size, 4, none⟩ (.string t3)).setCell ⟨wi.heap.size, 5, none⟩ (.slice LA3 lm3 lc3)).setCell ⟨wi.heap.size, 6, none⟩ (.slice KA3 km3 kc3))) := Lib.hid (below_seven ((HWI.out.trans (hal.mono HWI.out.size)).trans ((Below.refl _ _).drew.trans hb4 |>.mono (by rw [hzz]; have := HWI.out.size; omega))) HWI.out.size _ _ _ _ _ _ _)
                  clear hXB
                  generalize (((((((w4.setCell ⟨wi.heap.size, 0, none⟩ (.int .i64 k3)).setCell ⟨wi.heap.size, 1, none⟩ (.bool g3)).setCell ⟨wi.heap.size, 2, none⟩ (.slice A3 m3 c3)).setCell ⟨wi.heap.size, 3, none⟩ (.int .i64 e3)).setCell ⟨wi.heap.size, 4, none⟩ (.string t3)).setCell ⟨wi.heap.size, 5, none⟩ (.slice LA3 lm3 lc3)).setCell ⟨wi.heap.size, 6, none⟩ (.slice KA3 km3 kc3)) = W7 at *
                  clear hHeld4 hW4 hW3 hW6 hal hb4 HVY hzb hzb4 hzz hzz2 hzi hbi
                  generalize wi.heap.size = bx at *
                all_goals
                  have hbx7 := (Array.getElem?_eq_some_iff.1 HXB.out).1
                  go_upto_region 20 with fail
                  clear x0 x1 x2 x3 x4 x5 x6 hck
                  cases hLB : lastB ks p k2 with
                  | true =>
                    have hla : lastAt ks s ks.length = some p := by
                      have h1 := lastB_at (ks := ks) (p := p) (by rw [hkl]; exact hLB) (by omega)
                      rwa [HS0.out] at h1
                    have hlp : l[p]? = some y := by
                      have h1 : lastV ks l s = l.getD p VT0 := by unfold lastV; rw [hla]
                      rw [← HY.out, h1, List.getD_eq_getElem?_getD, List.getElem?_eq_getElem (by omega)]; rfl
                    obtain ⟨bl, ol, y', cl, rfl, hSl, hyl, hcl, hcc, hvl⟩ := HL.out.at_ (i := p) (by omega)
                    obtain rfl : y' = y := by rw [hlp] at hyl; injection hyl with h; exact h.symm
                    obtain ⟨a0, a1, a2, a3, a4, a5, a6, rfl⟩ := list7 hcl
                    have hbl : bl < w3.heap.size := by have h1 := HS.out bl hSl; have h2 := HB03.out.size; omega
                    have hB07 : ∀ q : Addr, S q.block → W7.cell? q = w.cell? q := fun q hq => by
                      have h1 := HS.out q.block hq
                      have h2 := HB03.out.size
                      exact (HB7.out.cell (by omega)).trans (HB03.out.cell h1)
                    have d0 : W7.cell? ⟨bl, ol + p * 7, none⟩ = some a0 := (hB07 ⟨bl, ol + p * 7, none⟩ hSl).trans (hcc 0 (by omega))
                    have d1 : W7.cell? ⟨bl, ol + p * 7 + 1, none⟩ = some a1 := (hB07 ⟨bl, ol + p * 7 + 1, none⟩ hSl).trans (by have := hcc 1 (by omega); rwa [← Nat.add_assoc] at this)
                    have d2 : W7.cell? ⟨bl, ol + p * 7 + 2, none⟩ = some a2 := (hB07 ⟨bl, ol + p * 7 + 2, none⟩ hSl).trans (by have := hcc 2 (by omega); rwa [← Nat.add_assoc] at this)
                    have d3 : W7.cell? ⟨bl, ol + p * 7 + 3, none⟩ = some a3 := (hB07 ⟨bl, ol + p * 7 + 3, none⟩ hSl).trans (by have := hcc 3 (by omega); rwa [← Nat.add_assoc] at this)
                    have d4 : W7.cell? ⟨bl, ol + p * 7 + 4, none⟩ = some a4 := (hB07 ⟨bl, ol + p * 7 + 4, none⟩ hSl).trans (by have := hcc 4 (by omega); rwa [← Nat.add_assoc] at this)
                    have d5 : W7.cell? ⟨bl, ol + p * 7 + 5, none⟩ = some a5 := (hB07 ⟨bl, ol + p * 7 + 5, none⟩ hSl).trans (by have := hcc 5 (by omega); rwa [← Nat.add_assoc] at this)
                    have d6 : W7.cell? ⟨bl, ol + p * 7 + 6, none⟩ = some a6 := (hB07 ⟨bl, ol + p * 7 + 6, none⟩ hSl).trans (by have := hcc 6 (by omega); rwa [← Nat.add_assoc] at this)
                    have HSM := same_c y' y' SY S _ _ W7.drew (HVY7.out.keep fun _ _ => rfl) (hvl.keep fun q hq => hB07 q hq) HSY7.out (fun b hb => by have h1 := HS.out b hb; have h2 := HB03.out.size; have h3 := HB7.out.size; show b < W7.heap.size; omega)
                    rw [sameV_iff.2 rfl] at HSM
                    obtain ⟨z0, z1, z2, z3, z4, z5, z6⟩ := box7_of HXB.out
                    have hbl7 : bl < W7.heap.size := Nat.lt_of_lt_of_le hbl HB7.out.size
                    clear hlp hla hyl hcc hvl hcl hB07 hLB
                    refine wp_region_held_drew (S := fun w' => w'.cell? ⟨bx, 0, none⟩ = some (.int .i64 k3) ∧ w'.cell? ⟨bx, 1, none⟩ = some (.bool g3) ∧ w'.cell? ⟨bx, 2, none⟩ = some (.slice A3 m3 c3) ∧ w'.cell? ⟨bx, 3, none⟩ = some (.int .i64 e3) ∧ w'.cell? ⟨bx, 4, none⟩ = some (.string t3) ∧ w'.cell? ⟨bx, 5, none⟩ = some (.slice LA3 lm3 lc3) ∧ w'.cell? ⟨bx, 6, none⟩ = some (.slice KA3 km3 kc3) ∧ w'.cell? ⟨bl, ol + p * 7, none⟩ = some a0 ∧ w'.cell? ⟨bl, ol + p * 7 + 1, none⟩ = some a1 ∧ w'.cell? ⟨bl, ol + p * 7 + 2, none⟩ = some a2 ∧ w'.cell? ⟨bl, ol + p * 7 + 3, none⟩ = some a3 ∧ w'.cell? ⟨bl, ol + p * 7 + 4, none⟩ = some a4 ∧ w'.cell? ⟨bl, ol + p * 7 + 5, none⟩ = some a5 ∧ w'.cell? ⟨bl, ol + p * 7 + 6, none⟩ = some a6) (by kernel_rfl) ⟨z0, z1, z2, z3, z4, z5, z6, d0, d1, d2, d3, d4, d5, d6⟩ (fun hHeld => ?_)
                    (try simp only [List.size_toArray, List.length_cons, List.length_nil, Nat.reduceAdd, Array.replicate_succ, Array.replicate_zero, List.push_toArray, List.append_toArray, List.nil_append, List.cons_append])
                    refine wpAnyH_take (i := 0) (oi := ⟨_, _, _, _, _, _⟩) (v := ?_) rfl (by kernel_rfl) (by kernel_rfl) (by kernel_rfl) (fun _ _ _ h => h) (Or.inl ⟨by rfl, ?_⟩) (by assumption) ?_
                    rotate_left
                    · intro w hSw
                      (try dsimp only at hSw)
                      go_split_ands
                      go_simp
                      try with_reducible rfl
                    try simp only [Act.put, List.setIfInBounds_toArray, List.set_cons_zero, List.set_cons_succ]
                    refine wpAnyH_take (i := 1) (oi := ⟨_, _, _, _, _, _⟩) (v := ?_) rfl (by kernel_rfl) (by kernel_rfl) (by kernel_rfl) (fun _ _ _ h => h) (Or.inl ⟨by rfl, ?_⟩) (by assumption) ?_
                    rotate_left
                    · intro w hSw
                      (try dsimp only at hSw)
                      go_split_ands
                      go_simp
                      try with_reducible rfl
                    try simp only [Act.put, List.setIfInBounds_toArray, List.set_cons_zero, List.set_cons_succ]
                    refine wpAnyH_take (i := 2) (oi := ⟨_, _, _, _, _, _⟩) (v := ?_) rfl (by kernel_rfl) (by kernel_rfl) (by kernel_rfl) (fun _ _ _ h => h) (Or.inl ⟨by rfl, ?_⟩) (by assumption) ?_
                    rotate_left
                    · intro w hSw
                      (try dsimp only at hSw)
                      go_split_ands
                      go_simp
                      try with_reducible rfl
                    try simp only [Act.put, List.setIfInBounds_toArray, List.set_cons_zero, List.set_cons_succ]
                    refine wpAnyH_take (i := 3) (oi := ⟨_, _, _, _, _, _⟩) (v := ?_) rfl (by kernel_rfl) (by kernel_rfl) (by kernel_rfl) (fun _ _ _ h => h) (Or.inl ⟨by rfl, ?_⟩) (by assumption) ?_
                    rotate_left
                    · intro w hSw
                      (try dsimp only at hSw)
                      go_split_ands
                      go_simp
                      try with_reducible rfl
                    try simp only [Act.put, List.setIfInBounds_toArray, List.set_cons_zero, List.set_cons_succ]
                    refine wpAnyH_take (i := 4) (oi := ⟨_, _, _, _, _, _⟩) (v := ?_) rfl (by kernel_rfl) (by kernel_rfl) (by kernel_rfl) (fun _ _ _ h => h) (Or.inl ⟨by rfl, ?_⟩) (by assumption) ?_
                    rotate_left
                    · intro w hSw
                      (try dsimp only at hSw)
                      go_split_ands
                      go_simp
                      try with_reducible rfl
                    try simp only [Act.put, List.setIfInBounds_toArray, List.set_cons_zero, List.set_cons_succ]
                    refine wpAnyH_take (i := 5) (oi := ⟨_, _, _, _, _, _⟩) (v := ?_) rfl (by kernel_rfl) (by kernel_rfl) (by kernel_rfl) (fun _ _ _ h => h) (Or.inl ⟨by rfl, ?_⟩) (by assumption) ?_
                    rotate_left
                    · intro w hSw
                      (try dsimp only at hSw)
                      go_split_ands
                      go_simp
                      try with_reducible rfl
                    try simp only [Act.put, List.setIfInBounds_toArray, List.set_cons_zero, List.set_cons_succ]
                    refine wpAnyH_take (i := 6) (oi := ⟨_, _, _, _, _, _⟩) (v := ?_) rfl (by kernel_rfl) (by kernel_rfl) (by kernel_rfl) (fun _ _ _ h => h) (Or.inl ⟨by rfl, ?_⟩) (by assumption) ?_
                    rotate_left
                    · intro w hSw
                      (try dsimp only at hSw)
                      go_split_ands
                      go_simp
                      try with_reducible rfl
                    try simp only [Act.put, List.setIfInBounds_toArray, List.set_cons_zero, List.set_cons_succ]
                    refine wpAnyH_take (i := 7) (oi := ⟨_, _, _, _, _, _⟩) (v := ?_) rfl (by kernel_rfl) (by kernel_rfl) (by kernel_rfl) (fun _ _ _ h => h) (Or.inl ⟨by rfl, ?_⟩) (by assumption) ?_
                    rotate_left
                    · intro w hSw
                      (try dsimp only at hSw)
                      go_split_ands
                      go_simp
                      try with_reducible rfl
                    try simp only [Act.put, List.setIfInBounds_toArray, List.set_cons_zero, List.set_cons_succ]
                    refine wpAnyH_take (i := 8) (oi := ⟨_, _, _, _, _, _⟩) (v := ?_) rfl (by kernel_rfl) (by kernel_rfl) (by kernel_rfl) (fun _ _ _ h => h) (Or.inl ⟨by rfl, ?_⟩) (by assumption) ?_
                    rotate_left
                    · intro w hSw
                      (try dsimp only at hSw)
                      go_split_ands
                      go_simp
                      try with_reducible rfl
                    try simp only [Act.put, List.setIfInBounds_toArray, List.set_cons_zero, List.set_cons_succ]
                    refine wpAnyH_take (i := 9) (oi := ⟨_, _, _, _, _, _⟩) (v := ?_) rfl (by kernel_rfl) (by kernel_rfl) (by kernel_rfl) (fun _ _ _ h => h) (Or.inl ⟨by rfl, ?_⟩) (by assumption) ?_
                    rotate_left
                    · intro w hSw
                      (try dsimp only at hSw)
                      go_split_ands
                      go_simp
                      try with_reducible rfl
                    try simp only [Act.put, List.setIfInBounds_toArray, List.set_cons_zero, List.set_cons_succ]
                    refine wpAnyH_ready (rs := [10]) (by kernel_rfl) (by simp) (AllReadyH.cons (o := ⟨_, _, _, _, _, _⟩) rfl (fun K hK => ?_) AllReadyH.nil)
                    go_simp
                    refine HSM.mono ?_
                    rintro e' w8 ⟨rfl, hb8⟩
                    have hW8 : ∀ {q : Addr}, q.block < W7.heap.size → w8.cell? q = W7.cell? q := fun {q} hq => hb8.cell (p := q) hq
                    refine hK.out _ _ ⟨(hW8 (q := ⟨bx, 0, none⟩) hbx7).trans z0, (hW8 (q := ⟨bx, 1, none⟩) hbx7).trans z1, (hW8 (q := ⟨bx, 2, none⟩) hbx7).trans z2, (hW8 (q := ⟨bx, 3, none⟩) hbx7).trans z3, (hW8 (q := ⟨bx, 4, none⟩) hbx7).trans z4, (hW8 (q := ⟨bx, 5, none⟩) hbx7).trans z5, (hW8 (q := ⟨bx, 6, none⟩) hbx7).trans z6, (hW8 (q := ⟨bl, ol + p * 7, none⟩) hbl7).trans d0, (hW8 (q := ⟨bl, ol + p * 7 + 1, none⟩) hbl7).trans d1, (hW8 (q := ⟨bl, ol + p * 7 + 2, none⟩) hbl7).trans d2, (hW8 (q := ⟨bl, ol + p * 7 + 3, none⟩) hbl7).trans d3, (hW8 (q := ⟨bl, ol + p * 7 + 4, none⟩) hbl7).trans d4, (hW8 (q := ⟨bl, ol + p * 7 + 5, none⟩) hbl7).trans d5, (hW8 (q := ⟨bl, ol + p * 7 + 6, none⟩) hbl7).trans d6⟩ (fun hHeld2 => ?_)
                    clear hK K hHeld
                    try simp only [Act.put, List.setIfInBounds_toArray, List.set_cons_zero, List.set_cons_succ]
                    refine wpAnyH_take (i := 11) (oi := ⟨_, _, _, _, _, _⟩) (v := ?_) rfl (by kernel_rfl) (by kernel_rfl) (by kernel_rfl) (fun _ _ _ h => h) (Or.inl ⟨by rfl, ?_⟩) (by assumption) ?_
                    rotate_left
                    · intro w hSw
                      (try dsimp only at hSw)
                      go_split_ands
                      go_simp
                      try with_reducible rfl
                    try simp only [Act.put, List.setIfInBounds_toArray, List.set_cons_zero, List.set_cons_succ]
                    refine wpAnyH_take (i := 12) (oi := ⟨_, _, _, _, _, _⟩) (v := ?_) rfl (by kernel_rfl) (by kernel_rfl) (by kernel_rfl) (fun _ _ _ h => h) (Or.inl ⟨by rfl, ?_⟩) (by assumption) ?_
                    rotate_left
                    · intro w hSw
                      (try dsimp only at hSw)
                      go_split_ands
                      go_simp
                      try with_reducible rfl
                    try simp only [Act.put, List.setIfInBounds_toArray, List.set_cons_zero, List.set_cons_succ]
                    refine wpAnyH_take (i := 13) (oi := ⟨_, _, _, _, _, _⟩) (v := ?_) rfl (by kernel_rfl) (by kernel_rfl) (by kernel_rfl) (fun _ _ _ h => h) (Or.inl ⟨by rfl, ?_⟩) (by assumption) ?_
                    rotate_left
                    · intro w hSw
                      (try dsimp only at hSw)
                      go_split_ands
                      go_simp
                      try with_reducible rfl
                    try simp only [Act.put, List.setIfInBounds_toArray, List.set_cons_zero, List.set_cons_succ]
                    refine wpAnyH_done (by kernel_rfl) ?_ _
                    have HB8 : Hid (Below w3.heap.size w3 w8) := Lib.hid (HB7.out.trans ((Below.refl _ _).drew.trans hb8 |>.mono HB7.out.size))
                    clear HSM hHeld2 hW8 hb8 z0 z1 z2 z3 z4 z5 z6 d0 d1 d2 d3 d4 d5 d6
                    go_wp2_with fail
                    exact ⟨⟨p, by omega, rfl, HB8.out⟩, by simp [RowKit.intOf]⟩
                  | false =>
                    have HB8 := Lib.hid fun q => below_drewN HB7.out q
                    clear hLB
                    go_quiet (fail)
                    go_wp2_with fail
                    exact ⟨⟨p, by omega, rfl, HB8.out _⟩, by simp [RowKit.intOf]⟩
  · have hR0 : R = VT0 := by rw [← HR.out]; unfold resO; rw [if_neg (by rw [HE.out]; exact hE0)]
    have HV0 : Hid (VIn w2 (Own' w1.heap.size w2) VT0 cs) := Lib.hid (hR0 ▸ HV.out)
    obtain ⟨A, c0, c, LA2, ln, lc2, KA2, kn, kc2, rfl, _, _, _, hl2, hk2, _, _⟩ := HV0.out.parts
    have hln : ln = 0 := hl2.1.symm
    have hkn : kn = 0 := hk2.1.symm
    subst hln hkn
    clear hl2 hk2 hR0
    have hne : ¬ (E : Int) = 0 := by omega
    have hne2 : ((E : Int) == 0) = false := by rw [beq_eq_false_iff_ne]; exact hne
    have HB2 := Lib.hid (HB1.out.trans (hb2.mono HB1.out.size))
    clear hb2
    go_upto_region 4 with fail
    have hbx := World.alloc_heap_new w2 (.cells #[.int .i64 0, .bool false, .slice A c0 c, .int .i64 0, .string ⟨#[]⟩, .slice LA2 0 lc2, .slice KA2 0 kc2] 53)
    have hb3 : Below w2.heap.size w2 (w2.alloc (.cells #[.int .i64 0, .bool false, .slice A c0 c, .int .i64 0, .string ⟨#[]⟩, .slice LA2 0 lc2, .slice KA2 0 kc2] 53)) := (Below.refl _ w2).alloc (Nat.le_refl _) _
    generalize (w2.alloc (.cells #[.int .i64 0, .bool false, .slice A c0 c, .int .i64 0, .string ⟨#[]⟩, .slice LA2 0 lc2, .slice KA2 0 kc2] 53)) = w3 at *
    obtain ⟨x0, x1, x2, x3, x4, x5, x6⟩ := box7_of hbx
    have HB03 := Lib.hid (HB2.out.trans (hb3.mono HB2.out.size))
    clear hbx hb3
    go_wp2_with (first | (go_at_call 35; refine (lnum_c _ _).mono ?_; rintro e' w' ⟨rfl, rfl⟩))
    go_ret
    exact ⟨rfl, HB03.out⟩
end Go.Proofs.YtklpfgjnlheikaaGreatDoor
