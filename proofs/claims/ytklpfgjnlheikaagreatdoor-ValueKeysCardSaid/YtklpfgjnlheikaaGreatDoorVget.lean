/-
  Contracts of slices.Index over texts, and of value's Get where the key is there.
-/
import Derived.Test.YtklpfgjnlheikaaGreatDoorVob
set_option linter.unusedVariables false
set_option linter.unusedSimpArgs false
namespace Go.Proofs.YtklpfgjnlheikaaGreatDoor
open Go.RowKit

theorem ba_beq {a b : ByteArray} : (a.toList == b.toList) = decide (a = b) := by
  by_cases h : a = b
  · subst h; simp
  · rw [decide_eq_false h, beq_eq_false_iff_ne]
    exact fun e => h (ba_eq e)

set_option maxRecDepth 100000 in
set_option maxHeartbeats 1000000 in
theorem index_c {S : Nat → Prop} {A : Option Addr} {n c i : Nat} {ks : List ByteArray} {s : ByteArray} (w : World) (h : RdT w S A n ks) (hn : n ≤ 8796093022208) (hi : ks[i]? = some s) (hlt : ∀ j, j < i → ks[j]? ≠ some s) :
    Calls Tryz.prog 87 #[.slice A n c, .string s] w fun e w' => e = .returned (.int .i64 (i : Int)) ∧ w = w' := by
  have hil := (List.getElem?_eq_some_iff.1 hi).1
  have hkl := h.1
  have HI := Lib.hid hi
  have HLT := Lib.hid hlt
  clear hi hlt
  go_enter Tryz.func87, Tryz.ntmps87
  go_upto_region 2 with fail
  go_loopw [8] (fun v wr => ∃ k : Nat, k ≤ i ∧ v = .int .i64 (k : Int) ∧ wr = w) (fun v _ => i + 1 - (RowKit.intOf v).toNat)
  case atStart => exact ⟨0, Nat.zero_le _, rfl, rfl⟩
  case round =>
    obtain ⟨k, hki, rfl, rfl⟩ := hrel
    obtain ⟨b, off, t, rfl, _, ht, hc⟩ := h.at_ (k := k) (by omega)
    have hlt2 : (k : Int) < (n : Int) := by omega
    have hk0 : (0 : Int) ≤ (k : Int) := by omega
    have hkt : ((k : Int)).toNat = k := by omega
    have hkw : IntKind.i64.wrap ((k : Int) + 1) = (k : Int) + 1 := IntWalk.i64_in _ (by omega)
    by_cases hki2 : k = i
    · subst hki2
      obtain rfl : t = s := by have := HI.out; rw [ht] at this; injection this
      have hq : (t.toList == t.toList) = true := by simp
      go_wp2_with fail
      go_ret
      first | exact ⟨rfl, rfl⟩ | exact ⟨rfl, trivial⟩
    · have hne : s ≠ t := fun e => HLT.out k (by omega) (by rw [ht, e])
      have hq : (s.toList == t.toList) = false := by rw [ba_beq, decide_eq_false hne]
      clear hne ht
      go_wp2_with fail
      go_roundw
      case rel => exact ⟨k + 1, by omega, by go_num, by first | rfl | trivial⟩
      case measure => first | (simp [intOf]; omega) | (simp [RowKit.intOf]; omega) | (show _ - _ < _ - _; simp only [RowKit.intOf]; omega)

set_option maxRecDepth 100000 in
set_option maxHeartbeats 4000000 in
theorem get_c {S : Nat → Prop} {x y : VT} {cs : List Value} {s : ByteArray} {i : Nat} (w : World) (hx : VIn w S x cs) (hS : ∀ b, S b → b < w.heap.size) (hk : x.kind = 6) (hi : x.keys[i]? = some s) (hlt : ∀ j, j < i → x.keys[j]? ≠ some s) (hy : x.list[i]? = some y) (hu : under y ≤ 21474836) :
    Calls Tryz.prog 38 #[.agg cs.toArray, .string s] w fun e' w' => ∃ cs', e' = .returned (.tuple #[.agg cs'.toArray, .bool true]) ∧ VIn w' (Own' w.heap.size w') y cs' ∧ Below w.heap.size w w' := by
  obtain ⟨k, neg, xs, e, t, li, ks, rfl⟩ : ∃ k neg xs e t li ks, x = VT.mk k neg xs e t li ks := by cases x; exact ⟨_, _, _, _, _, _, _, rfl⟩
  have hk6 : k = 6 := hk
  subst hk6
  obtain ⟨A, n, c, LA, ln, lc, KA, kn, kc, rfl, a1, a2, a3, a4, a5, a6, a7⟩ := hx.parts
  obtain ⟨bn, bk, bl⟩ := hx.bounds
  have hi2 : ks[i]? = some s := hi
  have hlt2 : ∀ j, j < i → ks[j]? ≠ some s := hlt
  have hy2 : li[i]? = some y := hy
  have hil : i < ln := by have := (List.getElem?_eq_some_iff.1 hy2).1; have := a4.1; omega
  have hik : i < kn := by have := (List.getElem?_eq_some_iff.1 hi2).1; have := a5.1; omega
  clear hk hi hlt hy hx
  have hW : Below w.heap.size w ((w.alloc (.cells #[.int .i64 6, .bool neg, .slice A n c, .int .i64 e, .string t, .slice LA ln lc, .slice KA kn kc] 53)).alloc (.cells #[.int .i64 0, .bool false, .slice none 0 0, .int .i64 0, .string ⟨#[]⟩, .slice none 0 0, .slice none 0 0] 53)) := ((Below.refl _ w).alloc (Nat.le_refl _) _).alloc (by simp) _
  have hm1 : ((w.alloc (.cells #[.int .i64 6, .bool neg, .slice A n c, .int .i64 e, .string t, .slice LA ln lc, .slice KA kn kc] 53)).alloc (.cells #[.int .i64 0, .bool false, .slice none 0 0, .int .i64 0, .string ⟨#[]⟩, .slice none 0 0, .slice none 0 0] 53)).heap[w.heap.size]? = some (.cells #[.int .i64 6, .bool neg, .slice A n c, .int .i64 e, .string t, .slice LA ln lc, .slice KA kn kc] 53) := (Below.heap_alloc _ _ _ (by simp)).trans (World.alloc_heap_new w _)
  have hm2 : ((w.alloc (.cells #[.int .i64 6, .bool neg, .slice A n c, .int .i64 e, .string t, .slice LA ln lc, .slice KA kn kc] 53)).alloc (.cells #[.int .i64 0, .bool false, .slice none 0 0, .int .i64 0, .string ⟨#[]⟩, .slice none 0 0, .slice none 0 0] 53)).heap[w.heap.size + 1]? = some (.cells #[.int .i64 0, .bool false, .slice none 0 0, .int .i64 0, .string ⟨#[]⟩, .slice none 0 0, .slice none 0 0] 53) := by
    have := World.alloc_heap_new (w.alloc (.cells #[.int .i64 6, .bool neg, .slice A n c, .int .i64 e, .string t, .slice LA ln lc, .slice KA kn kc] 53)) (.cells #[.int .i64 0, .bool false, .slice none 0 0, .int .i64 0, .string ⟨#[]⟩, .slice none 0 0, .slice none 0 0] 53)
    rwa [World.size_alloc] at this
  go_enter Tryz.func38, Tryz.ntmps38
  go_upto_region 1 with fail
  generalize ((w.alloc (.cells #[.int .i64 6, .bool neg, .slice A n c, .int .i64 e, .string t, .slice LA ln lc, .slice KA kn kc] 53)).alloc (.cells #[.int .i64 0, .bool false, .slice none 0 0, .int .i64 0, .string ⟨#[]⟩, .slice none 0 0, .slice none 0 0] 53)) = W0 at *
  have hzW := (Array.getElem?_eq_some_iff.1 hm2).1
  have hks0 := a5.stay hW hS
  have hls0 := a4.stay hW hS
  have HX := index_c (c := kc) W0 hks0 (by omega) hi2 hlt2
  obtain ⟨b, off, y', cy, rfl, hSb, hy3, hcl, hcc, hvy⟩ := hls0.at_ hil
  obtain rfl : y' = y := by rw [hy2] at hy3; injection hy3 with h; exact h.symm
  obtain ⟨q0, q1, q2, q3, q4, q5, q6, rfl⟩ := list7 hcl
  have HC := copied_c W0 hvy (fun b hb => Nat.lt_of_lt_of_le (hS b hb) hW.size) hu
  have d0 : W0.cell? ⟨b, off + i * 7, none⟩ = some q0 := hcc 0 (by omega)
  have d1 : W0.cell? ⟨b, off + i * 7 + 1, none⟩ = some q1 := by have := hcc 1 (by omega); rwa [← Nat.add_assoc] at this
  have d2 : W0.cell? ⟨b, off + i * 7 + 2, none⟩ = some q2 := by have := hcc 2 (by omega); rwa [← Nat.add_assoc] at this
  have d3 : W0.cell? ⟨b, off + i * 7 + 3, none⟩ = some q3 := by have := hcc 3 (by omega); rwa [← Nat.add_assoc] at this
  have d4 : W0.cell? ⟨b, off + i * 7 + 4, none⟩ = some q4 := by have := hcc 4 (by omega); rwa [← Nat.add_assoc] at this
  have d5 : W0.cell? ⟨b, off + i * 7 + 5, none⟩ = some q5 := by have := hcc 5 (by omega); rwa [← Nat.add_assoc] at this
  have d6 : W0.cell? ⟨b, off + i * 7 + 6, none⟩ = some q6 := by have := hcc 6 (by omega); rwa [← Nat.add_assoc] at this
  have h1 : (i : Int) < (ln : Int) := by omega
  have h2 : ¬ (i : Int) < 0 := by omega
  have h3 : ¬ (ln : Int) ≤ (i : Int) := by omega
  have h4 : (0 : Int) ≤ (i : Int) := by omega
  have h5 : ((i : Int)).toNat = i := by omega
  have HM2 := Lib.hid hm2
  have HW := Lib.hid hW
  obtain ⟨x0, x1, x2, x3, x4, x5, x6⟩ := box7_of hm1
  clear hcc hm1 hm2 hW hks0 hls0 a1 a2 a3 a4 a5 a6 a7 hvy hy2 hy3 hi2 hlt2
  go_upto_region 3 with fail
  go_wp2_with fail
  refine HX.mono ?_
  rintro e' w1 ⟨rfl, rfl⟩
  go_wp2_with fail
  refine HC.mono ?_
  rintro e' w2 ⟨cs', rfl, hv, hb2⟩
  clear HC HX x0 x1 x2 x3 x4 x5 x6 d0 d1 d2 d3 d4 d5 d6
  obtain ⟨k3, g3, n3, e3, t3, l3, s3, rfl⟩ : ∃ k neg xs e t li ks, y' = VT.mk k neg xs e t li ks := by cases y'; exact ⟨_, _, _, _, _, _, _, rfl⟩
  obtain ⟨A3, m3, c3, LA3, lm3, lc3, KA3, km3, kc3, rfl, _⟩ := hv.parts
  have hmz := (hb2.block _ hzW).trans HM2.out
  obtain ⟨z0, z1, z2, z3, z4, z5, z6⟩ := box7_of hmz
  have fz : ∀ j, w2.frozen? ⟨w.heap.size + 1, j, none⟩ = false := fun j => frozen_of_row w2 _ j _ _ hmz
  have HV := Lib.hid hv
  clear hv hmz
  go_wp2_with fail
  refine bodyPost_ret (v := .tuple #[.agg #[.int .i64 k3, .bool g3, .slice A3 m3 c3, .int .i64 e3, .string t3, .slice LA3 lm3 lc3, .slice KA3 km3 kc3], .bool true]) (by simp [results, Tryz.results38, go_sem, z0, z1, z2, z3, z4, z5, z6]) rfl ?_
  refine ⟨[.int .i64 k3, .bool g3, .slice A3 m3 c3, .int .i64 e3, .string t3, .slice LA3 lm3 lc3, .slice KA3 km3 kc3], rfl, ?_, below_seven (HW.out.trans (hb2.mono HW.out.size)) (by omega) _ _ _ _ _ _ _⟩
  refine (HV.out.keep fun p hp => ?_).more fun b hb => ⟨by have := hb.1; have := HW.out.size; omega, ?_⟩
  · have h1 := hp.1
    exact cell_seven (by omega) _ _ _ _ _ _ _
  · have := hb.2
    simpa [World.setCell] using this
end Go.Proofs.YtklpfgjnlheikaaGreatDoor
