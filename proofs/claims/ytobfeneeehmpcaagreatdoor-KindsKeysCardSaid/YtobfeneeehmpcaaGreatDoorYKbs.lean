/-
  Lists made flat; contract of kinds.flat.
  What a list's values are; what flattening comes to. Pure, no program.
  Numbers as places: what Floor and Whole make of them.
  Contract of slices.BinarySearch of texts, where the text stands among them.
-/
import Derived.Test.YtobfeneeehmpcaaGreatDoorYKck
import Derived.Laws.AppendOwnNone
import Derived.Test.YtobfeneeehmpcaaGreatDoorYKwo
import Derived.Test.YtobfeneeehmpcaaGreatDoorYKln
import Derived.Laws.Concat
set_option linter.unusedVariables false
set_option linter.unusedSimpArgs false
namespace Go.Proofs.YtobfeneeehmpcaaGreatDoor
open Go.RowKit Go.Lib

theorem ownsRow_cellK {w : World} {base : Nat} {e : TypeId} {size n g cap : Nat} {xs : List Value} (h : w.ownsRow base e size (.slice (some ⟨g, 0, none⟩) n cap) n xs) {j : Nat} {u : Value} (hj : xs[j]? = some u) : w.cell? ⟨g, j, none⟩ = some u := by
  rcases h.2 with ⟨h2, -⟩ | ⟨g', cap', cur, e1, e2, e3, e4, e5, e6, e7⟩
  · exact absurd h2 (by simp)
  · injection e1 with e1
    injection e1 with e1
    have e8 : g = g' := congrArg Addr.block e1
    subst e8
    have h3 : cur[j]? = some u := by
      rw [← e7, List.getElem?_take] at hj
      by_cases hjn : j < n * size
      · rw [if_pos hjn] at hj
        rw [← Array.getElem?_toList]; exact hj
      · rw [if_neg hjn] at hj; exact absurd hj (by simp)
    simp [World.cell?, e3, h3]
end Go.Proofs.YtobfeneeehmpcaaGreatDoor

namespace Go.Proofs.YtobfeneeehmpcaaGreatDoor
open Go.RowKit Go.Lib

theorem firstBadK {l : List (Nat × VT)} (h : ∀ p ∈ l, alone p.2 = 0) : firstBad l = 0 := by
  induction l with
  | nil => rfl
  | cons p r ih =>
    unfold firstBad
    rw [if_pos (h p (by simp))]
    exact ih fun q hq => h q (by simp [hq])
theorem okV_ofK {x : VT} (h1 : ∀ y ∈ partsV x, alone y = 0) (h2 : (partsV x).length ≤ 16384) (h3 : deepL (pre 0 x) ≤ 64) : okV x := by
  have hl : (pre 0 x).length ≤ 16384 := by unfold partsV at h2; rwa [List.length_map] at h2
  have hs : seen x = pre 0 x := List.take_of_length_le (by unfold mostP; omega)
  unfold okV errV
  rw [hs, if_neg (by omega), if_neg (by omega)]
  exact firstBadK fun p hp => h1 _ ((mem_pre (lv := 0)).1 ⟨p.1, hp⟩)
theorem alone_of {x : VT} (h : okV x) : alone x = 0 := (okV_parts h).1 x (mem_parts.2 (.inl rfl))
end Go.Proofs.YtobfeneeehmpcaaGreatDoor

namespace Go.Proofs.YtobfeneeehmpcaaGreatDoor
open Go.RowKit Go.Lib

theorem stN_falseK (v : Nat) (e : Int) : stN false v e = false := by unfold stN; split <;> rfl
/-- A number that counts, as a decimal. -/
theorem placeK {n : Nat} (h : n < 10 ^ 40) : okB false (stZ n 0) (stX n 0) = true ∧ L32 (stZ n 0) ∧ ∃ p : Nat, stX n 0 = (p : Int) ∧ val (stZ n 0) * 10 ^ p = n := by
  have h0 := stE_small h
  obtain ⟨q1, q2, q3, q4⟩ := settle_may (s := false) (lo := 0) (Z := n) (by omega) h0
  rw [stN_falseK] at q1 q3
  refine ⟨q1, q2, ?_⟩
  rcases Nat.eq_zero_or_pos n with hz | hp
  · subst hz
    obtain ⟨z1, z2, z3, z4⟩ := st_zero false 0
    exact ⟨0, by rw [z3]; rfl, by rw [z4]; rfl⟩
  · have hx := q4 hp
    obtain ⟨p, hp2⟩ : ∃ p : Nat, stX n 0 = (p : Int) := ⟨(stX n 0).toNat, by omega⟩
    refine ⟨p, hp2, ?_⟩
    rw [hp2] at q3
    have hsp : sp (p : Int) = 10 ^ p * sp 0 := by
      unfold sp
      rw [show ((p : Int) + 5000).toNat = p + ((0 : Int) + 5000).toNat by omega, Nat.pow_add]
    unfold sv sg at q3
    rw [hsp] at q3
    simp only [Bool.false_eq_true, if_false] at q3
    have hpos := sp_pos 0
    generalize sp 0 = T at q3 hpos
    have q5 : val (stZ n 0) * (10 ^ p * T) = n * T := by exact_mod_cast q3
    rw [← Nat.mul_assoc] at q5
    exact Nat.eq_of_mul_eq_mul_right hpos q5
theorem wq_placeK {v p : Nat} : wq v (p : Int) = v * 10 ^ p := by
  unfold wq wd
  rw [show (-(p : Int)).toNat = 0 by omega, Nat.pow_zero, Nat.mul_one, Nat.div_one, Int.toNat_natCast]
set_option maxRecDepth 100000 in
theorem floorN_c {S : Nat → Prop} {A : Option Addr} {m c n : Nat} (w : World) (hn : n < 10 ^ 40) (ha : Rd w S A m (stZ n 0)) (hS : ∀ b, S b → b < w.heap.size) (hm : m ≤ 9223372036854775807) :
    Calls Tryz.prog 30 #[.agg #[.bool false, .slice A m c, .int .i64 (stX n 0)]] w fun e w' => ∃ A' m' c', (e = .returned (.tuple #[.agg #[.bool false, .slice A' m' c', .int .i64 (stX n 0)], .int .i64 0]) ∧ Res w' w.heap.size A' m' c' (stZ n 0)) ∧ Below w.heap.size w w' := by
  obtain ⟨h1, h2, p, hp, hv⟩ := placeK hn
  have hq := QFloor_c (c := c) false (stX n 0) w ha hS hm
  unfold dv at hq
  refine hq.mono ?_
  rintro e9 w1 ⟨⟨E0, s, Z, lo, hpp, htold⟩, hb1⟩
  rcases hpp with ⟨h, -⟩ | ⟨-, g1, g2, g3, g4⟩
  · exact absurd (by unfold okE; rw [h1]; rfl) h
  subst g1 g2 g4
  have hz : Z = n := by
    rw [g3, hp, wq_placeK, hv]
    simp
  subst hz
  obtain ⟨A', m', c', rfl, hres⟩ := htold
  refine ⟨A', m', c', ⟨?_, hres⟩, hb1⟩
  simp only [opN, opX, opE, if_true]
  rw [stN_falseK, stE_small hn]
  rfl
set_option maxRecDepth 100000 in
theorem wholeK_c {S : Nat → Prop} {A : Option Addr} {m c n : Nat} (w : World) (hn : n ≤ 9007199254740992) (ha : Rd w S A m (stZ n 0)) (hS : ∀ b, S b → b < w.heap.size) (hm : m ≤ 9223372036854775807) :
    Calls Tryz.prog 31 #[.agg #[.bool false, .slice A m c, .int .i64 (stX n 0)]] w fun e w' => e = .returned (.tuple #[.int .i64 (n : Int), .bool true, .int .i64 0]) ∧ Below w.heap.size w w' := by
  obtain ⟨h1, h2, p, hp, hv⟩ := placeK (n := n) (by omega)
  rw [hp] at h1 ⊢
  have hw := DWhole_ok (c := c) (p := p) false w ha hS hm h1 (by rw [hv]; exact hn)
  rw [hv] at hw
  unfold dv sg at hw
  simp only [Bool.false_eq_true, if_false] at hw
  exact hw
/-- A number that counts may be. -/
theorem numT_natK (n : Nat) : numT (n : Int) = .mk 3 false (stZ n 0) (stX n 0) ⟨#[]⟩ [] [] := by
  unfold numT
  rw [show (decide ((n : Int) < 0)) = false from decide_eq_false (by omega), Int.natAbs_natCast, stN_falseK]
theorem okOneK {x : VT} (h : alone x = 0) (hi : x.inner = []) : okV x := by
  have hp : pre 0 x = [(0, x)] := by rw [pre_eq, hi]; rfl
  refine okV_ofK (fun y hy => ?_) ?_ ?_
  · unfold partsV at hy
    rw [hp] at hy
    rw [show y = x by simpa using hy]; exact h
  · unfold partsV; rw [hp]; simp
  · rw [hp]; simp only [deepL]; split <;> omega
end Go.Proofs.YtobfeneeehmpcaaGreatDoor

namespace Go.Proofs.YtobfeneeehmpcaaGreatDoor
open Go.RowKit Go.Lib

theorem riseK {ks : List ByteArray} (h : rises ks = true) : ∀ (k j : Nat) (a b : ByteArray), j < k → ks[j]? = some a → ks[k]? = some b → a.toList < b.toList
  | 0, j, a, b, hj, _, _ => absurd hj (by omega)
  | k + 1, j, a, b, hj, ha, hb => by
    have hkl : k < ks.length := by have := (List.getElem?_eq_some_iff.1 hb).1; omega
    have hc : ks[k]? = some ks[k] := List.getElem?_eq_getElem hkl
    have hs := (rises_iff ks).1 h k _ _ (by have := (List.getElem?_eq_some_iff.1 hb).1; omega) hc hb
    rw [bytesLess_eq, decide_eq_true_eq] at hs
    rcases Nat.lt_or_ge j k with h1 | h1
    · exact List.lt_trans (riseK h k j a _ h1 ha hc) hs
    · obtain rfl : j = k := by omega
      rw [hc] at ha
      injection ha with ha
      rw [← ha]; exact hs
/-- How a text of a rising row stands to another one of it. -/
theorem rise_cmpK {ks : List ByteArray} (h : rises ks = true) {i j : Nat} {a b : ByteArray} (ha : ks[i]? = some a) (hb : ks[j]? = some b) : Go.Op.bytesLess a.toList b.toList = decide (i < j) := by
  rw [bytesLess_eq]
  rcases Nat.lt_trichotomy i j with h1 | h1 | h1
  · rw [decide_eq_true (riseK h _ _ _ _ h1 ha hb), decide_eq_true h1]
  · subst h1
    rw [ha] at hb
    injection hb with hb
    subst hb
    rw [decide_eq_false (List.lt_irrefl _), decide_eq_false (by omega)]
  · rw [decide_eq_false (List.lt_asymm (riseK h _ _ _ _ h1 hb ha)), decide_eq_false (by omega)]
theorem nan1_c (s : ByteArray) (w : World) : Calls Tryz.prog 68 #[.string s] w fun e w' => e = .returned (.bool false) ∧ w = w' := by
  have h : (s.toList == s.toList) = true := by simp
  go_enter Tryz.func68, Tryz.ntmps68
  go_wp2_with fail
  go_ret
  exact ⟨rfl, rfl⟩
set_option maxRecDepth 100000 in
theorem less2_c (s t : ByteArray) (w : World) : Calls Tryz.prog 45 #[.string s, .string t] w fun e w' => e = .returned (.bool (Go.Op.bytesLess s.toList t.toList)) ∧ w = w' := by
  obtain ⟨R, hR⟩ : ∃ R, Go.Op.bytesLess s.toList t.toList = R := ⟨_, rfl⟩
  rw [hR]
  go_enter Tryz.func45, Tryz.ntmps45
  go_wp2_with (go_at_call 68; refine (nan1_c _ _).mono ?_; rintro e w' ⟨rfl, rfl⟩)
  go_ret
  exact ⟨rfl, rfl⟩
set_option maxRecDepth 100000 in
set_option maxHeartbeats 4000000 in
theorem binary_c {S : Nat → Prop} {K : Option Addr} {n c i0 : Nat} {ks : List ByteArray} {s : ByteArray} (w : World) (hr : rises ks = true) (hk : RdT w S K n ks) (hs : ks[i0]? = some s) (hn : n ≤ 8796093022208) :
    Calls Tryz.prog 29 #[.slice K n c, .string s] w fun e w' => e = .returned (.tuple #[.int .i64 (i0 : Int), .bool true]) ∧ w = w' := by
  have hi0 : i0 < n := by rw [← hk.1]; exact (List.getElem?_eq_some_iff.1 hs).1
  obtain ⟨b, off, rfl, hSb, hcell⟩ := hk.2 (by omega)
  have HK := Lib.hid hk
  have HR := Lib.hid hr
  have HSS := Lib.hid hs
  have HC := Lib.hid hcell
  have hss : (s.toList == s.toList) = true := by simp
  clear hk hr hs hcell
  go_enter Tryz.func29, Tryz.ntmps29
  go_upto_region 3 with fail
  go_loopw [7, 8] (fun lv hv wr => ∃ (lo hi : Nat), lv = .int .i64 (lo : Int) ∧ hv = .int .i64 (hi : Int) ∧ lo ≤ i0 ∧ i0 ≤ hi ∧ hi ≤ n ∧ w = wr) (fun lv hv _ => (RowKit.intOf hv).toNat - (RowKit.intOf lv).toNat)
  case atStart => exact ⟨0, n, rfl, rfl, Nat.zero_le _, by omega, Nat.le_refl _, rfl⟩
  case round =>
    obtain ⟨lo, hi, rfl, rfl, hlo, hhi, hin, rfl⟩ := hrel
    by_cases hlh : lo < hi
    · have hlt : (lo : Int) < (hi : Int) := by omega
      obtain ⟨m, hm⟩ : ∃ m, (lo + hi) / 2 = m := ⟨_, rfl⟩
      have hmn : m < n := by omega
      have hml : lo ≤ m := by omega
      have hmh : m < hi := by omega
      obtain ⟨t, ht⟩ : ∃ t, ks[m]? = some t := ⟨_, List.getElem?_eq_getElem (by rw [HK.out.1]; exact hmn)⟩
      obtain ⟨hct, -⟩ := HC.out m t ht
      have hcmp := rise_cmpK HR.out ht HSS.out
      have hadd : IntKind.i64.wrap ((lo : Int) + (hi : Int)) = (lo : Int) + (hi : Int) := IntWalk.i64_in _ (by omega)
      have hmI : ((lo : Int) + (hi : Int)) / 2 = (m : Int) := by omega
      have hm0 : (0 : Int) ≤ (m : Int) := by omega
      have hmt : ((m : Int)).toNat = m := by omega
      have hmlt : (m : Int) < (n : Int) := by omega
      have hmw : IntKind.i64.wrap ((m : Int) + 1) = ((m + 1 : Nat) : Int) := by rw [IntWalk.i64_in _ (by omega)]; omega
      have hle := less2_c t s w
      rw [hcmp] at hle
      have HLE := Lib.hid hle
      clear hcmp hle hm
      by_cases hmi : m < i0
      · rw [decide_eq_true hmi] at HLE
        go_upto_region 5 with fail
        try rw [hmI]
        go_wp2_with fail
        refine HLE.out.mono ?_
        rintro e9 w' ⟨rfl, rfl⟩
        go_wp2_with fail
        go_roundw
        case rel => exact ⟨m + 1, hi, by go_num, rfl, by omega, hhi, hin, trivial⟩
        case measure => simp [RowKit.intOf]; omega
      · rw [decide_eq_false hmi] at HLE
        go_upto_region 5 with fail
        try rw [hmI]
        go_wp2_with fail
        refine HLE.out.mono ?_
        rintro e9 w' ⟨rfl, rfl⟩
        go_wp2_with fail
        go_roundw
        case rel => exact ⟨lo, m, rfl, rfl, hlo, by omega, by omega, trivial⟩
        case measure => simp [RowKit.intOf]; omega
    · have hnl : ¬ (lo : Int) < (hi : Int) := by omega
      obtain rfl : lo = i0 := by omega
      have hlt : (lo : Int) < (n : Int) := by omega
      have h0 : (0 : Int) ≤ (lo : Int) := by omega
      have ht0 : ((lo : Int)).toNat = lo := by omega
      obtain ⟨hct, -⟩ := HC.out lo s HSS.out
      go_wp2_with fail
      go_ret2
      exact ⟨rfl, rfl⟩
end Go.Proofs.YtobfeneeehmpcaaGreatDoor
