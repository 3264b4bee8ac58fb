/-
  What Contains answers, as a function of trees: it holds of a value and itself, and goes on from value to value.
  Contract of slices.BinarySearch of texts, where the text stands among them.
  Contract of slices.BinarySearch of texts, whether the text stands among them or not.
  Contains over keys: what the pairs of a rising row answer.
-/
import Derived.Test.YtipomnogabnfdaaGreatDoorPKck
import Derived.Laws.Concat
set_option linter.unusedVariables false
set_option linter.unusedSimpArgs false
namespace Go.Proofs.YtipomnogabnfdaaGreatDoor
open Go.RowKit Go.Lib

/-- A text stands in a text. -/
def inT (a b : ByteArray) : Bool := (List.range (a.data.toList.length + 1)).any fun i => b.data.toList.isPrefixOf (a.data.toList.drop i)
theorem inT_iff {a b : ByteArray} : inT a b = true ↔ ∃ l r, a.data.toList = l ++ (b.data.toList ++ r) := by
  unfold inT
  rw [List.any_eq_true]
  constructor
  · rintro ⟨i, -, h⟩
    obtain ⟨r, hr⟩ := List.isPrefixOf_iff_prefix.1 h
    exact ⟨a.data.toList.take i, r, by rw [hr, List.take_append_drop]⟩
  · rintro ⟨l, r, h⟩
    refine ⟨l.length, ?_, ?_⟩
    · rw [List.mem_range, h, List.length_append]; omega
    · rw [List.isPrefixOf_iff_prefix, h, List.drop_left]
      exact ⟨r, rfl⟩
theorem inT_refl (a : ByteArray) : inT a a = true := inT_iff.2 ⟨[], [], by simp⟩
theorem inT_trans {a b c : ByteArray} (h1 : inT a b = true) (h2 : inT b c = true) : inT a c = true := by
  obtain ⟨l, r, h1⟩ := inT_iff.1 h1
  obtain ⟨l', r', h2⟩ := inT_iff.1 h2
  refine inT_iff.2 ⟨l ++ l', r' ++ r, ?_⟩
  rw [h1, h2]
  simp [List.append_assoc]

/-- What Contains answers, so many levels down. -/
def conF : Nat → VT → VT → Bool
  | 0, _, _ => false
  | n + 1, a, b =>
    if a.kind ≠ b.kind then false
    else if a.kind = 4 then inT a.text b.text
    else if a.kind = 5 then b.list.all fun p => a.list.any fun o => conF n o p
    else if a.kind = 6 then (b.keys.zip b.list).all fun p => (a.keys.zip a.list).any fun o => decide (o.1 = p.1) && conF n o.2 p.2
    else (decide (a.neg = b.neg) && decide (a.exp = b.exp)) && decide (a.num = b.num)
theorem size_elem {x y : VT} (h : y ∈ x.list) : SizeOf.sizeOf y < SizeOf.sizeOf x := by
  cases x with
  | mk k neg xs e t l ks =>
    have := List.sizeOf_lt_of_mem (show y ∈ l from h)
    simp only [VT.mk.sizeOf_spec]
    omega
theorem conF_refl : ∀ (n : Nat) (a : VT), SizeOf.sizeOf a < n → conF n a a = true := by
  intro n
  induction n with
  | zero => intro a h; exact absurd h (Nat.not_lt_zero _)
  | succ n ih =>
    intro a h
    unfold conF
    rw [if_neg (by simp)]
    split
    · exact inT_refl _
    split
    · rw [List.all_eq_true]
      intro p hp
      rw [List.any_eq_true]
      exact ⟨p, hp, ih p (by have := size_elem hp; omega)⟩
    split
    · rw [List.all_eq_true]
      intro p hp
      rw [List.any_eq_true]
      refine ⟨p, hp, ?_⟩
      have h2 : p.2 ∈ a.list := (List.of_mem_zip (show (p.1, p.2) ∈ a.keys.zip a.list from hp)).2
      rw [ih p.2 (by have := size_elem h2; omega)]
      simp
    · simp
theorem conF_trans : ∀ (n : Nat) (a b c : VT), conF n a b = true → conF n b c = true → conF n a c = true := by
  intro n
  induction n with
  | zero => intro a b c h; exact absurd h (by simp [conF])
  | succ n ih =>
    intro a b c h1 h2
    unfold conF at h1 h2 ⊢
    split at h1
    · exact absurd h1 (by decide)
    rename_i k1
    split at h2
    · exact absurd h2 (by decide)
    rename_i k2
    have e1 : a.kind = b.kind := by simpa using k1
    have e2 : b.kind = c.kind := by simpa using k2
    rw [if_neg (by rw [e1, e2]; simp)]
    rw [← e1] at h2
    by_cases h4 : a.kind = 4
    · rw [if_pos h4] at h1 h2 ⊢
      exact inT_trans h1 h2
    rw [if_neg h4] at h1 h2 ⊢
    by_cases h5 : a.kind = 5
    · rw [if_pos h5] at h1 h2 ⊢
      rw [List.all_eq_true] at h1 h2 ⊢
      intro p hp
      obtain ⟨o, ho, hop⟩ := List.any_eq_true.1 (h2 p hp)
      obtain ⟨q, hq, hqo⟩ := List.any_eq_true.1 (h1 o ho)
      exact List.any_eq_true.2 ⟨q, hq, ih _ _ _ hqo hop⟩
    rw [if_neg h5] at h1 h2 ⊢
    by_cases h6 : a.kind = 6
    · rw [if_pos h6] at h1 h2 ⊢
      rw [List.all_eq_true] at h1 h2 ⊢
      intro p hp
      obtain ⟨o, ho, hop⟩ := List.any_eq_true.1 (h2 p hp)
      obtain ⟨q, hq, hqo⟩ := List.any_eq_true.1 (h1 o ho)
      rw [Bool.and_eq_true, decide_eq_true_eq] at hop hqo
      refine List.any_eq_true.2 ⟨q, hq, ?_⟩
      rw [Bool.and_eq_true, decide_eq_true_eq]
      exact ⟨hqo.1.trans hop.1, ih _ _ _ hqo.2 hop.2⟩
    rw [if_neg h6] at h1 h2 ⊢
    simp only [Bool.and_eq_true, decide_eq_true_eq] at h1 h2 ⊢
    exact ⟨⟨h1.1.1.trans h2.1.1, h1.1.2.trans h2.1.2⟩, h1.2.trans h2.2⟩
end Go.Proofs.YtipomnogabnfdaaGreatDoor

namespace Go.Proofs.YtipomnogabnfdaaGreatDoor
open Go.RowKit Go.Lib

theorem riseK {ks : List ByteArray} (h : rises ks = true) : ∀ (k j : Nat) (a b : ByteArray), j < k → ks[j]? = some a → ks[k]? = some b → a.toList < b.toList
  | 0, j, a, b, hj, _, _ => absurd hj (by omega)
  | k + 1, j, a, b, hj, ha, hb => by
    have hkl : k < ks.length := by have := (List.getElem?_eq_some_iff.1 hb).1; omega
    have hc : ks[k]? = some ks[k] := List.getElem?_eq_getElem hkl
    have hs := (rises_iff ks).1 h k _ _ (by have := (List.getElem?_eq_some_iff.1 hb).1; omega) hc hb
    rw [bytesLess_eq, decide_eq_true_eq] at hs
    rcases Nat.lt_or_ge j k with h1 | h1
    · exact List.lt_trans (riseK h k j a _ h1 ha hc) hs
    · obtain rfl : j = k := by omega
      rw [hc] at ha
      injection ha with ha
      rw [← ha]; exact hs
theorem nan1_c (s : ByteArray) (w : World) : Calls Tryz.prog 131 #[.string s] w fun e w' => e = .returned (.bool false) ∧ w = w' := by
  have h : (s.toList == s.toList) = true := by simp
  go_enter Tryz.func131, Tryz.ntmps131
  go_wp2_with fail
  go_ret
  exact ⟨rfl, rfl⟩
set_option maxRecDepth 100000 in
theorem less2_c (s t : ByteArray) (w : World) : Calls Tryz.prog 104 #[.string s, .string t] w fun e w' => e = .returned (.bool (Go.Op.bytesLess s.toList t.toList)) ∧ w = w' := by
  obtain ⟨R, hR⟩ : ∃ R, Go.Op.bytesLess s.toList t.toList = R := ⟨_, rfl⟩
  rw [hR]
  go_enter Tryz.func104, Tryz.ntmps104
  go_wp2_with (go_at_call 131; refine (nan1_c _ _).mono ?_; rintro e w' ⟨rfl, rfl⟩)
  go_ret
  exact ⟨rfl, rfl⟩
end Go.Proofs.YtipomnogabnfdaaGreatDoor

namespace Go.Proofs.YtipomnogabnfdaaGreatDoor
open Go.RowKit Go.Lib

/-- What the search answers. -/
def FindS (ks : List ByteArray) (s : ByteArray) (e : Ending) : Prop := ∃ (k : Nat) (B : Bool), e = .returned (.tuple #[.int .i64 (k : Int), .bool B]) ∧ (B = true → ks[k]? = some s) ∧ (B = false → ¬ s ∈ ks)
theorem toList_inj {a b : ByteArray} (h : a.toList = b.toList) : a = b := by
  rw [ByteArray.toList_eq, ByteArray.toList_eq] at h
  cases a; cases b
  simpa using h
theorem nan2_c (s : ByteArray) (w : World) : Calls Tryz.prog 105 #[.string s] w fun e w' => e = .returned (.bool false) ∧ w = w' := by
  have h : (s.toList == s.toList) = true := by simp
  go_enter Tryz.func105, Tryz.ntmps105
  go_wp2_with fail
  go_ret
  exact ⟨rfl, rfl⟩
set_option maxRecDepth 100000 in
set_option maxHeartbeats 4000000 in
theorem binaryAny_c {S : Nat → Prop} {K : Option Addr} {n c : Nat} {ks : List ByteArray} {s : ByteArray} (w : World) (hr : rises ks = true) (hk : RdT w S K n ks) (hn : n ≤ 8796093022208) :
    Calls Tryz.prog 75 #[.slice K n c, .string s] w fun e w' => FindS ks s e ∧ w = w' := by
  have HK := Lib.hid hk
  have HR := Lib.hid hr
  have hss : (s.toList == s.toList) = true := by simp
  clear hk hr
  go_enter Tryz.func75, Tryz.ntmps75
  go_upto_region 3 with fail
  go_loopw [7, 8] (fun lv hv wr => ∃ (lo hi : Nat), lv = .int .i64 (lo : Int) ∧ hv = .int .i64 (hi : Int) ∧ lo ≤ hi ∧ hi ≤ n ∧ Hid (∀ j t, ks[j]? = some t → j < lo → t.toList < s.toList) ∧ Hid (∀ j t, ks[j]? = some t → hi ≤ j → ¬ t.toList < s.toList) ∧ w = wr) (fun lv hv _ => (RowKit.intOf hv).toNat - (RowKit.intOf lv).toNat)
  case atStart => exact ⟨0, n, rfl, rfl, Nat.zero_le _, Nat.le_refl _, fun j t _ h => absurd h (Nat.not_lt_zero _), fun j t h h2 => by have := (List.getElem?_eq_some_iff.1 h).1; have := HK.out.1; omega, rfl⟩
  case round =>
    obtain ⟨lo, hi, rfl, rfl, hlh2, hin, HLO, HHI, rfl⟩ := hrel
    by_cases hlh : lo < hi
    · have hlt : (lo : Int) < (hi : Int) := by omega
      obtain ⟨b, off, rfl, hSb, hcell⟩ := HK.out.2 (by omega)
      obtain ⟨m, hm⟩ : ∃ m, (lo + hi) / 2 = m := ⟨_, rfl⟩
      have hmn : m < n := by omega
      have hml : lo ≤ m := by omega
      have hmh : m < hi := by omega
      obtain ⟨t, ht⟩ : ∃ t, ks[m]? = some t := ⟨_, List.getElem?_eq_getElem (by rw [HK.out.1]; exact hmn)⟩
      obtain ⟨hct, -⟩ := hcell m t ht
      have hadd : IntKind.i64.wrap ((lo : Int) + (hi : Int)) = (lo : Int) + (hi : Int) := IntWalk.i64_in _ (by omega)
      have hmI : ((lo : Int) + (hi : Int)) / 2 = (m : Int) := by omega
      have hm0 : (0 : Int) ≤ (m : Int) := by omega
      have hmt : ((m : Int)).toNat = m := by omega
      have hmlt : (m : Int) < (n : Int) := by omega
      have hmw : IntKind.i64.wrap ((m : Int) + 1) = ((m + 1 : Nat) : Int) := by rw [IntWalk.i64_in _ (by omega)]; omega
      have hle := less2_c t s w
      have HM := Lib.hid ht
      clear hm ht hcell hSb
      rw [bytesLess_eq] at hle
      by_cases hmi : t.toList < s.toList
      · rw [decide_eq_true hmi] at hle
        have HLE := Lib.hid hle
        have HMI := Lib.hid hmi
        clear hle hmi
        go_upto_region 5 with fail
        try rw [hmI]
        go_wp2_with fail
        refine HLE.out.mono ?_
        rintro e9 w' ⟨rfl, rfl⟩
        go_wp2_with fail
        go_roundw
        case rel =>
          refine ⟨m + 1, hi, by go_num, rfl, by omega, hin, fun j u hj hjm => ?_, HHI, trivial⟩
          rcases Nat.lt_or_ge j m with h | h
          · exact List.lt_trans (riseK HR.out _ _ _ _ h hj HM.out) HMI.out
          · obtain rfl : j = m := by omega
            rw [HM.out] at hj
            injection hj with hj
            rw [← hj]; exact HMI.out
        case measure => simp [RowKit.intOf]; omega
      · rw [decide_eq_false hmi] at hle
        have HLE := Lib.hid hle
        have HMI := Lib.hid hmi
        clear hle hmi
        go_upto_region 5 with fail
        try rw [hmI]
        go_wp2_with fail
        refine HLE.out.mono ?_
        rintro e9 w' ⟨rfl, rfl⟩
        go_wp2_with fail
        go_roundw
        case rel =>
          refine ⟨lo, m, rfl, rfl, by omega, by omega, HLO, fun j u hj hjm hu => ?_, trivial⟩
          rcases Nat.lt_or_ge m j with h | h
          · exact HMI.out (List.lt_trans (riseK HR.out _ _ _ _ h HM.out hj) hu)
          · obtain rfl : j = m := by omega
            rw [HM.out] at hj
            injection hj with hj
            rw [← hj] at hu; exact HMI.out hu
        case measure => simp [RowKit.intOf]; omega
    · have hnl : ¬ (lo : Int) < (hi : Int) := by omega
      obtain rfl : lo = hi := by omega
      by_cases hl : lo < n
      · have hlt : (lo : Int) < (n : Int) := by omega
        have h0 : (0 : Int) ≤ (lo : Int) := by omega
        have ht0 : ((lo : Int)).toNat = lo := by omega
        obtain ⟨b, off, rfl, hSb, hcell⟩ := HK.out.2 (by omega)
        obtain ⟨t, ht⟩ : ∃ t, ks[lo]? = some t := ⟨_, List.getElem?_eq_getElem (by rw [HK.out.1]; exact hl)⟩
        obtain ⟨hct, -⟩ := hcell lo t ht
        have HM := Lib.hid ht
        clear ht hcell hSb
        by_cases hts : t = s
        · subst hts
          go_wp2_with fail
          go_ret2
          exact ⟨⟨lo, true, rfl, fun _ => HM.out, fun h => absurd h (by decide)⟩, rfl⟩
        · have hne : (t.toList == s.toList) = false := by rw [beq_eq_false_iff_ne]; exact fun h => hts (toList_inj h)
          have hno : ¬ s ∈ ks := by
            intro hs
            obtain ⟨j, hj, he⟩ := List.getElem_of_mem hs
            have hj' : ks[j]? = some s := by rw [List.getElem?_eq_getElem hj, he]
            rcases Nat.lt_trichotomy j lo with h | h | h
            · exact List.lt_irrefl _ (HLO.out j s hj' h)
            · subst h
              rw [HM.out] at hj'
              injection hj' with hj'
              exact hts hj'
            · exact HHI.out lo t HM.out (Nat.le_refl _) (riseK HR.out _ _ _ _ h HM.out hj')
          have HNO := Lib.hid hno
          clear hno hts
          go_wp2_with fail
          refine (nan2_c t w).mono ?_
          rintro e9 w' ⟨rfl, rfl⟩
          go_wp2_with fail
          go_ret2
          exact ⟨⟨lo, false, rfl, fun h => absurd h (by decide), fun _ => HNO.out⟩, rfl⟩
      · have hnl2 : ¬ (lo : Int) < (n : Int) := by omega
        have hno : ¬ s ∈ ks := by
          intro hs
          obtain ⟨j, hj, he⟩ := List.getElem_of_mem hs
          have hj' : ks[j]? = some s := by rw [List.getElem?_eq_getElem hj, he]
          exact List.lt_irrefl _ (HLO.out j s hj' (by have := HK.out.1; omega))
        have HNO := Lib.hid hno
        clear hno
        go_wp2_with fail
        go_ret2
        exact ⟨⟨lo, false, rfl, fun h => absurd h (by decide), fun _ => HNO.out⟩, rfl⟩
end Go.Proofs.YtipomnogabnfdaaGreatDoor

namespace Go.Proofs.YtipomnogabnfdaaGreatDoor
open Go.RowKit Go.Lib

theorem rise_oneK {ks : List ByteArray} (h : rises ks = true) {i j : Nat} {s : ByteArray} (hi : ks[i]? = some s) (hj : ks[j]? = some s) : i = j := by
  rcases Nat.lt_trichotomy i j with h1 | h1 | h1
  · exact absurd (riseK h _ _ _ _ h1 hi hj) (List.lt_irrefl _)
  · exact h1
  · exact absurd (riseK h _ _ _ _ h1 hj hi) (List.lt_irrefl _)
/-- The key is there: its value tells. -/
theorem zip_thereK {ks : List ByteArray} {l : List VT} {j : Nat} {s : ByteArray} {o : VT} (h : rises ks = true) (hs : ks[j]? = some s) (ho : l[j]? = some o) (P : VT → Bool) : ((ks.zip l).any fun q => decide (q.1 = s) && P q.2) = P o := by
  rw [Bool.eq_iff_iff, List.any_eq_true]
  constructor
  · rintro ⟨q, hq, hp⟩
    rw [Bool.and_eq_true, decide_eq_true_eq] at hp
    obtain ⟨i, hi, he⟩ := List.getElem_of_mem hq
    have h1 : (ks.zip l)[i]? = some q := by rw [List.getElem?_eq_getElem hi, he]
    rw [List.getElem?_zip_eq_some] at h1
    have hij : i = j := rise_oneK h (h1.1.trans (by rw [hp.1])) hs
    subst hij
    rw [ho] at h1
    have : o = q.2 := by have := h1.2; injection this
    rw [this]; exact hp.2
  · intro hp
    refine ⟨(s, o), ?_, by simpa using hp⟩
    exact List.mem_of_getElem? (List.getElem?_zip_eq_some.2 ⟨hs, ho⟩)
/-- The key is not there. -/
theorem zip_noneK {ks : List ByteArray} {l : List VT} {s : ByteArray} (h : ¬ s ∈ ks) (P : VT → Bool) : ((ks.zip l).any fun q => decide (q.1 = s) && P q.2) = false := by
  rw [List.any_eq_false]
  intro q hq hp
  rw [Bool.and_eq_true, decide_eq_true_eq] at hp
  exact h (hp.1 ▸ (List.of_mem_zip (show (q.1, q.2) ∈ ks.zip l from hq)).1)
/-- All pairs up to here, and the one that fails. -/
theorem zip_allK {ks : List ByteArray} {l : List VT} (hl : ks.length = l.length) (P : ByteArray × VT → Bool) (h : ∀ (j : Nat) (s : ByteArray) (o : VT), ks[j]? = some s → l[j]? = some o → P (s, o) = true) : (ks.zip l).all P = true := by
  rw [List.all_eq_true]
  intro q hq
  obtain ⟨i, hi, he⟩ := List.getElem_of_mem hq
  have h1 : (ks.zip l)[i]? = some q := by rw [List.getElem?_eq_getElem hi, he]
  rw [List.getElem?_zip_eq_some] at h1
  exact h i q.1 q.2 h1.1 h1.2
theorem zip_failK {ks : List ByteArray} {l : List VT} {j : Nat} {s : ByteArray} {o : VT} (P : ByteArray × VT → Bool) (hs : ks[j]? = some s) (ho : l[j]? = some o) (h : P (s, o) = false) : (ks.zip l).all P = false := by
  rw [List.all_eq_false]
  exact ⟨(s, o), List.mem_of_getElem? (List.getElem?_zip_eq_some.2 ⟨hs, ho⟩), by rw [h]; decide⟩
end Go.Proofs.YtipomnogabnfdaaGreatDoor
