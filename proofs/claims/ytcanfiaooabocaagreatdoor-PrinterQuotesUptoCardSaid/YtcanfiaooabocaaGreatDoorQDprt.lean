/-
  What a decimal's text is, in octets, and contracts of dec's plain and withPower.
  Contract of dec.Print: a decimal's text, in octets, or the error.
-/
import Derived.Test.YtcanfiaooabocaaGreatDoorQDset
import Derived.Lib.ItoaNum
import Derived.Test.YtcanfiaooabocaaGreatDoorQNparse
import Derived.Test.YtcanfiaooabocaaGreatDoorQDop
import Derived.PlainAid
import Derived.Test.YtcanfiaooabocaaGreatDoorQNrefe
set_option linter.unusedVariables false
set_option linter.unusedSimpArgs false
namespace Go.Proofs.YtcanfiaooabocaaGreatDoor
open Go.RowKit

theorem octs_append (a b : ByteArray) : octs (a ++ b) = octs a ++ octs b := by
  obtain ⟨a⟩ := a
  obtain ⟨b⟩ := b
  rw [ByteArray.mk_append_mk]
  unfold octs
  simp
theorem octs_rep (k : Nat) : octs ⟨(Lib.repeatL [48] k).toArray⟩ = List.replicate k 48 := by
  rw [octs_list]
  induction k with
  | zero => rfl
  | succ k ih =>
    unfold Lib.repeatL
    rw [List.map_append, ih, List.replicate_succ]; rfl

/-- The octets of a number, with '-' ahead where it is below 0. -/
def itoO (z : Int) : List Nat := (Lib.itoa z).map (·.toNat)
/-- Digits of which as many stand ahead of the point as it tells. -/
def plainT (ds : List Nat) (p : Int) : List Nat :=
  if p < 1 then [48, 46] ++ (List.replicate (-p).toNat 48 ++ ds)
  else if p < (ds.length : Int) then ds.take p.toNat ++ 46 :: ds.drop p.toNat
  else ds ++ List.replicate (p - (ds.length : Int)).toNat 48
/-- Digits with the point behind the first one, and the exponent. -/
def powT (ds : List Nat) (p : Int) : List Nat :=
  (ds.take 1 ++ (if 1 < ds.length then 46 :: ds.drop 1 else [])) ++ (if p < 1 then 101 :: 45 :: itoO (1 - p) else 101 :: 43 :: itoO (p - 1))

theorem plainT_len (ds : List Nat) {p : Int} (h1 : -3000 ≤ p) (h2 : p ≤ 3000) : (plainT ds p).length ≤ ds.length + 3002 := by
  unfold plainT
  split
  · simp; omega
  · split
    · simp; omega
    · simp; omega
theorem powT_len (ds : List Nat) {p z : Int} (hz : z = if p < 1 then 1 - p else p - 1) (h : (itoO z).length ≤ 100) : (powT ds p).length ≤ ds.length + 110 := by
  unfold powT
  rw [List.length_append, List.length_append, List.length_take]
  have e1 : (if 1 < ds.length then 46 :: ds.drop 1 else ([] : List Nat)).length ≤ ds.length := by split <;> simp; omega
  have e2 : (if p < 1 then 101 :: 45 :: itoO (1 - p) else 101 :: 43 :: itoO (p - 1)).length ≤ 102 := by
    by_cases hp : p < 1
    · rw [if_pos hp] at hz
      subst hz
      rw [if_pos hp]; simp; omega
    · rw [if_neg hp] at hz
      subst hz
      rw [if_neg hp]; simp; omega
  omega
theorem Repeat0_c (k : Nat) (z : Int) (w : World) (hz : z = (k : Int)) (hk : k ≤ 100000) :
    Calls Tryz.prog 106 #[.string ⟨#[48]⟩, .int .i64 z] w fun e w' => ∃ t, e = .returned (.string t) ∧ octs t = List.replicate k 48 ∧ t.size = k ∧ Below w.heap.size w w' := by
  subst hz
  refine (Tryz.strings_Repeat ⟨#[48]⟩ k w (by omega) (by show 1 * k ≤ _; omega)).mono ?_
  rintro e w' ⟨rfl, hb⟩
  have h1 : octs ⟨(Lib.repeatL [48] k).toArray⟩ = List.replicate k 48 := octs_rep k
  refine ⟨_, rfl, h1, ?_, hb⟩
  have := congrArg List.length h1
  rw [octs_length, List.length_replicate] at this
  exact this

set_option maxRecDepth 100000 in
theorem plain_c (s : ByteArray) (p : Int) (w : World) (hs : s.size ≤ 3000) (hp : -3000 ≤ p ∧ p ≤ 3000) :
    Calls Tryz.prog 73 #[.string s, .int .i64 p] w fun e w' => ∃ t, e = .returned (.string t) ∧ octs t = plainT (octs s) p ∧ t.size ≤ 10000 ∧ Below w.heap.size w w' := by
  suffices hh : Calls Tryz.prog 73 #[.string s, .int .i64 p] w fun e w' => ∃ t, e = .returned (.string t) ∧ octs t = plainT (octs s) p ∧ Below w.heap.size w w' by
    refine hh.mono ?_
    rintro e w' ⟨t, rfl, ht, hb⟩
    refine ⟨t, rfl, ht, ?_, hb⟩
    have h1 := plainT_len (octs s) hp.1 hp.2
    rw [← ht, octs_length, octs_length] at h1
    omega
  obtain ⟨hp1, hp2⟩ := hp
  have HL := Lib.hid (octs_length s)
  by_cases h1 : p < 1
  · obtain ⟨k, hk⟩ : ∃ k : Nat, -p = (k : Int) := ⟨(-p).toNat, by omega⟩
    have HE : Hid (plainT (octs s) p = [48, 46] ++ (List.replicate k 48 ++ octs s)) := by
      show _ = _
      unfold plainT
      rw [if_pos h1, hk, Int.toNat_natCast]
    have HK := Lib.hid hk
    clear hk
    go_enter Tryz.func73, Tryz.ntmps73
    go_wp2_with fail
    refine (Repeat0_c k _ _ HK.out (by have := HK.out; omega)).mono ?_
    rintro e w1 ⟨t, rfl, ht, hts, hb1⟩
    have HT := Lib.hid ht
    have htz : t.size ≤ 3000 := by have := HK.out; omega
    clear ht hts
    go_wp2
    go_ret
    refine ⟨_, rfl, ?_, hb1⟩
    rw [HE.out, octs_append, octs_append, HT.out, List.append_assoc]
    rfl
  · by_cases h2 : p < (s.size : Int)
    · obtain ⟨k, rfl⟩ : ∃ k : Nat, p = (k : Int) := ⟨p.toNat, by omega⟩
      have hk1 : 1 ≤ k := by omega
      have hks : k < s.size := by omega
      have HE : Hid (plainT (octs s) (k : Int) = (octs s).take k ++ 46 :: (octs s).drop k) := by
        show _ = _
        unfold plainT
        rw [if_neg h1, if_pos (by rw [HL.out]; exact h2), Int.toNat_natCast]
      clear h1 h2
      go_enter Tryz.func73, Tryz.ntmps73
      go_wp2
      go_quiet (fail)
      go_wp2
      go_ret
      refine ⟨_, rfl, ?_, below_drewN (Below.refl _ _) _⟩
      rw [HE.out, octs_append, octs_append, octs_take, octs_drop, List.append_assoc]
      rfl
    · obtain ⟨k, hk⟩ : ∃ k : Nat, p - (s.size : Int) = (k : Int) := ⟨(p - (s.size : Int)).toNat, by omega⟩
      have HE : Hid (plainT (octs s) p = octs s ++ List.replicate k 48) := by
        show _ = _
        unfold plainT
        rw [if_neg h1, if_neg (by rw [HL.out]; exact h2), HL.out, hk, Int.toNat_natCast]
      have HK := Lib.hid hk
      clear hk
      go_enter Tryz.func73, Tryz.ntmps73
      go_wp2_with fail
      refine (Repeat0_c k _ _ HK.out (by have := HK.out; omega)).mono ?_
      rintro e w1 ⟨t, rfl, ht, hts, hb1⟩
      have HT := Lib.hid ht
      have htz : t.size ≤ 3000 := by have := HK.out; omega
      clear ht hts
      go_wp2
      go_ret
      refine ⟨_, rfl, ?_, hb1⟩
      rw [HE.out, octs_append, HT.out]

/-- A call of Itoa at this number tells its octets, whatever was laid since. -/
def ItoaOk (B : Nat) (w : World) (z : Int) : Prop := ∀ W, Below B w W → Calls Tryz.prog 105 #[.int .i64 z] W fun e w' => ∃ t, e = .returned (.string t) ∧ octs t = itoO z ∧ t.size ≤ 100 ∧ Below W.heap.size W w'
set_option maxRecDepth 100000 in
theorem withPower_c (s : ByteArray) (p z : Int) (w : World) (hs : 0 < s.size) (hs2 : s.size ≤ 3000) (hp : -3000 ≤ p ∧ p ≤ 3000) (hz : z = if p < 1 then 1 - p else p - 1) (hI : ItoaOk w.heap.size w z) :
    Calls Tryz.prog 72 #[.string s, .int .i64 p] w fun e w' => ∃ t, e = .returned (.string t) ∧ octs t = powT (octs s) p ∧ t.size ≤ 10000 ∧ Below w.heap.size w w' := by
  suffices hh : Calls Tryz.prog 72 #[.string s, .int .i64 p] w fun e w' => ∃ t, e = .returned (.string t) ∧ octs t = powT (octs s) p ∧ (itoO z).length ≤ 100 ∧ Below w.heap.size w w' by
    refine hh.mono ?_
    rintro e w' ⟨t, rfl, ht, h0, hb⟩
    refine ⟨t, rfl, ht, ?_, hb⟩
    have h1 := powT_len (octs s) hz h0
    rw [← ht, octs_length, octs_length] at h1
    omega
  obtain ⟨hp1, hp2⟩ := hp
  have HL := Lib.hid (octs_length s)
  have HI := Lib.hid hI
  clear hI
  by_cases h1 : p < 1
  · rw [if_pos h1] at hz
    subst hz
    by_cases h2 : 1 < s.size
    · have HE : Hid (powT (octs s) p = ((octs s).take 1 ++ 46 :: (octs s).drop 1) ++ 101 :: 45 :: itoO (1 - p)) := by
        show _ = _
        unfold powT
        rw [if_pos h1, if_pos (by rw [HL.out]; exact h2)]
      go_enter Tryz.func72, Tryz.ntmps72
      go_wp2_with fail
      refine (HI.out _ (Below.refl _ _)).mono ?_
      rintro e w1 ⟨t, rfl, ht, hts, hb1⟩
      have htl : Hid ((itoO (1 - p)).length ≤ 100) := by show _ ≤ _; rw [← ht, octs_length]; exact hts
      have HT := Lib.hid ht
      clear ht
      go_wp2
      go_ret
      refine ⟨_, rfl, ?_, htl.out, hb1⟩
      rw [HE.out]
      simp only [octs_append, octs_take, octs_drop, HT.out, List.append_assoc]
      rfl
    · have HE : Hid (powT (octs s) p = ((octs s).take 1 ++ []) ++ 101 :: 45 :: itoO (1 - p)) := by
        show _ = _
        unfold powT
        rw [if_pos h1, if_neg (by rw [HL.out]; exact h2)]
      go_enter Tryz.func72, Tryz.ntmps72
      go_wp2_with fail
      refine (HI.out _ (Below.refl _ _)).mono ?_
      rintro e w1 ⟨t, rfl, ht, hts, hb1⟩
      have htl : Hid ((itoO (1 - p)).length ≤ 100) := by show _ ≤ _; rw [← ht, octs_length]; exact hts
      have HT := Lib.hid ht
      clear ht
      go_wp2
      go_ret
      refine ⟨_, rfl, ?_, htl.out, hb1⟩
      rw [HE.out]
      simp only [octs_append, octs_take, octs_drop, HT.out, List.append_assoc, List.nil_append]
      rfl
  · rw [if_neg h1] at hz
    subst hz
    by_cases h2 : 1 < s.size
    · have HE : Hid (powT (octs s) p = ((octs s).take 1 ++ 46 :: (octs s).drop 1) ++ 101 :: 43 :: itoO (p - 1)) := by
        show _ = _
        unfold powT
        rw [if_neg h1, if_pos (by rw [HL.out]; exact h2)]
      go_enter Tryz.func72, Tryz.ntmps72
      go_wp2_with fail
      refine (HI.out _ (Below.refl _ _)).mono ?_
      rintro e w1 ⟨t, rfl, ht, hts, hb1⟩
      have htl : Hid ((itoO (p - 1)).length ≤ 100) := by show _ ≤ _; rw [← ht, octs_length]; exact hts
      have HT := Lib.hid ht
      clear ht
      go_wp2
      go_ret
      refine ⟨_, rfl, ?_, htl.out, hb1⟩
      rw [HE.out]
      simp only [octs_append, octs_take, octs_drop, HT.out, List.append_assoc]
      rfl
    · have HE : Hid (powT (octs s) p = ((octs s).take 1 ++ []) ++ 101 :: 43 :: itoO (p - 1)) := by
        show _ = _
        unfold powT
        rw [if_neg h1, if_neg (by rw [HL.out]; exact h2)]
      go_enter Tryz.func72, Tryz.ntmps72
      go_wp2_with fail
      refine (HI.out _ (Below.refl _ _)).mono ?_
      rintro e w1 ⟨t, rfl, ht, hts, hb1⟩
      have htl : Hid ((itoO (p - 1)).length ≤ 100) := by show _ ≤ _; rw [← ht, octs_length]; exact hts
      have HT := Lib.hid ht
      clear ht
      go_wp2
      go_ret
      refine ⟨_, rfl, ?_, htl.out, hb1⟩
      rw [HE.out]
      simp only [octs_append, octs_take, octs_drop, HT.out, List.append_assoc, List.nil_append]
      rfl
end Go.Proofs.YtcanfiaooabocaaGreatDoor

namespace Go.Proofs.YtcanfiaooabocaaGreatDoor
open Go.RowKit

/-- A number's octets, the highest digit first. -/
def numO (v : Nat) : List Nat := if v = 0 then [48] else (chars (dOf v)).reverse
theorem isDec_numO {v : Nat} {s : ByteArray} (h : IsDec v s) : octs s = numO v := by
  unfold numO
  by_cases h0 : v = 0
  · rw [if_pos h0]
    rcases h with ⟨_, rfl⟩ | ⟨h1, _⟩
    · exact octs_txt (L8.one (by omega))
    · omega
  · rw [if_neg h0]
    exact isDec_octs2 h (by omega)
theorem numO_length {v : Nat} {s : ByteArray} (h : IsDec v s) : (numO v).length = s.size := by rw [← isDec_numO h, octs_length]
/-- A decimal's text. -/
def prtAt (neg : Bool) (ds : List Nat) (p : Int) : List Nat := (if neg = true then [45] else []) ++ (if -5 ≤ p ∧ p ≤ 21 then plainT ds p else powT ds p)
def prt (neg : Bool) (v : Nat) (exp : Int) : List Nat := prtAt neg (numO v) (((numO v).length : Int) + exp)
/-- The exponent that is written. -/
def prz (v : Nat) (exp : Int) : Int := if ((numO v).length : Int) + exp < 1 then 1 - (((numO v).length : Int) + exp) else ((numO v).length : Int) + exp - 1
theorem ItoaOk.on {B B' : Nat} {w w' : World} {z : Int} (h : ItoaOk B w z) (hb : Below B w w') (hB : B ≤ B') : ItoaOk B' w' z := fun W hW => h W (hb.trans (hW.mono hB))
theorem numO_le {v : Nat} (h : (dOf v).length ≤ 300) : (numO v).length ≤ 300 ∧ 0 < (numO v).length := by
  unfold numO
  by_cases h0 : v = 0
  · rw [if_pos h0]; decide
  · rw [if_neg h0, List.length_reverse]
    have := List.length_pos_iff.2 (dOf_ne (v := v) (by omega))
    simp [chars]
    omega

set_option maxRecDepth 100000 in
set_option maxHeartbeats 1000000 in
theorem DPrint_ok {S : Nat → Prop} {n c : Nat} {A : Option Addr} {xs : List Nat} (neg : Bool) (exp : Int) (w : World) (ha : Rd w S A n xs) (hS : ∀ b, S b → b < w.heap.size) (hn : n ≤ 9223372036854775807) (hok : okB neg xs exp = true) (hI : ItoaOk w.heap.size w (prz (val xs) exp)) :
    Calls Tryz.prog 48 #[dv neg A n c exp] w fun e w' => ∃ t, e = .returned (.tuple #[.string t, .int .i64 0]) ∧ octs t = prt neg (val xs) exp ∧ Below w.heap.size w w' := by
  obtain ⟨a1, a2, _, ⟨x1, x2⟩, _, _⟩ := okB_true ha.l32 hok
  obtain ⟨l1, l2⟩ := numO_le (okB_len hok)
  have hn2 : n ≤ 256 := by rw [← ha.len]; exact a2
  obtain ⟨p, hp⟩ : ∃ p : Int, p = ((numO (val xs)).length : Int) + exp := ⟨_, rfl⟩
  have HI := Lib.hid hI
  have hcheck : okE neg xs exp = 0 := by unfold okE; rw [if_pos hok]
  have hprt : Hid (prt neg (val xs) exp = prtAt neg (numO (val xs)) p) := by show _ = _; unfold prt; rw [hp]
  have hprz : Hid (prz (val xs) exp = if p < 1 then 1 - p else p - 1) := by show _ = _; unfold prz; rw [← hp]
  have hb0 : Below w.heap.size w (w.alloc (.cells #[.bool neg, .slice A n c, .int .i64 exp] 24)) := (Below.refl _ _).alloc (Nat.le_refl _) _
  have hC := DCheck_c (c := c) neg exp (w.alloc (.cells #[.bool neg, .slice A n c, .int .i64 exp] 24)) (ha.below hb0 hS) (fun b h => by have := hS b h; simp; omega) hn
  rw [hcheck] at hC
  unfold dv at hC ⊢
  have HC := Lib.hid hC
  have HP := Lib.hid hp
  clear hC hI hcheck hok hp
  have hpb : -1000 ≤ p ∧ p ≤ 1300 := by have := HP.out; omega
  obtain ⟨hpa, hpb⟩ := hpb
  have m0 := World.alloc_heap_new w (.cells #[.bool neg, .slice A n c, .int .i64 exp] 24)
  have hsz : (w.alloc (.cells #[.bool neg, .slice A n c, .int .i64 exp] 24)).heap.size = w.heap.size + 1 := by simp
  go_enter Tryz.func48, Tryz.ntmps48
  go_wp2_with fail
  refine HC.out.mono ?_
  rintro e w1 ⟨rfl, hb1⟩
  have m1 := held hb1 (by omega) m0
  have hw1 := hb0.trans (hb1.mono (by omega))
  have q1 : w1.cell? ⟨w.heap.size, 1, none⟩ = some (.slice A n c) := cell_of m1 rfl
  go_wp2_with fail
  refine (Print_ok (c := c) w1 (ha.below hw1 hS) (fun b h => by have := hS b h; have := hw1.size; omega) a1 hn2).mono ?_
  rintro e w2 ⟨s, rfl, hs, hb2⟩
  have hsl := numO_length hs
  have HSO := Lib.hid (isDec_numO hs)
  have hw2 := hw1.trans (hb2.mono hw1.size)
  have m2 := held hb2 (by have := hb1.size; omega) m1
  have q0 : w2.cell? ⟨w.heap.size, 0, none⟩ = some (.bool neg) := cell_of m2 rfl
  have q2 : w2.cell? ⟨w.heap.size, 2, none⟩ = some (.int .i64 exp) := cell_of m2 rfl
  have hs3 : s.size ≤ 300 := by omega
  have hs0 : 0 < s.size := by omega
  have hpe : (s.size : Int) + exp = p := by have := HP.out; omega
  clear hs hsl q1
  go_wp2_with fail
  refine (withPower_c s p _ w2 hs0 (by omega) ⟨by omega, by omega⟩ hprz.out (HI.out.on hw2 hw2.size)).mono ?_
  rintro e w3 ⟨t, rfl, ht, hts, hb3⟩
  have HT := Lib.hid ht
  have hw3 := hw2.trans (hb3.mono hw2.size)
  have m3 := held hb3 (by have := hw2.size; have := (Array.getElem?_eq_some_iff.1 m2).1; omega) m2
  have r0 : w3.cell? ⟨w.heap.size, 0, none⟩ = some (.bool neg) := cell_of m3 rfl
  clear ht q0 q2
  by_cases hr : -5 ≤ p ∧ p ≤ 21
  · have HE : Hid (prtAt neg (octs s) p = (if neg = true then [45] else []) ++ plainT (octs s) p) := by show _ = _; unfold prtAt; rw [if_pos hr]
    obtain ⟨hr1, hr2⟩ := hr
    go_wp2_with fail
    refine (plain_c s p w3 (by omega) ⟨by omega, by omega⟩).mono ?_
    rintro e w4 ⟨t4, rfl, ht4, hts4, hb4⟩
    have HT4 := Lib.hid ht4
    have hw4 := hw3.trans (hb4.mono hw3.size)
    have m4 := held hb4 (by have := hw3.size; have := (Array.getElem?_eq_some_iff.1 m3).1; omega) m3
    have r4 : w4.cell? ⟨w.heap.size, 0, none⟩ = some (.bool neg) := cell_of m4 rfl
    clear ht4 r0
    cases neg
    · go_wp2
      go_ret2
      refine ⟨_, rfl, ?_, hw4⟩
      rw [hprt.out, ← HSO.out, HE.out, HT4.out]; rfl
    · go_wp2
      go_ret2
      refine ⟨_, rfl, ?_, hw4⟩
      rw [hprt.out, ← HSO.out, HE.out, octs_append, HT4.out]; rfl
  · have HE : Hid (prtAt neg (octs s) p = (if neg = true then [45] else []) ++ powT (octs s) p) := by show _ = _; unfold prtAt; rw [if_neg hr]
    have hrr : p < -5 ∨ 21 < p := by omega
    clear hr
    rcases hrr with hr | hr
    all_goals
      cases neg
      · go_wp2
        go_ret2
        refine ⟨_, rfl, ?_, hw3⟩
        rw [hprt.out, ← HSO.out, HE.out, HT.out]; rfl
      · go_wp2
        go_ret2
        refine ⟨_, rfl, ?_, hw3⟩
        rw [hprt.out, ← HSO.out, HE.out, octs_append, HT.out]; rfl

set_option maxRecDepth 100000 in
theorem DPrint_err {S : Nat → Prop} {n c : Nat} {A : Option Addr} {xs : List Nat} (neg : Bool) (exp : Int) (w : World) (ha : Rd w S A n xs) (hS : ∀ b, S b → b < w.heap.size) (hn : n ≤ 9223372036854775807) (hok : okB neg xs exp = false) :
    Calls Tryz.prog 48 #[dv neg A n c exp] w fun e w' => e = .returned (.tuple #[.string ⟨#[]⟩, .int .i64 9]) ∧ Below w.heap.size w w' := by
  have hb0 : Below w.heap.size w (w.alloc (.cells #[.bool neg, .slice A n c, .int .i64 exp] 24)) := (Below.refl _ _).alloc (Nat.le_refl _) _
  have hC := DCheck_c (c := c) neg exp (w.alloc (.cells #[.bool neg, .slice A n c, .int .i64 exp] 24)) (ha.below hb0 hS) (fun b h => by have := hS b h; simp; omega) hn
  have hcheck : okE neg xs exp = 9 := by unfold okE; rw [if_neg (by rw [hok]; decide)]
  rw [hcheck] at hC
  unfold dv at hC ⊢
  have HC := Lib.hid hC
  clear hC hcheck hok
  go_enter Tryz.func48, Tryz.ntmps48
  go_wp2_with fail
  refine HC.out.mono ?_
  rintro e w1 ⟨rfl, hb1⟩
  go_wp2
  go_ret2
  exact ⟨rfl, hb0.trans (hb1.mono (by simp))⟩
end Go.Proofs.YtcanfiaooabocaaGreatDoor
