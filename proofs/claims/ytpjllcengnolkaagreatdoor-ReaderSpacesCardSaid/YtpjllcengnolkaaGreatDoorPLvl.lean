/-
  Contract of the scan's value, over that of its list and of its object.
-/
import Derived.Test.YtpjllcengnolkaaGreatDoorPLls
set_option linter.unusedVariables false
set_option linter.unusedSimpArgs false
namespace Go.Proofs.YtpjllcengnolkaaGreatDoor
open Go.RowKit Go.Lib

/-- Reading an item of an object. -/
def rPair (k : Nat) (n : Nat) : Rd1 (ByteArray × VT) := rAt (rKey n) fun key => rAt (rSkips isWs) fun _ => rAt (rNeed (· == 58)) fun _ => rAt (rSkips isWs) fun _ => rAt (rValue mkObj k n) fun v => rPure (key, v)
/-- The reading of objects whose values have so many levels left does what the page's does. -/
def ObjC (k : Nat) : Prop := ∀ {B : Nat} {L : List UInt8} {A : Option Addr} {c sb : Nat} {w : World} {p o : Nat}, Env B L A c sb w p o → k + (o + 1) = 64 → L.length ≤ c → p < L.length →
  Calls Tryz.prog 38 #[ptr sb] w (Po B L A c sb (fun k => k = sb) o (rV w.heap.size) w ((rItems 125 (rPair k) L p).bind fun l q => rHeld p (mkObj l) L q))
set_option maxRecDepth 100000 in
theorem Bool_c (b : Bool) (w : World) : Calls Tryz.prog 41 #[.bool b] w fun e w' => e = .returned (.agg #[.int .i64 (if b then 2 else 1), .bool false, .slice none 0 0, .int .i64 0, .string ⟨#[]⟩, .slice none 0 0, .slice none 0 0]) ∧ But (fun _ => False) w w' := by
  cases b
  · obtain ⟨x0, x1, x2, x3, x4, x5, x6⟩ := box7_of (World.alloc_heap_new w (.cells #[.int .i64 1, .bool false, .slice none 0 0, .int .i64 0, .string ⟨#[]⟩, .slice none 0 0, .slice none 0 0] 34))
    go_enter Tryz.func41, Tryz.ntmps41
    go_wp2
    refine bodyPost_ret (v := .agg #[.int .i64 1, .bool false, .slice none 0 0, .int .i64 0, .string ⟨#[]⟩, .slice none 0 0, .slice none 0 0]) (by simp [results, Tryz.results41, go_sem]) rfl ?_
    exact ⟨rfl, (But.refl _ _).alloc _⟩
  · obtain ⟨x0, x1, x2, x3, x4, x5, x6⟩ := box7_of (World.alloc_heap_new w (.cells #[.int .i64 2, .bool false, .slice none 0 0, .int .i64 0, .string ⟨#[]⟩, .slice none 0 0, .slice none 0 0] 34))
    go_enter Tryz.func41, Tryz.ntmps41
    go_wp2
    refine bodyPost_ret (v := .agg #[.int .i64 2, .bool false, .slice none 0 0, .int .i64 0, .string ⟨#[]⟩, .slice none 0 0, .slice none 0 0]) (by simp [results, Tryz.results41, go_sem]) rfl ?_
    exact ⟨rfl, (But.refl _ _).alloc _⟩
def rLow4 (c : UInt8) : Rd1 VT :=
  if c == 34 then rAt rText fun t => rPure (.mk 4 false [] 0 t [] [])
  else if c == 110 then rAt (rWord [110, 117, 108, 108]) fun _ => rPure (numT0 0)
  else if c == 102 then rAt (rWord [102, 97, 108, 115, 101]) fun _ => rPure (numT0 1)
  else if c == 116 then rAt (rWord [116, 114, 117, 101]) fun _ => rPure (numT0 2)
  else rNumber
def rBr (lst obj : Rd1 VT) (c : UInt8) : Rd1 VT := if c == 91 then lst else if c == 123 then obj else rLow4 c
theorem begin_ok {L : List UInt8} {k nth p q : Nat} {u : Unit} (h : rBegin k nth L p = .ok u q) : q = p ∧ p < L.length ∧ ∃ x, L[p]? = some x ∧ ((x == 91 || x == 123) = true → k ≠ 0) := by
  unfold rBegin rAt rPeek at h
  cases hx : L[p]? with
  | none => rw [hx] at h; exact absurd h (by simp [RR.bind])
  | some x =>
    rw [hx] at h
    simp only [RR.bind] at h
    refine ⟨?_, (List.getElem?_eq_some_iff.1 hx).1, x, rfl, fun hb hk => ?_⟩
    · repeat' split at h
      all_goals first | (exact absurd h (by simp [rFail])) | (unfold rPure at h; injection h with _ h2; exact h2.symm)
    · subst hk
      rw [if_neg (by simp [hb])] at h
      rw [if_pos (by simp [hb])] at h
      exact absurd h (by simp [rFail])
theorem text_size {L : List UInt8} {p q : Nat} {t : ByteArray} (h : rText L p = .ok t q) : t.size ≤ 140737488355328 := by
  unfold rText at h
  cases hr : rChars fuelR [] L (p + 1) with
  | bad q x => rw [hr] at h; exact absurd h (by simp [RR.bind])
  | ok l q2 =>
    rw [hr] at h
    simp only [RR.bind] at h
    by_cases h1 : 16384 < l.length
    · rw [if_pos h1] at h; exact absurd h (by simp)
    · rw [if_neg h1] at h
      injection h with h2 h3
      rw [← h2]
      show l.toArray.size ≤ _
      rw [List.size_toArray]; omega
theorem vin_kind (w : World) (S : Nat → Prop) (kk : Int) (t : ByteArray) (ht : t.size ≤ 140737488355328) : VIn w S (.mk kk false [] 0 t [] []) [.int .i64 kk, .bool false, .slice none 0 0, .int .i64 0, .string t, .slice none 0 0, .slice none 0 0] :=
  .mk (cs := fun _ => []) ⟨rfl, by simp [L32], fun h0 => absurd h0 (by omega)⟩ (by omega) ht ⟨rfl, fun h0 => absurd h0 (by omega)⟩ (by omega) rfl (by omega) (by omega) (fun h0 => absurd h0 (by omega)) (fun i x hi => by simp at hi)

set_option maxRecDepth 100000 in
set_option maxHeartbeats 4000000 in
theorem value_br {B : Nat} {L : List UInt8} {A : Option Addr} {c sb : Nat} {w : World} {p o k nth : Nat} (E : Env B L A c sb w p o) (hcap : L.length ≤ c) (hko : k + o = 64) (hn : nth ≤ 100000) (lst obj : Rd1 VT)
    (hl : k ≠ 0 → ∀ W, Env B L A c sb W p o → p < L.length → Calls Tryz.prog 37 #[ptr sb] W (Po B L A c sb (fun k => k = sb) o (rV W.heap.size) W (lst L p)))
    (ho : k ≠ 0 → ∀ W, Env B L A c sb W p o → p < L.length → Calls Tryz.prog 38 #[ptr sb] W (Po B L A c sb (fun k => k = sb) o (rV W.heap.size) W (obj L p))) (R : RR VT)
    (hR : (rBegin k nth L p).bind (fun _ q => (rPeek L q).bind fun c q => rBr lst obj c L q) = R) :
    Calls Tryz.prog 29 #[ptr sb, .int .i64 (nth : Int)] w (Po B L A c sb (fun k => k = sb) o (rV w.heap.size) w R) := by
  have HL := Lib.hid hl
  have HO := Lib.hid ho
  have hlt := E.lt
  have hbase := E.base
  have hfit := E.fits
  obtain ⟨rb, hrb⟩ : ∃ b, w.heap.size = b := ⟨_, rfl⟩
  rw [hrb] at hlt
  have hb0 := (But.refl (fun _ => False) w).alloc (.cells #[.int .i64 0, .bool false, .slice none 0 0, .int .i64 0, .string ⟨#[]⟩, .slice none 0 0, .slice none 0 0] 34)
  have hE0 := E.stay hb0 (fun _ _ h => h) (fun h => h)
  have hr0 := World.alloc_heap_new w (.cells #[.int .i64 0, .bool false, .slice none 0 0, .int .i64 0, .string ⟨#[]⟩, .slice none 0 0, .slice none 0 0] 34)
  have hs0 : (w.alloc (.cells #[.int .i64 0, .bool false, .slice none 0 0, .int .i64 0, .string ⟨#[]⟩, .slice none 0 0, .slice none 0 0] 34)).heap.size = rb + 1 := by rw [World.size_alloc, hrb]
  rw [hrb] at hr0
  have HE0 := Lib.hid hE0
  have HB0 := Lib.hid hb0
  have HR0 := Lib.hid hr0
  have HRB := Lib.hid hrb
  have HS0 := Lib.hid hs0
  clear hl ho E hE0 hb0 hr0 hs0
  go_enter Tryz.func29, Tryz.ntmps29
  go_upto_region 1 with fail
  try rw [hrb]
  clear hrb
  generalize (w.alloc (.cells #[.int .i64 0, .bool false, .slice none 0 0, .int .i64 0, .string ⟨#[]⟩, .slice none 0 0, .slice none 0 0] 34)) = w0 at *
  go_wp2_with fail
  refine (begin_c HE0.out nth k hko hn).mono ?_
  intro e w1 hp
  cases hr : rBegin k nth L p with
  | bad q x =>
    rw [hr] at hp hR
    obtain ⟨rfl, hb⟩ := hp
    go_wp2_with fail
    rw [← (show RR.bad q x = R from hR)]
    exact ⟨rfl, rfl, (HB0.out.trans hb).no⟩
  | ok u q =>
    obtain ⟨rfl, hpl, x, hx, hkx⟩ := begin_ok hr
    rw [hr] at hp hR
    obtain ⟨⟨v, rfl, rfl⟩, hE1, hb1⟩ := hp
    have HE1 := Lib.hid hE1
    have HB1 := Lib.hid (HB0.out.trans hb1)
    have HR1 := Lib.hid ((hb1.block rb (Array.getElem?_eq_some_iff.1 HR0.out).1 (fun h => h)).trans HR0.out)
    have HS1 := Lib.hid (show rb + 1 ≤ w1.heap.size by have := hb1.size; have := HS0.out; omega)
    clear hE1 hb1 HE0 HB0 HR0 HS0
    go_wp2_with fail
    refine (peek_c HE1.out).mono ?_
    intro e w2 hp
    have hpk : rPeek L q = .ok x q := by unfold rPeek; rw [hx]
    rw [hpk] at hp
    simp only [RR.bind] at hR
    rw [hpk] at hR
    obtain ⟨⟨v, rfl, rfl⟩, hE2, hb2⟩ := hp
    have HE2 := Lib.hid hE2
    have HB2 := Lib.hid (HB1.out.trans hb2)
    have HR2 := Lib.hid ((hb2.block rb (Array.getElem?_eq_some_iff.1 HR1.out).1 (fun h => h)).trans HR1.out)
    have HS2 := Lib.hid (Nat.le_trans HS1.out hb2.size)
    have HKX := Lib.hid hkx
    have hR := (show rBr lst obj x L q = R from hR)
    clear hE2 hb2 HE1 HB1 HR1 HS1 hr hpk hkx
    unfold rBr rLow4 at hR
    have i91 : ((x.toNat : Int) == 91) = (x == 91) := u8I_eq x 91
    cases g91 : (x == 91)
    · rw [g91] at i91
      simp only [g91, Bool.false_eq_true, if_false] at hR
      have i123 : ((x.toNat : Int) == 123) = (x == 123) := u8I_eq x 123
      cases g123 : (x == 123)
      · rw [g123] at i123
        simp only [g123, Bool.false_eq_true, if_false] at hR
        have i34 : ((x.toNat : Int) == 34) = (x == 34) := u8I_eq x 34
        cases g34 : (x == 34)
        · rw [g34] at i34
          simp only [g34, Bool.false_eq_true, if_false] at hR
          have i110 : ((x.toNat : Int) == 110) = (x == 110) := u8I_eq x 110
          cases g110 : (x == 110)
          · rw [g110] at i110
            simp only [g110, Bool.false_eq_true, if_false] at hR
            have i102 : ((x.toNat : Int) == 102) = (x == 102) := u8I_eq x 102
            cases g102 : (x == 102)
            · rw [g102] at i102
              simp only [g102, Bool.false_eq_true, if_false] at hR
              have i116 : ((x.toNat : Int) == 116) = (x == 116) := u8I_eq x 116
              cases g116 : (x == 116)
              · rw [g116] at i116
                simp only [g116, Bool.false_eq_true, if_false] at hR
                go_wp2_with fail
                refine (number_c HE2.out hcap hpl).mono ?_
                intro e w3 hp
                cases hr : rNumber L q with
                | bad q2 y =>
                  rw [hr] at hp hR
                  obtain ⟨rfl, hb⟩ := hp
                  go_wp2_with fail
                  rw [← (show RR.bad q2 y = R from hR)]
                  exact ⟨rfl, rfl, HB2.out.no.trans hb⟩
                | ok a q2 =>
                  rw [hr] at hp hR
                  obtain ⟨⟨v, rfl, cs, rfl, hva⟩, hE3, hb3⟩ := hp
                  obtain ⟨k1, neg1, xs1, e1, t1, li1, ks1, hak⟩ : ∃ k neg xs e t li ks, a = VT.mk k neg xs e t li ks := by cases a; exact ⟨_, _, _, _, _, _, _, rfl⟩
                  have hvb := hva
                  rw [hak] at hvb
                  obtain ⟨A1, n1, c1, LA1, ln1, lc1, KA1, kn1, kc1, rfl, -⟩ := hvb.parts
                  have HVA := Lib.hid hva
                  clear hvb hak hva hr
                  have hbw3 : But (fun k => k = sb) w w3 := (HB2.out.no).trans hb3
                  have hr3 := (hb3.block rb (Array.getElem?_eq_some_iff.1 HR2.out).1 (by omega)).trans HR2.out
                  obtain ⟨y0, y1, y2, y3, y4, y5, y6⟩ := box7_of hr3
                  have f0 : w3.frozen? ⟨rb, 0, none⟩ = false := by simp [World.frozen?, hr3]
                  have f1 : w3.frozen? ⟨rb, 1, none⟩ = false := by simp [World.frozen?, hr3]
                  have f2 : w3.frozen? ⟨rb, 2, none⟩ = false := by simp [World.frozen?, hr3]
                  have f3 : w3.frozen? ⟨rb, 3, none⟩ = false := by simp [World.frozen?, hr3]
                  have f4 : w3.frozen? ⟨rb, 4, none⟩ = false := by simp [World.frozen?, hr3]
                  have f5 : w3.frozen? ⟨rb, 5, none⟩ = false := by simp [World.frozen?, hr3]
                  have f6 : w3.frozen? ⟨rb, 6, none⟩ = false := by simp [World.frozen?, hr3]
                  have HBW3 := Lib.hid hbw3
                  have HE3 := Lib.hid hE3
                  have HR := Lib.hid hR
                  clear hr3 hbw3 hR
                  go_wp2_with fail
                  have hC : But (fun j => j = rb) w3 (((((((w3.setCell ⟨rb, 0, none⟩ (.int .i64 k1)).setCell ⟨rb, 1, none⟩ (.bool neg1)).setCell ⟨rb, 2, none⟩ (.slice A1 n1 c1)).setCell ⟨rb, 3, none⟩ (.int .i64 e1)).setCell ⟨rb, 4, none⟩ (.string t1)).setCell ⟨rb, 5, none⟩ (.slice LA1 ln1 lc1)).setCell ⟨rb, 6, none⟩ (.slice KA1 kn1 kc1)) := (But.setCell (C := fun j => j = rb) (But.setCell (C := fun j => j = rb) (But.setCell (C := fun j => j = rb) (But.setCell (C := fun j => j = rb) (But.setCell (C := fun j => j = rb) (But.setCell (C := fun j => j = rb) (But.setCell (C := fun j => j = rb) (But.refl _ _) (p := ⟨rb, 0, none⟩) (.inl rfl) _) (p := ⟨rb, 1, none⟩) (.inl rfl) _) (p := ⟨rb, 2, none⟩) (.inl rfl) _) (p := ⟨rb, 3, none⟩) (.inl rfl) _) (p := ⟨rb, 4, none⟩) (.inl rfl) _) (p := ⟨rb, 5, none⟩) (.inl rfl) _) (p := ⟨rb, 6, none⟩) (.inl rfl) _)
                  refine bodyPost_ret (v := .agg #[.int .i64 k1, .bool neg1, .slice A1 n1 c1, .int .i64 e1, .string t1, .slice LA1 ln1 lc1, .slice KA1 kn1 kc1]) (by simp [results, Tryz.results29, go_sem, y0, y1, y2, y3, y4, y5, y6]) rfl ?_
                  rw [← (show RR.ok a q2 = R from HR.out)]
                  refine ⟨⟨_, rfl, _, rfl, ?_⟩, HE3.out.stay hC (fun j hj h => by omega) (fun h => by omega), ⟨hC.os.trans HBW3.out.os, hC.tape.trans HBW3.out.tape, hC.output.trans HBW3.out.output, Nat.le_trans HBW3.out.size hC.size, fun j hj hc => (hC.block j (Nat.lt_of_lt_of_le hj HBW3.out.size) (by have := HRB.out; omega)).trans (HBW3.out.block j hj hc)⟩⟩
                  exact (HVA.out.keep fun p hp => hC.cell hp.2 (fun h => by have := hp.1; have := HS2.out; omega)).more fun b hb => ⟨by have := hb.1; have := HS2.out; have := HRB.out; omega, Nat.lt_of_lt_of_le hb.2 hC.size⟩
              · rw [g116] at i116
                simp only [g116, if_true] at hR
                go_wp2_with fail
                refine (Bool_c true w2).mono ?_
                rintro e w2b ⟨rfl, hb2b⟩
                try simp only [Bool.false_eq_true, if_false, if_true]
                have HE2b := Lib.hid (HE2.out.stay hb2b (fun _ _ h => h) (fun h => h))
                have HB2b := Lib.hid hb2b
                clear hb2b
                go_wp2_with fail
                refine (word_c HE2b.out ⟨#[116, 114, 117, 101]⟩ (by decide) 2).mono ?_
                intro e w3 hp
                unfold rAt at hR
                rw [show (⟨#[116, 114, 117, 101]⟩ : ByteArray).data.toList = [116, 114, 117, 101] from rfl] at hp
                cases hr : rWord [116, 114, 117, 101] L q with
                | bad q2 y =>
                  rw [hr] at hp hR
                  obtain ⟨rfl, hb⟩ := hp
                  go_wp2_with fail
                  rw [← (show RR.bad q2 y = R from hR)]
                  exact ⟨rfl, rfl, HB2.out.no.trans (HB2b.out.no.trans hb)⟩
                | ok u q2 =>
                  rw [hr] at hp hR
                  obtain ⟨⟨v, rfl, rfl⟩, hE3, hb3'⟩ := hp
                  have hb3 : But (fun k => k = sb) w2 w3 := HB2b.out.no.trans hb3'
                  clear hr hb3'
                  have hbw3 : But (fun k => k = sb) w w3 := (HB2.out.no).trans hb3
                  have hr3 := (hb3.block rb (Array.getElem?_eq_some_iff.1 HR2.out).1 (by omega)).trans HR2.out
                  obtain ⟨y0, y1, y2, y3, y4, y5, y6⟩ := box7_of hr3
                  have f0 : w3.frozen? ⟨rb, 0, none⟩ = false := by simp [World.frozen?, hr3]
                  have f1 : w3.frozen? ⟨rb, 1, none⟩ = false := by simp [World.frozen?, hr3]
                  have f2 : w3.frozen? ⟨rb, 2, none⟩ = false := by simp [World.frozen?, hr3]
                  have f3 : w3.frozen? ⟨rb, 3, none⟩ = false := by simp [World.frozen?, hr3]
                  have f4 : w3.frozen? ⟨rb, 4, none⟩ = false := by simp [World.frozen?, hr3]
                  have f5 : w3.frozen? ⟨rb, 5, none⟩ = false := by simp [World.frozen?, hr3]
                  have f6 : w3.frozen? ⟨rb, 6, none⟩ = false := by simp [World.frozen?, hr3]
                  have HBW3 := Lib.hid hbw3
                  have HE3 := Lib.hid hE3
                  have HR := Lib.hid hR
                  clear hr3 hbw3 hR
                  go_wp2_with fail
                  have hC : But (fun j => j = rb) w3 (((((((w3.setCell ⟨rb, 0, none⟩ (.int .i64 2)).setCell ⟨rb, 1, none⟩ (.bool false)).setCell ⟨rb, 2, none⟩ (.slice none 0 0)).setCell ⟨rb, 3, none⟩ (.int .i64 0)).setCell ⟨rb, 4, none⟩ (.string ⟨#[]⟩)).setCell ⟨rb, 5, none⟩ (.slice none 0 0)).setCell ⟨rb, 6, none⟩ (.slice none 0 0)) := (But.setCell (C := fun j => j = rb) (But.setCell (C := fun j => j = rb) (But.setCell (C := fun j => j = rb) (But.setCell (C := fun j => j = rb) (But.setCell (C := fun j => j = rb) (But.setCell (C := fun j => j = rb) (But.setCell (C := fun j => j = rb) (But.refl _ _) (p := ⟨rb, 0, none⟩) (.inl rfl) _) (p := ⟨rb, 1, none⟩) (.inl rfl) _) (p := ⟨rb, 2, none⟩) (.inl rfl) _) (p := ⟨rb, 3, none⟩) (.inl rfl) _) (p := ⟨rb, 4, none⟩) (.inl rfl) _) (p := ⟨rb, 5, none⟩) (.inl rfl) _) (p := ⟨rb, 6, none⟩) (.inl rfl) _)
                  refine bodyPost_ret (v := .agg #[.int .i64 2, .bool false, .slice none 0 0, .int .i64 0, .string ⟨#[]⟩, .slice none 0 0, .slice none 0 0]) (by simp [results, Tryz.results29, go_sem, y0, y1, y2, y3, y4, y5, y6]) rfl ?_
                  rw [← (show RR.ok (numT0 2) q2 = R from HR.out)]
                  refine ⟨⟨_, rfl, _, rfl, ?_⟩, HE3.out.stay hC (fun j hj h => by omega) (fun h => by omega), ⟨hC.os.trans HBW3.out.os, hC.tape.trans HBW3.out.tape, hC.output.trans HBW3.out.output, Nat.le_trans HBW3.out.size hC.size, fun j hj hc => (hC.block j (Nat.lt_of_lt_of_le hj HBW3.out.size) (by have := HRB.out; omega)).trans (HBW3.out.block j hj hc)⟩⟩
                  exact vin_kind _ _ 2 ⟨#[]⟩ (by show (0 : Nat) ≤ _; omega)
            · rw [g102] at i102
              simp only [g102, if_true] at hR
              go_wp2_with fail
              refine (Bool_c false w2).mono ?_
              rintro e w2b ⟨rfl, hb2b⟩
              try simp only [Bool.false_eq_true, if_false, if_true]
              have HE2b := Lib.hid (HE2.out.stay hb2b (fun _ _ h => h) (fun h => h))
              have HB2b := Lib.hid hb2b
              clear hb2b
              go_wp2_with fail
              refine (word_c HE2b.out ⟨#[102, 97, 108, 115, 101]⟩ (by decide) 1).mono ?_
              intro e w3 hp
              unfold rAt at hR
              rw [show (⟨#[102, 97, 108, 115, 101]⟩ : ByteArray).data.toList = [102, 97, 108, 115, 101] from rfl] at hp
              cases hr : rWord [102, 97, 108, 115, 101] L q with
              | bad q2 y =>
                rw [hr] at hp hR
                obtain ⟨rfl, hb⟩ := hp
                go_wp2_with fail
                rw [← (show RR.bad q2 y = R from hR)]
                exact ⟨rfl, rfl, HB2.out.no.trans (HB2b.out.no.trans hb)⟩
              | ok u q2 =>
                rw [hr] at hp hR
                obtain ⟨⟨v, rfl, rfl⟩, hE3, hb3'⟩ := hp
                have hb3 : But (fun k => k = sb) w2 w3 := HB2b.out.no.trans hb3'
                clear hr hb3'
                have hbw3 : But (fun k => k = sb) w w3 := (HB2.out.no).trans hb3
                have hr3 := (hb3.block rb (Array.getElem?_eq_some_iff.1 HR2.out).1 (by omega)).trans HR2.out
                obtain ⟨y0, y1, y2, y3, y4, y5, y6⟩ := box7_of hr3
                have f0 : w3.frozen? ⟨rb, 0, none⟩ = false := by simp [World.frozen?, hr3]
                have f1 : w3.frozen? ⟨rb, 1, none⟩ = false := by simp [World.frozen?, hr3]
                have f2 : w3.frozen? ⟨rb, 2, none⟩ = false := by simp [World.frozen?, hr3]
                have f3 : w3.frozen? ⟨rb, 3, none⟩ = false := by simp [World.frozen?, hr3]
                have f4 : w3.frozen? ⟨rb, 4, none⟩ = false := by simp [World.frozen?, hr3]
                have f5 : w3.frozen? ⟨rb, 5, none⟩ = false := by simp [World.frozen?, hr3]
                have f6 : w3.frozen? ⟨rb, 6, none⟩ = false := by simp [World.frozen?, hr3]
                have HBW3 := Lib.hid hbw3
                have HE3 := Lib.hid hE3
                have HR := Lib.hid hR
                clear hr3 hbw3 hR
                go_wp2_with fail
                have hC : But (fun j => j = rb) w3 (((((((w3.setCell ⟨rb, 0, none⟩ (.int .i64 1)).setCell ⟨rb, 1, none⟩ (.bool false)).setCell ⟨rb, 2, none⟩ (.slice none 0 0)).setCell ⟨rb, 3, none⟩ (.int .i64 0)).setCell ⟨rb, 4, none⟩ (.string ⟨#[]⟩)).setCell ⟨rb, 5, none⟩ (.slice none 0 0)).setCell ⟨rb, 6, none⟩ (.slice none 0 0)) := (But.setCell (C := fun j => j = rb) (But.setCell (C := fun j => j = rb) (But.setCell (C := fun j => j = rb) (But.setCell (C := fun j => j = rb) (But.setCell (C := fun j => j = rb) (But.setCell (C := fun j => j = rb) (But.setCell (C := fun j => j = rb) (But.refl _ _) (p := ⟨rb, 0, none⟩) (.inl rfl) _) (p := ⟨rb, 1, none⟩) (.inl rfl) _) (p := ⟨rb, 2, none⟩) (.inl rfl) _) (p := ⟨rb, 3, none⟩) (.inl rfl) _) (p := ⟨rb, 4, none⟩) (.inl rfl) _) (p := ⟨rb, 5, none⟩) (.inl rfl) _) (p := ⟨rb, 6, none⟩) (.inl rfl) _)
                refine bodyPost_ret (v := .agg #[.int .i64 1, .bool false, .slice none 0 0, .int .i64 0, .string ⟨#[]⟩, .slice none 0 0, .slice none 0 0]) (by simp [results, Tryz.results29, go_sem, y0, y1, y2, y3, y4, y5, y6]) rfl ?_
                rw [← (show RR.ok (numT0 1) q2 = R from HR.out)]
                refine ⟨⟨_, rfl, _, rfl, ?_⟩, HE3.out.stay hC (fun j hj h => by omega) (fun h => by omega), ⟨hC.os.trans HBW3.out.os, hC.tape.trans HBW3.out.tape, hC.output.trans HBW3.out.output, Nat.le_trans HBW3.out.size hC.size, fun j hj hc => (hC.block j (Nat.lt_of_lt_of_le hj HBW3.out.size) (by have := HRB.out; omega)).trans (HBW3.out.block j hj hc)⟩⟩
                exact vin_kind _ _ 1 ⟨#[]⟩ (by show (0 : Nat) ≤ _; omega)
          · rw [g110] at i110
            simp only [g110, if_true] at hR
            go_wp2_with fail
            refine (word_c HE2.out ⟨#[110, 117, 108, 108]⟩ (by decide) 0).mono ?_
            intro e w3 hp
            unfold rAt at hR
            rw [show (⟨#[110, 117, 108, 108]⟩ : ByteArray).data.toList = [110, 117, 108, 108] from rfl] at hp
            cases hr : rWord [110, 117, 108, 108] L q with
            | bad q2 y =>
              rw [hr] at hp hR
              obtain ⟨rfl, hb⟩ := hp
              go_wp2_with fail
              rw [← (show RR.bad q2 y = R from hR)]
              exact ⟨rfl, rfl, HB2.out.no.trans hb⟩
            | ok u q2 =>
              rw [hr] at hp hR
              obtain ⟨⟨v, rfl, rfl⟩, hE3, hb3'⟩ := hp
              have hb3 : But (fun k => k = sb) w2 w3 := hb3'
              clear hr hb3'
              have hbw3 : But (fun k => k = sb) w w3 := (HB2.out.no).trans hb3
              have hr3 := (hb3.block rb (Array.getElem?_eq_some_iff.1 HR2.out).1 (by omega)).trans HR2.out
              obtain ⟨y0, y1, y2, y3, y4, y5, y6⟩ := box7_of hr3
              have f0 : w3.frozen? ⟨rb, 0, none⟩ = false := by simp [World.frozen?, hr3]
              have f1 : w3.frozen? ⟨rb, 1, none⟩ = false := by simp [World.frozen?, hr3]
              have f2 : w3.frozen? ⟨rb, 2, none⟩ = false := by simp [World.frozen?, hr3]
              have f3 : w3.frozen? ⟨rb, 3, none⟩ = false := by simp [World.frozen?, hr3]
              have f4 : w3.frozen? ⟨rb, 4, none⟩ = false := by simp [World.frozen?, hr3]
              have f5 : w3.frozen? ⟨rb, 5, none⟩ = false := by simp [World.frozen?, hr3]
              have f6 : w3.frozen? ⟨rb, 6, none⟩ = false := by simp [World.frozen?, hr3]
              have HBW3 := Lib.hid hbw3
              have HE3 := Lib.hid hE3
              have HR := Lib.hid hR
              clear hr3 hbw3 hR
              go_wp2_with fail
              have hC : But (fun j => j = rb) w3 (((((((w3.setCell ⟨rb, 0, none⟩ (.int .i64 0)).setCell ⟨rb, 1, none⟩ (.bool false)).setCell ⟨rb, 2, none⟩ (.slice none 0 0)).setCell ⟨rb, 3, none⟩ (.int .i64 0)).setCell ⟨rb, 4, none⟩ (.string ⟨#[]⟩)).setCell ⟨rb, 5, none⟩ (.slice none 0 0)).setCell ⟨rb, 6, none⟩ (.slice none 0 0)) := (But.setCell (C := fun j => j = rb) (But.setCell (C := fun j => j = rb) (But.setCell (C := fun j => j = rb) (But.setCell (C := fun j => j = rb) (But.setCell (C := fun j => j = rb) (But.setCell (C := fun j => j = rb) (But.setCell (C := fun j => j = rb) (But.refl _ _) (p := ⟨rb, 0, none⟩) (.inl rfl) _) (p := ⟨rb, 1, none⟩) (.inl rfl) _) (p := ⟨rb, 2, none⟩) (.inl rfl) _) (p := ⟨rb, 3, none⟩) (.inl rfl) _) (p := ⟨rb, 4, none⟩) (.inl rfl) _) (p := ⟨rb, 5, none⟩) (.inl rfl) _) (p := ⟨rb, 6, none⟩) (.inl rfl) _)
              refine bodyPost_ret (v := .agg #[.int .i64 0, .bool false, .slice none 0 0, .int .i64 0, .string ⟨#[]⟩, .slice none 0 0, .slice none 0 0]) (by simp [results, Tryz.results29, go_sem, y0, y1, y2, y3, y4, y5, y6]) rfl ?_
              rw [← (show RR.ok (numT0 0) q2 = R from HR.out)]
              refine ⟨⟨_, rfl, _, rfl, ?_⟩, HE3.out.stay hC (fun j hj h => by omega) (fun h => by omega), ⟨hC.os.trans HBW3.out.os, hC.tape.trans HBW3.out.tape, hC.output.trans HBW3.out.output, Nat.le_trans HBW3.out.size hC.size, fun j hj hc => (hC.block j (Nat.lt_of_lt_of_le hj HBW3.out.size) (by have := HRB.out; omega)).trans (HBW3.out.block j hj hc)⟩⟩
              exact vin_kind _ _ 0 ⟨#[]⟩ (by show (0 : Nat) ≤ _; omega)
        · rw [g34] at i34
          simp only [g34, if_true] at hR
          go_wp2_with fail
          refine (text_c HE2.out hcap hpl).mono ?_
          intro e w3 hp
          unfold rAt at hR
          cases hr : rText L q with
          | bad q2 y =>
            rw [hr] at hp hR
            obtain ⟨rfl, hb⟩ := hp
            go_wp2_with fail
            rw [← (show RR.bad q2 y = R from hR)]
            exact ⟨rfl, rfl, HB2.out.no.trans hb⟩
          | ok t q2 =>
            have hts : t.size ≤ 140737488355328 := text_size hr
            rw [hr] at hp hR
            obtain ⟨⟨v, rfl, rfl⟩, hE3, hb3⟩ := hp
            clear hr
            have hbw3 : But (fun k => k = sb) w w3 := (HB2.out.no).trans hb3
            have hr3 := (hb3.block rb (Array.getElem?_eq_some_iff.1 HR2.out).1 (by omega)).trans HR2.out
            obtain ⟨y0, y1, y2, y3, y4, y5, y6⟩ := box7_of hr3
            have f0 : w3.frozen? ⟨rb, 0, none⟩ = false := by simp [World.frozen?, hr3]
            have f1 : w3.frozen? ⟨rb, 1, none⟩ = false := by simp [World.frozen?, hr3]
            have f2 : w3.frozen? ⟨rb, 2, none⟩ = false := by simp [World.frozen?, hr3]
            have f3 : w3.frozen? ⟨rb, 3, none⟩ = false := by simp [World.frozen?, hr3]
            have f4 : w3.frozen? ⟨rb, 4, none⟩ = false := by simp [World.frozen?, hr3]
            have f5 : w3.frozen? ⟨rb, 5, none⟩ = false := by simp [World.frozen?, hr3]
            have f6 : w3.frozen? ⟨rb, 6, none⟩ = false := by simp [World.frozen?, hr3]
            have HBW3 := Lib.hid hbw3
            have HE3 := Lib.hid hE3
            have HR := Lib.hid hR
            clear hr3 hbw3 hR
            go_wp2_with fail
            have hC : But (fun j => j = rb) w3 (((((((w3.setCell ⟨rb, 0, none⟩ (.int .i64 4)).setCell ⟨rb, 1, none⟩ (.bool false)).setCell ⟨rb, 2, none⟩ (.slice none 0 0)).setCell ⟨rb, 3, none⟩ (.int .i64 0)).setCell ⟨rb, 4, none⟩ (.string t)).setCell ⟨rb, 5, none⟩ (.slice none 0 0)).setCell ⟨rb, 6, none⟩ (.slice none 0 0)) := (But.setCell (C := fun j => j = rb) (But.setCell (C := fun j => j = rb) (But.setCell (C := fun j => j = rb) (But.setCell (C := fun j => j = rb) (But.setCell (C := fun j => j = rb) (But.setCell (C := fun j => j = rb) (But.setCell (C := fun j => j = rb) (But.refl _ _) (p := ⟨rb, 0, none⟩) (.inl rfl) _) (p := ⟨rb, 1, none⟩) (.inl rfl) _) (p := ⟨rb, 2, none⟩) (.inl rfl) _) (p := ⟨rb, 3, none⟩) (.inl rfl) _) (p := ⟨rb, 4, none⟩) (.inl rfl) _) (p := ⟨rb, 5, none⟩) (.inl rfl) _) (p := ⟨rb, 6, none⟩) (.inl rfl) _)
            refine bodyPost_ret (v := .agg #[.int .i64 4, .bool false, .slice none 0 0, .int .i64 0, .string t, .slice none 0 0, .slice none 0 0]) (by simp [results, Tryz.results29, go_sem, y0, y1, y2, y3, y4, y5, y6]) rfl ?_
            rw [← (show RR.ok (.mk 4 false [] 0 t [] []) q2 = R from HR.out)]
            refine ⟨⟨_, rfl, _, rfl, ?_⟩, HE3.out.stay hC (fun j hj h => by omega) (fun h => by omega), ⟨hC.os.trans HBW3.out.os, hC.tape.trans HBW3.out.tape, hC.output.trans HBW3.out.output, Nat.le_trans HBW3.out.size hC.size, fun j hj hc => (hC.block j (Nat.lt_of_lt_of_le hj HBW3.out.size) (by have := HRB.out; omega)).trans (HBW3.out.block j hj hc)⟩⟩
            exact vin_kind _ _ 4 t hts
      · rw [g123] at i123
        simp only [g123, if_true] at hR
        go_wp2_with fail
        refine (HO.out (HKX.out (by rw [g123]; simp)) w2 HE2.out hpl).mono ?_
        intro e w3 hp
        cases hr : obj L q with
        | bad q2 y =>
          rw [hr] at hp hR
          obtain ⟨rfl, hb⟩ := hp
          go_wp2_with fail
          rw [← (show RR.bad q2 y = R from hR)]
          exact ⟨rfl, rfl, HB2.out.no.trans hb⟩
        | ok a q2 =>
          rw [hr] at hp hR
          obtain ⟨⟨v, rfl, cs, rfl, hva⟩, hE3, hb3⟩ := hp
          obtain ⟨k1, neg1, xs1, e1, t1, li1, ks1, hak⟩ : ∃ k neg xs e t li ks, a = VT.mk k neg xs e t li ks := by cases a; exact ⟨_, _, _, _, _, _, _, rfl⟩
          have hvb := hva
          rw [hak] at hvb
          obtain ⟨A1, n1, c1, LA1, ln1, lc1, KA1, kn1, kc1, rfl, -⟩ := hvb.parts
          have HVA := Lib.hid hva
          clear hvb hak hva hr
          have hbw3 : But (fun k => k = sb) w w3 := (HB2.out.no).trans hb3
          have hr3 := (hb3.block rb (Array.getElem?_eq_some_iff.1 HR2.out).1 (by omega)).trans HR2.out
          obtain ⟨y0, y1, y2, y3, y4, y5, y6⟩ := box7_of hr3
          have f0 : w3.frozen? ⟨rb, 0, none⟩ = false := by simp [World.frozen?, hr3]
          have f1 : w3.frozen? ⟨rb, 1, none⟩ = false := by simp [World.frozen?, hr3]
          have f2 : w3.frozen? ⟨rb, 2, none⟩ = false := by simp [World.frozen?, hr3]
          have f3 : w3.frozen? ⟨rb, 3, none⟩ = false := by simp [World.frozen?, hr3]
          have f4 : w3.frozen? ⟨rb, 4, none⟩ = false := by simp [World.frozen?, hr3]
          have f5 : w3.frozen? ⟨rb, 5, none⟩ = false := by simp [World.frozen?, hr3]
          have f6 : w3.frozen? ⟨rb, 6, none⟩ = false := by simp [World.frozen?, hr3]
          have HBW3 := Lib.hid hbw3
          have HE3 := Lib.hid hE3
          have HR := Lib.hid hR
          clear hr3 hbw3 hR
          go_wp2_with fail
          have hC : But (fun j => j = rb) w3 (((((((w3.setCell ⟨rb, 0, none⟩ (.int .i64 k1)).setCell ⟨rb, 1, none⟩ (.bool neg1)).setCell ⟨rb, 2, none⟩ (.slice A1 n1 c1)).setCell ⟨rb, 3, none⟩ (.int .i64 e1)).setCell ⟨rb, 4, none⟩ (.string t1)).setCell ⟨rb, 5, none⟩ (.slice LA1 ln1 lc1)).setCell ⟨rb, 6, none⟩ (.slice KA1 kn1 kc1)) := (But.setCell (C := fun j => j = rb) (But.setCell (C := fun j => j = rb) (But.setCell (C := fun j => j = rb) (But.setCell (C := fun j => j = rb) (But.setCell (C := fun j => j = rb) (But.setCell (C := fun j => j = rb) (But.setCell (C := fun j => j = rb) (But.refl _ _) (p := ⟨rb, 0, none⟩) (.inl rfl) _) (p := ⟨rb, 1, none⟩) (.inl rfl) _) (p := ⟨rb, 2, none⟩) (.inl rfl) _) (p := ⟨rb, 3, none⟩) (.inl rfl) _) (p := ⟨rb, 4, none⟩) (.inl rfl) _) (p := ⟨rb, 5, none⟩) (.inl rfl) _) (p := ⟨rb, 6, none⟩) (.inl rfl) _)
          refine bodyPost_ret (v := .agg #[.int .i64 k1, .bool neg1, .slice A1 n1 c1, .int .i64 e1, .string t1, .slice LA1 ln1 lc1, .slice KA1 kn1 kc1]) (by simp [results, Tryz.results29, go_sem, y0, y1, y2, y3, y4, y5, y6]) rfl ?_
          rw [← (show RR.ok a q2 = R from HR.out)]
          refine ⟨⟨_, rfl, _, rfl, ?_⟩, HE3.out.stay hC (fun j hj h => by omega) (fun h => by omega), ⟨hC.os.trans HBW3.out.os, hC.tape.trans HBW3.out.tape, hC.output.trans HBW3.out.output, Nat.le_trans HBW3.out.size hC.size, fun j hj hc => (hC.block j (Nat.lt_of_lt_of_le hj HBW3.out.size) (by have := HRB.out; omega)).trans (HBW3.out.block j hj hc)⟩⟩
          exact (HVA.out.keep fun p hp => hC.cell hp.2 (fun h => by have := hp.1; have := HS2.out; omega)).more fun b hb => ⟨by have := hb.1; have := HS2.out; have := HRB.out; omega, Nat.lt_of_lt_of_le hb.2 hC.size⟩
    · rw [g91] at i91
      simp only [g91, if_true] at hR
      go_wp2_with fail
      refine (HL.out (HKX.out (by rw [g91]; rfl)) w2 HE2.out hpl).mono ?_
      intro e w3 hp
      cases hr : lst L q with
      | bad q2 y =>
        rw [hr] at hp hR
        obtain ⟨rfl, hb⟩ := hp
        go_wp2_with fail
        rw [← (show RR.bad q2 y = R from hR)]
        exact ⟨rfl, rfl, HB2.out.no.trans hb⟩
      | ok a q2 =>
        rw [hr] at hp hR
        obtain ⟨⟨v, rfl, cs, rfl, hva⟩, hE3, hb3⟩ := hp
        obtain ⟨k1, neg1, xs1, e1, t1, li1, ks1, hak⟩ : ∃ k neg xs e t li ks, a = VT.mk k neg xs e t li ks := by cases a; exact ⟨_, _, _, _, _, _, _, rfl⟩
        have hvb := hva
        rw [hak] at hvb
        obtain ⟨A1, n1, c1, LA1, ln1, lc1, KA1, kn1, kc1, rfl, -⟩ := hvb.parts
        have HVA := Lib.hid hva
        clear hvb hak hva hr
        have hbw3 : But (fun k => k = sb) w w3 := (HB2.out.no).trans hb3
        have hr3 := (hb3.block rb (Array.getElem?_eq_some_iff.1 HR2.out).1 (by omega)).trans HR2.out
        obtain ⟨y0, y1, y2, y3, y4, y5, y6⟩ := box7_of hr3
        have f0 : w3.frozen? ⟨rb, 0, none⟩ = false := by simp [World.frozen?, hr3]
        have f1 : w3.frozen? ⟨rb, 1, none⟩ = false := by simp [World.frozen?, hr3]
        have f2 : w3.frozen? ⟨rb, 2, none⟩ = false := by simp [World.frozen?, hr3]
        have f3 : w3.frozen? ⟨rb, 3, none⟩ = false := by simp [World.frozen?, hr3]
        have f4 : w3.frozen? ⟨rb, 4, none⟩ = false := by simp [World.frozen?, hr3]
        have f5 : w3.frozen? ⟨rb, 5, none⟩ = false := by simp [World.frozen?, hr3]
        have f6 : w3.frozen? ⟨rb, 6, none⟩ = false := by simp [World.frozen?, hr3]
        have HBW3 := Lib.hid hbw3
        have HE3 := Lib.hid hE3
        have HR := Lib.hid hR
        clear hr3 hbw3 hR
        go_wp2_with fail
        have hC : But (fun j => j = rb) w3 (((((((w3.setCell ⟨rb, 0, none⟩ (.int .i64 k1)).setCell ⟨rb, 1, none⟩ (.bool neg1)).setCell ⟨rb, 2, none⟩ (.slice A1 n1 c1)).setCell ⟨rb, 3, none⟩ (.int .i64 e1)).setCell ⟨rb, 4, none⟩ (.string t1)).setCell ⟨rb, 5, none⟩ (.slice LA1 ln1 lc1)).setCell ⟨rb, 6, none⟩ (.slice KA1 kn1 kc1)) := (But.setCell (C := fun j => j = rb) (But.setCell (C := fun j => j = rb) (But.setCell (C := fun j => j = rb) (But.setCell (C := fun j => j = rb) (But.setCell (C := fun j => j = rb) (But.setCell (C := fun j => j = rb) (But.setCell (C := fun j => j = rb) (But.refl _ _) (p := ⟨rb, 0, none⟩) (.inl rfl) _) (p := ⟨rb, 1, none⟩) (.inl rfl) _) (p := ⟨rb, 2, none⟩) (.inl rfl) _) (p := ⟨rb, 3, none⟩) (.inl rfl) _) (p := ⟨rb, 4, none⟩) (.inl rfl) _) (p := ⟨rb, 5, none⟩) (.inl rfl) _) (p := ⟨rb, 6, none⟩) (.inl rfl) _)
        refine bodyPost_ret (v := .agg #[.int .i64 k1, .bool neg1, .slice A1 n1 c1, .int .i64 e1, .string t1, .slice LA1 ln1 lc1, .slice KA1 kn1 kc1]) (by simp [results, Tryz.results29, go_sem, y0, y1, y2, y3, y4, y5, y6]) rfl ?_
        rw [← (show RR.ok a q2 = R from HR.out)]
        refine ⟨⟨_, rfl, _, rfl, ?_⟩, HE3.out.stay hC (fun j hj h => by omega) (fun h => by omega), ⟨hC.os.trans HBW3.out.os, hC.tape.trans HBW3.out.tape, hC.output.trans HBW3.out.output, Nat.le_trans HBW3.out.size hC.size, fun j hj hc => (hC.block j (Nat.lt_of_lt_of_le hj HBW3.out.size) (by have := HRB.out; omega)).trans (HBW3.out.block j hj hc)⟩⟩
        exact (HVA.out.keep fun p hp => hC.cell hp.2 (fun h => by have := hp.1; have := HS2.out; omega)).more fun b hb => ⟨by have := hb.1; have := HS2.out; have := HRB.out; omega, Nat.lt_of_lt_of_le hb.2 hC.size⟩
end Go.Proofs.YtpjllcengnolkaaGreatDoor
