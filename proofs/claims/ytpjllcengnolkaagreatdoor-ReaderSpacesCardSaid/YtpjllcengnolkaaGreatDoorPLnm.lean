/-
  Contract of the scan's number.
-/
import Derived.Test.YtpjllcengnolkaaGreatDoorPLte
import Derived.Deep.CutRange
import Derived.Deep.RegionHeld3
import Derived.Laws.BytesArg
set_option linter.unusedVariables false
set_option linter.unusedSimpArgs false
namespace Go.Proofs.YtpjllcengnolkaaGreatDoor
open Go.RowKit Go.Lib
variable {B : Nat} {L : List UInt8} {A : Option Addr} {c sb : Nat}

/-- A value, in memory of its own from a block on. -/
abbrev rV (N : Nat) : VT → World → Value → Prop := fun x w v => ∃ cs : List Value, v = .agg cs.toArray ∧ VIn w (fun b => N ≤ b ∧ b < w.heap.size) x cs
def skb (f : UInt8 → Bool) (L : List UInt8) (p : Nat) : Bool := match L[p]? with | some y => f y | none => false
def skq (f : UInt8 → Bool) (L : List UInt8) (p : Nat) : Nat := if skb f L p then p + 1 else p
theorem rSkip_ok (f : UInt8 → Bool) (p : Nat) : rSkip f L p = .ok (skb f L p) (skq f L p) := by
  unfold rSkip skq skb
  cases hx : L[p]? with
  | none => rfl
  | some y => cases hf : f y <;> simp [hf]
/-- A number's octets, from its point on; from its exponent on. -/
def rPow : Rd1 Unit := rAt (rSkip fun c => c == 101 || c == 69) fun e => if e then rAt (rSkip fun c => c == 43 || c == 45) fun _ => rDigits else rPure ()
def rFrac : Rd1 Unit := rAt (rSkip (· == 46)) fun f => rAt (if f then rDigits else rPure ()) fun _ => rPow
theorem rNumeral_two (p : Nat) : rNumeral L p = ((if skb (· == 48) L (skq (· == 45) L p) then rPure () else rDigits) L (skq (· == 48) L (skq (· == 45) L p))).bind fun _ q => rFrac L q := by
  unfold rNumeral rFrac rPow rAt
  simp only [rSkip_ok, RR.bind]
theorem rFrac_two (p : Nat) : rFrac L p = ((if skb (· == 46) L p then rDigits else rPure ()) L (skq (· == 46) L p)).bind fun _ q => rPow L q := by
  unfold rFrac rAt
  simp only [rSkip_ok, RR.bind]
theorem rPow_two (p : Nat) : rPow L p = if skb (fun c => c == 101 || c == 69) L p then rDigits L (skq (fun c => c == 43 || c == 45) L (skq (fun c => c == 101 || c == 69) L p)) else .ok () (skq (fun c => c == 101 || c == 69) L p) := by
  unfold rPow rAt
  simp only [rSkip_ok, RR.bind]
  cases skb (fun c => c == 101 || c == 69) L p <;> rfl
def cutB (L : List UInt8) (p q : Nat) : List UInt8 := (L.drop p).take (q - p)
theorem cutB_octs (p q : Nat) : octs ⟨(cutB L p q).toArray⟩ = cutN L p q := by
  unfold octs cutN cutB; rfl
theorem set_heap {w : World} {b i : Nat} {u : Value} {vs : Array Value} {t : TypeId} (h : w.heap[b]? = some (.cells vs t)) : (w.setCell ⟨b, i, none⟩ u).heap[b]? = some (.cells (vs.setIfInBounds i u) t) := by
  show (w.heap.modify b _)[b]? = _
  rw [Array.getElem?_modify, if_pos rfl, h]
  rfl
theorem str_cut (l : List UInt8) : strOfNums (l.map fun x => (x.toNat : Int)) = ⟨l.toArray⟩ := by
  unfold strOfNums
  rw [List.map_map, show (l.map ((fun n : Int => UInt8.ofNat n.toNat) ∘ fun x : UInt8 => (x.toNat : Int))) = l from by
    conv => rhs; rw [← List.map_id l]
    exact List.map_congr_left fun x _ => by simp]
theorem conv_cut {W : World} {g off p q cap : Nat} (h : ∀ k x, L[k]? = some x → W.cell? ⟨g, off + k, none⟩ = some (.int .u8 (x.toNat : Int))) (hp : p ≤ q) (hq : q ≤ L.length) :
    (convert 22 9 (.slice (some ⟨g, off + p, none⟩) (q - p) cap)).run Tryz.prog W = .ok (.string ⟨(cutB L p q).toArray⟩) W := by
  have hl : (cutB L p q).length = q - p := by unfold cutB; rw [List.length_take, List.length_drop]; omega
  have h1 := run_convert_bytes_arg (P := Tryz.prog) (w := W) 22 5 Tryz.underlying22 Tryz.underlying5 g (off + p) (q - p) cap ((cutB L p q).map fun x => (x.toNat : Int)) (by rw [List.length_map, hl]) (fun i hi => by
    have h2 : L[p + i]? = some (cutB L p q)[i] := by
      rw [← List.getElem?_eq_getElem]
      unfold cutB
      rw [List.getElem?_take, if_pos (by omega), List.getElem?_drop]
    rw [show off + p + i = off + (p + i) by omega, h _ _ h2, List.getD_eq_getElem?_getD, List.getElem?_map, List.getElem?_eq_getElem (by omega)]
    rfl) 9 Tryz.underlying9
  rw [h1, str_cut]

theorem digits_up {p q : Nat} {u : Unit} (hp : p ≤ L.length) (h : rDigits L p = .ok u q) : p ≤ q := by
  unfold rDigits rAt rNeed at h
  cases hx : L[p]? with
  | none => rw [hx] at h; exact absurd h (by simp [RR.bind])
  | some y =>
    rw [hx] at h
    cases hd : isDg y with
    | false => simp only [hd, Bool.false_eq_true, if_false, RR.bind] at h; exact absurd h (by simp)
    | true =>
      simp only [hd, if_true, RR.bind] at h
      unfold rSkips at h
      injection h with h1 h2
      omega
set_option maxRecDepth 100000 in
set_option maxHeartbeats 4000000 in
theorem number_c {w : World} {p o : Nat} (E : Env B L A c sb w p o) (hcap : L.length ≤ c) (hpl : p < L.length) :
    Calls Tryz.prog 42 #[ptr sb] w (Po B L A c sb (fun k => k = sb) o (rV w.heap.size) w (rNumber L p)) := by
  have hpn : ∀ (T : Nat) (v : Value) (w : World), (Instr.panic (.iface T v)).run Tryz.prog w = .halt (.panic (.iface T v)) w := fun _ _ _ => rfl
  obtain ⟨R, hR⟩ : ∃ R, rNumber L p = R := ⟨_, rfl⟩
  rw [hR]
  obtain ⟨NB, hNB⟩ : ∃ N, w.heap.size = N := ⟨_, rfl⟩
  rw [hNB]
  unfold rNumber at hR
  obtain ⟨RN, hRN⟩ : ∃ R, rNumeral L p = R := ⟨_, rfl⟩
  rw [hRN] at hR
  have hfit := E.fits
  have hlt := E.lt
  have hbase := E.base
  obtain ⟨c0, c1, c2⟩ := E.cells
  have hb0 := (But.refl (fun k => k = sb) w).alloc (.cells #[.int .i64 0, .bool false, .slice none 0 0, .int .i64 0, .string ⟨#[]⟩, .slice none 0 0, .slice none 0 0] 34)
  have hE0 := E.stay ((But.refl (fun _ => False) _).alloc (.cells #[.int .i64 0, .bool false, .slice none 0 0, .int .i64 0, .string ⟨#[]⟩, .slice none 0 0, .slice none 0 0] 34)) (fun _ _ h => h) (fun h => h)
  have hnew := World.alloc_heap_new w (.cells #[.int .i64 0, .bool false, .slice none 0 0, .int .i64 0, .string ⟨#[]⟩, .slice none 0 0, .slice none 0 0] 34)
  have hs1 : NB < (w.alloc (.cells #[.int .i64 0, .bool false, .slice none 0 0, .int .i64 0, .string ⟨#[]⟩, .slice none 0 0, .slice none 0 0] 34)).heap.size := by simp; omega
  rw [hNB] at hnew
  have HR := Lib.hid hR
  have HNB := Lib.hid hNB
  have HLT := Lib.hid hlt
  rw [rNumeral_two] at hRN
  clear E hR hlt
  go_enter Tryz.func42, Tryz.ntmps42
  go_upto_region 1 with fail
  try rw [hNB]
  clear hNB c0 c1 c2
  generalize (w.alloc (.cells #[.int .i64 0, .bool false, .slice none 0 0, .int .i64 0, .string ⟨#[]⟩, .slice none 0 0, .slice none 0 0] 34)) = w0 at *
  obtain ⟨nbx, hnbx⟩ : ∃ o : Obj, (.cells #[.int .i64 0, .bool false, .slice none 0 0, .int .i64 0, .string ⟨#[]⟩, .slice none 0 0, .slice none 0 0] 34) = o := ⟨_, rfl⟩
  rw [hnbx] at hnew
  have HNBX := Lib.hid hnbx
  have HN0 := Lib.hid hnew
  have HB0 := Lib.hid hb0
  have HE0 := Lib.hid hE0
  clear hnbx hnew hb0 hE0 hs1
  have HLP0 := Lib.hid (Nat.le_refl p)
  obtain ⟨c0, c1, c2⟩ := HE0.out.cells
  go_wp2_with fail
  clear c0 c1 c2
  refine (one_c 45 w0).mono ?_
  rintro e' v0 ⟨rfl, hv⟩
  have hBv : But (fun _ => False) w0 v0 := by rw [hv]; exact (But.refl _ _).alloc _
  have hcl : v0.cell? ⟨w0.heap.size, 0, none⟩ = some (.int .u8 ((45 : UInt8).toNat : Int)) := by rw [hv]; exact cell_at3 (World.alloc_heap_new w0 _) rfl
  have hEv := HE0.out.stay hBv (fun _ _ h => h) (fun h => h)
  clear hv
  go_wp2_with fail
  have hsk := skipOne_c hEv 45 hcl
  rw [rSkip_ok] at hsk
  refine hsk.mono ?_
  rintro e' w1 ⟨⟨v, rfl, rfl⟩, hE, hb⟩
  have HB1 := Lib.hid (HB0.out.trans ((hBv.no).trans hb))
  have HN1 := Lib.hid (show w1.heap[NB]? = some nbx from (((hBv.no (C := fun k => k = sb)).trans hb).block NB (Array.getElem?_eq_some_iff.1 HN0.out).1 (fun h => by have := HNB.out; have := HLT.out; omega)).trans HN0.out)
  have HE1 := Lib.hid hE
  have HLP1 := Lib.hid (show p ≤ skq (· == 45) L p by have := HLP0.out; unfold skq; split <;> omega)
  clear hE hb hsk HE0 HB0 HN0 HLP0 hBv hcl hEv
  obtain ⟨g1, hg1⟩ : ∃ b, skb (· == 45) L p = b := ⟨_, rfl⟩
  obtain ⟨q1, hq1⟩ : ∃ b, skq (· == 45) L p = b := ⟨_, rfl⟩
  rw [hq1] at HE1 HLP1
  try rw [hg1]
  rw [hq1] at hRN
  clear hg1 hq1
  go_wp2_with fail
  refine (one_c 48 w1).mono ?_
  rintro e' v1 ⟨rfl, hv⟩
  have hBv : But (fun _ => False) w1 v1 := by rw [hv]; exact (But.refl _ _).alloc _
  have hcl : v1.cell? ⟨w1.heap.size, 0, none⟩ = some (.int .u8 ((48 : UInt8).toNat : Int)) := by rw [hv]; exact cell_at3 (World.alloc_heap_new w1 _) rfl
  have hEv := HE1.out.stay hBv (fun _ _ h => h) (fun h => h)
  clear hv
  go_wp2_with fail
  have hsk := skipOne_c hEv 48 hcl
  rw [rSkip_ok] at hsk
  refine hsk.mono ?_
  rintro e' w2 ⟨⟨v, rfl, rfl⟩, hE, hb⟩
  have HB2 := Lib.hid (HB1.out.trans ((hBv.no).trans hb))
  have HN2 := Lib.hid (show w2.heap[NB]? = some nbx from (((hBv.no (C := fun k => k = sb)).trans hb).block NB (Array.getElem?_eq_some_iff.1 HN1.out).1 (fun h => by have := HNB.out; have := HLT.out; omega)).trans HN1.out)
  have HE2 := Lib.hid hE
  have HLP2 := Lib.hid (show p ≤ skq (· == 48) L q1 by have := HLP1.out; unfold skq; split <;> omega)
  clear hE hb hsk HE1 HB1 HN1 HLP1 hBv hcl hEv
  obtain ⟨g2, hg2⟩ : ∃ b, skb (· == 48) L q1 = b := ⟨_, rfl⟩
  obtain ⟨q2, hq2⟩ : ∃ b, skq (· == 48) L q1 = b := ⟨_, rfl⟩
  rw [hq2] at HE2 HLP2
  try rw [hg2]
  rw [hq2, hg2] at hRN
  clear hg2 hq2
  go_upto_if 16 with fail
  go_cut [3] from 17 to 18 (fun s3 wc => s3 = .int .i64 (p : Int) ∧ ∃ q, Hid (rFrac L q = RN) ∧ Hid (Env B L A c sb wc q o) ∧ Hid (But (fun k => k = sb) w wc) ∧ Hid (wc.heap[NB]? = some nbx) ∧ Hid (p ≤ q))
  case first =>
    cases g2
    · simp only [Bool.false_eq_true, if_false] at hRN
      try simp only [Bool.not_false]
      go_wp2_with fail
      refine (digits_c HE2.out).mono ?_
      intro e wd hp
      cases hr : rDigits L q2 with
      | bad qd y =>
        rw [hr] at hp hRN
        obtain ⟨rfl, hb⟩ := hp
        go_wp2_with fail
        have h1 : RR.bad qd y = RN := hRN
        have h2 : (RR.bad qd y : RR VT) = R := by rw [← HR.out, ← h1]; rfl
        rw [← h2]
        exact ⟨rfl, rfl, HB2.out.trans hb⟩
      | ok u qd =>
        have hupd : q2 ≤ qd := (digits_up HE2.out.here hr)
        rw [hr] at hp hRN
        obtain ⟨⟨v, rfl, rfl⟩, hE, hb⟩ := hp
        have hNd : wd.heap[NB]? = some nbx := (hb.block NB (Array.getElem?_eq_some_iff.1 HN2.out).1 (fun h => by have := HNB.out; have := HLT.out; omega)).trans HN2.out
        go_wp2_with fail
        go_meet
        exact ⟨rfl, qd, hRN, hE, HB2.out.trans hb, hNd, by have := HLP2.out; show p ≤ qd; omega⟩
    · simp only [if_true] at hRN
      try simp only [Bool.not_true]
      go_wp2_with fail
      go_meet
      exact ⟨rfl, q2, hRN, HE2.out, HB2.out, HN2.out, HLP2.out⟩
  case rest =>
    obtain ⟨rfl, q3, hRN, HE3, HB3, HN3, HLP3⟩ := hcut
    have hRN := hRN.out
    rw [rFrac_two] at hRN
    go_wp2_with fail
    refine (one_c 46 wc).mono ?_
    rintro e' v3 ⟨rfl, hv⟩
    have hBv : But (fun _ => False) wc v3 := by rw [hv]; exact (But.refl _ _).alloc _
    have hcl : v3.cell? ⟨wc.heap.size, 0, none⟩ = some (.int .u8 ((46 : UInt8).toNat : Int)) := by rw [hv]; exact cell_at3 (World.alloc_heap_new wc _) rfl
    have hEv := HE3.out.stay hBv (fun _ _ h => h) (fun h => h)
    clear hv
    go_wp2_with fail
    have hsk := skipOne_c hEv 46 hcl
    rw [rSkip_ok] at hsk
    refine hsk.mono ?_
    rintro e' w4 ⟨⟨v, rfl, rfl⟩, hE, hb⟩
    have HB4 := Lib.hid (HB3.out.trans ((hBv.no).trans hb))
    have HN4 := Lib.hid (show w4.heap[NB]? = some nbx from (((hBv.no (C := fun k => k = sb)).trans hb).block NB (Array.getElem?_eq_some_iff.1 HN3.out).1 (fun h => by have := HNB.out; have := HLT.out; omega)).trans HN3.out)
    have HE4 := Lib.hid hE
    have HLP4 := Lib.hid (show p ≤ skq (· == 46) L q3 by have := HLP3.out; unfold skq; split <;> omega)
    clear hE hb hsk HE3 HB3 HN3 HLP3 hBv hcl hEv
    obtain ⟨g3, hg3⟩ : ∃ b, skb (· == 46) L q3 = b := ⟨_, rfl⟩
    obtain ⟨q4, hq4⟩ : ∃ b, skq (· == 46) L q3 = b := ⟨_, rfl⟩
    rw [hq4] at HE4 HLP4
    try rw [hg3]
    rw [hq4, hg3] at hRN
    clear hg3 hq4
    go_upto_if 21 with fail
    go_cut [3] from 22 to 23 (fun s3 wc => s3 = .int .i64 (p : Int) ∧ ∃ q, Hid (rPow L q = RN) ∧ Hid (Env B L A c sb wc q o) ∧ Hid (But (fun k => k = sb) w wc) ∧ Hid (wc.heap[NB]? = some nbx) ∧ Hid (p ≤ q))
    case first =>
      cases g3
      · simp only [Bool.false_eq_true, if_false] at hRN
        go_wp2_with fail
        go_meet
        exact ⟨rfl, q4, hRN, HE4.out, HB4.out, HN4.out, HLP4.out⟩
      · simp only [if_true] at hRN
        go_wp2_with fail
        refine (digits_c HE4.out).mono ?_
        intro e wd hp
        cases hr : rDigits L q4 with
        | bad qd y =>
          rw [hr] at hp hRN
          obtain ⟨rfl, hb⟩ := hp
          go_wp2_with fail
          have h1 : RR.bad qd y = RN := hRN
          have h2 : (RR.bad qd y : RR VT) = R := by rw [← HR.out, ← h1]; rfl
          rw [← h2]
          exact ⟨rfl, rfl, HB4.out.trans hb⟩
        | ok u qd =>
          have hupd : q4 ≤ qd := (digits_up HE4.out.here hr)
          rw [hr] at hp hRN
          obtain ⟨⟨v, rfl, rfl⟩, hE, hb⟩ := hp
          have hNd : wd.heap[NB]? = some nbx := (hb.block NB (Array.getElem?_eq_some_iff.1 HN4.out).1 (fun h => by have := HNB.out; have := HLT.out; omega)).trans HN4.out
          go_wp2_with fail
          go_meet
          exact ⟨rfl, qd, hRN, hE, HB4.out.trans hb, hNd, by have := HLP4.out; show p ≤ qd; omega⟩
    case rest =>
      obtain ⟨rfl, q5, hRN, HE5, HB5, HN5, HLP5⟩ := hcut
      have hRN := hRN.out
      rw [rPow_two] at hRN
      go_wp2_with fail
      have hsk := skipE_c HE5.out
      rw [rSkip_ok] at hsk
      refine hsk.mono ?_
      rintro e' w6 ⟨⟨v, rfl, rfl⟩, hE, hb⟩
      have HB6 := Lib.hid (HB5.out.trans (hb))
      have HN6 := Lib.hid (show w6.heap[NB]? = some nbx from ((hb).block NB (Array.getElem?_eq_some_iff.1 HN5.out).1 (fun h => by have := HNB.out; have := HLT.out; omega)).trans HN5.out)
      have HE6 := Lib.hid hE
      have HLP6 := Lib.hid (show p ≤ skq (fun c => c == 101 || c == 69) L q5 by have := HLP5.out; unfold skq; split <;> omega)
      clear hE hb hsk HE5 HB5 HN5 HLP5
      obtain ⟨g4, hg4⟩ : ∃ b, skb (fun c => c == 101 || c == 69) L q5 = b := ⟨_, rfl⟩
      obtain ⟨q6, hq6⟩ : ∃ b, skq (fun c => c == 101 || c == 69) L q5 = b := ⟨_, rfl⟩
      rw [hq6] at HE6 HLP6
      try rw [hg4]
      rw [hq6, hg4] at hRN
      clear hg4 hq6
      go_upto_if 25 with fail
      go_cut [3] from 26 to 29 (fun s3 wc => s3 = .int .i64 (p : Int) ∧ ∃ q, Hid (RR.ok () q = RN) ∧ Hid (Env B L A c sb wc q o) ∧ Hid (But (fun k => k = sb) w wc) ∧ Hid (wc.heap[NB]? = some nbx) ∧ Hid (p ≤ q))
      case first =>
        cases g4
        · simp only [Bool.false_eq_true, if_false] at hRN
          go_wp2_with fail
          go_meet
          exact ⟨rfl, q6, hRN, HE6.out, HB6.out, HN6.out, HLP6.out⟩
        · simp only [if_true] at hRN
          go_wp2_with fail
          have hsk := skipS_c HE6.out
          rw [rSkip_ok] at hsk
          refine hsk.mono ?_
          rintro e' w7 ⟨⟨v, rfl, rfl⟩, hE, hb⟩
          have HB7 := Lib.hid (HB6.out.trans (hb))
          have HN7 := Lib.hid (show w7.heap[NB]? = some nbx from ((hb).block NB (Array.getElem?_eq_some_iff.1 HN6.out).1 (fun h => by have := HNB.out; have := HLT.out; omega)).trans HN6.out)
          have HE7 := Lib.hid hE
          have HLP7 := Lib.hid (show p ≤ skq (fun c => c == 43 || c == 45) L q6 by have := HLP6.out; unfold skq; split <;> omega)
          clear hE hb hsk HE6 HB6 HN6 HLP6
          obtain ⟨g5, hg5⟩ : ∃ b, skb (fun c => c == 43 || c == 45) L q6 = b := ⟨_, rfl⟩
          obtain ⟨q7, hq7⟩ : ∃ b, skq (fun c => c == 43 || c == 45) L q6 = b := ⟨_, rfl⟩
          rw [hq7] at HE7 HLP7
          try rw [hg5]
          rw [hq7] at hRN
          clear hg5 hq7
          go_wp2_with fail
          refine (digits_c HE7.out).mono ?_
          intro e wd hp
          cases hr : rDigits L q7 with
          | bad qd y =>
            rw [hr] at hp hRN
            obtain ⟨rfl, hb⟩ := hp
            go_wp2_with fail
            have h1 : RR.bad qd y = RN := hRN
            have h2 : (RR.bad qd y : RR VT) = R := by rw [← HR.out, ← h1]; rfl
            rw [← h2]
            exact ⟨rfl, rfl, HB7.out.trans hb⟩
          | ok u qd =>
            have hupd : q7 ≤ qd := (digits_up HE7.out.here hr)
            rw [hr] at hp hRN
            obtain ⟨⟨v, rfl, rfl⟩, hE, hb⟩ := hp
            have hNd : wd.heap[NB]? = some nbx := (hb.block NB (Array.getElem?_eq_some_iff.1 HN7.out).1 (fun h => by have := HNB.out; have := HLT.out; omega)).trans HN7.out
            go_wp2_with fail
            go_meet
            exact ⟨rfl, qd, hRN, hE, HB7.out.trans hb, hNd, by have := HLP7.out; show p ≤ qd; omega⟩
      case rest =>
        obtain ⟨rfl, q7, hRN, HE7, HB7, HN7, HLP7⟩ := hcut
        have hRN := hRN.out
        have hq1 := HE7.out.here
        have hpq := HLP7.out
        have hR := HR.out
        rw [← hRN] at hR
        simp only [RR.bind] at hR
        clear hRN HR
        obtain ⟨g, off, hA, hgB, -⟩ := HE7.out.oct p _ (List.getElem?_eq_getElem hpl)
        subst hA
        have hoct : ∀ W, But (fun _ => False) wc W → ∀ k x, L[k]? = some x → W.cell? ⟨g, off + k, none⟩ = some (.int .u8 (x.toNat : Int)) := fun W hW k x hk => by
          obtain ⟨g', off', hA', -, hc'⟩ := HE7.out.oct k x hk
          rw [Option.some.injEq, Addr.mk.injEq] at hA'
          obtain ⟨rfl, rfl, -⟩ := hA'
          exact hW.cell_some hc' (fun h => h)
        obtain ⟨T, hT⟩ : ∃ T : ByteArray, T = ⟨(cutB L p q7).toArray⟩ := ⟨_, rfl⟩
        have hTo : octs T = cutN L p q7 := by rw [hT]; exact cutB_octs _ _
        have hTs : T.size ≤ 65536 := by rw [hT]; show (cutB L p q7).toArray.size ≤ _; rw [List.size_toArray]; unfold cutB; rw [List.length_take, List.length_drop]; omega
        have hS : ∀ W, But (fun _ => False) wc W → (W.cell? ⟨sb, 0, none⟩ = some (.slice (some ⟨g, off, none⟩) L.length c) ∧ W.cell? ⟨sb, 1, none⟩ = some (.int .i64 (q7 : Int)) ∧ (convert 22 9 (.slice (some ⟨g, off + p, none⟩) (q7 - p) (c - p))).run Tryz.prog W = .ok (.string T) W) := fun W hW => by
          obtain ⟨d0, d1, -⟩ := (HE7.out.stay hW (fun _ _ h => h) (fun h => h)).cells
          exact ⟨d0, d1, by rw [hT]; exact conv_cut (hoct W hW) hpq hq1⟩
        have HS := Lib.hid hS
        have hcp : ¬ c = p := by omega
        have hpq2 : (p : Int) ≤ (q7 : Int) := by omega
        have hqc : (q7 : Int) ≤ (c : Int) := by omega
        have hp0 : (0 : Int) ≤ (p : Int) := by omega
        have hpc : (p : Int) ≤ (c : Int) := by omega
        have hlc : (L.length : Int) ≤ (c : Int) := by omega
        have HTO := Lib.hid hTo
        rw [← hTo] at hR
        have HR := Lib.hid hR
        clear hoct hTo hT hS hR
        go_wp2_with fail
        refine wp_region_held_drew (S := fun W => W.cell? ⟨sb, 0, none⟩ = some (.slice (some ⟨g, off, none⟩) L.length c) ∧ W.cell? ⟨sb, 1, none⟩ = some (.int .i64 (q7 : Int)) ∧ (convert 22 9 (.slice (some ⟨g, off + p, none⟩) (q7 - p) (c - p))).run Tryz.prog W = .ok (.string T) W) (by kernel_rfl) (HS.out wc.drew ((But.refl _ _).drew)) (fun hHeld => ?_)
        (try simp only [List.size_toArray, List.length_cons, List.length_nil, Nat.reduceAdd, Array.replicate_succ, Array.replicate_zero, List.push_toArray, List.append_toArray, List.nil_append, List.cons_append])
        refine wpAnyH_take (i := 0) (oi := ⟨_, _, _, _, _, _⟩) (v := ?_) rfl (by kernel_rfl) (by kernel_rfl) (by kernel_rfl) (fun _ _ _ h => h) (Or.inl ⟨by rfl, ?_⟩) (by assumption) ?_
        rotate_left
        · intro w hSw
          (try dsimp only at hSw)
          go_split_ands
          go_simp
          try with_reducible rfl
        try simp only [Act.put, List.setIfInBounds_toArray, List.set_cons_zero, List.set_cons_succ]
        refine wpAnyH_take (i := 1) (oi := ⟨_, _, _, _, _, _⟩) (v := ?_) rfl (by kernel_rfl) (by kernel_rfl) (by kernel_rfl) (fun _ _ _ h => h) (Or.inl ⟨by rfl, ?_⟩) (by assumption) ?_
        rotate_left
        · intro w hSw
          (try dsimp only at hSw)
          go_split_ands
          go_simp
          try with_reducible rfl
        try simp only [Act.put, List.setIfInBounds_toArray, List.set_cons_zero, List.set_cons_succ]
        refine wpAnyH_take (i := 2) (oi := ⟨_, _, _, _, _, _⟩) (v := ?_) rfl (by kernel_rfl) (by kernel_rfl) (by kernel_rfl) (fun _ _ _ h => h) (Or.inl ⟨by rfl, ?_⟩) (by assumption) ?_
        rotate_left
        · intro w hSw
          (try dsimp only at hSw)
          go_split_ands
          go_simp
          try with_reducible rfl
        try simp only [Act.put, List.setIfInBounds_toArray, List.set_cons_zero, List.set_cons_succ]
        refine wpAnyH_take (i := 3) (oi := ⟨_, _, _, _, _, _⟩) (v := ?_) rfl (by kernel_rfl) (by kernel_rfl) (by kernel_rfl) (fun _ _ _ h => h) (Or.inl ⟨by rfl, ?_⟩) (by assumption) ?_
        rotate_left
        · intro w hSw
          (try dsimp only at hSw)
          go_split_ands
          go_simp
          try with_reducible rfl
        try simp only [Act.put, List.setIfInBounds_toArray, List.set_cons_zero, List.set_cons_succ]
        refine wpAnyH_take (i := 4) (oi := ⟨_, _, _, _, _, _⟩) (v := ?_) rfl (by kernel_rfl) (by kernel_rfl) (by kernel_rfl) (fun _ _ _ h => h) (Or.inl ⟨by rfl, ?_⟩) (by assumption) ?_
        rotate_left
        · intro w hSw
          (try dsimp only at hSw)
          go_split_ands
          go_simp
          try with_reducible rfl
        try simp only [Act.put, List.setIfInBounds_toArray, List.set_cons_zero, List.set_cons_succ]
        refine wpAnyH_take (i := 5) (oi := ⟨_, _, _, _, _, _⟩) (v := ?_) rfl (by kernel_rfl) (by kernel_rfl) (by kernel_rfl) (fun _ _ _ h => h) (Or.inl ⟨by rfl, ?_⟩) (by assumption) ?_
        rotate_left
        · intro w hSw
          (try dsimp only at hSw)
          go_split_ands
          go_simp
          try with_reducible rfl
        try simp only [Act.put, List.setIfInBounds_toArray, List.set_cons_zero, List.set_cons_succ]
        refine wpAnyH_take (i := 6) (oi := ⟨_, _, _, _, _, _⟩) (v := ?_) rfl (by kernel_rfl) (by kernel_rfl) (by kernel_rfl) (fun _ _ _ h => h) (Or.inl ⟨by rfl, ?_⟩) (by assumption) ?_
        rotate_left
        · intro w hSw
          (try dsimp only at hSw)
          go_split_ands
          go_simp
          try with_reducible rfl
        try simp only [Act.put, List.setIfInBounds_toArray, List.set_cons_zero, List.set_cons_succ]
        refine wpAnyH_take (i := 7) (oi := ⟨_, _, _, _, _, _⟩) (v := ?_) rfl (by kernel_rfl) (by kernel_rfl) (by kernel_rfl) (fun _ _ _ h => h) (Or.inl ⟨by rfl, ?_⟩) (by assumption) ?_
        rotate_left
        · intro w hSw
          (try dsimp only at hSw)
          go_split_ands
          go_simp
          try with_reducible rfl
        try simp only [Act.put, List.setIfInBounds_toArray, List.set_cons_zero, List.set_cons_succ]
        refine wpAnyH_take (i := 8) (oi := ⟨_, _, _, _, _, _⟩) (v := ?_) rfl (by kernel_rfl) (by kernel_rfl) (by kernel_rfl) (fun _ _ _ h => h) (Or.inl ⟨by rfl, ?_⟩) (by assumption) ?_
        rotate_left
        · intro w hSw
          (try dsimp only at hSw)
          go_split_ands
          go_simp
          try with_reducible rfl
        try simp only [Act.put, List.setIfInBounds_toArray, List.set_cons_zero, List.set_cons_succ]
        refine wpAnyH_take (i := 9) (oi := ⟨_, _, _, _, _, _⟩) (v := ?_) rfl (by kernel_rfl) (by kernel_rfl) (by kernel_rfl) (fun _ _ _ h => h) (Or.inl ⟨by rfl, ?_⟩) (by assumption) ?_
        rotate_left
        · intro w hSw
          (try dsimp only at hSw)
          go_split_ands
          go_simp
          try with_reducible rfl
        try simp only [Act.put, List.setIfInBounds_toArray, List.set_cons_zero, List.set_cons_succ]
        refine wpAnyH_take (i := 10) (oi := ⟨_, _, _, _, _, _⟩) (v := ?_) rfl (by kernel_rfl) (by kernel_rfl) (by kernel_rfl) (fun _ _ _ h => h) (Or.inl ⟨by rfl, ?_⟩) (by assumption) ?_
        rotate_left
        · intro w hSw
          (try dsimp only at hSw)
          go_split_ands
          go_simp
          try with_reducible rfl
        try simp only [Act.put, List.setIfInBounds_toArray, List.set_cons_zero, List.set_cons_succ]
        have hDP := fun V => DParse_c T V (by omega)
        unfold dv at hDP
        obtain ⟨ng, hng⟩ : ∃ b, fN (octs T) = b := ⟨_, rfl⟩
        obtain ⟨ex, hex⟩ : ∃ b, fX (octs T) = b := ⟨_, rfl⟩
        obtain ⟨zs, hzs⟩ : ∃ b, fZ (octs T) = b := ⟨_, rfl⟩
        obtain ⟨fe, hfe⟩ : ∃ b, fE (octs T) = b := ⟨_, rfl⟩
        rw [hng, hex, hzs, hfe] at hDP
        have HDP := Lib.hid hDP
        have HNV := Lib.hid (show numV (octs T) = .mk 3 ng zs ex ⟨#[]⟩ [] [] by unfold numV; rw [hng, hex, hzs])
        have HOK := Lib.hid (show fe = 0 → okB ng zs ex = true from fun h => by rw [← hng, ← hex, ← hzs]; exact f_may2 (by rw [hfe, h]))
        have hR := HR.out
        rw [hfe] at hR
        have HR2 := Lib.hid hR
        have HTS := Lib.hid hTs
        clear hDP hng hex hzs hfe HR hR hTs
        refine wpAnyH_ready (rs := [11, 15]) (by kernel_rfl) (by simp) (AllReadyH.cons (o := ⟨_, _, _, _, _, _⟩) rfl (fun K hK => ?_) (AllReadyH.cons (o := ⟨_, _, _, _, _, _⟩) rfl (fun K hK => ?_) AllReadyH.nil))
        · go_simp
          refine (HDP.out _).mono ?_
          rintro e' w3 ⟨AA, nn, cc, rfl, hres, hbl⟩
          (try dsimp only)
          have hb3 : But (fun _ => False) wc w3 := (((But.refl (fun _ => False) wc).drew)).trans (But.of hbl)
          refine hK.out _ _ (HS.out _ hb3) (fun hHeld2 => ?_)
          clear hK K hHeld
          try simp only [Act.put, List.setIfInBounds_toArray, List.set_cons_zero, List.set_cons_succ]
          refine wpAnyH_take (i := 12) (oi := ⟨_, _, _, _, _, _⟩) (v := ?_) rfl (by kernel_rfl) (by kernel_rfl) (by kernel_rfl) (fun _ _ _ h => h) (Or.inl ⟨by rfl, ?_⟩) (by assumption) ?_
          rotate_left
          · intro w hSw
            (try dsimp only at hSw)
            go_split_ands
            go_simp
            try with_reducible rfl
          try simp only [Act.put, List.setIfInBounds_toArray, List.set_cons_zero, List.set_cons_succ]
          refine wpAnyH_take (i := 13) (oi := ⟨_, _, _, _, _, _⟩) (v := ?_) rfl (by kernel_rfl) (by kernel_rfl) (by kernel_rfl) (fun _ _ _ h => h) (Or.inl ⟨by rfl, ?_⟩) (by assumption) ?_
          rotate_left
          · intro w hSw
            (try dsimp only at hSw)
            go_split_ands
            go_simp
            try with_reducible rfl
          try simp only [Act.put, List.setIfInBounds_toArray, List.set_cons_zero, List.set_cons_succ]
          refine wpAnyH_take (i := 14) (oi := ⟨_, _, _, _, _, _⟩) (v := ?_) rfl (by kernel_rfl) (by kernel_rfl) (by kernel_rfl) (fun _ _ _ h => h) (Or.inl ⟨by rfl, ?_⟩) (by assumption) ?_
          rotate_left
          · intro w hSw
            (try dsimp only at hSw)
            go_split_ands
            go_simp
            try with_reducible rfl
          try simp only [Act.put, List.setIfInBounds_toArray, List.set_cons_zero, List.set_cons_succ]
          refine wpAnyH_ready (rs := [15]) (by kernel_rfl) (by simp) (AllReadyH.cons (o := ⟨_, _, _, _, _, _⟩) rfl (fun K hK => ?_) AllReadyH.nil)
          go_simp
          refine hK.out _ _ (HS.out _ (hb3.alloc _)) (fun hHeld3 => ?_)
          clear hK K hHeld2
          try simp only [Act.put, List.setIfInBounds_toArray, List.set_cons_zero, List.set_cons_succ]
          refine wpAnyH_ready (rs := [16]) (by kernel_rfl) (by simp) (AllReadyH.cons (o := ⟨_, _, _, _, _, _⟩) rfl (fun K hK => ?_) AllReadyH.nil)
          go_simp
          refine hK.out _ _ (HS.out _ (hb3.alloc _)) (fun hHeld4 => ?_)
          clear hK K hHeld3
          try simp only [Act.put, List.setIfInBounds_toArray, List.set_cons_zero, List.set_cons_succ]
          refine wpAnyH_take (i := 17) (oi := ⟨_, _, _, _, _, _⟩) (v := ?_) rfl (by kernel_rfl) (by kernel_rfl) (by kernel_rfl) (fun _ _ _ h => h) (Or.inl ⟨by rfl, ?_⟩) (by assumption) ?_
          rotate_left
          · intro w hSw
            (try dsimp only at hSw)
            go_split_ands
            go_simp
            try with_reducible rfl
          try simp only [Act.put, List.setIfInBounds_toArray, List.set_cons_zero, List.set_cons_succ]
          refine wpAnyH_done (by kernel_rfl) ?_ _
          have hX := World.alloc_heap_new w3 (.cells #[.bool ng, .slice AA nn cc, .int .i64 ex] 31)
          have hb5 : But (fun _ => False) wc (w3.alloc (.cells #[.bool ng, .slice AA nn cc, .int .i64 ex] 31)) := hb3.alloc _
          have hrd := hres.rd.keep (w' := w3.alloc (.cells #[.bool ng, .slice AA nn cc, .int .i64 ex] 31)) (fun p hp => ((But.refl (fun _ => False) w3).alloc _).cell hp.2 (fun h => h))
          have hsz : (w3.alloc (.cells #[.bool ng, .slice AA nn cc, .int .i64 ex] 31)).heap.size = w3.heap.size + 1 := by simp
          have hwc3 := hb3.size
          obtain ⟨b4, hb4e⟩ : ∃ b, w3.heap.size = b := ⟨_, rfl⟩
          rw [hb4e] at hX hsz hwc3
          generalize (w3.alloc (.cells #[.bool ng, .slice AA nn cc, .int .i64 ex] 31)) = w5 at *
          have hNl : NB < wc.heap.size := (Array.getElem?_eq_some_iff.1 HN7.out).1
          have hx0 := hX
          have HX := Lib.hid hx0
          have HE5 := Lib.hid (HE7.out.stay hb5 (fun _ _ h => h) (fun h => h))
          have HB5 := Lib.hid (HB7.out.trans (hb5.no (C := fun k => k = sb)))
          have HN5 := Lib.hid ((hb5.block NB hNl (fun h => h)).trans HN7.out)
          have HNE := Lib.hid (show NB < b4 by omega)
          have HRD := Lib.hid (show Rd w5 (fun b => NB < b ∧ b < w5.heap.size) AA nn zs from hrd.more (fun b hb => by have := hb.1; have := hb.2; first | (simp at *; omega) | omega))
          have HLEN := Lib.hid (show okB ng zs ex = true → nn ≤ 256 from fun h => by have := (okB_true hres.l32 h).2.1; have := hres.len; omega)
          clear hx0 hb5 hNl hrd hres hbl hb3
          try rw [hb4e]
          clear hb4e hX hsz hwc3
          cases hfe : decide (fe = 0)
          · have hfe1 : ¬ fe = 0 := of_decide_eq_false hfe
            have hfe2 : ((fe : Int) == 0) = false := by rw [beq_eq_false_iff_ne]; omega
            have hR := HR2.out
            rw [if_neg hfe1] at hR
            clear hfe hfe1 HR2
            go_wp2_with fail
            rw [← hR]
            exact ⟨rfl, rfl, HB5.out⟩
          · have hfe1 : fe = 0 := of_decide_eq_true hfe
            have hR := HR2.out
            rw [if_pos hfe1] at hR
            subst hfe1
            clear hfe HR2
            go_wp2_with fail
            refine (apart_c HE5.out).mono ?_
            intro e w6 hp
            cases hrn : rApart L q7 with
            | bad q2 y =>
              rw [hrn] at hp hR
              obtain ⟨rfl, hb⟩ := hp
              go_wp2_with fail
              rw [← (show RR.bad q2 y = R from hR)]
              exact ⟨rfl, rfl, HB5.out.trans hb.no⟩
            | ok u q2 =>
              rw [hrn] at hp hR
              obtain ⟨⟨v, rfl, rfl⟩, hE6, hb⟩ := hp
              have HE6 := Lib.hid hE6
              have HB6 := Lib.hid (HB5.out.trans (hb.no (C := fun k => k = sb)))
              have hx6 := (hb.block b4 (Array.getElem?_eq_some_iff.1 HX.out).1 (fun h => h)).trans HX.out
              have hn6 := (hb.block NB (Array.getElem?_eq_some_iff.1 HN5.out).1 (fun h => h)).trans HN5.out
              rw [← HNBX.out] at hn6
              have hrd6 := HRD.out.keep (w' := w6) (fun p hp => hb.cell hp.2 (fun h => h))
              have hsz6 := hb.size
              have x0 := cell_at3 (i := 0) hx6 rfl
              have x1 := cell_at3 (i := 1) hx6 rfl
              have x2 := cell_at3 (i := 2) hx6 rfl
              obtain ⟨y0, y1, y2, y3, y4, y5, y6⟩ := box7_of hn6
              have f0 : w6.frozen? ⟨NB, 0, none⟩ = false := by simp [World.frozen?, hn6]
              have f1 : w6.frozen? ⟨NB, 1, none⟩ = false := by simp [World.frozen?, hn6]
              have f2 : w6.frozen? ⟨NB, 2, none⟩ = false := by simp [World.frozen?, hn6]
              have f3 : w6.frozen? ⟨NB, 3, none⟩ = false := by simp [World.frozen?, hn6]
              have f4 : w6.frozen? ⟨NB, 4, none⟩ = false := by simp [World.frozen?, hn6]
              have f5 : w6.frozen? ⟨NB, 5, none⟩ = false := by simp [World.frozen?, hn6]
              have f6 : w6.frozen? ⟨NB, 6, none⟩ = false := by simp [World.frozen?, hn6]
              have hb4 : ¬ b4 = NB := by have := HNE.out; omega
              have HR3 := Lib.hid (show RR.ok (numV (octs T)) q2 = R from hR)
              have HRD6 := Lib.hid hrd6
              have HSZ := Lib.hid hsz6
              clear hE6 hb hR hrn hx6 hn6 hrd6 hsz6 HX HN5 HRD
              go_wp2_with fail
              have hC : But (fun k => k = NB) w6 (((((((w6.setCell ⟨NB, 0, none⟩ (.int .i64 3)).setCell ⟨NB, 1, none⟩ (.bool ng)).setCell ⟨NB, 2, none⟩ (.slice AA nn cc)).setCell ⟨NB, 3, none⟩ (.int .i64 ex)).setCell ⟨NB, 4, none⟩ (.string ⟨#[]⟩)).setCell ⟨NB, 5, none⟩ (.slice none 0 0)).setCell ⟨NB, 6, none⟩ (.slice none 0 0)) :=
                But.setCell (C := fun k => k = NB) (But.setCell (C := fun k => k = NB) (But.setCell (C := fun k => k = NB) (But.setCell (C := fun k => k = NB) (But.setCell (C := fun k => k = NB) (But.setCell (C := fun k => k = NB) (But.setCell (C := fun k => k = NB) (But.refl _ _) (p := ⟨NB, 0, none⟩) (.inl rfl) _) (p := ⟨NB, 1, none⟩) (.inl rfl) _) (p := ⟨NB, 2, none⟩) (.inl rfl) _) (p := ⟨NB, 3, none⟩) (.inl rfl) _) (p := ⟨NB, 4, none⟩) (.inl rfl) _) (p := ⟨NB, 5, none⟩) (.inl rfl) _) (p := ⟨NB, 6, none⟩) (.inl rfl) _
              refine bodyPost_ret (v := .agg #[.int .i64 3, .bool ng, .slice AA nn cc, .int .i64 ex, .string ⟨#[]⟩, .slice none 0 0, .slice none 0 0]) (by simp [results, Tryz.results42, go_sem, y0, y1, y2, y3, y4, y5, y6]) rfl ?_
              rw [← HR3.out, HNV.out]
              have hE7 := HE6.out.stay hC (fun k hk h => by have := HE6.out.base; have := HNB.out; have := HLT.out; omega) (fun h => by have := HNB.out; have := HLT.out; omega)
              have hB7 : But (fun k => k = sb) w _ := ⟨hC.os.trans HB6.out.os, hC.tape.trans HB6.out.tape, hC.output.trans HB6.out.output, Nat.le_trans HB6.out.size hC.size, fun k hk hc => (hC.block k (Nat.lt_of_lt_of_le hk HB6.out.size) (fun h => by have := HNB.out; omega)).trans (HB6.out.block k hk hc)⟩
              refine ⟨⟨_, rfl, _, rfl, ?_⟩, hE7, hB7⟩
              have hnn := HLEN.out (by first | exact HOK.out rfl | exact HOK.out trivial)
              refine .mk (cs := fun _ => []) ((HRD6.out.keep (fun p hp => hC.cell (by have := hp.2; have := HSZ.out; omega) (fun h => by have := hp.1; omega))).more (fun b hb => ⟨by have := hb.1; omega, by have := hb.2; have := HSZ.out; have := hC.size; omega⟩)) (by omega) (by show (0 : Nat) ≤ _; omega) ⟨rfl, fun h0 => absurd h0 (by omega)⟩ (by omega) rfl (by omega) (by omega) (fun h0 => absurd h0 (by omega)) (fun i x hi => by simp at hi)
        · go_simp
          have hm := World.alloc_heap_new wc.drew (.cells #[.bool false, .slice none 0 0, .int .i64 0] 31)
          have hba : But (fun _ => False) wc (wc.drew.alloc (.cells #[.bool false, .slice none 0 0, .int .i64 0] 31)) := ((But.refl (fun _ => False) wc).drew).alloc _
          refine hK.out _ _ (HS.out _ hba) (fun hHeld2 => ?_)
          clear hK K hHeld
          try simp only [Act.put, List.setIfInBounds_toArray, List.set_cons_zero, List.set_cons_succ]
          refine wpAnyH_ready (rs := [11]) (by kernel_rfl) (by simp) (AllReadyH.cons (o := ⟨_, _, _, _, _, _⟩) rfl (fun K hK => ?_) AllReadyH.nil)
          go_simp
          refine (HDP.out _).mono ?_
          rintro e' w3 ⟨AA, nn, cc, rfl, hres, hbl⟩
          (try dsimp only)
          have hb3 : But (fun _ => False) wc w3 := hba.trans (But.of hbl)
          have hX := (hbl.block wc.heap.size (by simp)).trans hm
          have hsza : (wc.drew.alloc (.cells #[.bool false, .slice none 0 0, .int .i64 0] 31)).heap.size = wc.heap.size + 1 := by simp
          refine hK.out _ _ (HS.out _ hb3) (fun hHeld3 => ?_)
          clear hK K hHeld2
          try simp only [Act.put, List.setIfInBounds_toArray, List.set_cons_zero, List.set_cons_succ]
          refine wpAnyH_take (i := 12) (oi := ⟨_, _, _, _, _, _⟩) (v := ?_) rfl (by kernel_rfl) (by kernel_rfl) (by kernel_rfl) (fun _ _ _ h => h) (Or.inl ⟨by rfl, ?_⟩) (by assumption) ?_
          rotate_left
          · intro w hSw
            (try dsimp only at hSw)
            go_split_ands
            go_simp
            try with_reducible rfl
          try simp only [Act.put, List.setIfInBounds_toArray, List.set_cons_zero, List.set_cons_succ]
          refine wpAnyH_take (i := 13) (oi := ⟨_, _, _, _, _, _⟩) (v := ?_) rfl (by kernel_rfl) (by kernel_rfl) (by kernel_rfl) (fun _ _ _ h => h) (Or.inl ⟨by rfl, ?_⟩) (by assumption) ?_
          rotate_left
          · intro w hSw
            (try dsimp only at hSw)
            go_split_ands
            go_simp
            try with_reducible rfl
          try simp only [Act.put, List.setIfInBounds_toArray, List.set_cons_zero, List.set_cons_succ]
          refine wpAnyH_take (i := 14) (oi := ⟨_, _, _, _, _, _⟩) (v := ?_) rfl (by kernel_rfl) (by kernel_rfl) (by kernel_rfl) (fun _ _ _ h => h) (Or.inl ⟨by rfl, ?_⟩) (by assumption) ?_
          rotate_left
          · intro w hSw
            (try dsimp only at hSw)
            go_split_ands
            go_simp
            try with_reducible rfl
          try simp only [Act.put, List.setIfInBounds_toArray, List.set_cons_zero, List.set_cons_succ]
          have z0 := cell_at3 (i := 0) hX rfl
          have z1 := cell_at3 (i := 1) hX rfl
          have z2 := cell_at3 (i := 2) hX rfl
          have g0 : w3.frozen? ⟨wc.heap.size, 0, none⟩ = false := by simp [World.frozen?, hX]
          have g1' : w3.frozen? ⟨wc.heap.size, 1, none⟩ = false := by simp [World.frozen?, hX]
          have g2' : w3.frozen? ⟨wc.heap.size, 2, none⟩ = false := by simp [World.frozen?, hX]
          have hNl : NB < wc.heap.size := (Array.getElem?_eq_some_iff.1 HN7.out).1
          have hsl : sb < wc.heap.size := HE7.out.lt
          refine wpAnyH_ready (rs := [16]) (by kernel_rfl) (by simp) (AllReadyH.cons (o := ⟨_, _, _, _, _, _⟩) rfl (fun K hK => ?_) AllReadyH.nil)
          go_simp
          have hD : But (fun k => k = wc.heap.size) w3 (((w3.setCell ⟨wc.heap.size, 0, none⟩ (.bool ng)).setCell ⟨wc.heap.size, 1, none⟩ (.slice AA nn cc)).setCell ⟨wc.heap.size, 2, none⟩ (.int .i64 ex)) :=
            But.setCell (C := fun k => k = wc.heap.size) (But.setCell (C := fun k => k = wc.heap.size) (But.setCell (C := fun k => k = wc.heap.size) (But.refl _ _) (p := ⟨wc.heap.size, 0, none⟩) (.inl rfl) _) (p := ⟨wc.heap.size, 1, none⟩) (.inl rfl) _) (p := ⟨wc.heap.size, 2, none⟩) (.inl rfl) _
          have hb5 : But (fun _ => False) wc (((w3.setCell ⟨wc.heap.size, 0, none⟩ (.bool ng)).setCell ⟨wc.heap.size, 1, none⟩ (.slice AA nn cc)).setCell ⟨wc.heap.size, 2, none⟩ (.int .i64 ex)) := ⟨hD.os.trans hb3.os, hD.tape.trans hb3.tape, hD.output.trans hb3.output, Nat.le_trans hb3.size hD.size, fun k hk hc => (hD.block k (Nat.lt_of_lt_of_le hk hb3.size) (by omega)).trans (hb3.block k hk hc)⟩
          have hx0 : (((w3.setCell ⟨wc.heap.size, 0, none⟩ (.bool ng)).setCell ⟨wc.heap.size, 1, none⟩ (.slice AA nn cc)).setCell ⟨wc.heap.size, 2, none⟩ (.int .i64 ex)).heap[wc.heap.size]? = some (.cells #[.bool ng, .slice AA nn cc, .int .i64 ex] 31) := by
            have := set_heap (i := 2) (u := .int .i64 ex) (set_heap (i := 1) (u := .slice AA nn cc) (set_heap (i := 0) (u := .bool ng) hX))
            simpa using this
          have hrd := hres.rd.keep (w' := (((w3.setCell ⟨wc.heap.size, 0, none⟩ (.bool ng)).setCell ⟨wc.heap.size, 1, none⟩ (.slice AA nn cc)).setCell ⟨wc.heap.size, 2, none⟩ (.int .i64 ex))) (fun p hp => hD.cell hp.2 (by have h9 := hp.1; simp at h9; omega))
          have hszd := hD.size
          refine hK.out _ _ (HS.out _ hb5) (fun hHeld4 => ?_)
          clear hK K hHeld3 z0 z1 z2 g0 g1' g2'
          try simp only [Act.put, List.setIfInBounds_toArray, List.set_cons_zero, List.set_cons_succ]
          refine wpAnyH_take (i := 17) (oi := ⟨_, _, _, _, _, _⟩) (v := ?_) rfl (by kernel_rfl) (by kernel_rfl) (by kernel_rfl) (fun _ _ _ h => h) (Or.inl ⟨by rfl, ?_⟩) (by assumption) ?_
          rotate_left
          · intro w hSw
            (try dsimp only at hSw)
            go_split_ands
            go_simp
            try with_reducible rfl
          try simp only [Act.put, List.setIfInBounds_toArray, List.set_cons_zero, List.set_cons_succ]
          refine wpAnyH_done (by kernel_rfl) ?_ _
          clear hX hD
          generalize (((w3.setCell ⟨wc.heap.size, 0, none⟩ (.bool ng)).setCell ⟨wc.heap.size, 1, none⟩ (.slice AA nn cc)).setCell ⟨wc.heap.size, 2, none⟩ (.int .i64 ex)) = w5 at *
          obtain ⟨b4, hb4e⟩ : ∃ b, wc.heap.size = b := ⟨_, rfl⟩
          rw [hb4e] at hx0
          have hrd := hrd.more (S' := fun b => b4 < b ∧ b < w5.heap.size) (fun b hb => ⟨by have h9 := hb.1; simp at h9; omega, by have h9 := hb.2; omega⟩)
          have HX := Lib.hid hx0
          have HE5 := Lib.hid (HE7.out.stay hb5 (fun _ _ h => h) (fun h => h))
          have HB5 := Lib.hid (HB7.out.trans (hb5.no (C := fun k => k = sb)))
          have HN5 := Lib.hid ((hb5.block NB hNl (fun h => h)).trans HN7.out)
          have HNE := Lib.hid (show NB < b4 by omega)
          have HRD := Lib.hid (show Rd w5 (fun b => NB < b ∧ b < w5.heap.size) AA nn zs from hrd.more (fun b hb => by have := hb.1; have := hb.2; first | (simp at *; omega) | omega))
          have HLEN := Lib.hid (show okB ng zs ex = true → nn ≤ 256 from fun h => by have := (okB_true hres.l32 h).2.1; have := hres.len; omega)
          clear hx0 hb5 hNl hrd hres hbl hb3 hm hba hsza hszd hsl
          try rw [hb4e]
          clear hb4e
          cases hfe : decide (fe = 0)
          · have hfe1 : ¬ fe = 0 := of_decide_eq_false hfe
            have hfe2 : ((fe : Int) == 0) = false := by rw [beq_eq_false_iff_ne]; omega
            have hR := HR2.out
            rw [if_neg hfe1] at hR
            clear hfe hfe1 HR2
            go_wp2_with fail
            rw [← hR]
            exact ⟨rfl, rfl, HB5.out⟩
          · have hfe1 : fe = 0 := of_decide_eq_true hfe
            have hR := HR2.out
            rw [if_pos hfe1] at hR
            subst hfe1
            clear hfe HR2
            go_wp2_with fail
            refine (apart_c HE5.out).mono ?_
            intro e w6 hp
            cases hrn : rApart L q7 with
            | bad q2 y =>
              rw [hrn] at hp hR
              obtain ⟨rfl, hb⟩ := hp
              go_wp2_with fail
              rw [← (show RR.bad q2 y = R from hR)]
              exact ⟨rfl, rfl, HB5.out.trans hb.no⟩
            | ok u q2 =>
              rw [hrn] at hp hR
              obtain ⟨⟨v, rfl, rfl⟩, hE6, hb⟩ := hp
              have HE6 := Lib.hid hE6
              have HB6 := Lib.hid (HB5.out.trans (hb.no (C := fun k => k = sb)))
              have hx6 := (hb.block b4 (Array.getElem?_eq_some_iff.1 HX.out).1 (fun h => h)).trans HX.out
              have hn6 := (hb.block NB (Array.getElem?_eq_some_iff.1 HN5.out).1 (fun h => h)).trans HN5.out
              rw [← HNBX.out] at hn6
              have hrd6 := HRD.out.keep (w' := w6) (fun p hp => hb.cell hp.2 (fun h => h))
              have hsz6 := hb.size
              have x0 := cell_at3 (i := 0) hx6 rfl
              have x1 := cell_at3 (i := 1) hx6 rfl
              have x2 := cell_at3 (i := 2) hx6 rfl
              obtain ⟨y0, y1, y2, y3, y4, y5, y6⟩ := box7_of hn6
              have f0 : w6.frozen? ⟨NB, 0, none⟩ = false := by simp [World.frozen?, hn6]
              have f1 : w6.frozen? ⟨NB, 1, none⟩ = false := by simp [World.frozen?, hn6]
              have f2 : w6.frozen? ⟨NB, 2, none⟩ = false := by simp [World.frozen?, hn6]
              have f3 : w6.frozen? ⟨NB, 3, none⟩ = false := by simp [World.frozen?, hn6]
              have f4 : w6.frozen? ⟨NB, 4, none⟩ = false := by simp [World.frozen?, hn6]
              have f5 : w6.frozen? ⟨NB, 5, none⟩ = false := by simp [World.frozen?, hn6]
              have f6 : w6.frozen? ⟨NB, 6, none⟩ = false := by simp [World.frozen?, hn6]
              have hb4 : ¬ b4 = NB := by have := HNE.out; omega
              have HR3 := Lib.hid (show RR.ok (numV (octs T)) q2 = R from hR)
              have HRD6 := Lib.hid hrd6
              have HSZ := Lib.hid hsz6
              clear hE6 hb hR hrn hx6 hn6 hrd6 hsz6 HX HN5 HRD
              go_wp2_with fail
              have hC : But (fun k => k = NB) w6 (((((((w6.setCell ⟨NB, 0, none⟩ (.int .i64 3)).setCell ⟨NB, 1, none⟩ (.bool ng)).setCell ⟨NB, 2, none⟩ (.slice AA nn cc)).setCell ⟨NB, 3, none⟩ (.int .i64 ex)).setCell ⟨NB, 4, none⟩ (.string ⟨#[]⟩)).setCell ⟨NB, 5, none⟩ (.slice none 0 0)).setCell ⟨NB, 6, none⟩ (.slice none 0 0)) :=
                But.setCell (C := fun k => k = NB) (But.setCell (C := fun k => k = NB) (But.setCell (C := fun k => k = NB) (But.setCell (C := fun k => k = NB) (But.setCell (C := fun k => k = NB) (But.setCell (C := fun k => k = NB) (But.setCell (C := fun k => k = NB) (But.refl _ _) (p := ⟨NB, 0, none⟩) (.inl rfl) _) (p := ⟨NB, 1, none⟩) (.inl rfl) _) (p := ⟨NB, 2, none⟩) (.inl rfl) _) (p := ⟨NB, 3, none⟩) (.inl rfl) _) (p := ⟨NB, 4, none⟩) (.inl rfl) _) (p := ⟨NB, 5, none⟩) (.inl rfl) _) (p := ⟨NB, 6, none⟩) (.inl rfl) _
              refine bodyPost_ret (v := .agg #[.int .i64 3, .bool ng, .slice AA nn cc, .int .i64 ex, .string ⟨#[]⟩, .slice none 0 0, .slice none 0 0]) (by simp [results, Tryz.results42, go_sem, y0, y1, y2, y3, y4, y5, y6]) rfl ?_
              rw [← HR3.out, HNV.out]
              have hE7 := HE6.out.stay hC (fun k hk h => by have := HE6.out.base; have := HNB.out; have := HLT.out; omega) (fun h => by have := HNB.out; have := HLT.out; omega)
              have hB7 : But (fun k => k = sb) w _ := ⟨hC.os.trans HB6.out.os, hC.tape.trans HB6.out.tape, hC.output.trans HB6.out.output, Nat.le_trans HB6.out.size hC.size, fun k hk hc => (hC.block k (Nat.lt_of_lt_of_le hk HB6.out.size) (fun h => by have := HNB.out; omega)).trans (HB6.out.block k hk hc)⟩
              refine ⟨⟨_, rfl, _, rfl, ?_⟩, hE7, hB7⟩
              have hnn := HLEN.out (by first | exact HOK.out rfl | exact HOK.out trivial)
              refine .mk (cs := fun _ => []) ((HRD6.out.keep (fun p hp => hC.cell (by have := hp.2; have := HSZ.out; omega) (fun h => by have := hp.1; omega))).more (fun b hb => ⟨by have := hb.1; omega, by have := hb.2; have := HSZ.out; have := hC.size; omega⟩)) (by omega) (by show (0 : Nat) ≤ _; omega) ⟨rfl, fun h0 => absurd h0 (by omega)⟩ (by omega) rfl (by omega) (by omega) (fun h0 => absurd h0 (by omega)) (fun i x hi => by simp at hi)
end Go.Proofs.YtpjllcengnolkaaGreatDoor
