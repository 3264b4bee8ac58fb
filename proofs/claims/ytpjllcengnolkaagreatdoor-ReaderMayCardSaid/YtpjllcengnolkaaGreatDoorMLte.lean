/-
  Contract of the reference's Check.
  Contracts of the scan's character and text.
  Contract of the scan's text.
-/
import Derived.Test.YtpjllcengnolkaaGreatDoorMUfirst
import Derived.Test.YtpjllcengnolkaaGreatDoorMLfr
import Derived.Test.YtpjllcengnolkaaGreatDoorMDsgn
import Derived.Test.YtpjllcengnolkaaGreatDoorMVob
import Derived.Test.YtpjllcengnolkaaGreatDoorMLsc
import Derived.Test.YtpjllcengnolkaaGreatDoorMDfm
import Derived.Test.YtpjllcengnolkaaGreatDoorMRalive
import Derived.Test.YtpjllcengnolkaaGreatDoorMRtail
import Derived.Test.YtpjllcengnolkaaGreatDoorMUtextb
import Derived.Test.YtpjllcengnolkaaGreatDoorMDnumd
import Derived.Deep.RegionHeld3
import Derived.Deep.QuietTactic
import Derived.BigQuiet
import Derived.Deep.Cut
import Derived.Deep.CutRange
import Derived.Laws.EntriesVeiled
import Derived.Test.YtpjllcengnolkaaGreatDoorMNlimb
set_option linter.unusedVariables false
set_option linter.unusedSimpArgs false
namespace Go.Proofs.YtpjllcengnolkaaGreatDoor
open Go.RowKit Go.Lib

/-- So far: what a text falls into up to a place. -/
structure AtP (L : List UInt8) (p : Nat) (pre : List (List UInt8 × Int)) : Prop where
  cut : pcs L = pre ++ pcs (L.drop p)
  at_ : p = (flat pre).length
  le : p ≤ L.length
theorem AtP.zero (L : List UInt8) : AtP L 0 [] := ⟨rfl, rfl, Nat.zero_le _⟩
theorem drop_ne {L : List UInt8} {p : Nat} (h : p < L.length) : L.drop p ≠ [] := by
  intro e
  have := congrArg List.length e
  rw [List.length_drop, List.length_nil] at this
  omega
theorem AtP.step {L : List UInt8} {p : Nat} {pre : List (List UInt8 × Int)} (h : AtP L p pre) (hp : p < L.length) : AtP L (p + wid (L.drop p)) (pre ++ [((L.drop p).take (wid (L.drop p)), partOf (L.drop p))]) ∧ wid (L.drop p) ≤ L.length - p := by
  have hne := drop_ne hp
  have hw := wid_le hne
  rw [List.length_drop] at hw
  refine ⟨⟨?_, ?_, by omega⟩, hw⟩
  · rw [h.cut, pcs_cons hne, List.drop_drop, List.append_assoc]; rfl
  · unfold flat
    rw [List.flatMap_append, List.length_append]
    show p + _ = (flat pre).length + _
    rw [← h.at_]
    simp only [List.flatMap_cons, List.flatMap_nil, List.append_nil, List.length_take, List.length_drop]
    omega
theorem AtP.end_ {L : List UInt8} {pre : List (List UInt8 × Int)} (h : AtP L L.length pre) : pcs L = pre := by
  have := h.cut
  rw [List.drop_length, pcs_nil, List.append_nil] at this
  exact this
theorem AtP.bad {L : List UInt8} {p : Nat} {pre : List (List UInt8 × Int)} (h : AtP L p pre) (hg : ∀ q ∈ pre, q.2 ≠ -1) (hp : p < L.length) (hb : partOf (L.drop p) = -1) : badAt L = p ∧ errT L = 61 := by
  have hc := h.cut
  rw [pcs_cons (drop_ne hp)] at hc
  constructor
  · unfold badAt
    rw [hc, List.takeWhile_append_of_pos (fun q hq => by simpa using hg q hq), List.takeWhile_cons_of_neg (by simp [hb]), List.append_nil]
    exact h.at_.symm
  · unfold errT
    rw [if_neg]
    intro ht
    rw [isT_iff] at ht
    exact ht ((L.drop p).take (wid (L.drop p)), partOf (L.drop p)) (by rw [hc]; simp) hb
theorem AtP.all {L : List UInt8} {pre : List (List UInt8 × Int)} (h : AtP L L.length pre) (hg : ∀ q ∈ pre, q.2 ≠ -1) : badAt L = L.length ∧ errT L = 0 := by
  have ht : isT L = true := by rw [isT_iff, h.end_]; exact hg
  exact ⟨badAt_text ht, by unfold errT; rw [if_pos ht]⟩
theorem fstP_bad {R : List UInt8} (hb : partOf R = -1) : fstP R = (0, 0) := by unfold fstP; rw [if_pos (.inr hb)]
theorem fstP_good {R : List UInt8} (hne : R ≠ []) (hb : partOf R ≠ -1) : fstP R = (partOf R, wid R) := by unfold fstP; rw [if_neg (fun h => h.elim hne hb)]
theorem mk8_rest (L : List UInt8) (p : Nat) : (mk8 L).extract p L.length = mk8 (L.drop p) := by rw [mk8_mid, List.take_length]

set_option maxRecDepth 100000 in
set_option maxHeartbeats 1000000 in
theorem URCheck_c (L : List UInt8) (w : World) (hs : L.length ≤ 140737488355328) : Calls Tryz.prog 68 #[.string (mk8 L)] w fun e w' => e = .returned (.tuple #[.int .i64 (badAt L : Int), .int .i64 (errT L : Int)]) ∧ Below w.heap.size w w' := by
  have hsz : (mk8 L).size = L.length := mk8_size L
  have hex := mk8_rest L
  have hF := fun p V => First_c (L.drop p) V (by rw [List.length_drop]; omega)
  generalize mk8 L = S at *
  have HEX := Lib.hid hex
  have HF := Lib.hid hF
  clear hex hF
  obtain ⟨B, hB⟩ : ∃ B, B = badAt L := ⟨_, rfl⟩
  obtain ⟨E, hE⟩ : ∃ E, E = errT L := ⟨_, rfl⟩
  rw [← hB, ← hE]
  have HB := Lib.hid hB
  have HE := Lib.hid hE
  clear hB hE
  go_enter Tryz.func68, Tryz.ntmps68
  go_wp2
  go_loopw [4] (fun i wr => ∃ (p : Nat) (pre : List (List UInt8 × Int)), i = .int .i64 (p : Int) ∧ p ≤ L.length ∧ Hid (AtP L p pre) ∧ Hid (∀ q ∈ pre, q.2 ≠ -1) ∧ Below w.heap.size w wr) (fun i _ => L.length - (RowKit.intOf i).toNat)
  case atStart => exact ⟨0, [], rfl, Nat.zero_le _, AtP.zero L, (fun q h => by cases h), Below.refl _ _⟩
  case round =>
    obtain ⟨p, pre, rfl, hp, hat, hgd, hbel⟩ := hrel
    have HBEL := Lib.hid hbel
    clear hbel
    by_cases hlt : p < L.length
    · have hexp := HEX.out p
      by_cases hb : partOf (L.drop p) = -1
      · have hbb := hat.out.bad hgd.out hlt hb
        have h1 := HF.out p wr
        rw [fstP_bad hb] at h1
        have HFP := Lib.hid h1
        obtain rfl : B = p := HB.out.trans hbb.1
        obtain rfl : E = 61 := HE.out.trans hbb.2
        clear hb hbb h1
        go_wp2_with fail
        try rw [hexp]
        refine HFP.out.mono ?_
        rintro e w2 ⟨rfl, hb2⟩
        go_wp2
        go_ret2
        exact ⟨rfl, HBEL.out.trans (hb2.mono HBEL.out.size)⟩
      · obtain ⟨hst, hwl⟩ := hat.out.step hlt
        have h1 := HF.out p wr
        rw [fstP_good (drop_ne hlt) hb] at h1
        have hwg := wid_ge (L.drop p)
        have hg2 : ∀ q ∈ pre ++ [((L.drop p).take (wid (L.drop p)), partOf (L.drop p))], q.2 ≠ -1 := fun q hq => by
          rcases List.mem_append.1 hq with h | h
          · exact hgd.out q h
          · rw [List.mem_singleton] at h; subst h; exact hb
        have HFP := Lib.hid h1
        have HST := Lib.hid hst
        have HG2 := Lib.hid hg2
        clear hb hst h1 hg2
        generalize partOf (L.drop p) = c at *
        generalize wid (L.drop p) = d at *
        have hd0 : ((d : Int) == 0) = false := by rw [beq_eq_false_iff_ne]; omega
        go_wp2_with fail
        try rw [hexp]
        refine HFP.out.mono ?_
        rintro e w2 ⟨rfl, hb2⟩
        go_wp2
        go_roundw
        case rel => exact ⟨p + d, _, by go_num, by omega, HST.out, HG2.out, HBEL.out.trans (hb2.mono HBEL.out.size)⟩
        case measure => simp [RowKit.intOf]; omega
    · obtain rfl : p = L.length := by omega
      have hbb := hat.out.all hgd.out
      obtain rfl : B = L.length := HB.out.trans hbb.1
      obtain rfl : E = 0 := HE.out.trans hbb.2
      clear hbb hlt
      go_wp2
      go_ret2
      exact ⟨rfl, HBEL.out⟩
end Go.Proofs.YtpjllcengnolkaaGreatDoor

namespace Go.Proofs.YtpjllcengnolkaaGreatDoor
open Go.RowKit Go.Lib
variable {B : Nat} {L : List UInt8} {A : Option Addr} {c sb : Nat}

theorem rChar_up {p q : Nat} {x : Int} (h : rChar L p = .ok x q) : p < q := by
  unfold rChar rAt rPeek at h
  cases hx : L[p]? with
  | none => rw [hx] at h; exact absurd h (by simp [RR.bind])
  | some y =>
    have hp := (List.getElem?_eq_some_iff.1 hx).1
    rw [hx] at h
    simp only [RR.bind] at h
    by_cases h1 : (y == 92) = true
    · rw [if_pos h1] at h
      unfold rEscape rAt rPeek at h
      cases hx2 : L[p + 1]? with
      | none => rw [hx2] at h; exact absurd h (by simp [RR.bind])
      | some z =>
        have hp2 := (List.getElem?_eq_some_iff.1 hx2).1
        rw [hx2] at h
        simp only [RR.bind] at h
        by_cases h2 : (z == 117) = true
        · rw [if_pos h2] at h
          have := (Closed.coded (m := p)).up L (p + 1 + 1) x q (by omega) (by omega) h
          omega
        · rw [if_neg h2] at h
          cases he : escOf z with
          | none => rw [he] at h; exact absurd h (by simp)
          | some v =>
            rw [he] at h
            injection h with h3 h4
            omega
    · rw [if_neg h1] at h
      by_cases h2 : y < 32
      · rw [if_pos h2] at h; exact absurd h (by simp [rFail])
      · rw [if_neg h2] at h
        by_cases h3 : fullL (L.drop p) = true
        · rw [if_pos h3] at h
          by_cases h4 : partOf (L.drop p) = -1
          · rw [if_pos h4] at h; exact absurd h (by simp)
          · rw [if_neg h4] at h
            injection h with h5 h6
            have := wid_ge (L.drop p)
            omega
        · rw [if_neg h3] at h; exact absurd h (by simp)
set_option maxRecDepth 100000 in
set_option maxHeartbeats 1000000 in
theorem character_c {w : World} {p o : Nat} (E : Env B L A c sb w p o) (hcap : L.length ≤ c) :
    Calls Tryz.prog 59 #[ptr sb] w (Po B L A c sb (fun k => k = sb) o rI w (rChar L p)) := by
  have hpn : ∀ (T : Nat) (v : Value) (w : World), (Instr.panic (.iface T v)).run Tryz.prog w = .halt (.panic (.iface T v)) w := fun _ _ _ => rfl
  obtain ⟨R, hR⟩ : ∃ R, rChar L p = R := ⟨_, rfl⟩
  rw [hR]
  unfold rChar rAt at hR
  have hfit := E.fits
  have hB := E.base
  have HE0 := Lib.hid E
  clear E
  go_enter Tryz.func59, Tryz.ntmps59
  go_wp2_with fail
  refine (peek_c HE0.out).mono ?_
  intro e w1 hp
  cases hr : rPeek L p with
  | bad q x =>
    rw [hr] at hp hR
    obtain ⟨rfl, hb⟩ := hp
    go_wp2_with fail
    rw [← (show RR.bad q x = R from hR)]
    exact ⟨rfl, rfl, hb.no⟩
  | ok x q =>
    obtain ⟨rfl, hx, hq⟩ := peek_ok hr
    rw [hr] at hp hR
    obtain ⟨⟨v, rfl, rfl⟩, hE, hb⟩ := hp
    obtain ⟨c0, c1, c2⟩ := hE.cells
    have HE1 := Lib.hid hE
    have HB1 := Lib.hid (hb.no (C := fun k => k = sb))
    clear hE hb HE0 hr
    simp only [RR.bind] at hR
    have hi : ((x.toNat : Int) == 92) = (x == 92) := u8I_eq x 92
    cases hg : (x == 92)
    · rw [hg] at hi
      simp only [hg, Bool.false_eq_true, if_false] at hR
      clear hg
      by_cases hlt : x < 32
      · have hlt2 : (x.toNat : Int) < 32 := by have : x.toNat < 32 := UInt8.lt_iff_toNat_lt.1 hlt; omega
        rw [if_pos hlt] at hR
        clear hlt
        go_wp2_with fail
        rw [← (show RR.bad p 33 = R from hR)]
        exact ⟨rfl, rfl, HB1.out⟩
      · have hlt2 : ¬ (x.toNat : Int) < 32 := by intro h; exact hlt (UInt8.lt_iff_toNat_lt.2 (show x.toNat < 32 by omega))
        rw [if_neg hlt] at hR
        clear hlt
        obtain ⟨g, off, hA, hgB, cx⟩ := HE1.out.oct p x hx
        subst hA
        obtain ⟨t, ht⟩ : ∃ t, L.drop p = x :: t := ⟨L.drop (p + 1), by
          obtain ⟨h1, h2⟩ := List.getElem?_eq_some_iff.1 hx
          rw [List.drop_eq_getElem_cons h1, h2]⟩
        have htl : L.length - p = t.length + 1 := by
          have := congrArg List.length ht
          rw [List.length_drop] at this; simpa using this
        have hcells : ∀ W, But (fun _ => False) w1 W → ∀ j y, (x :: t)[j]? = some y → W.cell? ⟨g, off + p + j, none⟩ = some (.int .u8 (y.toNat : Int)) := fun W hW j y hj => by
          rw [← ht, List.getElem?_drop] at hj
          obtain ⟨g', off', hA', -, hc'⟩ := HE1.out.oct (p + j) y hj
          rw [Option.some.injEq, Addr.mk.injEq] at hA'
          obtain ⟨rfl, rfl, -⟩ := hA'
          rw [show off + p + j = off + (p + j) by omega]
          exact hW.cell_some hc' (fun h => h)
        have HCL := Lib.hid hcells
        have hcp : ¬ c = p := by omega
        have hcp2 : ¬ p = c := by omega
        have hpl : (p : Int) ≤ (L.length : Int) := by omega
        have hp0 : (0 : Int) ≤ (p : Int) := by omega
        have hpc : (p : Int) ≤ (c : Int) := by omega
        have hlc : (L.length : Int) ≤ (c : Int) := by omega
        have HT := Lib.hid ht
        have HTL := Lib.hid htl
        clear hcells ht htl
        go_wp2_with fail
        go_quiet (fail)
        go_wp2_with fail
        have hBq : But (fun _ => False) w1 (w1.drewN nq) := (But.refl _ _).drewN _
        refine (FullRune_c x t g (off + p) (c - p) (L.length - p) (w1.drewN nq) (HE1.out.stay hBq (fun _ _ h => h) (fun h => h)).tabs HTL.out (by omega) (HCL.out _ hBq)).mono ?_
        rintro e w2 ⟨rfl, hb2⟩
        have hB2 : But (fun _ => False) w1 w2 := hBq.trans (But.of hb2)
        have hE2 := HE1.out.stay hB2 (fun _ _ h => h) (fun h => h)
        clear c0 c1 c2 hb2 hBq
        obtain ⟨c0, c1, c2⟩ := hE2.cells
        rw [HT.out] at hR
        obtain ⟨F, hF⟩ : ∃ F, fullL (x :: t) = F := ⟨_, rfl⟩
        rw [hF] at hR ⊢
        have HE2 := Lib.hid hE2
        have HB2 := Lib.hid (HB1.out.trans (hB2.no (C := fun k => k = sb)))
        have HBN := Lib.hid hB2
        clear hE2 hB2 HB1 hF
        cases F
        · go_wp2_with fail
          rw [← (show RR.bad L.length 8 = R from hR)]
          exact ⟨rfl, rfl, HB2.out⟩
        · simp only [if_true] at hR
          obtain ⟨sa, hsa⟩ : ∃ sa : ByteArray, sa = ⟨(x :: t).toArray⟩ := ⟨_, rfl⟩
          have hsz : sa.size = L.length - p := by rw [hsa, HTL.out]; rfl
          have hds := DecodeRune_c sa g (off + p) (c - p) w2 HE2.out.tabs (fun j hj => by
            have hj2 : j < (x :: t).length := by rw [hsz, HTL.out] at hj; exact hj
            have h1 := HCL.out w2 HBN.out j _ (List.getElem?_eq_getElem hj2)
            rw [h1, hsa]
            have h2 : (⟨(x :: t).toArray⟩ : ByteArray).get! j = (x :: t)[j] := by
              show (x :: t).toArray[j]! = _
              rw [getElem!_pos (x :: t).toArray j (by simpa using hj2)]
              simp
            rw [h2])
          rw [hsz, decodeGo_L sa (by rw [hsa]; simp), show sa.data.toList = x :: t by rw [hsa]] at hds
          obtain ⟨D1, hD1⟩ : ∃ D, (decodeL (x :: t)).1 = D := ⟨_, rfl⟩
          obtain ⟨D2, hD2⟩ : ∃ D, (decodeL (x :: t)).2 = D := ⟨_, rfl⟩
          have hwl := wid_le (l := x :: t) (by simp)
          unfold wid at hwl hR
          unfold partOf at hR
          rw [hD1, hD2] at hds hR
          rw [hD2] at hwl
          have hwl2 : D2 ≤ L.length - p := by rw [HTL.out]; exact hwl
          have hDS := Lib.hid hds
          have f1 := HE2.out.frozen 1 (by omega)
          have hpw : IntKind.i64.wrap ((p : Int) + (D2 : Int)) = (p : Int) + (D2 : Int) := IntWalk.i64_in _ (by omega)
          clear hds hD1 hD2 hsa hsz HCL HBN HE1 hwl
          have HWL := Lib.hid hwl2
          clear hwl2
          go_wp2_with fail
          refine hDS.out.mono ?_
          rintro e w3 ⟨rfl, hb3⟩
          have hB3 : But (fun _ => False) w2 w3 := But.of hb3
          have hE3 := HE2.out.stay hB3 (fun _ _ h => h) (fun h => h)
          clear c0 c1 c2 f1 hb3 hDS
          obtain ⟨c0, c1, c2⟩ := hE3.cells
          have f1 := hE3.frozen 1 (by omega)
          have HE3 := Lib.hid hE3
          have HB3 := Lib.hid (HB2.out.trans (hB3.no (C := fun k => k = sb)))
          clear hE3 hB3 HE2 HB2
          by_cases hd1 : D1 = 65533
          · by_cases hd2 : D2 = 1
            · subst hd1 hd2
              have hR2 : RR.bad p 61 = R := by rw [← hR]; simp
              clear hR
              go_wp2_with fail
              rw [← hR2]
              exact ⟨rfl, rfl, HB3.out⟩
            · have e2 : ((D2 : Int) == 1) = false := by rw [beq_eq_false_iff_ne]; omega
              rw [show (if D1 = 65533 ∧ D2 = 1 then (-1 : Int) else (D1 : Int)) = (D1 : Int) from if_neg (fun h => hd2 h.2), if_neg (by omega)] at hR
              subst hd1
              clear hd2
              have HR := Lib.hid hR
              clear hR
              go_wp2_with fail
              go_ret
              rw [← HR.out]
              exact ⟨⟨_, rfl, rfl⟩, HE3.out.move (q := p + D2) (by have := HWL.out; omega), HB3.out.inc _⟩
          · have e1 : ((D1 : Int) == 65533) = false := by rw [beq_eq_false_iff_ne]; omega
            rw [show (if D1 = 65533 ∧ D2 = 1 then (-1 : Int) else (D1 : Int)) = (D1 : Int) from if_neg (fun h => hd1 h.1), if_neg (by omega)] at hR
            clear hd1
            have HR := Lib.hid hR
            clear hR
            go_wp2_with fail
            go_ret
            rw [← HR.out]
            exact ⟨⟨_, rfl, rfl⟩, HE3.out.move (q := p + D2) (by have := HWL.out; omega), HB3.out.inc _⟩
    · rw [hg] at hi
      simp only [hg, if_true] at hR
      clear hg
      go_wp2_with fail
      refine (escape_c HE1.out hq).mono ?_
      intro e w2 hp
      cases hr : rEscape L p with
      | bad q2 y =>
        rw [hr] at hp hR
        obtain ⟨rfl, hb⟩ := hp
        go_wp2_with fail
        rw [← (show RR.bad q2 y = R from hR)]
        exact ⟨rfl, rfl, HB1.out.trans hb⟩
      | ok z q2 =>
        rw [hr] at hp hR
        obtain ⟨⟨v, rfl, rfl⟩, hE, hb⟩ := hp
        have HE3 := Lib.hid hE
        have HB3 := Lib.hid (HB1.out.trans hb)
        clear hE hb
        go_wp2_with fail
        go_ret
        rw [← (show RR.ok z q2 = R from hR)]
        exact ⟨⟨_, rfl, rfl⟩, HE3.out, HB3.out⟩
end Go.Proofs.YtpjllcengnolkaaGreatDoor

namespace Go.Proofs.YtpjllcengnolkaaGreatDoor
open Go.RowKit Go.Lib
variable {B : Nat} {L : List UInt8} {A : Option Addr} {c sb : Nat}

theorem enc_le4 (x : Int) : (encodeRune x).length ≤ 4 := by
  unfold encodeRune encodeRuneZ
  rw [List.length_map]
  repeat' split
  all_goals simp
theorem bldKeep {T e b0 b : Nat} {bs : List Value} {C : Nat → Prop} {w w' : World} (h : IsBuilderF T e b0 b bs w) (hb : But C w w') (hC : ∀ k, C k → k < b0) : IsBuilderF T e b0 b bs w' := by
  have key : ∀ p, BuilderAtF T e b0 b p bs w → BuilderAtF T e b0 b p bs w' := by
    rintro p ⟨hB, v, hv, ⟨h1, h2⟩, h3⟩
    have keep : ∀ k o, b0 ≤ k → w.heap[k]? = some o → w'.heap[k]? = some o := fun k o hk ho => by
      have hlt : k < w.heap.size := (Array.getElem?_eq_some_iff.1 ho).1
      rw [hb.block k hlt (fun hc => by have := hC k hc; omega)]; exact ho
    refine ⟨hB, v, keep _ _ hB hv, ⟨h1, ?_⟩, h3⟩
    rcases h2 with h2 | ⟨g, cap, cur, fz, e1, e2, e3, e4⟩
    · exact .inl h2
    · exact .inr ⟨g, cap, cur, fz, e1, e2, keep _ _ e2 e3, e4⟩
  rcases h with h | h
  · exact .inl (key _ h)
  · exact .inr (key _ h)
abbrev rT : ByteArray → World → Value → Prop := fun t _ v => v = .string t

set_option maxRecDepth 100000 in
set_option maxHeartbeats 1000000 in
theorem text_c {w : World} {p o : Nat} (E : Env B L A c sb w p o) (hcap : L.length ≤ c) (hpl : p < L.length) :
    Calls Tryz.prog 39 #[ptr sb] w (Po B L A c sb (fun k => k = sb) o rT w (rText L p)) := by
  have hpn : ∀ (T : Nat) (v : Value) (w : World), (Instr.panic (.iface T v)).run Tryz.prog w = .halt (.panic (.iface T v)) w := fun _ _ _ => rfl
  obtain ⟨R, hR⟩ : ∃ R, rText L p = R := ⟨_, rfl⟩
  rw [hR]
  unfold rText at hR
  obtain ⟨RC, hRC⟩ : ∃ RC, rChars fuelR [] L (p + 1) = RC := ⟨_, rfl⟩
  rw [hRC] at hR
  have hfit := E.fits
  have hlt := E.lt
  have hbase := E.base
  have hpw : IntKind.i64.wrap ((p : Int) + 1) = (p : Int) + 1 := IntWalk.i64_in _ (by omega)
  obtain ⟨c0, c1, c2⟩ := E.cells
  have f1 := E.frozen 1 (by omega)
  obtain ⟨ob, hob⟩ : ∃ ob, w.heap.size = ob := ⟨_, rfl⟩
  have hb0 := ((But.refl (fun k => k = sb) w).inc (.int .i64 ((p : Int) + 1))).alloc (.cells #[.pointer none, .slice none 0 0] 88)
  have hE0 := (E.inc hpl).stay ((But.refl (fun _ => False) _).alloc (.cells #[.pointer none, .slice none 0 0] 88)) (fun _ _ h => h) (fun h => h)
  have hnew := World.alloc_heap_new (w.setCell ⟨sb, 1, none⟩ (.int .i64 ((p : Int) + 1))) (.cells #[.pointer none, .slice none 0 0] 88)
  have hsz0 : (w.setCell ⟨sb, 1, none⟩ (.int .i64 ((p : Int) + 1))).heap.size = ob := by rw [← hob]; simp [World.setCell]
  have hsz1 : ob < ((w.setCell ⟨sb, 1, none⟩ (.int .i64 ((p : Int) + 1))).alloc (.cells #[.pointer none, .slice none 0 0] 88)).heap.size := by simp; omega
  rw [hsz0] at hnew
  have HR := Lib.hid hR
  have HRC := Lib.hid hRC
  have HOB := Lib.hid hob
  have HLT := Lib.hid hlt
  clear E hR hRC hlt
  go_enter Tryz.func39, Tryz.ntmps39
  go_wp2_with fail
  clear c0 c1 c2 f1
  try rw [hob]
  clear hob
  generalize ((w.setCell ⟨sb, 1, none⟩ (.int .i64 ((p : Int) + 1))).alloc (.cells #[.pointer none, .slice none 0 0] 88)) = w0 at *
  have hI0 : IsBuilderF 88 5 ob ob (byteCells []) w0 := .inl ⟨Nat.le_refl _, _, hnew, World.ownsRowF_nil _ _ _ _, by simp [Value.ownBlock]⟩
  go_loopw [17] (fun _ wr => ∃ (m q : Nat) (acc : List UInt8), Hid (rChars m acc L q = RC) ∧ Hid (70000 ≤ m + q) ∧ Hid (acc.length ≤ 4 * q) ∧ Hid (Env B L A c sb wr q o) ∧ Hid (But (fun k => k = sb) w wr) ∧ Hid (IsBuilderF 88 5 ob ob (byteCells acc) wr)) (fun _ wr => L.length - atOf sb wr)
  case atStart => exact ⟨fuelR, p + 1, [], HRC, by show 70000 ≤ _; unfold fuelR; omega, by show _ ≤ _; simp, hE0, hb0, hI0⟩
  case round =>
    obtain ⟨m, q, acc, hc, hf, hal, hE, hB, hI⟩ := hrel
    have hat := hE.out.at_of
    have hqh := hE.out.here
    obtain ⟨m', rfl⟩ : ∃ m', m = m' + 1 := ⟨m - 1, by have := hf.out; omega⟩
    have hc1 := hc.out
    unfold rChars rAt at hc1
    clear hc HRC hnew hsz1 hsz0 hb0 hE0 hI0
    go_wp2_with fail
    refine (peek_c hE.out).mono ?_
    intro e w1 hp
    cases hr : rPeek L q with
    | bad q2 x =>
      rw [hr] at hp hc1
      obtain ⟨rfl, hb⟩ := hp
      go_wp2_with fail
      have h1 : RR.bad q2 x = RC := hc1
      rw [← (show (RR.bad q2 x : RR ByteArray) = R by rw [← HR.out, ← h1]; rfl)]
      exact ⟨rfl, rfl, hB.out.trans hb.no⟩
    | ok x q2 =>
      obtain ⟨rfl, hx, hq⟩ := peek_ok hr
      rw [hr] at hp hc1
      obtain ⟨⟨v, rfl, rfl⟩, hE1, hb⟩ := hp
      obtain ⟨c0, c1, c2⟩ := hE1.cells
      have f1 := hE1.frozen 1 (by omega)
      have HE1 := Lib.hid hE1
      have HB1 := Lib.hid (hB.out.trans (hb.no (C := fun k => k = sb)))
      have HI1 := Lib.hid (bldKeep hI.out hb (fun k h => h.elim))
      clear hE1 hb hE hB hI hr
      simp only [RR.bind] at hc1
      have hi : ((x.toNat : Int) == 34) = (x == 34) := u8I_eq x 34
      have hqw : IntKind.i64.wrap ((q : Int) + 1) = (q : Int) + 1 := IntWalk.i64_in _ (by omega)
      cases hg : (x == 34)
      · rw [hg] at hi
        simp only [hg, Bool.false_eq_true, if_false] at hc1
        clear hg
        go_wp2_with fail
        refine (character_c HE1.out hcap).mono ?_
        intro e w2 hp
        cases hr : rChar L q with
        | bad q2 y =>
          rw [hr] at hp hc1
          obtain ⟨rfl, hb⟩ := hp
          go_wp2_with fail
          have h1 : RR.bad q2 y = RC := hc1
          rw [← (show (RR.bad q2 y : RR ByteArray) = R by rw [← HR.out, ← h1]; rfl)]
          exact ⟨rfl, rfl, HB1.out.trans hb⟩
        | ok z q2 =>
          have hup := rChar_up hr
          have hch := Inv.char L q z q2 hr
          rw [hr] at hp hc1
          obtain ⟨⟨v, rfl, rfl⟩, hE2, hb⟩ := hp
          have HE2 := Lib.hid hE2
          have HB2 := Lib.hid (HB1.out.trans hb)
          have HI2 := Lib.hid (bldKeep HI1.out hb (fun k h => by have := HLT.out; have := HOB.out; omega))
          have hq2 := hE2.here
          have HC1 := Lib.hid (show rChars m' (acc ++ encodeRune z) L q2 = RC from hc1)
          have hz : -2147483648 ≤ z ∧ z ≤ 2147483647 := by unfold isCh at hch; omega
          clear hE2 hb hr hc1 c0 c1 c2 f1 hch
          go_wp2_with fail
          have hsz2 : ob ≤ w2.heap.size := by have := HB2.out.size; have := HOB.out; omega
          refine (WriteRune_c ob ob (byteCells acc) z hz.1 hz.2 w2 HI2.out (by rw [byteCells_length]; have := hal.out; omega) hsz2).mono ?_
          rintro e w3 ⟨rfl, hbd, hbl, -⟩
          have hI3 : IsBuilderF 88 5 ob ob (byteCells (acc ++ encodeRune z)) w3 := by
            have h1 : byteCells (acc ++ encodeRune z) = byteCells acc ++ runeCells z := by rw [← byteCells_encodeRune]; unfold byteCells; rw [List.map_append]
            rw [h1]; exact .inr hbd
          have hb3 : But (fun k => k = sb) w w3 := ⟨hbl.os.trans HB2.out.os, hbl.tape.trans HB2.out.tape, hbl.output.trans HB2.out.output, Nat.le_trans HB2.out.size hbl.size, fun k hk hc => (hbl.block k (by have := HOB.out; omega)).trans (HB2.out.block k hk hc)⟩
          have hE3 : Env B L A c sb w3 q2 o := by
            have hbB : But (fun k => ob ≤ k) w2 w3 := ⟨hbl.os, hbl.tape, hbl.output, hbl.size, fun k hk hc => hbl.block k (by omega)⟩
            exact HE2.out.stay hbB (fun k hk h => by have := HOB.out; have := HLT.out; omega) (fun h => by have := HOB.out; have := HLT.out; omega)
          clear hbd hbl
          go_wp2_with fail
          go_roundw
          case rel => exact ⟨m', q2, acc ++ encodeRune z, HC1, by have := hf.out; show _ ≤ _; omega, by have := hal.out; have := enc_le4 z; show _ ≤ _; rw [List.length_append]; omega, hE3, hb3, hI3⟩
          case measure => rw [hE3.at_of, hat]; omega
      · rw [hg] at hi
        simp only [hg, if_true] at hc1
        clear hg
        have h1 : RR.ok acc (q + 1) = RC := hc1
        have hE2 := HE1.out.inc hq
        have hb2 := HB1.out.inc (.int .i64 ((q : Int) + 1))
        have hI2 := bldKeep HI1.out ((But.refl (fun k => k = sb) w1).inc (.int .i64 ((q : Int) + 1))) (fun k h => by have := HLT.out; have := HOB.out; omega)
        have HR2 := Lib.hid (show (if 16384 < acc.length then RR.bad p 5 else RR.ok (⟨acc.toArray⟩ : ByteArray) (q + 1)) = R by rw [← HR.out, ← h1]; rfl)
        clear hc1 h1 HR
        go_wp2_with fail
        clear c0 c1 c2 f1
        generalize (w1.setCell ⟨sb, 1, none⟩ (.int .i64 ((q : Int) + 1))) = w2 at *
        refine (Tryz.Builder_Len_f ob ob (byteCells acc) w2 hI2).mono ?_
        rintro e w3 ⟨rfl, hw3⟩
        rw [hw3]
        have hbl : (byteCells acc).length = acc.length := byteCells_length acc
        rw [hbl]
        by_cases hlen : 16384 < acc.length
        · have hl2 : (16384 : Int) < (acc.length : Int) := by omega
          have hR3 := HR2.out
          rw [if_pos hlen] at hR3
          clear hlen
          go_wp2_with fail
          rw [← hR3]
          exact ⟨rfl, rfl, hb2⟩
        · have hl2 : ¬ (16384 : Int) < (acc.length : Int) := by omega
          have hR3 := HR2.out
          rw [if_neg hlen] at hR3
          have HR3 := Lib.hid hR3
          have HB2 := Lib.hid hb2
          have HE2 := Lib.hid hE2
          have HI2 := Lib.hid hI2
          clear hlen hR3 HR2 hb2 hE2 hI2
          go_wp2_with fail
          refine (Tryz.Builder_String_any_f ob ob acc w2 HI2.out (by have := HB2.out.size; have := HOB.out; omega)).mono ?_
          rintro e w4 ⟨rfl, -, hbl4⟩
          have hb3 : But (fun k => k = sb) w w4 := ⟨hbl4.os.trans HB2.out.os, hbl4.tape.trans HB2.out.tape, hbl4.output.trans HB2.out.output, Nat.le_trans HB2.out.size hbl4.size, fun k hk hc => (hbl4.block k (by have := HOB.out; omega)).trans (HB2.out.block k hk hc)⟩
          have hE3 : Env B L A c sb w4 (q + 1) o := by
            have hbB : But (fun k => ob ≤ k) w2 w4 := ⟨hbl4.os, hbl4.tape, hbl4.output, hbl4.size, fun k hk hc => hbl4.block k (by omega)⟩
            exact HE2.out.stay hbB (fun k hk h => by have := HOB.out; have := HLT.out; omega) (fun h => by have := HOB.out; have := HLT.out; omega)
          clear hbl4
          go_wp2_with fail
          go_ret
          rw [← HR3.out]
          exact ⟨⟨_, rfl, rfl⟩, hE3, hb3⟩
end Go.Proofs.YtpjllcengnolkaaGreatDoor
