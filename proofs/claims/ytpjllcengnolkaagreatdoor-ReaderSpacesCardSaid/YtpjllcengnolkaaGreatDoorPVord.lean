/-
  What a decimal's text is, in octets, and contracts of dec's plain and withPower.
  Contract of dec.Print: a decimal's text, in octets, or the error.
  Contract of dec.Parse: what the reference's Parse tells.
  Contract of utf.parts: the iterator that it hands back hands out what a text falls into, each part with its place.
  Contract of value's isFit: whether number and keys are what the kind asks for, and what it does not use is zero.
  Contracts of what value's checkAlone looks for in texts: one that is none, one that is too long.
  Contract of value's checkAlone: the error of a value, but of its parts.
  Contract of value's Check: the error of a value, as errV tells of its tree.
  Signed numbers: a decimal as a whole number; a decimal is told by its number. Plain mathematics.
  How two trees stand to each other is one order: the other way round the other way, 0 just of the same, and goes on. Pure, no program.
-/
import Derived.Test.YtpjllcengnolkaaGreatDoorPDset
import Derived.Lib.ItoaNum
import Derived.Test.YtpjllcengnolkaaGreatDoorPNparse
import Derived.Test.YtpjllcengnolkaaGreatDoorPDop
import Derived.Test.YtpjllcengnolkaaGreatDoorPNapi
import Derived.PlainAid
import Derived.Test.YtpjllcengnolkaaGreatDoorPDa
import Derived.Test.YtpjllcengnolkaaGreatDoorPDnumv
import Derived.Test.YtpjllcengnolkaaGreatDoorPLsc
import Derived.Test.YtpjllcengnolkaaGreatDoorPVprt
import Derived.Deep.Cut
import Derived.Test.YtpjllcengnolkaaGreatDoorPDpar
import Derived.Sort.Walk0
set_option linter.unusedVariables false
set_option linter.unusedSimpArgs false
namespace Go.Proofs.YtpjllcengnolkaaGreatDoor
open Go.RowKit

theorem octs_append (a b : ByteArray) : octs (a ++ b) = octs a ++ octs b := by
  obtain ⟨a⟩ := a
  obtain ⟨b⟩ := b
  rw [ByteArray.mk_append_mk]
  unfold octs
  simp
theorem octs_inj {s t : ByteArray} (h : octs s = octs t) : s = t := by rw [← txt_octs s, ← txt_octs t, h]
end Go.Proofs.YtpjllcengnolkaaGreatDoor

namespace Go.Proofs.YtpjllcengnolkaaGreatDoor
open Go.RowKit

/-- A number's octets, the highest digit first. -/
def numO (v : Nat) : List Nat := if v = 0 then [48] else (chars (dOf v)).reverse
theorem isDec_numO {v : Nat} {s : ByteArray} (h : IsDec v s) : octs s = numO v := by
  unfold numO
  by_cases h0 : v = 0
  · rw [if_pos h0]
    rcases h with ⟨_, rfl⟩ | ⟨h1, _⟩
    · exact octs_txt (L8.one (by omega))
    · omega
  · rw [if_neg h0]
    exact isDec_octs2 h (by omega)
end Go.Proofs.YtpjllcengnolkaaGreatDoor

namespace Go.Proofs.YtpjllcengnolkaaGreatDoor
open Go.RowKit

set_option maxRecDepth 100000 in
set_option maxHeartbeats 2000000 in
theorem DParse_c (s : ByteArray) (w : World) (hs : s.size ≤ 140737488355328) :
    Calls Tryz.prog 67 #[.string s] w fun e w' => ∃ A n c, e = .returned (.tuple #[dv (fN (octs s)) A n c (fX (octs s)), .int .i64 (fE (octs s) : Int)]) ∧ Res w' w.heap.size A n c (fZ (octs s)) ∧ Below w.heap.size w w' := by
  have hl := octs_length s
  have hm := two_new w (.cells #[.bool false, .slice none 0 0, .int .i64 0] 31) (numBx false ⟨#[]⟩ ⟨#[]⟩ ⟨#[]⟩ false s)
  obtain ⟨m0, m1⟩ := hm
  have hW : Below w.heap.size w ((w.alloc (.cells #[.bool false, .slice none 0 0, .int .i64 0] 31)).alloc (numBx false ⟨#[]⟩ ⟨#[]⟩ ⟨#[]⟩ false s)) := ((Below.refl _ w).alloc (Nat.le_refl _) _).alloc (by simp) _
  have hsz : ((w.alloc (.cells #[.bool false, .slice none 0 0, .int .i64 0] 31)).alloc (numBx false ⟨#[]⟩ ⟨#[]⟩ ⟨#[]⟩ false s)).heap.size = w.heap.size + 2 := by simp
  have hR := read_c s _ hs m1
  have HM0 := Lib.hid m0
  have HW := Lib.hid hW
  have HSZ := Lib.hid hsz
  clear m0 m1 hW hsz
  by_cases hf : form (octs s) = some s.size
  · rw [decide_eq_true hf] at hR
    have HF := Lib.hid hf
    have HR := Lib.hid hR
    by_cases h2 : s.size ≤ 2000
    · have hg : fGood (octs s) := ⟨by rw [hl]; exact hf, by omega⟩
      have e1 : fN (octs s) = gN (octs s) := by unfold fN; rw [if_pos hg]
      have e2 : fX (octs s) = gX (octs s) := by unfold fX; rw [if_pos hg]
      have e3 : fE (octs s) = gE (octs s) := by unfold fE; rw [if_pos hg]
      have e4 : fZ (octs s) = gZ (octs s) := by unfold fZ; rw [if_pos hg]
      rw [e1, e2, e3, e4]
      have HL := Lib.hid hl
      clear hR hf hg e1 e2 e3 e4 hl
      obtain ⟨X, hX⟩ : ∃ X, X = octs s := ⟨_, rfl⟩
      rw [← hX] at HR HF HL ⊢
      clear hX
      obtain ⟨GN, hGN⟩ : ∃ G, G = gN X := ⟨_, rfl⟩
      obtain ⟨GX, hGX⟩ : ∃ G, G = gX X := ⟨_, rfl⟩
      obtain ⟨GE, hGE⟩ : ∃ G, G = gE X := ⟨_, rfl⟩
      obtain ⟨GZ, hGZ⟩ : ∃ G, G = gZ X := ⟨_, rfl⟩
      rw [← hGN, ← hGX, ← hGE, ← hGZ]
      have HGN := Lib.hid hGN
      have HGX := Lib.hid hGX
      have HGE := Lib.hid hGE
      have HGZ := Lib.hid hGZ
      clear hGN hGX hGE hGZ
      unfold dv
      go_enter Tryz.func67, Tryz.ntmps67
      go_wp2_with fail
      refine HR.out.mono ?_
      rintro e w2 ⟨rfl, hbx, hb2⟩
      obtain ⟨neg, dg, fr, pw, sk, lf, hbx, hok⟩ := hbx HF.out
      obtain ⟨t1, t2, t3, t4, t5, t6, t7, t8, t9⟩ := num_told hok
      have hc5 := cell_of (k := 5) hbx rfl
      have hlp := octs_length pw
      have hld := octs_length dg
      have hlr := octs_length fr
      rw [HL.out, hld, hlr] at t9
      rw [hlp] at t8
      rw [hlr] at t4
      have HT1 := Lib.hid t1
      have HT2 := Lib.hid t2
      have HT3 := Lib.hid t3
      have HT4 := Lib.hid t4
      have HT5 := Lib.hid t5
      have HT6 := Lib.hid t6
      have HT7 := Lib.hid t7
      have HT8 := Lib.hid t8
      have HBX := Lib.hid hbx
      clear t1 t2 t3 t4 t5 t6 t7 t8 hok hlp hld hlr hbx
      by_cases h6 : 6 < pw.size
      · have h6' : (6 : Int) < (pw.size : Int) := by omega
        obtain ⟨g1, g2, g3, g4⟩ := g_big (HT8.out.1 h6)
        obtain rfl : GE = 52 := HGE.out.trans g1
        obtain rfl : GN = false := HGN.out.trans g2
        obtain rfl : GX = 0 := HGX.out.trans g3
        obtain rfl : GZ = [] := HGZ.out.trans g4
        clear g1 g2 g3 g4 h6
        have q0 := held hb2 (show w.heap.size < w.heap.size + 1 by omega) HM0.out
        have y0 : w2.cell? ⟨w.heap.size, 0, none⟩ = some (.bool false) := cell_of q0 rfl
        have y1 : w2.cell? ⟨w.heap.size, 1, none⟩ = some (.slice none 0 0) := cell_of q0 rfl
        have y2 : w2.cell? ⟨w.heap.size, 2, none⟩ = some (.int .i64 0) := cell_of q0 rfl
        have f0 := frozen_of 0 q0
        have f1 := frozen_of 1 q0
        have f2 := frozen_of 2 q0
        have hwb : Below w.heap.size w w2 := HW.out.trans (hb2.mono (by omega))
        have HWB := Lib.hid hwb
        clear hwb hb2 q0
        go_wp2
        refine bodyPost_ret (v := .tuple #[.agg #[.bool false, .slice none 0 0, .int .i64 0], .int .i64 52]) (by simp [results, Tryz.results67, go_sem, y0, y1, y2]) rfl ?_
        exact ⟨none, 0, 0, rfl, Res.nil _ _, ((HWB.out.setCell (p := ⟨w.heap.size, 0, none⟩) (Nat.le_refl _) _).setCell (p := ⟨w.heap.size, 1, none⟩) (Nat.le_refl _) _).setCell (p := ⟨w.heap.size, 2, none⟩) (Nat.le_refl _) _⟩
      · have h6' : ¬ ((6 : Int) < (pw.size : Int)) := by omega
        have hsm : (tPow X).2 < 1000000 := by
          rcases Nat.lt_or_ge (tPow X).2 1000000 with h | h
          · exact h
          · exact absurd (HT8.out.2 h) h6
        obtain ⟨g1, g2, g3, g4⟩ := g_small hsm
        obtain ⟨EX, hEX⟩ : ∃ EX : Int, EX = (if sk = true then -((pnum (octs pw) : Nat) : Int) else ((pnum (octs pw) : Nat) : Int)) - (fr.size : Int) := ⟨_, rfl⟩
        have hEt : EX = tExp X := by rw [hEX, HT7.out, HT6.out, HT4.out]; rfl
        have hEb : -100000000 ≤ EX ∧ EX ≤ 100000000 := by
          rw [hEX]
          have : pnum (octs pw) < 1000000 := by rw [HT7.out]; exact hsm
          split <;> omega
        have hV := value_c w2 HBX.out (by omega) HT5.out (by omega)
        rw [← hEX] at hV
        have hds : (dg ++ fr).size ≤ 100000 := by rw [ByteArray.size_append]; omega
        have hda : allDig (octs (dg ++ fr)) = true := by rw [octs_append]; exact HT2.out
        have hSt := fun V => settle_c neg none 0 0 EX (dg ++ fr) V hds hda hEb
        have hpv : pnum (octs (dg ++ fr)) = tVal X := by rw [octs_append]; exact HT3.out
        rw [hpv, HT1.out, hEt] at hSt
        rw [HT1.out, hEt] at hV
        obtain rfl : GE = _ := HGE.out.trans g1
        obtain rfl : GN = _ := HGN.out.trans g2
        obtain rfl : GX = _ := HGX.out.trans g3
        obtain rfl : GZ = _ := HGZ.out.trans g4
        have HV := Lib.hid hV
        have HST := Lib.hid hSt
        have q0 := held hb2 (show w.heap.size < w.heap.size + 1 by omega) HM0.out
        have HQ0 := Lib.hid q0
        have hwb : Below w.heap.size w w2 := HW.out.trans (hb2.mono (by omega))
        have HWB := Lib.hid hwb
        have HLT : Hid (w.heap.size < w2.heap.size) := (Array.getElem?_eq_some_iff.1 q0).1
        clear g1 g2 g3 g4 hsm hEX hEt hEb hV hds hda hSt hpv q0 hwb hb2 h6 t9
        go_wp2_with fail
        refine HV.out.mono ?_
        rintro e w3 ⟨rfl, hb3⟩
        have hq3 := held hb3 HLT.out HQ0.out
        have HQ3 := Lib.hid hq3
        have HW3 := Lib.hid (HWB.out.trans (hb3.mono (Nat.le_of_lt HLT.out)))
        have HLT3 : Hid (w.heap.size < w3.heap.size) := (Array.getElem?_eq_some_iff.1 hq3).1
        clear hq3 hb3
        go_wp2_with fail
        have hS3 := HST.out w3
        unfold dv at hS3
        refine hS3.mono ?_
        rintro e w4 ⟨A4, n4, c4, rfl, hr4, hb4⟩
        have q0 := held hb4 HLT3.out HQ3.out
        have y0 : w4.cell? ⟨w.heap.size, 0, none⟩ = some (.bool false) := cell_of q0 rfl
        have y1 : w4.cell? ⟨w.heap.size, 1, none⟩ = some (.slice none 0 0) := cell_of q0 rfl
        have y2 : w4.cell? ⟨w.heap.size, 2, none⟩ = some (.int .i64 0) := cell_of q0 rfl
        have f0 := frozen_of 0 q0
        have f1 := frozen_of 1 q0
        have f2 := frozen_of 2 q0
        have HW4 := Lib.hid (HW3.out.trans (hb4.mono (Nat.le_of_lt HLT3.out)))
        have HR4 := Lib.hid hr4
        have hlt := HLT3.out
        clear q0 hb4 hr4
        go_wp2
        refine bodyPost_ret (v := .tuple #[.agg #[.bool (stN (tNeg X) (tVal X) (tExp X)), .slice A4 n4 c4, .int .i64 (stX (tVal X) (tExp X))], .int .i64 (stE (tVal X) (tExp X) : Int)]) (by simp [results, Tryz.results67, go_sem, y0, y1, y2]) rfl ?_
        exact ⟨A4, n4, c4, rfl, (((HR4.out.setOther (p := ⟨w.heap.size, 0, none⟩) hlt _).setOther (p := ⟨w.heap.size, 1, none⟩) hlt _).setOther (p := ⟨w.heap.size, 2, none⟩) hlt _).more (Nat.le_of_lt hlt),
          ((HW4.out.setCell (p := ⟨w.heap.size, 0, none⟩) (Nat.le_refl _) _).setCell (p := ⟨w.heap.size, 1, none⟩) (Nat.le_refl _) _).setCell (p := ⟨w.heap.size, 2, none⟩) (Nat.le_refl _) _⟩
    · have h2' : (2000 : Int) < (s.size : Int) := by omega
      have hg : ¬ fGood (octs s) := fun h => h2 (by have := h.2; omega)
      have e1 : fN (octs s) = false := by unfold fN; rw [if_neg hg]
      have e2 : fX (octs s) = 0 := by unfold fX; rw [if_neg hg]
      have e3 : fE (octs s) = 5 := by unfold fE; rw [if_neg hg, if_pos (by rw [hl]; exact hf)]
      have e4 : fZ (octs s) = [] := by unfold fZ; rw [if_neg hg]
      rw [e1, e2, e3, e4]
      clear hR hf hg e1 e2 e3 e4 hl h2
      unfold dv
      go_enter Tryz.func67, Tryz.ntmps67
      go_wp2_with fail
      refine HR.out.mono ?_
      rintro e w2 ⟨rfl, _, hb2⟩
      have q0 := held hb2 (show w.heap.size < w.heap.size + 1 by omega) HM0.out
      have y0 : w2.cell? ⟨w.heap.size, 0, none⟩ = some (.bool false) := cell_of q0 rfl
      have y1 : w2.cell? ⟨w.heap.size, 1, none⟩ = some (.slice none 0 0) := cell_of q0 rfl
      have y2 : w2.cell? ⟨w.heap.size, 2, none⟩ = some (.int .i64 0) := cell_of q0 rfl
      have f0 := frozen_of 0 q0
      have f1 := frozen_of 1 q0
      have f2 := frozen_of 2 q0
      have hwb : Below w.heap.size w w2 := HW.out.trans (hb2.mono (by omega))
      have HWB := Lib.hid hwb
      clear hwb hb2 q0
      go_wp2
      refine bodyPost_ret (v := .tuple #[.agg #[.bool false, .slice none 0 0, .int .i64 0], .int .i64 5]) (by simp [results, Tryz.results67, go_sem, y0, y1, y2]) rfl ?_
      exact ⟨none, 0, 0, rfl, Res.nil _ _, ((HWB.out.setCell (p := ⟨w.heap.size, 0, none⟩) (Nat.le_refl _) _).setCell (p := ⟨w.heap.size, 1, none⟩) (Nat.le_refl _) _).setCell (p := ⟨w.heap.size, 2, none⟩) (Nat.le_refl _) _⟩
  · rw [decide_eq_false hf] at hR
    have hg : ¬ fGood (octs s) := fun h => hf (by rw [← hl]; exact h.1)
    have e1 : fN (octs s) = false := by unfold fN; rw [if_neg hg]
    have e2 : fX (octs s) = 0 := by unfold fX; rw [if_neg hg]
    have e3 : fE (octs s) = 32 := by unfold fE; rw [if_neg hg, if_neg (by rw [hl]; exact hf)]
    have e4 : fZ (octs s) = [] := by unfold fZ; rw [if_neg hg]
    rw [e1, e2, e3, e4]
    have HR := Lib.hid hR
    clear hR hf hg e1 e2 e3 e4 hl
    unfold dv
    go_enter Tryz.func67, Tryz.ntmps67
    go_wp2_with fail
    refine HR.out.mono ?_
    rintro e w2 ⟨rfl, _, hb2⟩
    have q0 := held hb2 (show w.heap.size < w.heap.size + 1 by omega) HM0.out
    have y0 : w2.cell? ⟨w.heap.size, 0, none⟩ = some (.bool false) := cell_of q0 rfl
    have y1 : w2.cell? ⟨w.heap.size, 1, none⟩ = some (.slice none 0 0) := cell_of q0 rfl
    have y2 : w2.cell? ⟨w.heap.size, 2, none⟩ = some (.int .i64 0) := cell_of q0 rfl
    have f0 := frozen_of 0 q0
    have f1 := frozen_of 1 q0
    have f2 := frozen_of 2 q0
    have hwb : Below w.heap.size w w2 := HW.out.trans (hb2.mono (by omega))
    have HWB := Lib.hid hwb
    clear hwb hb2 q0
    go_wp2
    refine bodyPost_ret (v := .tuple #[.agg #[.bool false, .slice none 0 0, .int .i64 0], .int .i64 32]) (by simp [results, Tryz.results67, go_sem, y0, y1, y2]) rfl ?_
    exact ⟨none, 0, 0, rfl, Res.nil _ _, ((HWB.out.setCell (p := ⟨w.heap.size, 0, none⟩) (Nat.le_refl _) _).setCell (p := ⟨w.heap.size, 1, none⟩) (Nat.le_refl _) _).setCell (p := ⟨w.heap.size, 2, none⟩) (Nat.le_refl _) _⟩
end Go.Proofs.YtpjllcengnolkaaGreatDoor

namespace Go.Proofs.YtpjllcengnolkaaGreatDoor
open Go.RowKit Go.Lib
attribute [local go_sem] Oper.semAt_some

def flat (q : List (List UInt8 × Int)) : List UInt8 := q.flatMap (·.1)
end Go.Proofs.YtpjllcengnolkaaGreatDoor

namespace Go.Proofs.YtpjllcengnolkaaGreatDoor
open Go.RowKit

/-- The texts and the values of a value, the number of values alone. -/
def fitN (k : Int) (neg : Bool) (xs : List Nat) (e : Int) (t : ByteArray) (ln : Nat) (ks : List ByteArray) : Bool :=
  if k = 3 then okB neg xs e && decide (t.size + ln + ks.length = 0)
  else if k = 4 then decide (xs.length + ln + ks.length = 0) && !neg && decide (e = 0)
  else if k = 5 then decide (xs.length + t.size + ks.length = 0) && !neg && decide (e = 0)
  else if k = 6 then decide (ks.length = ln) && rises ks && decide (xs.length + t.size = 0) && !neg && decide (e = 0)
  else decide (xs.length + t.size + ln + ks.length = 0) && !neg && decide (e = 0)
theorem RdT.stay {w w' : World} {S : Nat → Prop} {A : Option Addr} {n B : Nat} {ks : List ByteArray} (h : RdT w S A n ks) (hb : Below B w w') (hS : ∀ b, S b → b < B) : RdT w' S A n ks := h.keep fun _ hp => hb.cell (hS _ hp)

end Go.Proofs.YtpjllcengnolkaaGreatDoor

namespace Go.Proofs.YtpjllcengnolkaaGreatDoor
open Go.RowKit

theorem RdT.size {w : World} {S : Nat → Prop} {A : Option Addr} {n k : Nat} {ks : List ByteArray} {s : ByteArray} (h : RdT w S A n ks) (hs : ks[k]? = some s) : s.size ≤ 140737488355328 := by
  have hk := (List.getElem?_eq_some_iff.1 hs).1
  obtain ⟨h1, h2⟩ := h
  obtain ⟨b, off, e, hS, h3⟩ := h2 (by omega)
  exact (h3 k s hs).2

end Go.Proofs.YtpjllcengnolkaaGreatDoor

namespace Go.Proofs.YtpjllcengnolkaaGreatDoor
open Go.RowKit

/-- The texts of a kind. -/
def ownTx (k : Int) (t : ByteArray) (ks : List ByteArray) : List ByteArray := if k = 4 then [t] else if k = 6 then ks else []
/-- What is told behind the kind, of these texts. -/
def aloneT (T : List ByteArray) (m : Nat) (fit : Bool) : Nat :=
  if T.any (fun s => !isT s.data.toList) then 61
  else if T.any (fun s => decide (16384 < s.size)) then 5
  else if 4096 < T.length ∨ 4096 < m then 5
  else if fit then 0 else 9
def aloneN (k : Int) (neg : Bool) (xs : List Nat) (e : Int) (t : ByteArray) (ln : Nat) (ks : List ByteArray) : Nat :=
  if k < 0 ∨ 6 < k then 23 else aloneT (ownTx k t ks) (if hold k then ln else 0) (fitN k neg xs e t ln ks)
theorem alone_mk (k : Int) (neg : Bool) (xs : List Nat) (e : Int) (t : ByteArray) (l : List VT) (ks : List ByteArray) : alone (.mk k neg xs e t l ks) = aloneN k neg xs e t l.length ks := by
  have h1 : (VT.mk k neg xs e t l ks).inner.length = if hold k then l.length else 0 := by rw [inner_mk]; split <;> rfl
  unfold alone aloneN aloneT
  rw [h1]
  rfl

end Go.Proofs.YtpjllcengnolkaaGreatDoor

namespace Go.Proofs.YtpjllcengnolkaaGreatDoor

/-- A signed size as a number. -/
def sg (neg : Bool) (v : Nat) : Int := if neg = true then -(v : Int) else (v : Int)
/-- The power of ten by which a decimal of this exponent is made whole. -/
def sp (e : Int) : Nat := 10 ^ (e + 5000).toNat
/-- A decimal as a whole number. -/
def sv (neg : Bool) (v : Nat) (e : Int) : Int := sg neg (v * sp e)
theorem sp_add {e : Int} {p : Nat} (h : -5000 ≤ e) : sp (e + (p : Int)) = 10 ^ p * sp e := by
  unfold sp
  rw [show (e + (p : Int) + 5000).toNat = p + (e + 5000).toNat by omega, Nat.pow_add]
theorem sg_zero (neg : Bool) : sg neg 0 = 0 := by cases neg <;> rfl
theorem sg_mul (neg : Bool) (v k : Nat) : sg neg (v * k) = sg neg v * (k : Int) := by
  cases neg
  · show ((v * k : Nat) : Int) = (v : Int) * (k : Int); simp
  · show -((v * k : Nat) : Int) = -(v : Int) * (k : Int); simp [Int.neg_mul]
/-- What is settled may be, and tells the number. -/
theorem settle_may {s : Bool} {lo : Int} {Z : Nat} (hlo : -5000 ≤ lo) (h : stE Z lo = 0) :
    okB (stN s Z lo) (stZ Z lo) (stX Z lo) = true ∧ L32 (stZ Z lo) ∧ sv (stN s Z lo) (val (stZ Z lo)) (stX Z lo) = sg s Z * (sp lo : Int) ∧ (0 < Z → lo ≤ stX Z lo) := by
  by_cases hZ : Z = 0
  · obtain ⟨z1, z2, z3, z4⟩ := st_zero s lo
    rw [hZ, z2, z3, z4, sg_zero]
    refine ⟨by decide, L32.nil, by simp [sv, val, sg], fun h => absurd h (by omega)⟩
  · have hg : stG Z lo = true := by unfold stG; rw [decide_eq_true hZ, decide_eq_true h]; rfl
    unfold stE at h
    rw [if_neg hZ] at h
    by_cases hb : 300 < (cf Z).length
    · rw [if_pos hb] at h; omega
    · rw [if_neg hb] at h
      by_cases hx : -1000 ≤ lo + (lz (dOf Z) : Int) ∧ lo + (lz (dOf Z) : Int) ≤ 1000
      · have hc : DCan (cf Z) := (dOf_can Z).drop _
        have hv : Z = dp (lz (dOf Z)) * dval (cf Z) := by
          have := lz_drop (dOf Z)
          rw [dOf_val] at this
          exact this
        have hh : nth (cf Z) 0 ≠ 0 := lz_head (dOf Z) (by rw [dOf_val]; omega)
        have hp : 0 < dval (cf Z) := by
          rcases Nat.eq_zero_or_pos (dval (cf Z)) with h0 | h0
          · rw [h0] at hv; omega
          · exact h0
        have hlt : dval (cf Z) < 10 ^ 300 := by
          have h4 := dval_lt hc.1
          obtain ⟨T, hT⟩ : ∃ T, T = 300 := ⟨_, rfl⟩
          rw [← hT] at hb ⊢
          exact Nat.lt_of_lt_of_le h4 (pow_le10 (by omega))
        have hbp : dval (cf Z) < bp 256 := lt_bp (m := 100) hlt (by omega) (by omega)
        have e1 : stN s Z lo = s := if_pos hg
        have e2 : stX Z lo = lo + (lz (dOf Z) : Int) := if_pos hg
        have e3 : stZ Z lo = lim (dval (cf Z)) := if_pos hg
        rw [e1, e2, e3, lim_val]
        refine ⟨?_, (lim_can _).1, ?_, fun _ => by omega⟩
        · unfold okB
          rw [chk_can (lim_can _) (lim_len hbp), lim_val, ← eq_dOf hc, decide_eq_true hh, decide_eq_true (show (cf Z).length ≤ 300 by omega), decide_eq_true hx.1, decide_eq_true hx.2, if_neg]
          · rfl
          · intro h0
            have : lim (dval (cf Z)) = [] := List.eq_nil_of_length_eq_zero h0
            have h5 := lim_val (dval (cf Z))
            rw [this] at h5
            simp [val] at h5
            omega
        · unfold sv
          rw [sp_add hlo, ← sg_mul, ← Nat.mul_assoc]
          congr 2
          rw [Nat.mul_comm]
          exact hv.symm
      · rw [if_neg hx] at h; omega
end Go.Proofs.YtpjllcengnolkaaGreatDoor

namespace Go.Proofs.YtpjllcengnolkaaGreatDoor
open Go.RowKit Go.Deep

theorem ba_eq {a b : ByteArray} (h : a.toList = b.toList) : a = b := by
  rw [Lib.toList_data, Lib.toList_data] at h
  cases a; cases b
  congr 1
  exact Array.toList_inj.1 h

end Go.Proofs.YtpjllcengnolkaaGreatDoor
