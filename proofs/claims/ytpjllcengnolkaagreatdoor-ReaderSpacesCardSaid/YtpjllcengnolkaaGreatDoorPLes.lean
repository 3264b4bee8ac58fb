/-
  Contracts of the scan's low, coded and escape.
  Contracts of the scan's coded and escape.
-/
import Derived.Test.YtpjllcengnolkaaGreatDoorPLtx
set_option linter.unusedVariables false
set_option linter.unusedSimpArgs false
namespace Go.Proofs.YtpjllcengnolkaaGreatDoor
open Go.RowKit Go.Lib
variable {B : Nat} {L : List UInt8} {A : Option Addr} {c sb : Nat}

theorem Env.inc {B : Nat} {L : List UInt8} {A : Option Addr} {c sb : Nat} {w : World} {p o : Nat} (h : Env B L A c sb w p o) (hp : p < L.length) : Env B L A c sb (w.setCell ⟨sb, 1, none⟩ (.int .i64 ((p : Int) + 1))) (p + 1) o := h.move (q := p + 1) (by omega)
theorem But.inc {w w' : World} (h : But (fun k => k = sb) w w') (v : Value) : But (fun k => k = sb) w (w'.setCell ⟨sb, 1, none⟩ v) := But.setCell (C := fun k => k = sb) (p := ⟨sb, 1, none⟩) h (.inl rfl) _
theorem But.no {C : Nat → Prop} {w w' : World} (h : But (fun _ => False) w w') : But C w w' := h.mono (fun _ _ h => h.elim)
theorem peek_ok {p q : Nat} {x : UInt8} (h : rPeek L p = .ok x q) : p = q ∧ L[p]? = some x ∧ p < L.length := by
  unfold rPeek at h
  cases hx : L[p]? with
  | none => rw [hx] at h; exact absurd h (by simp)
  | some y =>
    rw [hx] at h
    injection h with h1 h2
    exact ⟨h2, by rw [h1], (List.getElem?_eq_some_iff.1 hx).1⟩
theorem hexor32' {n d : Nat} (hn : n < 16) (hd : d < 16) : bits .or .i32 ((n : Int) * 16) (d : Int) = (n : Int) * 16 + (d : Int) := by
  have := li32_or_nat (n * 16) d (by omega) (by omega)
  rw [Int.natCast_mul, or16 n d 4 hd] at this
  rw [show ((n : Int) * 16) = (n : Int) * ((16 : Nat) : Int) from rfl, this]; omega
theorem hexor8' {n d : Nat} (hn : n < 256) (hd : d < 256) : bits .or .i32 ((n : Int) * 256) (d : Int) = (n : Int) * 256 + (d : Int) := by
  have := li32_or_nat (n * 256) d (by omega) (by omega)
  rw [Int.natCast_mul, or16 n d 8 hd] at this
  rw [show ((n : Int) * 256) = (n : Int) * ((256 : Nat) : Int) from rfl, this]; omega
abbrev rNb : Nat → World → Value → Prop := fun n _ v => v = .int .i32 (n : Int) ∧ n < 65536
/-- What must hold: or else a fault at the escape's beginning. -/
theorem must_c (is : Bool) (f b : Nat) (w : World) (hb : w.cell? ⟨b, 0, none⟩ = some (.int .i64 (f : Int))) :
    Calls Tryz.prog 142 #[.bool is, ptr b] w fun e w' => w = w' ∧ e = if is then .returned (.tuple #[]) else Flt f 33 := by
  have hpn : ∀ (T : Nat) (v : Value) (w : World), (Instr.panic (.iface T v)).run Tryz.prog w = .halt (.panic (.iface T v)) w := fun _ _ _ => rfl
  cases is
  · go_enter Tryz.func142, Tryz.ntmps142
    go_wp2
    exact ⟨rfl, rfl, rfl⟩
  · go_enter Tryz.func142, Tryz.ntmps142
    go_wp2
    first | go_end0 | refine bodyPost_ret (results_none rfl _ _ _) rfl ?_
    exact ⟨rfl, rfl⟩

set_option maxRecDepth 100000 in
set_option maxHeartbeats 1000000 in
theorem low_c {w : World} {p o : Nat} (E : Env B L A c sb w p o) (f : Nat) (hf : f ≤ 65536) :
    Calls Tryz.prog 116 #[ptr sb, .int .i64 (f : Int)] w (Po B L A c sb (fun k => k = sb) o rNb w (rLow f L p)) := by
  have hpn : ∀ (T : Nat) (v : Value) (w : World), (Instr.panic (.iface T v)).run Tryz.prog w = .halt (.panic (.iface T v)) w := fun _ _ _ => rfl
  have hmf : ∀ (fn : Fn) (first cap : Array Value) (w : World), (Instr.makeFunc fn first cap).run Tryz.prog w = .ok (.func fn first cap) w := fun _ _ _ _ => rfl
  obtain ⟨R, hR⟩ : ∃ R, rLow f L p = R := ⟨_, rfl⟩
  rw [hR]
  unfold rLow at hR
  have hfit := E.fits
  obtain ⟨fb, hfb⟩ : ∃ fb, w.heap.size = fb := ⟨_, rfl⟩
  have hsf : ¬ fb = sb := by have := E.lt; omega
  obtain ⟨w0, hw0⟩ : ∃ w0, w.alloc (.cells #[.int .i64 (f : Int)] 3) = w0 := ⟨_, rfl⟩
  have hb0 : But (fun k => k = sb) w w0 := by rw [← hw0]; exact (But.refl _ _).alloc _
  have hE0 : Env B L A c sb w0 p o := by rw [← hw0]; exact E.stay ((But.refl (fun _ => False) _).alloc _) (fun _ _ h => h) (fun h => h)
  have hF0 : w0.cell? ⟨fb, 0, none⟩ = some (.int .i64 (f : Int)) := by rw [← hw0, ← hfb]; exact cell_at3 (World.alloc_heap_new w _) rfl
  have HF0 := Lib.hid hF0
  have HB0 := Lib.hid hb0
  have HE0 := Lib.hid hE0
  have HSF := Lib.hid hsf
  clear E hF0 hb0 hE0
  go_enter Tryz.func116, Tryz.ntmps116
  go_wp2_with fail
  try rw [hfb]
  try rw [hw0]
  refine (peek_c HE0.out).mono ?_
  intro e w1 hp
  try unfold rAt at hR
  cases hr : rPeek L p with
  | bad q x =>
    rw [hr] at hp hR
    obtain ⟨rfl, hb⟩ := hp
    go_wp2_with fail
    rw [← (show RR.bad q x = R from hR)]
    exact ⟨rfl, rfl, HB0.out.trans hb.no⟩
  | ok x1 q1 =>
    obtain ⟨rfl, hx1, hq1⟩ := peek_ok hr
    rw [hr] at hp hR
    obtain ⟨⟨v, rfl, rfl⟩, hE, hb⟩ := hp
    have HF1 := Lib.hid (hb.cell_some HF0.out (fun h => h))
    have HB1 := Lib.hid (HB0.out.trans (hb.no (C := fun k => k = sb)))
    have HE1 := Lib.hid hE
    obtain ⟨c0, c1, c2⟩ := hE.cells
    have f1 := hE.frozen 1 (by omega)
    clear hE hb HE0 HB0 HF0
    have hi : ((x1.toNat : Int) == 92) = (x1 == 92) := u8I_eq x1 92
    obtain ⟨g, hg⟩ : ∃ g, (x1 == 92) = g := ⟨_, rfl⟩
    rw [hg] at hi
    simp only [RR.bind, rAt, rMust, hg] at hR
    have hM := must_c g f fb w1 HF1.out
    have hqw : IntKind.i64.wrap ((p : Int) + 1) = (p : Int) + 1 := IntWalk.i64_in _ (by omega)
    cases g
    · go_wp2_with fail
      refine hM.mono ?_
      rintro e w' ⟨rfl, rfl⟩
      go_wp2_with fail
      rw [← (show RR.bad f 33 = R from hR)]
      exact ⟨rfl, rfl, HB1.out⟩
    · simp only [if_true] at hR
      go_wp2_with fail
      refine hM.mono ?_
      rintro e w' ⟨rfl, rfl⟩
      go_wp2_with fail
      obtain ⟨w2, hw2⟩ : ∃ v, w1.setCell ⟨sb, 1, none⟩ (.int .i64 ((p : Int) + 1)) = v := ⟨_, rfl⟩
      have HF2 := Lib.hid (show w2.cell? ⟨fb, 0, none⟩ = some (.int .i64 (f : Int)) by rw [← hw2]; exact (World.cell?_setCell_other _ _ _ _ (by first | (simp; done) | (simp; omega))).trans HF1.out)
      have HB2 := Lib.hid (show But (fun k => k = sb) w w2 by rw [← hw2]; exact HB1.out.inc _)
      have HE2 := Lib.hid (show Env B L A c sb w2 (p + 1) o by rw [← hw2]; exact HE1.out.inc hq1)
      rw [hw2]
      clear c0 c1 c2 f1 hi hM hqw hw2 HE1 HB1 HF1 hg hr
      refine (peek_c HE2.out).mono ?_
      intro e w3 hp
      try unfold rAt at hR
      cases hr : rPeek L (p + 1) with
      | bad q x =>
        rw [hr] at hp hR
        obtain ⟨rfl, hb⟩ := hp
        go_wp2_with fail
        rw [← (show RR.bad q x = R from hR)]
        exact ⟨rfl, rfl, HB2.out.trans hb.no⟩
      | ok x3 q3 =>
        obtain ⟨rfl, hx3, hq3⟩ := peek_ok hr
        rw [hr] at hp hR
        obtain ⟨⟨v, rfl, rfl⟩, hE, hb⟩ := hp
        have HF3 := Lib.hid (hb.cell_some HF2.out (fun h => h))
        have HB3 := Lib.hid (HB2.out.trans (hb.no (C := fun k => k = sb)))
        have HE3 := Lib.hid hE
        obtain ⟨c0, c1, c2⟩ := hE.cells
        have f1 := hE.frozen 1 (by omega)
        clear hE hb HE2 HB2 HF2
        have hi : ((x3.toNat : Int) == 117) = (x3 == 117) := u8I_eq x3 117
        obtain ⟨g, hg⟩ : ∃ g, (x3 == 117) = g := ⟨_, rfl⟩
        rw [hg] at hi
        simp only [RR.bind, rAt, rMust, hg] at hR
        have hM := must_c g f fb w3 HF3.out
        have hqw : IntKind.i64.wrap (((p : Int) + 1) + 1) = ((p + 1) : Int) + 1 := IntWalk.i64_in _ (by omega)
        cases g
        · go_wp2_with fail
          refine hM.mono ?_
          rintro e w' ⟨rfl, rfl⟩
          go_wp2_with fail
          rw [← (show RR.bad f 33 = R from hR)]
          exact ⟨rfl, rfl, HB3.out⟩
        · simp only [if_true] at hR
          go_wp2_with fail
          refine hM.mono ?_
          rintro e w' ⟨rfl, rfl⟩
          go_wp2_with fail
          obtain ⟨w4, hw4⟩ : ∃ v, w3.setCell ⟨sb, 1, none⟩ (.int .i64 (((p : Int) + 1) + 1)) = v := ⟨_, rfl⟩
          have HF4 := Lib.hid (show w4.cell? ⟨fb, 0, none⟩ = some (.int .i64 (f : Int)) by rw [← hw4]; exact (World.cell?_setCell_other _ _ _ _ (by first | (simp; done) | (simp; omega))).trans HF3.out)
          have HB4 := Lib.hid (show But (fun k => k = sb) w w4 by rw [← hw4]; exact HB3.out.inc _)
          have HE4 := Lib.hid (show Env B L A c sb w4 ((p + 1) + 1) o by rw [← hw4]; exact HE3.out.inc hq3)
          rw [hw4]
          clear c0 c1 c2 f1 hi hM hqw hw4 HE3 HB3 HF3 hg hr
          refine (hex_c HE4.out 1 (by omega)).mono ?_
          intro e w5 hp
          cases hr : rHex 1 0 L (p + 1 + 1) with
          | bad q x =>
            rw [hr] at hp hR
            obtain ⟨rfl, hb⟩ := hp
            go_wp2_with fail
            rw [← (show RR.bad q x = R from hR)]
            exact ⟨rfl, rfl, HB4.out.trans hb⟩
          | ok x q5 =>
            have hx := rHex_lt 1 0 hr
            rw [hr] at hp hR
            obtain ⟨⟨v, rfl, rfl⟩, hE, hb⟩ := hp
            have HF5 := Lib.hid (hb.cell_some HF4.out (fun h => HSF.out h))
            have HB5 := Lib.hid (HB4.out.trans hb)
            have HE5 := Lib.hid hE
            clear hE hb HE4 HB4 HF4 hr
            simp only [RR.bind, rAt, rMust] at hR
            obtain ⟨g, hg⟩ : ∃ g, (x == 13) = g := ⟨_, rfl⟩
            rw [hg] at hR
            have hi : ((x : Int) == 13) = g := by rw [← hg]; rw [Bool.eq_iff_iff]; simp only [beq_iff_eq]; omega
            have hM := must_c g f fb w5 HF5.out
            have HG := Lib.hid hg
            clear hg
            cases g
            · go_wp2_with fail
              refine hM.mono ?_
              rintro e w' ⟨rfl, rfl⟩
              go_wp2_with fail
              rw [← (show RR.bad f 33 = R from hR)]
              exact ⟨rfl, rfl, HB5.out⟩
            · simp only [if_true] at hR
              go_wp2_with fail
              refine hM.mono ?_
              rintro e w' ⟨rfl, rfl⟩
              clear hM
              go_wp2_with fail
              refine (hex_c HE5.out 1 (by omega)).mono ?_
              intro e w6 hp
              cases hr : rHex 1 0 L q5 with
              | bad q x =>
                rw [hr] at hp hR
                obtain ⟨rfl, hb⟩ := hp
                go_wp2_with fail
                rw [← (show RR.bad q x = R from hR)]
                exact ⟨rfl, rfl, HB5.out.trans hb⟩
              | ok y q6 =>
                have hy := rHex_lt 1 0 hr
                rw [hr] at hp hR
                obtain ⟨⟨v, rfl, rfl⟩, hE, hb⟩ := hp
                have HF6 := Lib.hid (hb.cell_some HF5.out (fun h => HSF.out h))
                have HB6 := Lib.hid (HB5.out.trans hb)
                have HE6 := Lib.hid hE
                clear hE hb HE5 HB5 HF5 hr
                simp only [RR.bind, rAt, rMust] at hR
                have hxy := hexor32' (n := x) (d := y) (by simpa using hx) (by simpa using hy)
                have hx16 : x < 16 := by simpa using hx
                have hy16 : y < 16 := by simpa using hy
                clear hx hy
                obtain ⟨g, hg⟩ : ∃ g, (decide (220 ≤ x * 16 + y)) = g := ⟨_, rfl⟩
                rw [hg] at hR
                have hi : (decide ((220 : Int) ≤ (x : Int) * 16 + (y : Int))) = g := by rw [← hg]; rw [Bool.eq_iff_iff]; simp only [decide_eq_true_eq]; omega
                have hM := must_c g f fb w6 HF6.out
                have HG := Lib.hid hg
                clear hg
                cases g
                · go_wp2_with fail
                  refine hM.mono ?_
                  rintro e w' ⟨rfl, rfl⟩
                  go_wp2_with fail
                  rw [← (show RR.bad f 33 = R from hR)]
                  exact ⟨rfl, rfl, HB6.out⟩
                · simp only [if_true] at hR
                  go_wp2_with fail
                  refine hM.mono ?_
                  rintro e w' ⟨rfl, rfl⟩
                  clear hM
                  go_wp2_with fail
                  refine (hex_c HE6.out 2 (by omega)).mono ?_
                  intro e w7 hp
                  cases hr : rHex 2 0 L q6 with
                  | bad q x =>
                    rw [hr] at hp hR
                    obtain ⟨rfl, hb⟩ := hp
                    go_wp2_with fail
                    rw [← (show RR.bad q x = R from hR)]
                    exact ⟨rfl, rfl, HB6.out.trans hb⟩
                  | ok z q7 =>
                    have hz := rHex_lt 2 0 hr
                    rw [hr] at hp hR
                    obtain ⟨⟨v, rfl, rfl⟩, hE, hb⟩ := hp
                    have HF7 := Lib.hid (hb.cell_some HF6.out (fun h => HSF.out h))
                    have HB7 := Lib.hid (HB6.out.trans hb)
                    have HE7 := Lib.hid hE
                    clear hE hb HE6 HB6 HF6 hr
                    simp only [RR.bind, rAt, rMust] at hR
                    have hz2 : z < 256 := by simpa using hz
                    have hxz := hexor8' (n := x * 16 + y) (d := z) (by omega) hz2
                    rw [show ((x * 16 + y : Nat) : Int) = (x : Int) * 16 + (y : Int) by omega] at hxz
                    clear hz
                    go_wp2_with fail
                    go_ret
                    rw [← (show RR.ok ((x * 16 + y) * 256 + z) q7 = R from hR)]
                    exact ⟨⟨_, rfl, by first | rfl | (show Value.int _ _ = _; congr 1; first | omega | (rw [hxz]; omega)), by omega⟩, HE7.out, HB7.out⟩
end Go.Proofs.YtpjllcengnolkaaGreatDoor

namespace Go.Proofs.YtpjllcengnolkaaGreatDoor
open Go.RowKit Go.Lib
variable {B : Nat} {L : List UInt8} {A : Option Addr} {c sb : Nat}

set_option maxRecDepth 100000 in
set_option maxHeartbeats 1000000 in
theorem coded_c {w : World} {p o : Nat} (E : Env B L A c sb w p o) (f : Nat) (hf : f ≤ 65536) :
    Calls Tryz.prog 91 #[ptr sb, .int .i64 (f : Int)] w (Po B L A c sb (fun k => k = sb) o rI w (rCoded f L p)) := by
  have hpn : ∀ (T : Nat) (v : Value) (w : World), (Instr.panic (.iface T v)).run Tryz.prog w = .halt (.panic (.iface T v)) w := fun _ _ _ => rfl
  obtain ⟨R, hR⟩ : ∃ R, rCoded f L p = R := ⟨_, rfl⟩
  rw [hR]
  unfold rCoded rAt at hR
  have HE0 := Lib.hid E
  clear E
  go_enter Tryz.func91, Tryz.ntmps91
  go_wp2_with fail
  refine (hex_c HE0.out 4 (by omega)).mono ?_
  intro e w1 hp
  cases hr : rHex 4 0 L p with
  | bad q x =>
    rw [hr] at hp hR
    obtain ⟨rfl, hb⟩ := hp
    go_wp2_with fail
    rw [← (show RR.bad q x = R from hR)]
    exact ⟨rfl, rfl, hb⟩
  | ok n q =>
    have hn : n < 65536 := by simpa using rHex_lt 4 0 hr
    rw [hr] at hp hR
    obtain ⟨⟨v, rfl, rfl⟩, hE, hb⟩ := hp
    have HE1 := Lib.hid hE
    have HB1 := Lib.hid hb
    clear hE hb HE0 hr
    simp only [RR.bind] at hR
    by_cases h1 : n < 55296 ∨ 57343 < n
    · rw [if_pos h1] at hR
      by_cases h2 : n < 55296
      · have h3 : (n : Int) < 55296 := by omega
        clear h1
        go_wp2_with fail
        go_ret
        rw [← (show RR.ok (n : Int) q = R from hR)]
        exact ⟨⟨_, rfl, rfl⟩, HE1.out, HB1.out⟩
      · have h3 : ¬ (n : Int) < 55296 := by omega
        have h4 : (57343 : Int) < (n : Int) := by omega
        clear h1
        go_wp2_with fail
        go_ret
        rw [← (show RR.ok (n : Int) q = R from hR)]
        exact ⟨⟨_, rfl, rfl⟩, HE1.out, HB1.out⟩
    · rw [if_neg h1] at hR
      have h3 : ¬ (n : Int) < 55296 := by omega
      have h4 : ¬ (57343 : Int) < (n : Int) := by omega
      by_cases h5 : 56320 ≤ n
      · rw [if_pos h5] at hR
        have h6 : (56320 : Int) ≤ (n : Int) := by omega
        clear h1
        go_wp2_with fail
        rw [← (show RR.bad f 33 = R from hR)]
        exact ⟨rfl, rfl, HB1.out⟩
      · rw [if_neg h5] at hR
        have h6 : ¬ (56320 : Int) ≤ (n : Int) := by omega
        obtain ⟨D, hD⟩ : ∃ D : Int, D = (n : Int) - 55296 := ⟨_, rfl⟩
        obtain ⟨D2, hD2⟩ : ∃ D2 : Int, D2 = D * 1024 := ⟨_, rfl⟩
        obtain ⟨D3, hD3⟩ : ∃ D3 : Int, D3 = 65536 + D2 := ⟨_, rfl⟩
        have hw1 : wrap32 ((n : Int) - 55296) = D := by rw [← lwrap32, IntWalk.i32_in _ (by omega), hD]
        have hw2 : wrap32 (D * 1024) = D2 := by rw [← lwrap32, IntWalk.i32_in _ (by omega), hD2]
        have hw3 : wrap32 (65536 + D2) = D3 := by rw [← lwrap32, IntWalk.i32_in _ (by omega), hD3]
        have HD := Lib.hid (show D3 = 65536 + ((n : Int) - 55296) * 1024 by omega)
        have HDl := Lib.hid (show 0 ≤ D3 ∧ D3 ≤ 1114111 by omega)
        have e3 : decide ((n : Int) < 55296) = false := decide_eq_false h3
        have e4 : decide ((57343 : Int) < (n : Int)) = false := decide_eq_false h4
        have e6 : decide ((56320 : Int) ≤ (n : Int)) = false := decide_eq_false h6
        clear h1 hD hD2 hD3 hn h3 h4 h5 h6
        go_wp2_with fail
        refine (low_c HE1.out f hf).mono ?_
        intro e w2 hp
        cases hr : rLow f L q with
        | bad q2 x =>
          rw [hr] at hp hR
          obtain ⟨rfl, hb⟩ := hp
          go_wp2_with fail
          rw [← (show RR.bad q2 x = R from hR)]
          exact ⟨rfl, rfl, HB1.out.trans hb⟩
        | ok z q2 =>
          rw [hr] at hp hR
          obtain ⟨⟨v, rfl, rfl, hz⟩, hE, hb⟩ := hp
          have HE2 := Lib.hid hE
          have HB2 := Lib.hid (HB1.out.trans hb)
          clear hE hb HE1 HB1 hr
          have HR := Lib.hid (show RR.ok (65536 + ((n : Int) - 55296) * 1024 + ((z : Int) - 56320)) q2 = R from hR)
          obtain ⟨Z1, hZ1⟩ : ∃ D : Int, D = (z : Int) - 56320 := ⟨_, rfl⟩
          obtain ⟨Z2, hZ2⟩ : ∃ D : Int, D = D3 + Z1 := ⟨_, rfl⟩
          have hw4 : wrap32 ((z : Int) - 56320) = Z1 := by rw [← lwrap32, IntWalk.i32_in _ (by omega), hZ1]
          have hw5 : wrap32 (D3 + Z1) = Z2 := by have := HDl.out; rw [← lwrap32, IntWalk.i32_in _ (by omega), hZ2]
          have HZ := Lib.hid (show 65536 + ((n : Int) - 55296) * 1024 + ((z : Int) - 56320) = Z2 by rw [hZ2, hZ1, HD.out])
          clear hR hz hZ1 hZ2
          go_wp2_with fail
          go_ret
          rw [← HR.out, HZ.out]
          exact ⟨⟨_, rfl, congrArg (Value.int .i32) hw5⟩, HE2.out, HB2.out⟩

theorem w32_u8 (x : UInt8) : wrap32 (x.toNat : Int) = (x.toNat : Int) := by
  have := x.toNat_lt
  rw [← lwrap32]; exact IntWalk.i32_in _ (by omega)
def escT : ByteArray := ⟨#[34, 92, 47, 98, 102, 110, 114, 116]⟩
theorem esc_ib (x : UInt8) : escOf x = (if indexByte escT.data.toList x < 0 then none else some ([34, 92, 47, 8, 12, 10, 13, 9].getD (indexByte escT.data.toList x).toNat 0)) ∧ indexByte escT.data.toList x < 8 := by
  have := forall_u8 (p := fun x => escOf x == (if indexByte escT.data.toList x < 0 then none else some ([34, 92, 47, 8, 12, 10, 13, 9].getD (indexByte escT.data.toList x).toNat 0)) && decide (indexByte escT.data.toList x < 8)) (by kernel_rfl) x
  rw [Bool.and_eq_true] at this
  exact ⟨eq_of_beq this.1, of_decide_eq_true this.2⟩

set_option maxRecDepth 100000 in
set_option maxHeartbeats 1000000 in
theorem escape_c {w : World} {p o : Nat} (E : Env B L A c sb w p o) (hpl : p < L.length) :
    Calls Tryz.prog 77 #[ptr sb] w (Po B L A c sb (fun k => k = sb) o rI w (rEscape L p)) := by
  have hpn : ∀ (T : Nat) (v : Value) (w : World), (Instr.panic (.iface T v)).run Tryz.prog w = .halt (.panic (.iface T v)) w := fun _ _ _ => rfl
  obtain ⟨R, hR⟩ : ∃ R, rEscape L p = R := ⟨_, rfl⟩
  rw [hR]
  unfold rEscape rAt at hR
  have hfit := E.fits
  have hpw : IntKind.i64.wrap ((p : Int) + 1) = (p : Int) + 1 := IntWalk.i64_in _ (by omega)
  obtain ⟨c0, c1, c2⟩ := E.cells
  have f1 := E.frozen 1 (by omega)
  have HE0 := Lib.hid (E.inc hpl)
  have HB0 := Lib.hid ((But.refl (fun k => k = sb) w).inc (.int .i64 ((p : Int) + 1)))
  clear E
  go_enter Tryz.func77, Tryz.ntmps77
  go_wp2_with fail
  clear c0 c1 c2 f1
  generalize (w.setCell ⟨sb, 1, none⟩ (.int .i64 ((p : Int) + 1))) = w0 at *
  refine (peek_c HE0.out).mono ?_
  intro e w1 hp
  cases hr : rPeek L (p + 1) with
  | bad q x =>
    rw [hr] at hp hR
    obtain ⟨rfl, hb⟩ := hp
    go_wp2_with fail
    rw [← (show RR.bad q x = R from hR)]
    exact ⟨rfl, rfl, HB0.out.trans hb.no⟩
  | ok x q =>
    obtain ⟨rfl, hx, hq⟩ := peek_ok hr
    rw [hr] at hp hR
    obtain ⟨⟨v, rfl, rfl⟩, hE, hb⟩ := hp
    obtain ⟨c0, c1, c2⟩ := hE.cells
    have f1 := hE.frozen 1 (by omega)
    have HE1 := Lib.hid hE
    have HB1 := Lib.hid (HB0.out.trans (hb.no (C := fun k => k = sb)))
    have hqw : IntKind.i64.wrap ((p : Int) + 1 + 1) = (p : Int) + 1 + 1 := IntWalk.i64_in _ (by omega)
    have HE2 := Lib.hid (hE.inc hq)
    clear hE hb HE0 HB0 hr
    simp only [RR.bind] at hR
    have hi : ((x.toNat : Int) == 117) = (x == 117) := u8I_eq x 117
    cases hg : (x == 117)
    · rw [hg] at hi
      simp only [hg, Bool.false_eq_true, if_false] at hR
      obtain ⟨hh1, hh2⟩ := esc_ib x
      have hix := fun V => idx_c escT x V
      obtain ⟨Z, hZ⟩ : ∃ Z, indexByte escT.data.toList x = Z := ⟨_, rfl⟩
      rw [hZ] at hix hh1 hh2
      have HIX := Lib.hid hix
      clear hix hZ hg
      by_cases hz : Z < 0
      · rw [if_pos hz] at hh1
        rw [hh1] at hR
        clear hh1
        go_wp2_with fail
        refine (HIX.out _).mono ?_
        rintro e w2 ⟨rfl, hw2⟩
        rw [hw2]
        go_wp2_with fail
        rw [← (show RR.bad p 33 = R from hR)]
        exact ⟨rfl, rfl, HB1.out⟩
      · rw [if_neg hz] at hh1
        rw [hh1] at hR
        clear hh1
        rcases (show Z = 0 ∨ Z = 1 ∨ Z = 2 ∨ Z = 3 ∨ Z = 4 ∨ Z = 5 ∨ Z = 6 ∨ Z = 7 by omega) with h | h | h | h | h | h | h | h
        all_goals
          subst h
          go_wp2_with fail
          refine (HIX.out _).mono ?_
          rintro e w2 ⟨rfl, hw2⟩
          rw [hw2]
          clear HIX
          go_wp2_with fail
          go_ret
          rw [← hR]
          exact ⟨⟨_, rfl, by show Value.int .i32 _ = _; rw [w32_u8]; rfl⟩, HE2.out, HB1.out.inc _⟩
    · rw [hg] at hi
      simp only [hg, if_true] at hR
      clear hg
      go_wp2_with fail
      refine (coded_c HE2.out p (by omega)).mono ?_
      intro e w2 hp
      cases hr : rCoded p L (p + 1 + 1) with
      | bad q2 y =>
        rw [hr] at hp hR
        obtain ⟨rfl, hb⟩ := hp
        go_wp2_with fail
        rw [← (show RR.bad q2 y = R from hR)]
        exact ⟨rfl, rfl, (HB1.out.inc _).trans hb⟩
      | ok z q2 =>
        rw [hr] at hp hR
        obtain ⟨⟨v, rfl, rfl⟩, hE, hb⟩ := hp
        have HE3 := Lib.hid hE
        have HB3 := Lib.hid ((HB1.out.inc _).trans hb)
        clear hE hb
        go_wp2_with fail
        go_ret
        rw [← (show RR.ok z q2 = R from hR)]
        exact ⟨⟨_, rfl, rfl⟩, HE3.out, HB3.out⟩
end Go.Proofs.YtpjllcengnolkaaGreatDoor
