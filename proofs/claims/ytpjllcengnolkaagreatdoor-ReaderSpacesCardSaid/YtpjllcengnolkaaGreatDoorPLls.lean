/-
  A value that is read takes octets: the place behind it is farther. Pure, no program.
  Contract of the scan's list, over that of its values.
-/
import Derived.Test.YtpjllcengnolkaaGreatDoorPVord
import Derived.Test.YtpjllcengnolkaaGreatDoorPRfull
import Derived.Test.YtpjllcengnolkaaGreatDoorPLsc
import Derived.Test.YtpjllcengnolkaaGreatDoorPDfm
import Derived.Test.YtpjllcengnolkaaGreatDoorPDrprt
import Derived.Test.YtpjllcengnolkaaGreatDoorPRshift
import Derived.Test.YtpjllcengnolkaaGreatDoorPDpar
import Derived.Test.YtpjllcengnolkaaGreatDoorPDop
import Derived.Test.YtpjllcengnolkaaGreatDoorPDnumd
import Derived.Deep.RegionHeld3
import Derived.Deep.QuietTactic
import Derived.BigQuiet
import Derived.Deep.Cut
import Derived.Deep.CutRange
import Derived.Test.YtpjllcengnolkaaGreatDoorPVsame
import Derived.Laws.EntriesVeiled
import Derived.Test.YtpjllcengnolkaaGreatDoorPNlimb
import Derived.Test.YtpjllcengnolkaaGreatDoorPLch
import Derived.Test.YtpjllcengnolkaaGreatDoorPUpure
import Derived.Deep.AppendLies
import Derived.Deep.CutBlock
import Derived.Test.YtpjllcengnolkaaGreatDoorPLli
set_option linter.unusedVariables false
set_option linter.unusedSimpArgs false
namespace Go.Proofs.YtpjllcengnolkaaGreatDoor
open Go.Lib

/-- From where an octet stands, what is read takes at least one. -/
def Up1 {α : Type} (F : Rd1 α) : Prop := ∀ b p a q, p < b.length → F b p = .ok a q → p < q
theorem Up1.ite {α : Type} {c : Prop} [Decidable c] {F G : Rd1 α} (hF : Up1 F) (hG : Up1 G) : Up1 (if c then F else G) := by
  by_cases h : c
  · rw [if_pos h]; exact hF
  · rw [if_neg h]; exact hG
theorem Up1.over {α : Type} {G : Rd1 α} (h : ∀ b p a q, p ≤ b.length → G b p = .ok a q → p ≤ q) : Up1 (fun b p => G b (p + 1)) := fun b p a q hp hf => by
  have := h b (p + 1) a q (by omega) hf; omega
theorem Up1.need (f : UInt8 → Bool) : Up1 (rNeed f) := fun b p a q hp h => by
  unfold rNeed at h
  split at h
  · split at h
    · injection h with _ h; omega
    · cases h
  · cases h
theorem Up1.at {α β : Type} {F : Rd1 α} {G : α → Rd1 β} (hF : Up1 F) (hg : Good F) (hG : ∀ a, Good (G a)) : Up1 (rAt F G) := fun b p a q hp h => by
  unfold rAt at h
  cases hf : F b p with
  | bad q1 e => rw [hf] at h; cases h
  | ok x q1 =>
    rw [hf] at h
    have h1 := hF b p x q1 hp hf
    have h2 := hg.up b p x q1 (by omega) hf
    have h3 := (hG x).up b q1 a q h2.2 h
    omega
theorem Up1.fail {α : Type} (e : Nat) : Up1 (rFail e : Rd1 α) := fun b p a q _ h => by cases h
theorem Up1.then {α : Type} {F : Rd1 α} (hF : Up1 F) (f : α → VT) : Up1 (rAt F fun a => rPure (f a)) := fun b p a q hp h => by
  unfold rAt at h
  cases hf : F b p with
  | bad q1 e => rw [hf] at h; cases h
  | ok x q1 => rw [hf] at h; injection h with _ h; have := hF b p x q1 hp hf; omega
theorem Up1.held {α : Type} {F : Rd1 α} (hF : Up1 F) (mk : α → VT) : Up1 (fun b p => (F b p).bind fun l q => rHeld p (mk l) b q) := fun b p a q hp h => by
  simp only [] at h
  cases hf : F b p with
  | bad q1 e => rw [hf] at h; cases h
  | ok x q1 =>
    rw [hf] at h
    simp only [RR.bind] at h
    unfold rHeld at h
    split at h
    · cases h
    · injection h with _ h; have := hF b p x q1 hp hf; omega
theorem Up1.digits : Up1 rDigits := (Up1.need _).at (Good.need _) fun _ => Good.skips _
/-- What stands behind a number's whole part. -/
def rTl : Rd1 Unit := rAt (rSkip (· == 46)) fun f => rAt (if f then rDigits else rPure ()) fun _ => rAt (rSkip fun c => c == 101 || c == 69) fun e => if e then rAt (rSkip fun c => c == 43 || c == 45) fun _ => rDigits else rPure ()
theorem good_tl : Good rTl := (Good.skip _).at fun f => (Good.ite Good.digits (Good.pure _)).at fun _ => (Good.skip _).at fun e => Good.ite ((Good.skip _).at fun _ => Good.digits) (Good.pure _)
theorem numeral_tl : rNumeral = rAt (rSkip (· == 45)) fun _ => rAt (rSkip (· == 48)) fun z => rAt (if z then rPure () else rDigits) fun _ => rTl := rfl
theorem Up1.numeral : Up1 rNumeral := fun b p a q hp h => by
  rw [numeral_tl] at h
  unfold rAt at h
  cases h1 : rSkip (· == 45) b p with
  | bad q1 e => rw [h1] at h; cases h
  | ok x q1 =>
    rw [h1] at h
    have g1 := (Good.skip (· == 45)).up b p x q1 (by omega) h1
    simp only [RR.bind] at h
    cases h2 : rSkip (· == 48) b q1 with
    | bad q2 e => rw [h2] at h; cases h
    | ok z q2 =>
      rw [h2] at h
      have g2 := (Good.skip (· == 48)).up b q1 z q2 g1.2 h2
      simp only [] at h
      cases z with
      | true =>
        have h3 : q1 < q2 := by
          unfold rSkip at h2
          split at h2
          · split at h2
            · injection h2 with _ h2; omega
            · injection h2 with h2; cases h2
          · injection h2 with h2; cases h2
        have h4 : rTl b q2 = .ok a q := h
        have h5 := good_tl.up b q2 a q g2.2 h4
        omega
      | false =>
        have h4 : (rDigits b q2).bind (fun _ q => rTl b q) = .ok a q := h
        cases h6 : rDigits b q2 with
        | bad q3 e => rw [h6] at h4; cases h4
        | ok u q3 =>
          rw [h6] at h4
          have g3 := Good.digits.up b q2 u q3 g2.2 h6
          have h8 : q2 < b.length := by
            rcases Nat.lt_or_ge q2 b.length with h9 | h9
            · exact h9
            · unfold rDigits rAt rNeed at h6
              rw [List.getElem?_eq_none h9] at h6
              cases h6
          have h7 := Up1.digits b q2 u q3 h8 h6
          have h5 := good_tl.up b q3 a q g3.2 h4
          omega
theorem Up1.number : Up1 rNumber := fun b p a q hp h => by
  unfold rNumber at h
  cases h1 : rNumeral b p with
  | bad q1 e => rw [h1] at h; cases h
  | ok x q1 =>
    rw [h1] at h
    have h2 := Up1.numeral b p x q1 hp h1
    simp only [RR.bind] at h
    split at h
    · cases h3 : rApart b q1 with
      | bad q2 e => rw [h3] at h; cases h
      | ok u q2 =>
        rw [h3] at h
        injection h with _ h
        have h4 := Good.apart.up b q1 u q2 (Good.numeral.up b p x q1 (by omega) h1).2 h3
        omega
    · cases h
theorem Up1.text : Up1 rText := fun b p a q hp h => by
  unfold rText at h
  cases h1 : rChars fuelR [] b (p + 1) with
  | bad q1 e => rw [h1] at h; cases h
  | ok t q1 =>
    rw [h1] at h
    have h2 := (Closed.chars (m := p + 1) fuelR []).up b (p + 1) t q1 (Nat.le_refl _) (by omega) h1
    simp only [RR.bind] at h
    split at h
    · cases h
    · injection h with _ h; omega
theorem Up1.items {α : Type} {en : UInt8} {item : Nat → Rd1 α} (hi : ∀ nth, Good (item nth)) (hn : ∀ nth, Needs (item nth)) : Up1 (rItems en item) := fun b p a q hp h => by
  have h2 := (Closed.mid (m := p + 1) (Good.skips isWs) (fun _ => Closed.items hi hn fuelR 1) (fun _ => items_needs en item fuelR 1)).up b (p + 1) a q (Nat.le_refl _) (by omega) h
  omega
theorem Up1.begin {k nth : Nat} {F : Rd1 VT} (hF : Up1 F) : Up1 (rAt (rBegin k nth) fun _ => F) := fun b p a q hp h => by
  unfold rAt at h
  cases h1 : rBegin k nth b p with
  | bad q1 e => rw [h1] at h; cases h
  | ok u q1 =>
    rw [h1] at h
    have h2 := (Good.begin k nth).up b p u q1 (by omega) h1
    rcases Nat.lt_or_ge q1 b.length with h3 | h3
    · have := hF b q1 a q h3 h; omega
    · have h4 : q1 = p := by
        unfold rBegin rAt rPeek at h1
        rw [List.getElem?_eq_getElem hp] at h1
        simp only [RR.bind] at h1
        split at h1
        · cases h1
        · split at h1
          · cases h1
          · split at h1
            · cases h1
            · injection h1 with _ h1; exact h1.symm
      omega
theorem Up1.peek {β : Type} {G : UInt8 → Rd1 β} (hG : ∀ c, Up1 (G c)) : Up1 (rAt rPeek G) := fun b p a q hp h => by
  unfold rAt rPeek at h
  rw [List.getElem?_eq_getElem hp] at h
  exact hG _ b p a q hp h
theorem Up1.word (c : UInt8) (r : List UInt8) (x : VT) : Up1 (rAt (rWord (c :: r)) fun _ => rPure x) := Up1.then (F := rWord (c :: r)) ((Up1.need _).at (Good.need _) fun _ => Good.word r) (fun _ => x)
theorem Up1.pair (mk : List (ByteArray × VT) → VT) (k n : Nat) : Up1 (rAt (rKey n) fun key => rAt (rSkips isWs) fun _ => rAt (rNeed (· == 58)) fun _ => rAt (rSkips isWs) fun _ => rAt (rValue mk k n) fun v => rPure (key, v)) := fun b p a q hp h => by
  unfold rAt at h
  cases h1 : rKey n b p with
  | bad q1 e => rw [h1] at h; cases h
  | ok t q1 =>
    rw [h1] at h
    have h2 : p < q1 := by
      unfold rKey rAt rPeek at h1
      rw [List.getElem?_eq_getElem hp] at h1
      simp only [RR.bind] at h1
      split at h1
      · split at h1
        · cases h1
        · exact Up1.text b p t q1 hp h1
      · cases h1
    have h5 : q1 ≤ b.length := by
      unfold rKey rAt rPeek at h1
      rw [List.getElem?_eq_getElem hp] at h1
      simp only [RR.bind] at h1
      split at h1
      · split at h1
        · cases h1
        · exact ((ClosedS.text (m := p)).up b p t q1 (Nat.le_refl _) hp h1).2
      · cases h1
    have h3 : (rAt (rSkips isWs) fun _ => rAt (rNeed (· == 58)) fun _ => rAt (rSkips isWs) fun _ => rAt (rValue mk k n) fun v => rPure (t, v)) b q1 = .ok a q := h
    have h4 := ((Good.skips isWs).at fun _ => (Good.need (· == 58)).at fun _ => (Good.skips isWs).at fun _ => (Good.value mk k n).at fun v => Good.pure (t, v)).up b q1 a q h5 h3
    omega
theorem Up1.value (mk : List (ByteArray × VT) → VT) : ∀ k nth, Up1 (rValue mk k nth)
  | 0, nth => by
    unfold rValue
    refine Up1.begin (Up1.peek fun c => ?_)
    exact Up1.ite (Up1.then Up1.text _) (Up1.ite (Up1.word _ _ _) (Up1.ite (Up1.word _ _ _) (Up1.ite (Up1.word _ _ _) Up1.number)))
  | k + 1, nth => by
    unfold rValue
    refine Up1.begin (Up1.peek fun c => ?_)
    refine Up1.ite (Up1.held (Up1.items (fun n => Good.value mk k n) (fun n => value_needs mk k n)) _) (Up1.ite (Up1.held (Up1.items (fun n => ?_) (fun n => ?_)) _) ?_)
    · exact (Good.key n).at fun key => (Good.skips _).at fun _ => (Good.need _).at fun _ => (Good.skips _).at fun _ => (Good.value mk k n).at fun v => Good.pure _
    · exact Needs.see.at
    · exact Up1.ite (Up1.then Up1.text _) (Up1.ite (Up1.word _ _ _) (Up1.ite (Up1.word _ _ _) (Up1.ite (Up1.word _ _ _) Up1.number)))
end Go.Proofs.YtpjllcengnolkaaGreatDoor

namespace Go.Proofs.YtpjllcengnolkaaGreatDoor
open Go.RowKit Go.Lib
variable {B : Nat} {L : List UInt8} {A : Option Addr} {c sb : Nat}

theorem value_up {mk : List (ByteArray × VT) → VT} {k nth p q : Nat} {a : VT} (hp : p ≤ L.length) (h : rValue mk k nth L p = .ok a q) : p < q := by
  rcases Nat.lt_or_ge p L.length with h1 | h1
  · exact Up1.value mk k nth L p a q h1 h
  · obtain rfl : p = L.length := by omega
    have h2 : L[L.length]? = none := List.getElem?_eq_none (Nat.le_refl _)
    cases k <;> (unfold rValue rAt rBegin rAt rPeek at h; rw [h2] at h; exact absurd h (by simp [RR.bind]))
theorem Grow.nil (N : Nat) (W : World) : Grow N (.slice none 0 0) [] W := ⟨fun _ => [], ⟨by simp [flatC], .inl ⟨rfl, rfl⟩⟩, fun i hi => absurd hi (by simp), fun i x hx => by simp at hx⟩
/-- A row that grew reads as a row of trees, of whatever memory of its own. -/
theorem Grow.rdl {N : Nat} {l : List VT} {W : World} {LA : Option Addr} {n lc : Nat} (h : Grow N (.slice LA n lc) l W) (hn : n = l.length) (hs : n ≤ 1256584717458) {k e : Int} :
    VIn W (fun b => N ≤ b ∧ b < W.heap.size) (.mk 5 false [] 0 ⟨#[]⟩ l []) [.int .i64 5, .bool false, .slice none 0 0, .int .i64 0, .string ⟨#[]⟩, .slice LA n lc, .slice none 0 0] := by
  obtain ⟨cs, h1, h2, h3⟩ := h
  rw [← hn] at h1 h2
  have hlc : n ≤ lc := by
    rcases h1.2 with ⟨h4, h5⟩ | ⟨g, cap, cur, e1, e2, e3, e4, -⟩
    · omega
    · injection e1 with _ _ e6; omega
  refine .mk (cs := cs) ⟨rfl, by simp [L32], fun h0 => absurd h0 (by omega)⟩ (by omega) (by show (0 : Nat) ≤ _; omega) ⟨rfl, fun h0 => absurd h0 (by omega)⟩ (by omega) hn.symm hs hlc (fun h0 => ?_) (fun i x hi => (h3 i x hi).more fun b hb => ⟨hb.1, hb.2.1⟩)
  rcases h1.2 with ⟨h4, h5⟩ | ⟨g, cap, cur, e1, e2, e3, e4, e5, e6, e7⟩
  · omega
  · injection e1 with e1 _ e9
    subst e1
    subst e9
    refine ⟨g, 0, rfl, ⟨e2, (Array.getElem?_eq_some_iff.1 e3).1⟩, fun i hi => ⟨h2 i hi, fun j hj => ?_⟩⟩
    have h8 := flatC_get (cs := cs) (ix := id) (j := n) (fun q hq => h2 q hq) i j hi hj
    have h9 : (cs i)[j]? = some ((cs i)[j]'(by rw [h2 i hi]; exact hj)) := List.getElem?_eq_getElem _
    have h10 := (ownsRow_cell h1 (j := i * 7 + j) (u := (cs i)[j]'(by rw [h2 i hi]; exact hj)) (by rw [h8]; exact h9)).1
    rw [Nat.zero_add, h10]
    exact h9.symm

set_option maxRecDepth 100000 in
set_option maxHeartbeats 4000000 in
theorem list_c {k : Nat} (ih : ValC k) {w : World} {p o : Nat} (E : Env B L A c sb w p o) (hko : k + (o + 1) = 64) (hcap : L.length ≤ c) (hpl : p < L.length) :
    Calls Tryz.prog 37 #[ptr sb] w (Po B L A c sb (fun j => j = sb) o (rV w.heap.size) w ((rItems 93 (rValue mkObj k) L p).bind fun l q => rHeld p (.mk 5 false [] 0 ⟨#[]⟩ l []) L q)) := by
  have hmf : ∀ (fn : Fn) (first cap : Array Value) (w : World), (Instr.makeFunc fn first cap).run Tryz.prog w = .ok (.func fn first cap) w := fun _ _ _ _ => rfl
  obtain ⟨RI, hRI⟩ : ∃ R, rItems 93 (rValue mkObj k) L p = R := ⟨_, rfl⟩
  rw [hRI]
  obtain ⟨RW, hRW⟩ : ∃ R, (RI.bind fun l q => rHeld p (.mk 5 false [] 0 ⟨#[]⟩ l []) L q) = R := ⟨_, rfl⟩
  rw [hRW]
  have HRW := Lib.hid hRW
  clear hRW
  have hlt := E.lt
  have hbase := E.base
  have hfit := E.fits
  obtain ⟨pb, hpb⟩ : ∃ b, w.heap.size = b := ⟨_, rfl⟩
  have hb0 : But (fun _ => False) w ((w.alloc (.cells #[ptr sb] 66)).alloc (.cells #[.int .i64 0, .bool false, .slice none 0 0, .int .i64 0, .string ⟨#[]⟩, .slice none 0 0, .slice none 0 0] 34)) := ((But.refl _ _).alloc _).alloc _
  have hE0 := E.stay hb0 (fun _ _ h => h) (fun h => h)
  have hs0 : ((w.alloc (.cells #[ptr sb] 66)).alloc (.cells #[.int .i64 0, .bool false, .slice none 0 0, .int .i64 0, .string ⟨#[]⟩, .slice none 0 0, .slice none 0 0] 34)).heap.size = pb + 2 := by rw [← hpb]; simp
  have hp0 : ((w.alloc (.cells #[ptr sb] 66)).alloc (.cells #[.int .i64 0, .bool false, .slice none 0 0, .int .i64 0, .string ⟨#[]⟩, .slice none 0 0, .slice none 0 0] 34)).heap[pb]? = some (.cells #[ptr sb] 66) := by
    rw [← hpb, Below.heap_alloc _ _ _ (by simp)]; exact World.alloc_heap_new w _
  have hr0 : ((w.alloc (.cells #[ptr sb] 66)).alloc (.cells #[.int .i64 0, .bool false, .slice none 0 0, .int .i64 0, .string ⟨#[]⟩, .slice none 0 0, .slice none 0 0] 34)).heap[pb + 1]? = some (.cells #[.int .i64 0, .bool false, .slice none 0 0, .int .i64 0, .string ⟨#[]⟩, .slice none 0 0, .slice none 0 0] 34) := by
    have := World.alloc_heap_new (w.alloc (.cells #[ptr sb] 66)) (.cells #[.int .i64 0, .bool false, .slice none 0 0, .int .i64 0, .string ⟨#[]⟩, .slice none 0 0, .slice none 0 0] 34)
    rwa [World.size_alloc, hpb] at this
  have hlp : sb < pb := by omega
  go_enter Tryz.func37, Tryz.ntmps37
  go_upto_region 1 with fail
  try rw [hpb]
  generalize ((w.alloc (.cells #[ptr sb] 66)).alloc (.cells #[.int .i64 0, .bool false, .slice none 0 0, .int .i64 0, .string ⟨#[]⟩, .slice none 0 0, .slice none 0 0] 34)) = w00 at *
  obtain ⟨c0, c1, c2⟩ := hE0.cells
  have s0 := cell_at3 (i := 0) hp0 rfl
  have hb1 := hb0.alloc (.cells #[.int .i64 5, .bool false, .slice none 0 0, .int .i64 0, .string ⟨#[]⟩, .slice none 0 0, .slice none 0 0] 34)
  have hE1 := hE0.stay ((But.refl (fun _ => False) w00).alloc (.cells #[.int .i64 5, .bool false, .slice none 0 0, .int .i64 0, .string ⟨#[]⟩, .slice none 0 0, .slice none 0 0] 34)) (fun _ _ h => h) (fun h => h)
  have hp1 := (Below.heap_alloc w00 (.cells #[.int .i64 5, .bool false, .slice none 0 0, .int .i64 0, .string ⟨#[]⟩, .slice none 0 0, .slice none 0 0] 34) pb (by omega)).trans hp0
  have hr1 := (Below.heap_alloc w00 (.cells #[.int .i64 5, .bool false, .slice none 0 0, .int .i64 0, .string ⟨#[]⟩, .slice none 0 0, .slice none 0 0] 34) (pb + 1) (by omega)).trans hr0
  have ho1 := World.alloc_heap_new w00 (.cells #[.int .i64 5, .bool false, .slice none 0 0, .int .i64 0, .string ⟨#[]⟩, .slice none 0 0, .slice none 0 0] 34)
  have hs1 : (w00.alloc (.cells #[.int .i64 5, .bool false, .slice none 0 0, .int .i64 0, .string ⟨#[]⟩, .slice none 0 0, .slice none 0 0] 34)).heap.size = pb + 3 := by rw [World.size_alloc, hs0]
  rw [hs0] at ho1
  have HE0 := Lib.hid hE0
  have HE1 := Lib.hid hE1
  have HP1 := Lib.hid hp1
  have HR1 := Lib.hid hr1
  have HO1 := Lib.hid ho1
  have HB1 := Lib.hid hb1
  have HS1 := Lib.hid hs1
  have HPB := Lib.hid hpb
  have HRI := Lib.hid hRI
  clear hE0 hE1 hp0 hp1 hr0 hr1 ho1 hb0 hb1 hs1 hpb hRI E
  go_upto_region 3 with fail
  clear c0 c1 c2 s0
  try rw [hs0]
  clear hs0
  generalize (w00.alloc (.cells #[.int .i64 5, .bool false, .slice none 0 0, .int .i64 0, .string ⟨#[]⟩, .slice none 0 0, .slice none 0 0] 34)) = w0 at *
  have hp0 := HP1.out
  have s0 := cell_at3 (i := 0) hp0 rfl
  clear hp0
  have hlt' := HE1.out.lt
  have hit := itemsL_c (pb + 2) pb HE1.out hpl (by omega) 93 (rValue mkObj k) (fun acc W => IL (pb + 2) pb sb (pb + 3) acc W ∧ acc.length ≤ 70000) (fun j => j = pb + 2 ∨ pb + 3 ≤ j)
    ⟨⟨none, 0, HP1.out, HO1.out, Grow.nil _ _⟩, by simp⟩ (fun acc W W' h hb => ⟨h.1.keep hb (by omega) (by omega) (by omega), h.2⟩) (fun j hj => by omega) (fun nth p a q hp h => value_up hp h)
    (fun W p nth acc hE hI hal hn hW => (list1_c ih hko hcap (by omega) (by omega) (by omega) (by omega) (by omega) (by omega) (by omega) W p nth acc hE hI.1 hal hn (by have := HS1.out; omega)).mono (fun e w' h => by
      cases hr : rValue mkObj k nth L p with
      | bad q x => rw [hr] at h; exact h
      | ok a q => rw [hr] at h; exact ⟨h.1, h.2.1, ⟨h.2.2.1, by rw [List.length_append]; show acc.length + 1 ≤ _; omega⟩, h.2.2.2⟩))
  rw [HRI.out] at hit
  have HIT := Lib.hid hit
  clear hit
  go_wp2_with fail
  refine HIT.out.mono ?_
  intro e w2 hp
  cases RI with
  | bad q x =>
    obtain ⟨rfl, hb⟩ := hp
    go_wp2_with fail
    rw [← (show RR.bad q x = RW from HRW.out)]
    exact ⟨rfl, rfl, ⟨hb.os.trans HB1.out.os, hb.tape.trans HB1.out.tape, hb.output.trans HB1.out.output, Nat.le_trans HB1.out.size hb.size, fun j hj hc => (hb.block j (Nat.lt_of_lt_of_le hj HB1.out.size) (by have := HPB.out; omega)).trans (HB1.out.block j hj (fun h => h))⟩⟩
  | ok l q =>
    obtain ⟨rfl, hE2, ⟨⟨LA, lc, hp2, ho2, hG2⟩, hl7⟩, hb2⟩ := hp
    have hvin := Grow.rdl (k := 0) (e := 0) hG2 rfl (by omega)
    have hr2 := (hb2.block (pb + 1) (Array.getElem?_eq_some_iff.1 HR1.out).1 (by omega)).trans HR1.out
    have hbw2 : But (fun j => j = sb) w w2 := ⟨hb2.os.trans HB1.out.os, hb2.tape.trans HB1.out.tape, hb2.output.trans HB1.out.output, Nat.le_trans HB1.out.size hb2.size, fun j hj hc => (hb2.block j (Nat.lt_of_lt_of_le hj HB1.out.size) (by have := HPB.out; omega)).trans (HB1.out.block j hj (fun h => h))⟩
    obtain ⟨t0, t1, t2, t3, t4, t5, t6⟩ := box7_of ho2
    have hhd := held_c w2 p hvin (fun b hb => hb.2)
    obtain ⟨V, hV⟩ : ∃ V : VT, (.mk 5 false [] 0 ⟨#[]⟩ l [] : VT) = V := ⟨_, rfl⟩
    rw [hV] at hhd hvin
    have HHD := Lib.hid hhd
    have HVI := Lib.hid hvin
    have HE2 := Lib.hid hE2
    have HBW2 := Lib.hid hbw2
    have HR2 := Lib.hid hr2
    have hq : (if 16384 < (seen V).length then RR.bad p 3 else RR.ok V q) = RW := by
      rw [← HRW.out, ← hV]; rfl
    have HQ := Lib.hid hq
    clear hhd hvin hE2 hb2 hbw2 hr2 hp2 ho2 hG2 hV hq HIT HRW
    by_cases h16 : 16384 < (seen V).length
    · have hhd := HHD.out
      rw [if_pos h16] at hhd
      have hq := HQ.out
      rw [if_pos h16] at hq
      clear h16 HQ HHD
      go_wp2_with fail
      refine hhd.mono ?_
      rintro e w3 ⟨rfl, hb3⟩
      go_wp2_with fail
      rw [← hq]
      exact ⟨rfl, rfl, HBW2.out.trans hb3.no⟩
    · have hhd := HHD.out
      rw [if_neg h16] at hhd
      have hq := HQ.out
      rw [if_neg h16] at hq
      have HQ2 := Lib.hid hq
      clear h16 HQ HHD hq
      go_wp2_with fail
      refine hhd.mono ?_
      rintro e w3 ⟨rfl, hb3⟩
      have hr3 := (hb3.block (pb + 1) (Array.getElem?_eq_some_iff.1 HR2.out).1 (fun h => h)).trans HR2.out
      have hvi3 := HVI.out.keep (w' := w3) (fun p hp => hb3.cell hp.2 (fun h => h))
      obtain ⟨y0, y1, y2, y3, y4, y5, y6⟩ := box7_of hr3
      have f0 : w3.frozen? ⟨pb + 1, 0, none⟩ = false := by simp [World.frozen?, hr3]
      have f1 : w3.frozen? ⟨pb + 1, 1, none⟩ = false := by simp [World.frozen?, hr3]
      have f2 : w3.frozen? ⟨pb + 1, 2, none⟩ = false := by simp [World.frozen?, hr3]
      have f3 : w3.frozen? ⟨pb + 1, 3, none⟩ = false := by simp [World.frozen?, hr3]
      have f4 : w3.frozen? ⟨pb + 1, 4, none⟩ = false := by simp [World.frozen?, hr3]
      have f5 : w3.frozen? ⟨pb + 1, 5, none⟩ = false := by simp [World.frozen?, hr3]
      have f6 : w3.frozen? ⟨pb + 1, 6, none⟩ = false := by simp [World.frozen?, hr3]
      have HE3 := Lib.hid (HE2.out.stay hb3 (fun _ _ h => h) (fun h => h))
      have HBW3 := Lib.hid (HBW2.out.trans (hb3.no (C := fun j => j = sb)))
      have HVI3 := Lib.hid hvi3
      have HSZ := Lib.hid hb3.size
      clear hr3 hvi3 hb3 hhd t0 t1 t2 t3 t4 t5 t6
      go_wp2_with fail
      have hC : But (fun j => j = pb + 1) w3 (((((((w3.setCell ⟨pb + 1, 0, none⟩ (.int .i64 5)).setCell ⟨pb + 1, 1, none⟩ (.bool false)).setCell ⟨pb + 1, 2, none⟩ (.slice none 0 0)).setCell ⟨pb + 1, 3, none⟩ (.int .i64 0)).setCell ⟨pb + 1, 4, none⟩ (.string ⟨#[]⟩)).setCell ⟨pb + 1, 5, none⟩ (.slice LA l.length lc)).setCell ⟨pb + 1, 6, none⟩ (.slice none 0 0)) := (But.setCell (C := fun j => j = pb + 1) (But.setCell (C := fun j => j = pb + 1) (But.setCell (C := fun j => j = pb + 1) (But.setCell (C := fun j => j = pb + 1) (But.setCell (C := fun j => j = pb + 1) (But.setCell (C := fun j => j = pb + 1) (But.setCell (C := fun j => j = pb + 1) (But.refl _ _) (p := ⟨pb + 1, 0, none⟩) (.inl rfl) _) (p := ⟨pb + 1, 1, none⟩) (.inl rfl) _) (p := ⟨pb + 1, 2, none⟩) (.inl rfl) _) (p := ⟨pb + 1, 3, none⟩) (.inl rfl) _) (p := ⟨pb + 1, 4, none⟩) (.inl rfl) _) (p := ⟨pb + 1, 5, none⟩) (.inl rfl) _) (p := ⟨pb + 1, 6, none⟩) (.inl rfl) _)
      refine bodyPost_ret (v := .agg #[.int .i64 5, .bool false, .slice none 0 0, .int .i64 0, .string ⟨#[]⟩, .slice LA l.length lc, .slice none 0 0]) (by simp [results, Tryz.results37, go_sem, y0, y1, y2, y3, y4, y5, y6]) rfl ?_
      rw [← HQ2.out]
      refine ⟨⟨_, rfl, _, rfl, ?_⟩, HE3.out.stay hC (fun j hj h => by omega) (fun h => by omega), ⟨hC.os.trans HBW3.out.os, hC.tape.trans HBW3.out.tape, hC.output.trans HBW3.out.output, Nat.le_trans HBW3.out.size hC.size, fun j hj hc => (hC.block j (Nat.lt_of_lt_of_le hj HBW3.out.size) (by have := HPB.out; omega)).trans (HBW3.out.block j hj hc)⟩⟩
      exact (HVI3.out.keep fun p hp => hC.cell (Nat.lt_of_lt_of_le hp.2 HSZ.out) (fun h => by have := hp.1; omega)).more fun b hb => ⟨by have := hb.1; have := HPB.out; omega, Nat.lt_of_lt_of_le hb.2 (Nat.le_trans HSZ.out hC.size)⟩
end Go.Proofs.YtpjllcengnolkaaGreatDoor
