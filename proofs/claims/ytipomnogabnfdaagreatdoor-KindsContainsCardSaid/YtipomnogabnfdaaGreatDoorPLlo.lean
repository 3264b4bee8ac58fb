/-
  What is cut off within: numbers, values; a text that is cut off. Pure, no program.
  Contracts of the reference's zeros and plain.
  Contract of utf.Count.
  Contracts of utf.Bounds and of the reference's Bounds.
  Contracts of the reference's text, Deep and Size (bolterref05).
  The scan: where it stands in memory, what a step of it tells. Contracts of peek, isDigit, one, need and skip.
  Contracts of the scan's digits and word.
  Contracts of the scan's low, coded and escape.
-/
import Derived.Test.YtipomnogabnfdaaGreatDoorPRcutn
import Derived.Test.YtipomnogabnfdaaGreatDoorPRcut
import Derived.Test.YtipomnogabnfdaaGreatDoorPDset
import Derived.Lib.ItoaNum
import Derived.Test.YtipomnogabnfdaaGreatDoorPNparse
import Derived.Test.YtipomnogabnfdaaGreatDoorPDop
import Derived.Test.YtipomnogabnfdaaGreatDoorPNapi
import Derived.PlainAid
import Derived.Test.YtipomnogabnfdaaGreatDoorPNrefe
import Derived.Lib.ItoaLen
import Derived.Test.YtipomnogabnfdaaGreatDoorPUcheck
import Derived.Laws.AppendOwnNone
import Derived.Maps.OwnIn
import Derived.Maps.AppendAt
import Derived.Laws.BytesArg
import Derived.WalkSpells
import Derived.WalkLawsBesides
import Derived.Deep.Draws
import Derived.BigRegion
import Derived.Deep.RegionWith
import Derived.Test.YtipomnogabnfdaaGreatDoorPVchk
import Derived.Test.YtipomnogabnfdaaGreatDoorPVob
import Derived.Laws.Concat
import Derived.Deep.AppendLies
import Derived.Deep.RegionHeld3
import Derived.Test.YtipomnogabnfdaaGreatDoorPVargs
import Derived.Test.YtipomnogabnfdaaGreatDoorPRahead
import Derived.Test.YtipomnogabnfdaaGreatDoorPVord
import Derived.Deep.QuietTactic
import Derived.BigQuiet
import Derived.Deep.Cut
import Derived.Deep.CutRange
import Derived.Test.YtipomnogabnfdaaGreatDoorPRgap
import Derived.Test.YtipomnogabnfdaaGreatDoorPArgs
import Derived.Test.YtipomnogabnfdaaGreatDoorPUpure
import Derived.Deep.CutBlock
import Derived.WalkKit
import Derived.Test.YtipomnogabnfdaaGreatDoorShelf
set_option linter.unusedVariables false
set_option linter.unusedSimpArgs false
namespace Go.Proofs.YtipomnogabnfdaaGreatDoor
open Go.Lib

theorem AtEnd.at {α β : Type} {F : Rd1 α} {G : α → Rd1 β} (hF : AtEnd F) (hG : ∀ a, AtEnd (G a)) : AtEnd (rAt F G) := fun b => by
  unfold rAt
  rcases hF b with h | ⟨a, h⟩
  · rw [h]; exact .inl rfl
  · rw [h]; exact hG a b
theorem AtEnd.pure {α : Type} (a : α) : AtEnd (rPure a) := fun b => .inr ⟨a, rfl⟩
theorem AtEnd.skip (f : UInt8 → Bool) : AtEnd (rSkip f) := fun b => by
  unfold rSkip
  rw [List.getElem?_eq_none (Nat.le_refl _)]
  exact .inr ⟨false, rfl⟩
theorem AtEnd.ite {α : Type} {c : Prop} [Decidable c] {F G : Rd1 α} (hF : AtEnd F) (hG : AtEnd G) : AtEnd (if c then F else G) := by
  by_cases h : c
  · rw [if_pos h]; exact hF
  · rw [if_neg h]; exact hG
theorem Needs.digits : Needs rDigits := (Needs.need _).at
theorem AtEnd.digits : AtEnd rDigits := fun b => .inl (Needs.digits b)
theorem C3.digits : C3 rDigits := C3.at2 (C2.need _) fun _ => C3.skips _
theorem C3.numeral : C3 rNumeral := by
  have e6 : AtEnd (rAt (rSkip fun c => c == 101 || c == 69) fun e => if e then rAt (rSkip fun c => c == 43 || c == 45) fun _ => rDigits else rPure ()) :=
    (AtEnd.skip _).at fun e => AtEnd.ite ((AtEnd.skip _).at fun _ => AtEnd.digits) (AtEnd.pure ())
  have c6 : C3 (rAt (rSkip fun c => c == 101 || c == 69) fun e => if e then rAt (rSkip fun c => c == 43 || c == 45) fun _ => rDigits else rPure ()) :=
    (C3.skip _).at (fun e => C3.ite ((C3.skip _).at (fun _ => C3.digits) fun _ => AtEnd.digits) (C2.pure ()).c3) fun e => AtEnd.ite ((AtEnd.skip _).at fun _ => AtEnd.digits) (AtEnd.pure ())
  have e5 : ∀ f : Bool, AtEnd (rAt (if f then rDigits else rPure ()) fun _ => rAt (rSkip fun c => c == 101 || c == 69) fun e => if e then rAt (rSkip fun c => c == 43 || c == 45) fun _ => rDigits else rPure ()) :=
    fun f => (AtEnd.ite AtEnd.digits (AtEnd.pure ())).at fun _ => e6
  have c5 : ∀ f : Bool, C3 (rAt (if f then rDigits else rPure ()) fun _ => rAt (rSkip fun c => c == 101 || c == 69) fun e => if e then rAt (rSkip fun c => c == 43 || c == 45) fun _ => rDigits else rPure ()) :=
    fun f => (C3.ite C3.digits (C2.pure ()).c3).at (fun _ => c6) fun _ => e6
  have e3 : ∀ z : Bool, AtEnd (rAt (if z then rPure () else rDigits) fun _ => rAt (rSkip (· == 46)) fun f => rAt (if f then rDigits else rPure ()) fun _ => rAt (rSkip fun c => c == 101 || c == 69) fun e => if e then rAt (rSkip fun c => c == 43 || c == 45) fun _ => rDigits else rPure ()) :=
    fun z => (AtEnd.ite (AtEnd.pure ()) AtEnd.digits).at fun _ => (AtEnd.skip _).at e5
  have c3 : ∀ z : Bool, C3 (rAt (if z then rPure () else rDigits) fun _ => rAt (rSkip (· == 46)) fun f => rAt (if f then rDigits else rPure ()) fun _ => rAt (rSkip fun c => c == 101 || c == 69) fun e => if e then rAt (rSkip fun c => c == 43 || c == 45) fun _ => rDigits else rPure ()) :=
    fun z => (C3.ite (C2.pure ()).c3 C3.digits).at (fun _ => (C3.skip _).at c5 e5) fun _ => (AtEnd.skip _).at e5
  unfold rNumeral
  exact (C3.skip _).at (fun _ => (C3.skip _).at c3 e3) fun _ => (AtEnd.skip _).at e3
theorem Needs.numeral : Needs rNumeral := fun b => by
  have hs : ∀ f, rSkip f b b.length = .ok false b.length := fun f => by
    unfold rSkip
    rw [List.getElem?_eq_none (Nat.le_refl _)]
  unfold rNumeral rAt
  rw [hs]
  simp only [RR.bind]
  rw [hs]
  simp only
  rw [if_neg (by decide), Needs.digits b]
theorem Needs.number : Needs rNumber := fun b => by
  unfold rNumber
  rw [Needs.numeral b]
  rfl
theorem numeral_eats {b : List UInt8} {p q : Nat} (hp : p < b.length) (h : rNumeral b p = .ok () q) : p < q := by
  have hup := Good.numeral.up b p () q (by omega) h
  have hf := numeral_form (by omega) h
  rcases Nat.lt_or_ge p q with hl | hl
  · exact hl
  · exfalso
    obtain rfl : q = p := by omega
    have : cutN b q q = [] := by unfold cutN; rw [Nat.sub_self]; rfl
    rw [this] at hf
    exact absurd hf (by decide)
theorem cut_take {b : List UInt8} {p q n : Nat} (hq : q ≤ n) : cutN (b.take n) p q = cutN b p q := by
  unfold cutN
  rw [take_drop2, List.take_take, Nat.min_eq_left (by omega)]
theorem number_got {b : List UInt8} {p q : Nat} {v : VT} (h : rNumber b p = .ok v q) : rNumeral b p = .ok () q ∧ fE (cutN b p q) = 0 ∧ rApart b q = .ok () q ∧ v = numV (cutN b p q) := by
  unfold rNumber at h
  cases hf : rNumeral b p with
  | bad q1 e => rw [hf] at h; cases h
  | ok u q1 =>
    rw [hf] at h
    simp only [RR.bind] at h
    split at h
    · rename_i h0
      cases ha : rApart b q1 with
      | bad q2 e => rw [ha] at h; cases h
      | ok u2 q2 =>
        rw [ha] at h
        injection h with h1 h2
        have e2 : q2 = q1 := by
          unfold rApart at ha
          split at ha
          · split at ha
            · cases ha
            · injection ha with _ h3; exact h3.symm
          · injection ha with _ h3; exact h3.symm
        subst e2
        subst h2
        exact ⟨rfl, h0, ha, h1.symm⟩
    · cases h
theorem E3.number : E3 rNumber := by
  refine ⟨fun b p a q hp h => ?_, fun b p a q n hp hn h hq => ?_, fun b p a q n hp hn h hq => ?_⟩ <;> obtain ⟨h1, h2, h3, h4⟩ := number_got h
  · exact ⟨numeral_eats (by omega) h1, (Good.numeral.up b p () q (by omega) h1).2⟩
  · have b1 := C3.numeral.back b p () q n (by omega) hn h1 hq
    have b3 := C3.apart.back b q () q n hq hn h3 hq
    unfold rNumber
    rw [b1]
    simp only [RR.bind]
    rw [cut_take hq, if_pos h2, b3, h4]
  · rcases C3.numeral.cut b p () q n (by omega) hn h1 hq with h5 | ⟨u, h5⟩
    · exact .inl h5.bind
    · have hl : p ≤ (b.take n).length := by rw [take_len hn]; omega
      have he := numeral_err hl h5
      unfold rNumber
      rw [h5]
      simp only [RR.bind]
      rcases he with he | he
      · rw [if_pos he]
        have : rApart (b.take n) n = .ok () n := by unfold rApart; rw [take_end]
        rw [this]
        exact .inr ⟨_, rfl⟩
      · have h0 : fE (cutN (b.take n) p n) ≠ 0 := by unfold NumE at he; omega
        rw [if_neg h0]
        exact .inl (.inr ⟨_, _, rfl, he⟩)
theorem E3.low {c : UInt8} : E3 (if c == 110 then rAt (rWord [110, 117, 108, 108]) fun _ => rPure (numT0 0) else if c == 102 then rAt (rWord [102, 97, 108, 115, 101]) fun _ => rPure (numT0 1) else if c == 116 then rAt (rWord [116, 114, 117, 101]) fun _ => rPure (numT0 2) else rNumber) :=
  E3.ite (E3.map (g := fun _ => numT0 0) (E3.word _ _)) (E3.ite (E3.map (g := fun _ => numT0 1) (E3.word _ _)) (E3.ite (E3.map (g := fun _ => numT0 2) (E3.word _ _)) E3.number))
theorem E2.texts : E2 (rAt rText fun t => rPure (.mk 4 false [] 0 t [] [] : VT)) := E2.at' E2.text fun t => C2.pure _
theorem E2.pair (mk : List (ByteArray × VT) → VT) (k : Nat) (ih : ∀ n, E3 (rValue mk k n)) (n : Nat) : E3 (rAt (rKey n) fun key => rAt (rSkips isWs) fun _ => rAt (rNeed (· == 58)) fun _ => rAt (rSkips isWs) fun _ => rAt (rValue mk k n) fun v => rPure (key, v)) := by
  refine E3.at2 (E2.key n) fun key => ?_
  have hv : C3 (rAt (rValue mk k n) fun v => rPure (key, v)) := (E3.map (g := fun v => (key, v)) (ih n)).c3 (value_needs mk k n).at
  have hvn : Needs (rAt (rValue mk k n) fun v => rPure (key, v)) := (value_needs mk k n).at
  have e : AtEnd (rAt (rValue mk k n) fun v => rPure (key, v)) := fun b => .inl (hvn b)
  have c4 : C3 (rAt (rSkips isWs) fun _ => rAt (rValue mk k n) fun v => rPure (key, v)) := (C3.skips _).at (fun _ => hv) fun _ => e
  have c5 : C3 (rAt (rNeed (· == 58)) fun _ => rAt (rSkips isWs) fun _ => rAt (rValue mk k n) fun v => rPure (key, v)) := C3.at2 (C2.need _) fun _ => c4
  exact (C3.skips _).at (fun _ => c5) fun _ b => .inl (((Needs.need _).at : Needs (rAt (rNeed (· == 58)) fun _ => rAt (rSkips isWs) fun _ => rAt (rValue mk k n) fun v => rPure (key, v))) b)
theorem E3.value (mk : List (ByteArray × VT) → VT) : ∀ k nth, E3 (rValue mk k nth)
  | 0, nth => by
    unfold rValue
    exact E3.stay (Stay.begin 0 nth) fun _ => E3.stay Stay.peek fun c => E3.ite E2.texts.e3 E3.low
  | k + 1, nth => by
    have ih := E3.value mk k
    have hn := value_needs mk k
    unfold rValue
    exact E3.stay (Stay.begin (k + 1) nth) fun _ => E3.stay Stay.peek fun c => E3.ite (E2.held (E2.items ih hn) _).e3 (E3.ite (E2.held (E2.items (E2.pair mk k ih) fun n => Needs.see.at) _).e3 (E3.ite E2.texts.e3 E3.low))
end Go.Proofs.YtipomnogabnfdaaGreatDoor

namespace Go.Proofs.YtipomnogabnfdaaGreatDoor
open Go.RowKit

theorem ResB.one (w : World) (x : Nat) (hx : x < 256) : ResB (w.alloc (.cells #[.int .u8 (x : Int)] 5)) w.heap.size (some ⟨w.heap.size, 0, none⟩) 1 1 [x] := by
  refine ⟨rfl, L8.one hx, ?_⟩
  have h := World.ownsRow_lit (base := w.heap.size) (e := 5) (size := 1) w #[.int .u8 (x : Int)] 1 (Nat.le_refl _) (by unfold maxLen; omega) (by simp)
  show World.ownsRow _ _ _ _ _ _ [Value.int .u8 (x : Int)]
  simpa using h
end Go.Proofs.YtipomnogabnfdaaGreatDoor

namespace Go.Proofs.YtipomnogabnfdaaGreatDoor
open Go.RowKit Go.Lib

theorem rc_from (s : ByteArray) : ∀ f pos, s.size ≤ pos + f → runeCountFrom s f pos = (pcs (s.data.toList.drop pos)).length := by
  have hsz : s.size = s.data.toList.length := by rw [Array.length_toList]; rfl
  intro f
  induction f with
  | zero =>
    intro pos h
    rw [List.drop_eq_nil_of_le (by omega)]
    rfl
  | succ f ih =>
    intro pos h
    by_cases hp : pos < s.size
    · have hne : s.data.toList.drop pos ≠ [] := by
        intro e
        have := congrArg List.length e
        rw [List.length_drop, List.length_nil] at this
        omega
      have hw := wid_ge (s.data.toList.drop pos)
      rw [pcs_cons hne, List.length_cons]
      unfold runeCountFrom
      rw [if_pos hp, ← decodeL_drop s pos]
      rw [ih (pos + (decodeL (s.data.toList.drop pos)).2) (by unfold wid at hw; omega), List.drop_drop]
      unfold wid
      omega
    · rw [runeCountFrom_end s _ pos hp, List.drop_eq_nil_of_le (by omega)]
      rfl
theorem rc_eq (s : ByteArray) : runeCount s = (pcs s.data.toList).length := by
  have := rc_from s s.size 0 (by omega)
  rw [List.drop_zero] at this
  exact this
theorem rcount_c (s : ByteArray) (w : World) (hs : s.size ≤ 140737488355328) :
    Calls Tryz.prog 64 #[.string s] w fun e w' => e = .returned (.int .i64 ((pcs s.data.toList).length : Int)) ∧ Below w.heap.size w w' := by
  refine (Tryz.utf8_RuneCountInString s w (by omega)).mono ?_
  rintro e w' ⟨rfl, pos, rfl⟩
  rw [rc_eq]
  exact ⟨rfl, (Below.refl _ _).alloc (Nat.le_refl _) _⟩
def cntT (L : List UInt8) : Nat := if isT L = true then (pcs L).length else 0
theorem pcs_len (L : List UInt8) : (pcs L).length ≤ L.length := by
  refine text_ind (p := fun l => (pcs l).length ≤ l.length) (Nat.le_refl _) (fun l hl ih => ?_) L
  have h1 := wid_ge l
  have h2 := wid_le hl
  rw [List.length_drop] at ih
  show (pcs l).length ≤ l.length
  rw [pcs_cons hl, List.length_cons]
  omega

set_option maxRecDepth 100000 in
theorem Count_c (s : ByteArray) (w : World) (hT : Tabs w) (hs : s.size ≤ 140737488355328) :
    Calls Tryz.prog 37 #[.string s] w fun e w' => e = .returned (.tuple #[.int .i64 (cntT s.data.toList : Int), .int .i64 (errT s.data.toList : Int)]) ∧ Below w.heap.size w w' := by
  have hC := UCheck_c s w hT hs
  have hR := fun W => rcount_c s W hs
  generalize s.data.toList = L at hC hR ⊢
  generalize hB : badAt L = B at hC
  clear hB
  by_cases h : isT L = true
  · have e1 : errT L = 0 := by unfold errT; rw [if_pos h]
    have e2 : cntT L = (pcs L).length := by unfold cntT; rw [if_pos h]
    rw [e1] at hC ⊢
    rw [e2]
    generalize (pcs L).length = N at hR ⊢
    clear e1 e2 h
    go_enter Tryz.func37, Tryz.ntmps37
    go_wp2_with fail
    refine hC.mono ?_
    rintro e w1 ⟨rfl, hb1⟩
    go_wp2_with fail
    refine (hR w1).mono ?_
    rintro e w2 ⟨rfl, hb2⟩
    go_wp2
    go_ret2
    exact ⟨rfl, hb1.trans (hb2.mono hb1.size)⟩
  · have e1 : errT L = 61 := by unfold errT; rw [if_neg h]
    have e2 : cntT L = 0 := by unfold cntT; rw [if_neg h]
    rw [e1] at hC ⊢
    rw [e2]
    clear e1 e2 h
    go_enter Tryz.func37, Tryz.ntmps37
    go_wp2_with fail
    refine hC.mono ?_
    rintro e w1 ⟨rfl, hb1⟩
    go_wp2
    go_ret2
    exact ⟨rfl, hb1⟩
end Go.Proofs.YtipomnogabnfdaaGreatDoor

namespace Go.Proofs.YtipomnogabnfdaaGreatDoor
open Go.RowKit Go.Lib

/-- A place put into bounds. -/
def wi (n p : Int) : Int := min (max (if p < 0 then p + n else p) 0) n
end Go.Proofs.YtipomnogabnfdaaGreatDoor

namespace Go.Proofs.YtipomnogabnfdaaGreatDoor
open Go.RowKit Go.Lib

theorem VIn.seven {w : World} {S : Nat → Prop} {x : VT} {cs : List Value} (h : VIn w S x cs) : ∃ k neg A n c e t LA ln lc KA kn kc, cs = [.int .i64 k, .bool neg, .slice A n c, .int .i64 e, .string t, .slice LA ln lc, .slice KA kn kc] ∧ x.kind = k ∧ RdL w S LA ln x.list := by
  cases x with
  | mk k neg xs e t l ks =>
    obtain ⟨A, n, c, LA, ln, lc, KA, kn, kc, rfl, _, _, _, hl, _⟩ := h.parts
    exact ⟨k, neg, A, n, c, e, t, LA, ln, lc, KA, kn, kc, rfl, rfl, hl⟩

end Go.Proofs.YtipomnogabnfdaaGreatDoor

namespace Go.Proofs.YtipomnogabnfdaaGreatDoor
open Go.RowKit Go.Lib

/-- All blocks stay but those of C. -/
structure But (C : Nat → Prop) (w w' : World) : Prop where
  os : w'.os = w.os
  tape : w'.tape = w.tape
  output : w'.output = w.output
  size : w.heap.size ≤ w'.heap.size
  block : ∀ k, k < w.heap.size → ¬ C k → w'.heap[k]? = w.heap[k]?
theorem But.refl (C : Nat → Prop) (w : World) : But C w w := ⟨rfl, rfl, rfl, Nat.le_refl _, fun _ _ _ => rfl⟩
theorem But.trans {C : Nat → Prop} {a b c : World} (h : But C a b) (k : But C b c) : But C a c :=
  ⟨k.os.trans h.os, k.tape.trans h.tape, k.output.trans h.output, Nat.le_trans h.size k.size, fun i hi hc => (k.block i (Nat.lt_of_lt_of_le hi h.size) hc).trans (h.block i hi hc)⟩
theorem But.mono {C D : Nat → Prop} {a b : World} (h : But C a b) (hD : ∀ k, k < a.heap.size → C k → D k) : But D a b :=
  ⟨h.os, h.tape, h.output, h.size, fun i hi hc => h.block i hi fun h2 => hc (hD i hi h2)⟩
theorem But.of {C : Nat → Prop} {w w' : World} (h : Below w.heap.size w w') : But C w w' := ⟨h.os, h.tape, h.output, h.size, fun k hk _ => h.block k hk⟩
/-- A store into a block of C, or into a new one. -/
theorem But.setCell {C : Nat → Prop} {a w : World} (h : But C a w) {p : Addr} (hp : C p.block ∨ a.heap.size ≤ p.block) (u : Value) : But C a (w.setCell p u) :=
  ⟨h.os, h.tape, h.output, by simpa [World.setCell] using h.size, fun k hk hc => (Below.heap_setCell _ _ _ _ (by rintro rfl; rcases hp with hp | hp; exact hc hp; omega)).trans (h.block k hk hc)⟩
theorem But.drew {C : Nat → Prop} {a w : World} (h : But C a w) : But C a w.drew := ⟨h.os, h.tape, h.output, h.size, h.block⟩
theorem But.drewN {C : Nat → Prop} {a w : World} (h : But C a w) (k : Nat) : But C a (w.drewN k) := ⟨h.os, h.tape, h.output, h.size, h.block⟩
theorem But.alloc {C : Nat → Prop} {a w : World} (h : But C a w) (o : Obj) : But C a (w.alloc o) := h.trans (But.of ((Below.refl _ _).alloc (Nat.le_refl _) o))
theorem But.below {C : Nat → Prop} {B : Nat} {w w' : World} (h : But C w w') (hB : B ≤ w.heap.size) (hC : ∀ k, k < B → ¬ C k) : Below B w w' :=
  ⟨h.os, h.tape, h.output, h.size, fun k hk => h.block k (Nat.lt_of_lt_of_le hk hB) (hC k hk)⟩
theorem But.cell {C : Nat → Prop} {w w' : World} (h : But C w w') {p : Addr} (hp : p.block < w.heap.size) (hc : ¬ C p.block) : w'.cell? p = w.cell? p := World.cell?_of_block (h.block _ hp hc)
theorem cell_at3 {w : World} {b i : Nat} {vs : Array Value} {v : Value} {t : TypeId} (h : w.heap[b]? = some (.cells vs t)) (hi : vs[i]? = some v) : w.cell? ⟨b, i, none⟩ = some v := by
  simp [World.cell?, h, hi]
variable {B : Nat} {L : List UInt8} {A : Option Addr} {c sb : Nat}

end Go.Proofs.YtipomnogabnfdaaGreatDoor

namespace Go.Proofs.YtipomnogabnfdaaGreatDoor
open Go.RowKit Go.Lib
variable {B : Nat} {L : List UInt8} {A : Option Addr} {c sb : Nat}

/-- Where digits end. -/
def dgE (L : List UInt8) (p : Nat) : Nat := p + ((L.drop p).takeWhile isDg).length
end Go.Proofs.YtipomnogabnfdaaGreatDoor

namespace Go.Proofs.YtipomnogabnfdaaGreatDoor
open Go.RowKit Go.Lib
variable {B : Nat} {L : List UInt8} {A : Option Addr} {c sb : Nat}

theorem But.no {C : Nat → Prop} {w w' : World} (h : But (fun _ => False) w w') : But C w w' := h.mono (fun _ _ h => h.elim)
end Go.Proofs.YtipomnogabnfdaaGreatDoor
