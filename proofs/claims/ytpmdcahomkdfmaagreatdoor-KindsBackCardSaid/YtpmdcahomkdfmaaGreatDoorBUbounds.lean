/-
  What is cut off within: numbers, values; a text that is cut off. Pure, no program.
  The object that is made of keys and values that may be, may be alone. Pure, no program.
  Contracts of the reference's zeros and plain.
  Rows of values of one cell each: one of the call's own, and a slice that reads as one; how both abide what happens beside them. No condition.
  Contract of utf.Count.
  Contracts of utf.Bounds and of the reference's Bounds.
-/
import Derived.Test.YtpmdcahomkdfmaaGreatDoorBRcutn
import Derived.Test.YtpmdcahomkdfmaaGreatDoorBRtail
import Derived.Test.YtpmdcahomkdfmaaGreatDoorBVcm
import Derived.Test.YtpmdcahomkdfmaaGreatDoorBVob
import Derived.Test.YtpmdcahomkdfmaaGreatDoorBDset
import Derived.Lib.ItoaNum
import Derived.Test.YtpmdcahomkdfmaaGreatDoorBNparse
import Derived.Test.YtpmdcahomkdfmaaGreatDoorBDintc
import Derived.Test.YtpmdcahomkdfmaaGreatDoorBNapi
import Derived.PlainAid
import Derived.Test.YtpmdcahomkdfmaaGreatDoorBNrefe
import Derived.Lib.ItoaLen
import Derived.Test.YtpmdcahomkdfmaaGreatDoorBUcheck
import Derived.Laws.AppendOwnNone
import Derived.Maps.OwnIn
import Derived.Maps.AppendAt
import Derived.Laws.BytesArg
import Derived.WalkSpells
import Derived.WalkLawsBesides
import Derived.Deep.Draws
import Derived.BigRegion
import Derived.Deep.RegionWith
set_option linter.unusedVariables false
set_option linter.unusedSimpArgs false
namespace Go.Proofs.YtpmdcahomkdfmaaGreatDoor
open Go.Lib

theorem AtEnd.at {α β : Type} {F : Rd1 α} {G : α → Rd1 β} (hF : AtEnd F) (hG : ∀ a, AtEnd (G a)) : AtEnd (rAt F G) := fun b => by
  unfold rAt
  rcases hF b with h | ⟨a, h⟩
  · rw [h]; exact .inl rfl
  · rw [h]; exact hG a b
theorem AtEnd.pure {α : Type} (a : α) : AtEnd (rPure a) := fun b => .inr ⟨a, rfl⟩
theorem AtEnd.skip (f : UInt8 → Bool) : AtEnd (rSkip f) := fun b => by
  unfold rSkip
  rw [List.getElem?_eq_none (Nat.le_refl _)]
  exact .inr ⟨false, rfl⟩
theorem AtEnd.ite {α : Type} {c : Prop} [Decidable c] {F G : Rd1 α} (hF : AtEnd F) (hG : AtEnd G) : AtEnd (if c then F else G) := by
  by_cases h : c
  · rw [if_pos h]; exact hF
  · rw [if_neg h]; exact hG
theorem Needs.digits : Needs rDigits := (Needs.need _).at
theorem AtEnd.digits : AtEnd rDigits := fun b => .inl (Needs.digits b)
theorem C3.digits : C3 rDigits := C3.at2 (C2.need _) fun _ => C3.skips _
theorem C3.numeral : C3 rNumeral := by
  have e6 : AtEnd (rAt (rSkip fun c => c == 101 || c == 69) fun e => if e then rAt (rSkip fun c => c == 43 || c == 45) fun _ => rDigits else rPure ()) :=
    (AtEnd.skip _).at fun e => AtEnd.ite ((AtEnd.skip _).at fun _ => AtEnd.digits) (AtEnd.pure ())
  have c6 : C3 (rAt (rSkip fun c => c == 101 || c == 69) fun e => if e then rAt (rSkip fun c => c == 43 || c == 45) fun _ => rDigits else rPure ()) :=
    (C3.skip _).at (fun e => C3.ite ((C3.skip _).at (fun _ => C3.digits) fun _ => AtEnd.digits) (C2.pure ()).c3) fun e => AtEnd.ite ((AtEnd.skip _).at fun _ => AtEnd.digits) (AtEnd.pure ())
  have e5 : ∀ f : Bool, AtEnd (rAt (if f then rDigits else rPure ()) fun _ => rAt (rSkip fun c => c == 101 || c == 69) fun e => if e then rAt (rSkip fun c => c == 43 || c == 45) fun _ => rDigits else rPure ()) :=
    fun f => (AtEnd.ite AtEnd.digits (AtEnd.pure ())).at fun _ => e6
  have c5 : ∀ f : Bool, C3 (rAt (if f then rDigits else rPure ()) fun _ => rAt (rSkip fun c => c == 101 || c == 69) fun e => if e then rAt (rSkip fun c => c == 43 || c == 45) fun _ => rDigits else rPure ()) :=
    fun f => (C3.ite C3.digits (C2.pure ()).c3).at (fun _ => c6) fun _ => e6
  have e3 : ∀ z : Bool, AtEnd (rAt (if z then rPure () else rDigits) fun _ => rAt (rSkip (· == 46)) fun f => rAt (if f then rDigits else rPure ()) fun _ => rAt (rSkip fun c => c == 101 || c == 69) fun e => if e then rAt (rSkip fun c => c == 43 || c == 45) fun _ => rDigits else rPure ()) :=
    fun z => (AtEnd.ite (AtEnd.pure ()) AtEnd.digits).at fun _ => (AtEnd.skip _).at e5
  have c3 : ∀ z : Bool, C3 (rAt (if z then rPure () else rDigits) fun _ => rAt (rSkip (· == 46)) fun f => rAt (if f then rDigits else rPure ()) fun _ => rAt (rSkip fun c => c == 101 || c == 69) fun e => if e then rAt (rSkip fun c => c == 43 || c == 45) fun _ => rDigits else rPure ()) :=
    fun z => (C3.ite (C2.pure ()).c3 C3.digits).at (fun _ => (C3.skip _).at c5 e5) fun _ => (AtEnd.skip _).at e5
  unfold rNumeral
  exact (C3.skip _).at (fun _ => (C3.skip _).at c3 e3) fun _ => (AtEnd.skip _).at e3
theorem Needs.numeral : Needs rNumeral := fun b => by
  have hs : ∀ f, rSkip f b b.length = .ok false b.length := fun f => by
    unfold rSkip
    rw [List.getElem?_eq_none (Nat.le_refl _)]
  unfold rNumeral rAt
  rw [hs]
  simp only [RR.bind]
  rw [hs]
  simp only
  rw [if_neg (by decide), Needs.digits b]
theorem Needs.number : Needs rNumber := fun b => by
  unfold rNumber
  rw [Needs.numeral b]
  rfl
theorem numeral_eats {b : List UInt8} {p q : Nat} (hp : p < b.length) (h : rNumeral b p = .ok () q) : p < q := by
  have hup := Good.numeral.up b p () q (by omega) h
  have hf := numeral_form (by omega) h
  rcases Nat.lt_or_ge p q with hl | hl
  · exact hl
  · exfalso
    obtain rfl : q = p := by omega
    have : cutN b q q = [] := by unfold cutN; rw [Nat.sub_self]; rfl
    rw [this] at hf
    exact absurd hf (by decide)
theorem cut_take {b : List UInt8} {p q n : Nat} (hq : q ≤ n) : cutN (b.take n) p q = cutN b p q := by
  unfold cutN
  rw [take_drop2, List.take_take, Nat.min_eq_left (by omega)]
theorem number_got {b : List UInt8} {p q : Nat} {v : VT} (h : rNumber b p = .ok v q) : rNumeral b p = .ok () q ∧ fE (cutN b p q) = 0 ∧ rApart b q = .ok () q ∧ v = numV (cutN b p q) := by
  unfold rNumber at h
  cases hf : rNumeral b p with
  | bad q1 e => rw [hf] at h; cases h
  | ok u q1 =>
    rw [hf] at h
    simp only [RR.bind] at h
    split at h
    · rename_i h0
      cases ha : rApart b q1 with
      | bad q2 e => rw [ha] at h; cases h
      | ok u2 q2 =>
        rw [ha] at h
        injection h with h1 h2
        have e2 : q2 = q1 := by
          unfold rApart at ha
          split at ha
          · split at ha
            · cases ha
            · injection ha with _ h3; exact h3.symm
          · injection ha with _ h3; exact h3.symm
        subst e2
        subst h2
        exact ⟨rfl, h0, ha, h1.symm⟩
    · cases h
theorem E3.number : E3 rNumber := by
  refine ⟨fun b p a q hp h => ?_, fun b p a q n hp hn h hq => ?_, fun b p a q n hp hn h hq => ?_⟩ <;> obtain ⟨h1, h2, h3, h4⟩ := number_got h
  · exact ⟨numeral_eats (by omega) h1, (Good.numeral.up b p () q (by omega) h1).2⟩
  · have b1 := C3.numeral.back b p () q n (by omega) hn h1 hq
    have b3 := C3.apart.back b q () q n hq hn h3 hq
    unfold rNumber
    rw [b1]
    simp only [RR.bind]
    rw [cut_take hq, if_pos h2, b3, h4]
  · rcases C3.numeral.cut b p () q n (by omega) hn h1 hq with h5 | ⟨u, h5⟩
    · exact .inl h5.bind
    · have hl : p ≤ (b.take n).length := by rw [take_len hn]; omega
      have he := numeral_err hl h5
      unfold rNumber
      rw [h5]
      simp only [RR.bind]
      rcases he with he | he
      · rw [if_pos he]
        have : rApart (b.take n) n = .ok () n := by unfold rApart; rw [take_end]
        rw [this]
        exact .inr ⟨_, rfl⟩
      · have h0 : fE (cutN (b.take n) p n) ≠ 0 := by unfold NumE at he; omega
        rw [if_neg h0]
        exact .inl (.inr ⟨_, _, rfl, he⟩)
theorem E3.low {c : UInt8} : E3 (if c == 110 then rAt (rWord [110, 117, 108, 108]) fun _ => rPure (numT0 0) else if c == 102 then rAt (rWord [102, 97, 108, 115, 101]) fun _ => rPure (numT0 1) else if c == 116 then rAt (rWord [116, 114, 117, 101]) fun _ => rPure (numT0 2) else rNumber) :=
  E3.ite (E3.map (g := fun _ => numT0 0) (E3.word _ _)) (E3.ite (E3.map (g := fun _ => numT0 1) (E3.word _ _)) (E3.ite (E3.map (g := fun _ => numT0 2) (E3.word _ _)) E3.number))
theorem E2.texts : E2 (rAt rText fun t => rPure (.mk 4 false [] 0 t [] [] : VT)) := E2.at' E2.text fun t => C2.pure _
theorem E2.pair (mk : List (ByteArray × VT) → VT) (k : Nat) (ih : ∀ n, E3 (rValue mk k n)) (n : Nat) : E3 (rAt (rKey n) fun key => rAt (rSkips isWs) fun _ => rAt (rNeed (· == 58)) fun _ => rAt (rSkips isWs) fun _ => rAt (rValue mk k n) fun v => rPure (key, v)) := by
  refine E3.at2 (E2.key n) fun key => ?_
  have hv : C3 (rAt (rValue mk k n) fun v => rPure (key, v)) := (E3.map (g := fun v => (key, v)) (ih n)).c3 (value_needs mk k n).at
  have hvn : Needs (rAt (rValue mk k n) fun v => rPure (key, v)) := (value_needs mk k n).at
  have e : AtEnd (rAt (rValue mk k n) fun v => rPure (key, v)) := fun b => .inl (hvn b)
  have c4 : C3 (rAt (rSkips isWs) fun _ => rAt (rValue mk k n) fun v => rPure (key, v)) := (C3.skips _).at (fun _ => hv) fun _ => e
  have c5 : C3 (rAt (rNeed (· == 58)) fun _ => rAt (rSkips isWs) fun _ => rAt (rValue mk k n) fun v => rPure (key, v)) := C3.at2 (C2.need _) fun _ => c4
  exact (C3.skips _).at (fun _ => c5) fun _ b => .inl (((Needs.need _).at : Needs (rAt (rNeed (· == 58)) fun _ => rAt (rSkips isWs) fun _ => rAt (rValue mk k n) fun v => rPure (key, v))) b)
theorem E3.value (mk : List (ByteArray × VT) → VT) : ∀ k nth, E3 (rValue mk k nth)
  | 0, nth => by
    unfold rValue
    exact E3.stay (Stay.begin 0 nth) fun _ => E3.stay Stay.peek fun c => E3.ite E2.texts.e3 E3.low
  | k + 1, nth => by
    have ih := E3.value mk k
    have hn := value_needs mk k
    unfold rValue
    exact E3.stay (Stay.begin (k + 1) nth) fun _ => E3.stay Stay.peek fun c => E3.ite (E2.held (E2.items ih hn) _).e3 (E3.ite (E2.held (E2.items (E2.pair mk k ih) fun n => Needs.see.at) _).e3 (E3.ite E2.texts.e3 E3.low))
end Go.Proofs.YtpmdcahomkdfmaaGreatDoor

namespace Go.Proofs.YtpmdcahomkdfmaaGreatDoor
open Go.Lib

theorem keysL_lt (ks : List ByteArray) : (keysL ks).Pairwise (· < ·) := by
  have tr : ∀ a b c : List UInt8, leB a b = true → leB b c = true → leB a c = true := fun a b c h1 h2 => by simp only [leB, decide_eq_true_eq] at *; exact List.le_trans h1 h2
  have tot : ∀ a b : List UInt8, (leB a b || leB b a) = true := fun a b => by simp only [leB, Bool.or_eq_true, decide_eq_true_eq]; exact List.le_total a b
  have h1 : (keysL ks).Pairwise (fun a b => leB a b = true) := List.pairwise_mergeSort tr tot _
  have h2 : (keysL ks).Nodup := (List.mergeSort_perm _ _).nodup_iff.2 (lastD_nodup ks ks.length)
  refine (h1.and h2).imp fun {a b} h => ?_
  have h3 : a ≤ b := by simpa [leB] using h.1
  rcases List.le_iff_lt_or_eq.1 h3 with h4 | h4
  · exact h4
  · exact absurd h4 h.2
theorem keysB_rises (ks : List ByteArray) : rises (keysB ks) = true := by
  rw [rises_iff]
  intro j a b hj ha hb
  unfold keysB at ha hb hj
  rw [List.length_map] at hj
  rw [List.getElem?_map, List.getElem?_eq_getElem (by omega)] at ha hb
  injection ha with ha
  injection hb with hb
  subst ha hb
  rw [bytesLess_eq]
  rw [ByteArray.toList_eq, ByteArray.toList_eq]
  exact decide_eq_true (List.pairwise_iff_getElem.1 (keysL_lt ks) j (j + 1) (by omega) (by omega) (by omega))
theorem lastAt_mem {ks : List ByteArray} {s : ByteArray} {i : Nat} (h : lastAt ks s ks.length = some i) : i < ks.length ∧ s ∈ ks := by
  obtain ⟨h1, h2, _⟩ := lastAt_some h
  refine ⟨h1, ?_⟩
  rw [← h2, List.getD_eq_getElem?_getD, List.getElem?_eq_getElem h1]
  exact List.getElem_mem h1
theorem keysB_in {ks : List ByteArray} {s : ByteArray} (h : s ∈ keysB ks) : s ∈ ks := by
  have h1 := keysB_mem.1 h
  cases h2 : lastAt ks s ks.length with
  | none => rw [h2] at h1; cases h1
  | some i => exact (lastAt_mem h2).2
end Go.Proofs.YtpmdcahomkdfmaaGreatDoor

namespace Go.Proofs.YtpmdcahomkdfmaaGreatDoor
open Go.RowKit

theorem ResB.one (w : World) (x : Nat) (hx : x < 256) : ResB (w.alloc (.cells #[.int .u8 (x : Int)] 5)) w.heap.size (some ⟨w.heap.size, 0, none⟩) 1 1 [x] := by
  refine ⟨rfl, L8.one hx, ?_⟩
  have h := World.ownsRow_lit (base := w.heap.size) (e := 5) (size := 1) w #[.int .u8 (x : Int)] 1 (Nat.le_refl _) (by unfold maxLen; omega) (by simp)
  show World.ownsRow _ _ _ _ _ _ [Value.int .u8 (x : Int)]
  simpa using h
end Go.Proofs.YtpmdcahomkdfmaaGreatDoor

namespace Go.Proofs.YtpmdcahomkdfmaaGreatDoor
open Go.RowKit Go.Lib

/-- The slice value '.slice A n c' is a row of the call's own, from block base on, and holds vs. -/
structure RowV (w : World) (base : Nat) (t : TypeId) (A : Option Addr) (n c : Nat) (vs : List Value) : Prop where
  len : vs.length = n
  own : w.ownsRow base t 1 (.slice A n c) n vs
/-- The slice value '.slice A n c' reads as vs in world w, in blocks of S. -/
structure RdV (w : World) (S : Nat → Prop) (A : Option Addr) (n : Nat) (vs : List Value) : Prop where
  len : vs.length = n
  cells : 0 < n → ∃ b off, A = some ⟨b, off, none⟩ ∧ S b ∧ ∀ (j : Nat) v, vs[j]? = some v → w.cell? ⟨b, off + j, none⟩ = some v

section
variable {w w' : World} {base n c : Nat} {t : TypeId} {A : Option Addr} {vs : List Value} {S S' : Nat → Prop}
theorem RowV.nil (w : World) (base : Nat) (t : TypeId) : RowV w base t none 0 0 [] := ⟨rfl, World.ownsRow_nil w base _ 1⟩
theorem RowV.form (h : RowV w base t A n c vs) : (A = none ∧ n = 0 ∧ c = 0) ∨ ∃ g, A = some ⟨g, 0, none⟩ ∧ base ≤ g ∧ g < w.heap.size := by
  rcases h.own.2 with ⟨e, h0⟩ | ⟨g, cap, cur, e, hb, hh, _⟩
  · injection e with e1 e2 e3; exact .inl ⟨e1, e2, e3⟩
  · injection e with e1 e2 e3; exact .inr ⟨g, e1, hb, (Array.getElem?_eq_some_iff.1 hh).1⟩
theorem RowV.n_le (h : RowV w base t A n c vs) : n ≤ c ∧ c ≤ maxLen := by
  rcases h.own.2 with ⟨e, h0⟩ | ⟨g, cap, cur, e, hb, hh, h1, h2, _⟩
  · injection e with e1 e2 e3; subst e3; exact ⟨by omega, Nat.zero_le _⟩
  · injection e with e1 e2 e3; subst e3; exact ⟨h1, h2⟩
theorem RowV.more {base' : Nat} (h : RowV w base t A n c vs) (hb : base' ≤ base) : RowV w base' t A n c vs := by
  refine ⟨h.len, h.own.1, ?_⟩
  rcases h.own.2 with h0 | ⟨g, cap, cur, e, hb', rest⟩
  · exact .inl h0
  · exact .inr ⟨g, cap, cur, e, by omega, rest⟩
theorem RowV.keep (h : RowV w base t A n c vs) (hk : ∀ g, A = some ⟨g, 0, none⟩ → w'.heap[g]? = w.heap[g]?) : RowV w' base t A n c vs := by
  refine ⟨h.len, h.own.1, ?_⟩
  rcases h.own.2 with h0 | ⟨g, cap, cur, e, hb', hh, rest⟩
  · exact .inl h0
  · refine .inr ⟨g, cap, cur, e, hb', ?_, rest⟩
    injection e with e1 e2 e3
    rw [hk g e1]; exact hh
theorem RowV.below {B : Nat} (h : RowV w base t A n c vs) (hb : Below B w w') (hB : w.heap.size ≤ B) : RowV w' base t A n c vs :=
  h.keep fun g e => by
    rcases h.form with ⟨h0, _⟩ | ⟨g', e', _, hlt⟩
    · rw [h0] at e; cases e
    · rw [e'] at e; injection e with e; injection e with e; subst e; exact hb.block g' (by omega)
theorem RowV.grown {row : Option Nat} (h : RowV w base t A n c vs) (hg : w.grownBy w' row) (hr : ∀ g, A = some ⟨g, 0, none⟩ → some g ≠ row) : RowV w' base t A n c vs :=
  h.keep fun g e => by
    rcases h.form with ⟨h0, _⟩ | ⟨g', e', _, hlt⟩
    · rw [h0] at e; cases e
    · have : g' = g := by rw [e'] at e; injection e with e; injection e
      subst this; exact hg.block g' hlt (hr _ e)
theorem RowV.of_row {v : Value} {xs : List Value} (hl : xs.length = n) (h : w.ownsRow base t 1 v n xs) : ∃ A c, v = .slice A n c ∧ RowV w base t A n c xs := by
  rcases h.2 with ⟨e, h0⟩ | ⟨g, cap, cur, e, _⟩
  · subst h0
    exact ⟨none, 0, e, hl, e ▸ h⟩
  · exact ⟨_, cap, e, hl, e ▸ h⟩
theorem RowV.drew (h : RowV w base t A n c vs) : RowV w.drew base t A n c vs := h.keep fun _ _ => rfl
theorem RowV.alloc (h : RowV w base t A n c vs) (o : Obj) : RowV (w.alloc o) base t A n c vs := h.below ((Below.refl w.heap.size w).alloc (Nat.le_refl _) o) (Nat.le_refl _)
theorem RowV.rd (h : RowV w base t A n c vs) : RdV w (fun b => base ≤ b ∧ b < w.heap.size) A n vs := by
  refine ⟨h.len, fun hn => ?_⟩
  rcases h.form with ⟨_, h0, _⟩ | ⟨g, rfl, hb, hlt⟩
  · omega
  · refine ⟨g, 0, rfl, ⟨hb, hlt⟩, fun j v hv => ?_⟩
    have hj := (List.getElem?_eq_some_iff.1 hv).1
    rw [h.len] at hj
    rw [Nat.zero_add, h.own.cellAt j (by omega), hv]
/-- Whose block another type's cells hold is no row's. -/
theorem RowV.ne_box {b : Nat} {us : Array Value} {u : TypeId} {z : Nat × Nat} (h : RowV w base t A n c vs) (hb : w.heap[b]? = some (.cells us u z)) (ht : u ≠ t) : ∀ g, A = some ⟨g, 0, none⟩ → g ≠ b := by
  intro g e hgb
  rcases h.own.2 with ⟨h1, _⟩ | ⟨g2, cap, cur, h1, h2, hh, _⟩
  · injection h1 with h1; rw [h1] at e; cases e
  · injection h1 with h1
    rw [h1] at e
    injection e with e
    injection e with e
    rw [e, hgb, hb] at hh
    injection hh with hh
    injection hh with _ hh
    exact ht hh
theorem RowV.ownB {g n' c' : Nat} (h : RowV w base t A n c vs) (q : some g = (Value.slice A n' c').ownBlock) : A = some ⟨g, 0, none⟩ := by
  rcases h.form with ⟨z, _⟩ | ⟨g3, z, _⟩
  · rw [z] at q; simp [Value.ownBlock] at q
  · rw [z] at q ⊢
    simp [Value.ownBlock] at q
    rw [q]
theorem RowV.setNe (h : RowV w base t A n c vs) {p : Addr} (hne : ∀ g, A = some ⟨g, 0, none⟩ → g ≠ p.block) (u : Value) : RowV (w.setCell p u) base t A n c vs :=
  h.keep fun g e => Below.heap_setCell _ _ _ _ (hne g e)
theorem RdV.keep (h : RdV w S A n vs) (hk : ∀ p : Addr, S p.block → w'.cell? p = w.cell? p) : RdV w' S A n vs :=
  ⟨h.len, fun hn => by
    obtain ⟨b, off, e, hb, hc⟩ := h.cells hn
    exact ⟨b, off, e, hb, fun j v hv => (hk _ hb).trans (hc j v hv)⟩⟩
theorem RdV.more (h : RdV w S A n vs) (hS : ∀ b, S b → S' b) : RdV w S' A n vs :=
  ⟨h.len, fun hn => by
    obtain ⟨b, off, e, hb, hc⟩ := h.cells hn
    exact ⟨b, off, e, hS b hb, hc⟩⟩
theorem RdV.drew (h : RdV w S A n vs) : RdV w.drew S A n vs := h.keep fun _ _ => rfl
theorem RdV.below {B : Nat} (h : RdV w S A n vs) (hb : Below B w w') (hS : ∀ b, S b → b < B) : RdV w' S A n vs := h.keep fun _ hp => hb.cell (hS _ hp)
theorem RdV.grown {row : Option Nat} (h : RdV w S A n vs) (hg : w.grownBy w' row) (hr : ∀ b, S b → b < w.heap.size ∧ some b ≠ row) : RdV w' S A n vs :=
  h.keep fun p hp => World.cell?_of_block (hg.block p.block (hr _ hp).1 (hr _ hp).2)
theorem RdV.at_ {k : Nat} {v : Value} (h : RdV w S A n vs) (hv : vs[k]? = some v) : ∃ b off, A = some ⟨b, off, none⟩ ∧ S b ∧ w.cell? ⟨b, off + k, none⟩ = some v := by
  have hk := (List.getElem?_eq_some_iff.1 hv).1
  rw [h.len] at hk
  obtain ⟨b, off, e, hb, hc⟩ := h.cells (by omega)
  exact ⟨b, off, e, hb, hc k v hv⟩
theorem RdV.nil (w : World) (S : Nat → Prop) (A : Option Addr) : RdV w S A 0 [] := ⟨rfl, fun h => absurd h (by omega)⟩
theorem RdV.cellsAt {ad : Addr} (h : RdV w S (some ad) n vs) : ∀ (j : Nat) u, vs[j]? = some u → w.cell? (ad.add j) = some u := by
  intro j u hu
  have hj := (List.getElem?_eq_some_iff.1 hu).1
  rw [h.len] at hj
  obtain ⟨b, off, e, _, hc⟩ := h.cells (by omega)
  injection e with e
  subst e
  rw [Addr.add_lit]
  exact hc j u hu
/-- What lies below stays, where a row of the call's own is appended to. -/
theorem RowV.below_append {B k : Nat} {W w1 : World} {os : List Value} {o : Obj} (hbel : Below B W w) (hB : B ≤ w.heap.size) (hres : RowV w B t A k c os) (hg : (w.alloc o).grownBy w1 (Value.slice A k c).ownBlock) : Below B W w1 :=
  (hbel.alloc hB _).grown hg (by simp; omega) (by
    intro q hq
    rcases hres.form with ⟨h1, _⟩ | ⟨g1, h1, h2, _⟩
    · rw [h1] at hq; simp [Value.ownBlock] at hq
    · rw [h1] at hq; simp [Value.ownBlock] at hq; omega)
theorem RowV.others {k : Nat} {w1 : World} {os : List Value} {o : Obj} (hres : RowV w base t A k c os) (hg : (w.alloc o).grownBy w1 (Value.slice A k c).ownBlock) : KeepsOthers w w1 := by
  refine (KeepsOthers.alloc _ _).trans (KeepsOthers.of_grownBy hg (fun k o e ho => ?_))
  have e2 := hres.ownB e.symm
  rcases (hres.alloc _).own.2 with ⟨e3, _⟩ | ⟨g2, cap, cur, e3, _, hh, _⟩
  · injection e3 with e3; rw [e3] at e2; cases e2
  · injection e3 with e3
    rw [e2] at e3
    injection e3 with e3
    injection e3 with e3
    subst e3
    rw [hh] at ho
    injection ho with ho
    subst ho; rfl
end

/-- Numbers, octets, as cells. -/
def zs64 (l : List Int) : List Value := l.map fun z => Value.int .i64 z
def bs8 (l : List UInt8) : List Value := l.map fun b => Value.int .u8 (b.toNat : Int)
theorem zs64_length (l : List Int) : (zs64 l).length = l.length := by simp [zs64]
theorem bs8_length (l : List UInt8) : (bs8 l).length = l.length := by simp [bs8]
theorem zs64_append (a b : List Int) : zs64 (a ++ b) = zs64 a ++ zs64 b := by simp [zs64]
theorem bs8_append (a b : List UInt8) : bs8 (a ++ b) = bs8 a ++ bs8 b := by simp [bs8]
theorem zs64_get {l : List Int} {k : Nat} {z : Int} (h : l[k]? = some z) : (zs64 l)[k]? = some (.int .i64 z) := by simp [zs64, h]
theorem info64 : (Tryz.prog.info? 3).map (fun i => (i.zero, i.size, i.bytes)) = some (some (.int IntKind.i64 0), 1, 8) := by kernel_rfl
theorem uinfo8 : (Tryz.prog.info? 5).map (fun i => (i.zero, i.size, i.bytes)) = some (some (.int IntKind.u8 0), 1, 1) := by kernel_rfl
theorem runeCells_bs8 (c : Int) : runeCells c = bs8 (encodeRune c) := by
  unfold runeCells bs8 encodeRune
  rw [List.map_map]
  refine List.map_congr_left fun x hx => ?_
  have := encodeRuneZ_byte c x hx
  show Value.int .u8 x = Value.int .u8 _
  rw [toU8_toNat this.1 this.2]
  congr 1
  omega
end Go.Proofs.YtpmdcahomkdfmaaGreatDoor

namespace Go.Proofs.YtpmdcahomkdfmaaGreatDoor
open Go.RowKit Go.Lib

theorem rc_from (s : ByteArray) : ∀ f pos, s.size ≤ pos + f → runeCountFrom s f pos = (pcs (s.data.toList.drop pos)).length := by
  have hsz : s.size = s.data.toList.length := by rw [Array.length_toList]; rfl
  intro f
  induction f with
  | zero =>
    intro pos h
    rw [List.drop_eq_nil_of_le (by omega)]
    rfl
  | succ f ih =>
    intro pos h
    by_cases hp : pos < s.size
    · have hne : s.data.toList.drop pos ≠ [] := by
        intro e
        have := congrArg List.length e
        rw [List.length_drop, List.length_nil] at this
        omega
      have hw := wid_ge (s.data.toList.drop pos)
      rw [pcs_cons hne, List.length_cons]
      unfold runeCountFrom
      rw [if_pos hp, ← decodeL_drop s pos]
      rw [ih (pos + (decodeL (s.data.toList.drop pos)).2) (by unfold wid at hw; omega), List.drop_drop]
      unfold wid
      omega
    · rw [runeCountFrom_end s _ pos hp, List.drop_eq_nil_of_le (by omega)]
      rfl
theorem rc_eq (s : ByteArray) : runeCount s = (pcs s.data.toList).length := by
  have := rc_from s s.size 0 (by omega)
  rw [List.drop_zero] at this
  exact this
theorem rcount_c (s : ByteArray) (w : World) (hs : s.size ≤ 140737488355328) :
    Calls Tryz.prog 54 #[.string s] w fun e w' => e = .returned (.int .i64 ((pcs s.data.toList).length : Int)) ∧ Below w.heap.size w w' := by
  refine (Tryz.utf8_RuneCountInString s w (by omega)).mono ?_
  rintro e w' ⟨rfl, pos, rfl⟩
  rw [rc_eq]
  exact ⟨rfl, (Below.refl _ _).alloc (Nat.le_refl _) _⟩
def cntT (L : List UInt8) : Nat := if isT L = true then (pcs L).length else 0
theorem pcs_len (L : List UInt8) : (pcs L).length ≤ L.length := by
  refine text_ind (p := fun l => (pcs l).length ≤ l.length) (Nat.le_refl _) (fun l hl ih => ?_) L
  have h1 := wid_ge l
  have h2 := wid_le hl
  rw [List.length_drop] at ih
  show (pcs l).length ≤ l.length
  rw [pcs_cons hl, List.length_cons]
  omega

set_option maxRecDepth 100000 in
theorem Count_c (s : ByteArray) (w : World) (hT : Tabs w) (hs : s.size ≤ 140737488355328) :
    Calls Tryz.prog 32 #[.string s] w fun e w' => e = .returned (.tuple #[.int .i64 (cntT s.data.toList : Int), .int .i64 (errT s.data.toList : Int)]) ∧ Below w.heap.size w w' := by
  have hC := UCheck_c s w hT hs
  have hR := fun W => rcount_c s W hs
  generalize s.data.toList = L at hC hR ⊢
  generalize hB : badAt L = B at hC
  clear hB
  by_cases h : isT L = true
  · have e1 : errT L = 0 := by unfold errT; rw [if_pos h]
    have e2 : cntT L = (pcs L).length := by unfold cntT; rw [if_pos h]
    rw [e1] at hC ⊢
    rw [e2]
    generalize (pcs L).length = N at hR ⊢
    clear e1 e2 h
    go_enter Tryz.func32, Tryz.ntmps32
    go_wp2_with fail
    refine hC.mono ?_
    rintro e w1 ⟨rfl, hb1⟩
    go_wp2_with fail
    refine (hR w1).mono ?_
    rintro e w2 ⟨rfl, hb2⟩
    go_wp2
    go_ret2
    exact ⟨rfl, hb1.trans (hb2.mono hb1.size)⟩
  · have e1 : errT L = 61 := by unfold errT; rw [if_neg h]
    have e2 : cntT L = 0 := by unfold cntT; rw [if_neg h]
    rw [e1] at hC ⊢
    rw [e2]
    clear e1 e2 h
    go_enter Tryz.func32, Tryz.ntmps32
    go_wp2_with fail
    refine hC.mono ?_
    rintro e w1 ⟨rfl, hb1⟩
    go_wp2
    go_ret2
    exact ⟨rfl, hb1⟩
end Go.Proofs.YtpmdcahomkdfmaaGreatDoor

namespace Go.Proofs.YtpmdcahomkdfmaaGreatDoor
open Go.RowKit Go.Lib

/-- A place put into bounds. -/
def wi (n p : Int) : Int := min (max (if p < 0 then p + n else p) 0) n
end Go.Proofs.YtpmdcahomkdfmaaGreatDoor
