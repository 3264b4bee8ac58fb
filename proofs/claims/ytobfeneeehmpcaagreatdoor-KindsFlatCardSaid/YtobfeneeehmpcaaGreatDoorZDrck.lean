/-
  What is cut off within: numbers, values; a text that is cut off. Pure, no program.
  Contracts of the reference's zeros and plain.
  Contracts of the reference's Check and checks, of decimals.
-/
import Derived.Test.YtobfeneeehmpcaaGreatDoorZRcutn
import Derived.Test.YtobfeneeehmpcaaGreatDoorZRtail
import Derived.Test.YtobfeneeehmpcaaGreatDoorZDset
import Derived.Lib.ItoaNum
import Derived.Test.YtobfeneeehmpcaaGreatDoorZNparse
import Derived.Test.YtobfeneeehmpcaaGreatDoorZDintc
import Derived.Test.YtobfeneeehmpcaaGreatDoorZNapi
import Derived.PlainAid
import Derived.Test.YtobfeneeehmpcaaGreatDoorZNrefe
import Derived.Lib.ItoaLen
import Derived.Test.YtobfeneeehmpcaaGreatDoorZDref
set_option linter.unusedVariables false
set_option linter.unusedSimpArgs false
namespace Go.Proofs.YtobfeneeehmpcaaGreatDoor
open Go.Lib

theorem AtEnd.at {α β : Type} {F : Rd1 α} {G : α → Rd1 β} (hF : AtEnd F) (hG : ∀ a, AtEnd (G a)) : AtEnd (rAt F G) := fun b => by
  unfold rAt
  rcases hF b with h | ⟨a, h⟩
  · rw [h]; exact .inl rfl
  · rw [h]; exact hG a b
theorem AtEnd.pure {α : Type} (a : α) : AtEnd (rPure a) := fun b => .inr ⟨a, rfl⟩
theorem AtEnd.skip (f : UInt8 → Bool) : AtEnd (rSkip f) := fun b => by
  unfold rSkip
  rw [List.getElem?_eq_none (Nat.le_refl _)]
  exact .inr ⟨false, rfl⟩
theorem AtEnd.ite {α : Type} {c : Prop} [Decidable c] {F G : Rd1 α} (hF : AtEnd F) (hG : AtEnd G) : AtEnd (if c then F else G) := by
  by_cases h : c
  · rw [if_pos h]; exact hF
  · rw [if_neg h]; exact hG
theorem Needs.digits : Needs rDigits := (Needs.need _).at
theorem AtEnd.digits : AtEnd rDigits := fun b => .inl (Needs.digits b)
theorem C3.digits : C3 rDigits := C3.at2 (C2.need _) fun _ => C3.skips _
theorem C3.numeral : C3 rNumeral := by
  have e6 : AtEnd (rAt (rSkip fun c => c == 101 || c == 69) fun e => if e then rAt (rSkip fun c => c == 43 || c == 45) fun _ => rDigits else rPure ()) :=
    (AtEnd.skip _).at fun e => AtEnd.ite ((AtEnd.skip _).at fun _ => AtEnd.digits) (AtEnd.pure ())
  have c6 : C3 (rAt (rSkip fun c => c == 101 || c == 69) fun e => if e then rAt (rSkip fun c => c == 43 || c == 45) fun _ => rDigits else rPure ()) :=
    (C3.skip _).at (fun e => C3.ite ((C3.skip _).at (fun _ => C3.digits) fun _ => AtEnd.digits) (C2.pure ()).c3) fun e => AtEnd.ite ((AtEnd.skip _).at fun _ => AtEnd.digits) (AtEnd.pure ())
  have e5 : ∀ f : Bool, AtEnd (rAt (if f then rDigits else rPure ()) fun _ => rAt (rSkip fun c => c == 101 || c == 69) fun e => if e then rAt (rSkip fun c => c == 43 || c == 45) fun _ => rDigits else rPure ()) :=
    fun f => (AtEnd.ite AtEnd.digits (AtEnd.pure ())).at fun _ => e6
  have c5 : ∀ f : Bool, C3 (rAt (if f then rDigits else rPure ()) fun _ => rAt (rSkip fun c => c == 101 || c == 69) fun e => if e then rAt (rSkip fun c => c == 43 || c == 45) fun _ => rDigits else rPure ()) :=
    fun f => (C3.ite C3.digits (C2.pure ()).c3).at (fun _ => c6) fun _ => e6
  have e3 : ∀ z : Bool, AtEnd (rAt (if z then rPure () else rDigits) fun _ => rAt (rSkip (· == 46)) fun f => rAt (if f then rDigits else rPure ()) fun _ => rAt (rSkip fun c => c == 101 || c == 69) fun e => if e then rAt (rSkip fun c => c == 43 || c == 45) fun _ => rDigits else rPure ()) :=
    fun z => (AtEnd.ite (AtEnd.pure ()) AtEnd.digits).at fun _ => (AtEnd.skip _).at e5
  have c3 : ∀ z : Bool, C3 (rAt (if z then rPure () else rDigits) fun _ => rAt (rSkip (· == 46)) fun f => rAt (if f then rDigits else rPure ()) fun _ => rAt (rSkip fun c => c == 101 || c == 69) fun e => if e then rAt (rSkip fun c => c == 43 || c == 45) fun _ => rDigits else rPure ()) :=
    fun z => (C3.ite (C2.pure ()).c3 C3.digits).at (fun _ => (C3.skip _).at c5 e5) fun _ => (AtEnd.skip _).at e5
  unfold rNumeral
  exact (C3.skip _).at (fun _ => (C3.skip _).at c3 e3) fun _ => (AtEnd.skip _).at e3
theorem Needs.numeral : Needs rNumeral := fun b => by
  have hs : ∀ f, rSkip f b b.length = .ok false b.length := fun f => by
    unfold rSkip
    rw [List.getElem?_eq_none (Nat.le_refl _)]
  unfold rNumeral rAt
  rw [hs]
  simp only [RR.bind]
  rw [hs]
  simp only
  rw [if_neg (by decide), Needs.digits b]
theorem Needs.number : Needs rNumber := fun b => by
  unfold rNumber
  rw [Needs.numeral b]
  rfl
theorem numeral_eats {b : List UInt8} {p q : Nat} (hp : p < b.length) (h : rNumeral b p = .ok () q) : p < q := by
  have hup := Good.numeral.up b p () q (by omega) h
  have hf := numeral_form (by omega) h
  rcases Nat.lt_or_ge p q with hl | hl
  · exact hl
  · exfalso
    obtain rfl : q = p := by omega
    have : cutN b q q = [] := by unfold cutN; rw [Nat.sub_self]; rfl
    rw [this] at hf
    exact absurd hf (by decide)
theorem cut_take {b : List UInt8} {p q n : Nat} (hq : q ≤ n) : cutN (b.take n) p q = cutN b p q := by
  unfold cutN
  rw [take_drop2, List.take_take, Nat.min_eq_left (by omega)]
theorem number_got {b : List UInt8} {p q : Nat} {v : VT} (h : rNumber b p = .ok v q) : rNumeral b p = .ok () q ∧ fE (cutN b p q) = 0 ∧ rApart b q = .ok () q ∧ v = numV (cutN b p q) := by
  unfold rNumber at h
  cases hf : rNumeral b p with
  | bad q1 e => rw [hf] at h; cases h
  | ok u q1 =>
    rw [hf] at h
    simp only [RR.bind] at h
    split at h
    · rename_i h0
      cases ha : rApart b q1 with
      | bad q2 e => rw [ha] at h; cases h
      | ok u2 q2 =>
        rw [ha] at h
        injection h with h1 h2
        have e2 : q2 = q1 := by
          unfold rApart at ha
          split at ha
          · split at ha
            · cases ha
            · injection ha with _ h3; exact h3.symm
          · injection ha with _ h3; exact h3.symm
        subst e2
        subst h2
        exact ⟨rfl, h0, ha, h1.symm⟩
    · cases h
theorem E3.number : E3 rNumber := by
  refine ⟨fun b p a q hp h => ?_, fun b p a q n hp hn h hq => ?_, fun b p a q n hp hn h hq => ?_⟩ <;> obtain ⟨h1, h2, h3, h4⟩ := number_got h
  · exact ⟨numeral_eats (by omega) h1, (Good.numeral.up b p () q (by omega) h1).2⟩
  · have b1 := C3.numeral.back b p () q n (by omega) hn h1 hq
    have b3 := C3.apart.back b q () q n hq hn h3 hq
    unfold rNumber
    rw [b1]
    simp only [RR.bind]
    rw [cut_take hq, if_pos h2, b3, h4]
  · rcases C3.numeral.cut b p () q n (by omega) hn h1 hq with h5 | ⟨u, h5⟩
    · exact .inl h5.bind
    · have hl : p ≤ (b.take n).length := by rw [take_len hn]; omega
      have he := numeral_err hl h5
      unfold rNumber
      rw [h5]
      simp only [RR.bind]
      rcases he with he | he
      · rw [if_pos he]
        have : rApart (b.take n) n = .ok () n := by unfold rApart; rw [take_end]
        rw [this]
        exact .inr ⟨_, rfl⟩
      · have h0 : fE (cutN (b.take n) p n) ≠ 0 := by unfold NumE at he; omega
        rw [if_neg h0]
        exact .inl (.inr ⟨_, _, rfl, he⟩)
theorem E3.low {c : UInt8} : E3 (if c == 110 then rAt (rWord [110, 117, 108, 108]) fun _ => rPure (numT0 0) else if c == 102 then rAt (rWord [102, 97, 108, 115, 101]) fun _ => rPure (numT0 1) else if c == 116 then rAt (rWord [116, 114, 117, 101]) fun _ => rPure (numT0 2) else rNumber) :=
  E3.ite (E3.map (g := fun _ => numT0 0) (E3.word _ _)) (E3.ite (E3.map (g := fun _ => numT0 1) (E3.word _ _)) (E3.ite (E3.map (g := fun _ => numT0 2) (E3.word _ _)) E3.number))
theorem E2.texts : E2 (rAt rText fun t => rPure (.mk 4 false [] 0 t [] [] : VT)) := E2.at' E2.text fun t => C2.pure _
theorem E2.pair (mk : List (ByteArray × VT) → VT) (k : Nat) (ih : ∀ n, E3 (rValue mk k n)) (n : Nat) : E3 (rAt (rKey n) fun key => rAt (rSkips isWs) fun _ => rAt (rNeed (· == 58)) fun _ => rAt (rSkips isWs) fun _ => rAt (rValue mk k n) fun v => rPure (key, v)) := by
  refine E3.at2 (E2.key n) fun key => ?_
  have hv : C3 (rAt (rValue mk k n) fun v => rPure (key, v)) := (E3.map (g := fun v => (key, v)) (ih n)).c3 (value_needs mk k n).at
  have hvn : Needs (rAt (rValue mk k n) fun v => rPure (key, v)) := (value_needs mk k n).at
  have e : AtEnd (rAt (rValue mk k n) fun v => rPure (key, v)) := fun b => .inl (hvn b)
  have c4 : C3 (rAt (rSkips isWs) fun _ => rAt (rValue mk k n) fun v => rPure (key, v)) := (C3.skips _).at (fun _ => hv) fun _ => e
  have c5 : C3 (rAt (rNeed (· == 58)) fun _ => rAt (rSkips isWs) fun _ => rAt (rValue mk k n) fun v => rPure (key, v)) := C3.at2 (C2.need _) fun _ => c4
  exact (C3.skips _).at (fun _ => c5) fun _ b => .inl (((Needs.need _).at : Needs (rAt (rNeed (· == 58)) fun _ => rAt (rSkips isWs) fun _ => rAt (rValue mk k n) fun v => rPure (key, v))) b)
theorem E3.value (mk : List (ByteArray × VT) → VT) : ∀ k nth, E3 (rValue mk k nth)
  | 0, nth => by
    unfold rValue
    exact E3.stay (Stay.begin 0 nth) fun _ => E3.stay Stay.peek fun c => E3.ite E2.texts.e3 E3.low
  | k + 1, nth => by
    have ih := E3.value mk k
    have hn := value_needs mk k
    unfold rValue
    exact E3.stay (Stay.begin (k + 1) nth) fun _ => E3.stay Stay.peek fun c => E3.ite (E2.held (E2.items ih hn) _).e3 (E3.ite (E2.held (E2.items (E2.pair mk k ih) fun n => Needs.see.at) _).e3 (E3.ite E2.texts.e3 E3.low))
end Go.Proofs.YtobfeneeehmpcaaGreatDoor

namespace Go.Proofs.YtobfeneeehmpcaaGreatDoor
open Go.RowKit

theorem ResB.one (w : World) (x : Nat) (hx : x < 256) : ResB (w.alloc (.cells #[.int .u8 (x : Int)] 5)) w.heap.size (some ⟨w.heap.size, 0, none⟩) 1 1 [x] := by
  refine ⟨rfl, L8.one hx, ?_⟩
  have h := World.ownsRow_lit (base := w.heap.size) (e := 5) (size := 1) w #[.int .u8 (x : Int)] 1 (Nat.le_refl _) (by unfold maxLen; omega) (by simp)
  show World.ownsRow _ _ _ _ _ _ [Value.int .u8 (x : Int)]
  simpa using h
end Go.Proofs.YtobfeneeehmpcaaGreatDoor

namespace Go.Proofs.YtobfeneeehmpcaaGreatDoor
open Go.RowKit

theorem long_no {xs : List Nat} (h : Can xs) (hl : 40 < xs.length) : ¬ (dOf (val xs)).length ≤ 300 := by
  intro h1
  have h2 := dval_lt (dOf_can (val xs)).1
  rw [dOf_val] at h2
  have h3 : val xs < bp 40 := by
    obtain ⟨T, hT⟩ : ∃ T, T = 300 := ⟨_, rfl⟩
    rw [← hT] at h1
    have h6 : dp (dOf (val xs)).length ≤ dp T := Nat.pow_le_pow_right (by omega) h1
    refine lt_bp (m := 100) (p := T) ?_ (by omega) (by omega)
    exact Nat.lt_of_lt_of_le h2 h6
  have h4 := h.ge (by intro e; rw [e] at hl; simp at hl)
  have h5 : bp 40 ≤ bp (xs.length - 1) := by unfold bp; exact Nat.pow_le_pow_right (by omega) (by omega)
  omega

set_option maxRecDepth 100000 in
set_option maxHeartbeats 4000000 in
theorem RCheck_c {S : Nat → Prop} {n c : Nat} {A : Option Addr} {xs : List Nat} (neg : Bool) (exp : Int) (w : World) (ha : Rd w S A n xs) (hS : ∀ b, S b → b < w.heap.size) (hn : n ≤ 9223372036854775807) :
    Calls Tryz.prog 84 #[dv neg A n c exp] w fun e w' => e = .returned (.int .i64 (okE neg xs exp : Int)) ∧ Below w.heap.size w w' := by
  have hb0 : Below w.heap.size w (w.alloc (.cells #[.bool neg, .slice A n c, .int .i64 exp] 24)) := (Below.refl _ _).alloc (Nat.le_refl _) _
  have hck := rCheck_c (c := c) (w.alloc (.cells #[.bool neg, .slice A n c, .int .i64 exp] 24)) (ha.below hb0 hS) hn
  by_cases h0 : chk xs = 0
  · obtain ⟨hcx, hlx⟩ := can_of_chk ha.l32 h0
    have hlen := ha.len
    rw [h0] at hck
    by_cases h40 : 40 < n
    · have hE : okE neg xs exp = 9 := by
        unfold okE
        rw [if_neg]
        intro h
        exact long_no hcx (by omega) (okB_len h)
      rw [hE]
      have HCK := Lib.hid hck
      clear hck h0 hE hlen hcx hlx
      unfold dv
      go_enter Tryz.func84, Tryz.ntmps84
      go_wp2_with fail
      refine HCK.out.mono ?_
      rintro e w1 ⟨rfl, rfl⟩
      go_wp2
      go_ret
      exact ⟨rfl, hb0⟩
    · have hof := Of_c (c := c) neg exp (w.alloc (.cells #[.bool neg, .slice A n c, .int .i64 exp] 24)) (ha.below hb0 hS) (fun b h => by have := hS b h; simp; omega) (by omega)
      have hok : okB neg xs exp = (decide ((dOf (val xs)).length ≤ 300) && (if xs.length = 0 then (!neg && exp == 0) else (decide (nth (dOf (val xs)) 0 ≠ 0) && (decide (-1000 ≤ exp) && decide (exp ≤ 1000))))) := by
        unfold okB
        rw [decide_eq_true h0, Bool.true_and]
      have hz : xs.length = 0 ↔ (dOf (val xs)).length = 0 := by
        constructor
        · intro h
          rw [List.eq_nil_of_length_eq_zero h]; rfl
        · intro h
          have h1 := dOf_val (val xs)
          rw [List.eq_nil_of_length_eq_zero h] at h1
          have h2 := hcx.val_zero h1.symm
          rw [h2]; rfl
      obtain ⟨E, hE⟩ : ∃ E : Nat, E = okE neg xs exp := ⟨_, rfl⟩
      rw [← hE]
      have hEE : E = if (decide ((dOf (val xs)).length ≤ 300) && (if (dOf (val xs)).length = 0 then (!neg && exp == 0) else (decide (nth (dOf (val xs)) 0 ≠ 0) && (decide (-1000 ≤ exp) && decide (exp ≤ 1000))))) = true then 0 else 9 := by
        rw [hE]
        unfold okE
        rw [hok]
        simp only [hz]
      unfold dv at hof ⊢
      unfold nv at hof
      have HCK := Lib.hid hck
      have HOF := Lib.hid hof
      have HE := Lib.hid hEE
      clear hck hof h0 hok hz hE hEE hlen hcx hlx
      have m0 := World.alloc_heap_new w (.cells #[.bool neg, .slice A n c, .int .i64 exp] 24)
      have hsz : (w.alloc (.cells #[.bool neg, .slice A n c, .int .i64 exp] 24)).heap.size = w.heap.size + 1 := by simp
      have HM := Lib.hid m0
      clear m0
      go_enter Tryz.func84, Tryz.ntmps84
      go_wp2_with fail
      refine HCK.out.mono ?_
      rintro e w1 ⟨rfl, rfl⟩
      go_wp2_with fail
      refine HOF.out.mono ?_
      rintro e w2 ⟨A1, n1, c1, ds, rfl, hr1, hc1, hv1, hl1, hb1⟩
      have hds := eq_dOf hc1
      rw [hv1] at hds
      have hn1 := hr1.len
      have m1 := held hb1 (by omega) HM.out
      have hw2 := hb0.trans (hb1.mono (by omega))
      have m2 := heldA (.cells #[.bool neg, .slice A1 n1 c1, .int .i64 exp] 85) m1
      have m3 := World.alloc_heap_new w2 (.cells #[.bool neg, .slice A1 n1 c1, .int .i64 exp] 85)
      have hr2 : ResI (w2.alloc (.cells #[.bool neg, .slice A1 n1 c1, .int .i64 exp] 85)) _ A1 n1 c1 ds := hr1.below ((Below.refl w2.heap.size w2).alloc (Nat.le_refl _) _) (Nat.le_refl _)
      have hw3 := hw2.alloc hw2.size (.cells #[.bool neg, .slice A1 n1 c1, .int .i64 exp] 85)
      obtain ⟨p0, p1, p2⟩ := box3_of m2
      obtain ⟨q0, q1, q2⟩ := box3_of m3
      have HE2 := HE.out
      rw [← hds, hn1] at HE2
      have HE3 := Lib.hid HE2
      have HN1 := Lib.hid hn1
      clear hds hv1 HE2 HE HOF HCK HM m1 m2 m3
      by_cases hn0 : n1 = 0
      · subst hn0
        cases neg
        · by_cases he : exp = 0
          · have heb : (exp != 0) = false := by rw [he]; rfl
            have hE0 : E = 0 := by rw [HE3.out, he]; rfl
            subst hE0
            clear he
            go_wp2
            go_ret
            exact ⟨rfl, hw3⟩
          · have heb : (exp != 0) = true := by rw [bne_iff_ne]; exact he
            have heb2 : (exp == 0) = false := by rw [beq_eq_false_iff_ne]; exact he
            have hE0 : E = 9 := by rw [HE3.out, heb2]; rfl
            subst hE0
            clear he
            go_wp2
            go_ret
            exact ⟨rfl, hw3⟩
        · have hE0 : E = 9 := by rw [HE3.out]; rfl
          subst hE0
          go_wp2
          go_ret
          exact ⟨rfl, hw3⟩
      · have hnb : ((n1 : Int) == 0) = false := by rw [beq_eq_false_iff_ne]; omega
        have hn1p : 0 < n1 := by omega
        obtain ⟨b, off, hA, _, hcell⟩ := hr2.rd.cells hn1p
        subst hA
        have hc0 := hcell 0 hn1p
        rw [Nat.add_zero] at hc0
        have hE4 : E = if (decide (n1 ≤ 300) && (decide (nth ds 0 ≠ 0) && (decide (-1000 ≤ exp) && decide (exp ≤ 1000)))) = true then 0 else 9 := by
          rw [HE3.out, if_neg hn0]
        have HE4 := Lib.hid hE4
        clear hn0 hE4 hcell
        by_cases hd0 : nth ds 0 = 0
        · have hE0 : E = 9 := by rw [HE4.out, decide_eq_false (show ¬ nth ds 0 ≠ 0 from fun h => h hd0)]; simp
          subst hE0
          rw [hd0] at hc0
          clear hd0
          go_wp2
          go_ret
          exact ⟨rfl, hw3⟩
        · have hdb : ((nth ds 0 : Int) == 0) = false := by rw [beq_eq_false_iff_ne]; omega
          have HD := Lib.hid hd0
          clear hd0
          by_cases h3 : 300 < n1
          · have hE0 : E = 9 := by rw [HE4.out, decide_eq_false (by omega)]; rfl
            subst hE0
            go_wp2
            go_ret
            exact ⟨rfl, hw3⟩
          · by_cases hx1 : exp < -1000
            · have hE0 : E = 9 := by rw [HE4.out, decide_eq_false (show ¬ -1000 ≤ exp by omega)]; simp
              subst hE0
              go_wp2
              go_ret
              exact ⟨rfl, hw3⟩
            · by_cases hx2 : 1000 < exp
              · have hE0 : E = 9 := by rw [HE4.out, decide_eq_false (show ¬ exp ≤ 1000 by omega)]; simp
                subst hE0
                go_wp2
                go_ret
                exact ⟨rfl, hw3⟩
              · have hE0 : E = 0 := by rw [HE4.out, decide_eq_true (show n1 ≤ 300 by omega), decide_eq_true HD.out, decide_eq_true (show -1000 ≤ exp by omega), decide_eq_true (show exp ≤ 1000 by omega)]; rfl
                subst hE0
                go_wp2
                go_ret
                exact ⟨rfl, hw3⟩
  · have hE : okE neg xs exp = 9 := by
      unfold okE okB
      rw [decide_eq_false h0]; rfl
    have hce : (((chk xs : Nat) : Int) != 0) = true := by rw [bne_iff_ne]; omega
    rw [hE]
    have HCK := Lib.hid hck
    clear hck h0 hE
    unfold dv
    go_enter Tryz.func84, Tryz.ntmps84
    go_wp2_with fail
    refine HCK.out.mono ?_
    rintro e w1 ⟨rfl, rfl⟩
    go_wp2
    go_ret
    exact ⟨rfl, hb0⟩

end Go.Proofs.YtobfeneeehmpcaaGreatDoor
