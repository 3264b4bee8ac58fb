/-
  Contracts of the reference's Of (a decimal's digits), of decimals.
  Contract of the reference's Made: a decimal of digits, settled.
  JSON's form of a number over octets; contracts of the reference's digit and Ends.
  Plain mathematics: a number's text in its parts, what its mantissa and its exponent tell. No Go.
  A law for the walk: 'append(a, b...)' of ints, a the call's own, b any slice that reads as numbers, nil or not.
  Contract of the reference's Parse.
  Contract of the reference's Parse, of texts that have the form.
  Contract of the reference's Parse, of any text.
  Contracts of the law's num and Of (of a text).
-/
import Derived.Test.YtpjllcengnolkaaGreatDoorPDset
import Derived.Deep.Cut
import Derived.Deep.CutRange
import Derived.Deep.CutBlock
import Derived.Test.YtpjllcengnolkaaGreatDoorPNparse
import Derived.Test.YtpjllcengnolkaaGreatDoorPNdig
import Derived.Laws.AppendOwnNone
set_option linter.unusedVariables false
set_option linter.unusedSimpArgs false
namespace Go.Proofs.YtpjllcengnolkaaGreatDoor
open Go.RowKit

theorem ResI.setOther {w : World} {base n c : Nat} {A : Option Addr} {zs : List Nat} (h : ResI w base A n c zs) {p : Addr} (hp : p.block < base) (u : Value) : ResI (w.setCell p u) base A n c zs :=
  h.keep fun g e => by
    rcases h.form with ⟨h1, _⟩ | ⟨g', h1, h2, _⟩
    · rw [h1] at e; cases e
    · rw [h1] at e; injection e with e; injection e with e
      exact Below.heap_setCell _ _ _ _ (by omega)
/-- The reference's number by its digits. -/
def nv (neg : Bool) (A : Option Addr) (n c : Nat) (exp : Int) : Value := .agg #[.bool neg, .slice A n c, .int .i64 exp]

set_option maxRecDepth 100000 in
set_option maxHeartbeats 1000000 in
theorem Of_c {S : Nat → Prop} {n c : Nat} {A : Option Addr} {xs : List Nat} (neg : Bool) (exp : Int) (w : World) (ha : Rd w S A n xs) (hS : ∀ b, S b → b < w.heap.size) (hn : n ≤ 256) :
    Calls Tryz.prog 23 #[dv neg A n c exp] w fun e w' => ∃ A' n' c' ds, e = .returned (nv neg A' n' c' exp) ∧ ResI w' w.heap.size A' n' c' ds ∧ DCan ds ∧ dval ds = val xs ∧ n' ≤ 2731 ∧ Below w.heap.size w w' := by
  have hb0 : ∀ o1 o2, Below w.heap.size w ((w.alloc o1).alloc o2) := fun o1 o2 => ((Below.refl _ w).alloc (Nat.le_refl _) o1).alloc (by simp) o2
  unfold dv nv
  go_enter Tryz.func23, Tryz.ntmps23
  go_wp2_with fail
  obtain ⟨m0, m1⟩ := two_new w (.cells #[.bool neg, .slice A n c, .int .i64 exp] 31) (.cells #[.bool false, .slice none 0 0, .int .i64 0] 52)
  have hW := hb0 (.cells #[.bool neg, .slice A n c, .int .i64 exp] 31) (.cells #[.bool false, .slice none 0 0, .int .i64 0] 52)
  have hsz : ((w.alloc (.cells #[.bool neg, .slice A n c, .int .i64 exp] 31)).alloc (.cells #[.bool false, .slice none 0 0, .int .i64 0] 52)).heap.size = w.heap.size + 2 := by simp
  generalize ((w.alloc (.cells #[.bool neg, .slice A n c, .int .i64 exp] 31)).alloc (.cells #[.bool false, .slice none 0 0, .int .i64 0] 52)) = W at m0 m1 hW hsz ⊢
  have k0 : W.cell? ⟨w.heap.size, 0, none⟩ = some (.bool neg) := cell_of m0 rfl
  have k1 : W.cell? ⟨w.heap.size, 1, none⟩ = some (.slice A n c) := cell_of m0 rfl
  have k2 : W.cell? ⟨w.heap.size, 2, none⟩ = some (.int .i64 exp) := cell_of m0 rfl
  have hSW : ∀ b, S b → b < W.heap.size := fun b h => by have := hS b h; omega
  go_region_with (first
    | (go_at_call 33; refine (Digits_k W.drew (ha.below hW hS).drew (fun b h => hSW b h) hn).mono ?_; rintro e w1 ⟨A1, n1, c1, ds, rfl, hr1, hc1, hv1, hl1, hb1⟩; have q0 := held hb1 (show w.heap.size < W.heap.size by omega) m0; have q1 := held hb1 (show w.heap.size + 1 < W.heap.size by omega) m1;
       have p0 : w1.cell? ⟨w.heap.size, 0, none⟩ = some (.bool neg) := cell_of q0 rfl; have p1 : w1.cell? ⟨w.heap.size, 1, none⟩ = some (.slice A n c) := cell_of q0 rfl; have p2 : w1.cell? ⟨w.heap.size, 2, none⟩ = some (.int .i64 exp) := cell_of q0 rfl;
       have y0 : w1.cell? ⟨w.heap.size + 1, 0, none⟩ = some (.bool false) := cell_of q1 rfl; have y1 : w1.cell? ⟨w.heap.size + 1, 1, none⟩ = some (.slice none 0 0) := cell_of q1 rfl; have y2 : w1.cell? ⟨w.heap.size + 1, 2, none⟩ = some (.int .i64 0) := cell_of q1 rfl;
       have f0 := frozen_of 0 q1; have f1 := frozen_of 1 q1; have f2 := frozen_of 2 q1))
  all_goals
    go_wp2
    refine bodyPost_ret (v := .agg #[.bool neg, .slice A1 n1 c1, .int .i64 exp]) (by simp [results, Tryz.results23, go_sem, y0, y1, y2]) rfl ?_
    have hlt : w.heap.size + 1 < W.drew.heap.size := show w.heap.size + 1 < W.heap.size by omega
    exact ⟨A1, n1, c1, ds, rfl, (((hr1.setOther (p := ⟨w.heap.size + 1, 0, none⟩) hlt _).setOther (p := ⟨w.heap.size + 1, 1, none⟩) hlt _).setOther (p := ⟨w.heap.size + 1, 2, none⟩) hlt _).more (show w.heap.size ≤ W.heap.size by omega), hc1, hv1, hl1,
      ((((only_drewB hW).trans (hb1.mono (show w.heap.size ≤ W.heap.size by omega))).setCell (p := ⟨w.heap.size + 1, 0, none⟩) (by simp) _).setCell (p := ⟨w.heap.size + 1, 1, none⟩) (by simp) _).setCell (p := ⟨w.heap.size + 1, 2, none⟩) (by simp) _⟩
end Go.Proofs.YtpjllcengnolkaaGreatDoor

namespace Go.Proofs.YtpjllcengnolkaaGreatDoor
open Go.RowKit

theorem RdI.drop {w : World} {S : Nat → Prop} {n k b off : Nat} {xs : List Nat} (h : RdI w S (some ⟨b, off, none⟩) n xs) (hk : k ≤ n) : RdI w S (some ⟨b, off + k, none⟩) (n - k) (xs.drop k) :=
  ⟨by rw [List.length_drop, h.len], fun x hx => h.li x (List.mem_of_mem_drop hx), fun h0 => by
    obtain ⟨b2, off2, e, hb, hc⟩ := h.cells (by omega)
    injection e with e
    injection e with e1 e2
    subst e1
    subst e2
    refine ⟨b, off + k, rfl, hb, fun j hj => ?_⟩
    rw [nth_drop, Nat.add_assoc]
    exact hc (k + j) (by omega)⟩
theorem RdI.setOther {w : World} {S : Nat → Prop} {A : Option Addr} {n : Nat} {xs : List Nat} (h : RdI w S A n xs) {p : Addr} (hp : ¬ S p.block) (u : Value) : RdI (w.setCell p u) S A n xs := h.setCell hp u
theorem DCan.drop {xs : List Nat} (h : DCan xs) (k : Nat) : DCan (xs.drop k) := by
  refine ⟨h.1.drop k, ?_⟩
  by_cases hk : k < xs.length
  · right
    have h2 := h.2.resolve_left (by intro e; rw [e] at hk; simp at hk)
    rw [List.length_drop, nth_drop, show k + (xs.length - k - 1) = xs.length - 1 by omega]
    exact h2
  · left
    exact List.drop_of_length_le (by omega)

end Go.Proofs.YtpjllcengnolkaaGreatDoor

namespace Go.Proofs.YtpjllcengnolkaaGreatDoor
open Go.RowKit

/-- Where the digits that begin at a place end. -/
def dEnd (xs : List Nat) (k : Nat) : Nat := k + ((xs.drop k).takeWhile isDig).length
theorem isDig_zero : isDig 0 = false := by decide
theorem dig_lt {xs : List Nat} {k : Nat} (h : isDig (nth xs k) = true) : k < xs.length := by
  by_cases hk : k < xs.length
  · exact hk
  · rw [nth_none (by omega), isDig_zero] at h; cases h
theorem dEnd_step {xs : List Nat} {k : Nat} (h : isDig (nth xs k) = true) : dEnd xs k = dEnd xs (k + 1) := by
  unfold dEnd
  rw [drop_eq_nth (dig_lt h), List.takeWhile_cons_of_pos h, List.length_cons]
  omega
theorem dEnd_le {xs : List Nat} {k : Nat} (h : k ≤ xs.length) : dEnd xs k ≤ xs.length := by
  unfold dEnd
  have h1 := (List.takeWhile_sublist (l := xs.drop k) isDig).length_le
  rw [List.length_drop] at h1
  omega
/-- The parts of the form: where each ends, if it may stand there. -/
def fSgn (xs : List Nat) : Nat := if nth xs 0 = 45 then 1 else 0
def fWhole (xs : List Nat) (k : Nat) : Option Nat := if isDig (nth xs k) = true then some (if nth xs k = 48 then k + 1 else dEnd xs k) else none
def fFrac (xs : List Nat) (k : Nat) : Option Nat := if nth xs k = 46 then (if isDig (nth xs (k + 1)) = true then some (dEnd xs (k + 1)) else none) else some k
def fSg (xs : List Nat) (k : Nat) : Nat := if nth xs k = 43 ∨ nth xs k = 45 then k + 1 else k
def fPow (xs : List Nat) (k : Nat) : Option Nat := if nth xs k = 101 ∨ nth xs k = 69 then (if isDig (nth xs (fSg xs (k + 1))) = true then some (dEnd xs (fSg xs (k + 1))) else none) else some k
def form (xs : List Nat) : Option Nat := (fWhole xs (fSgn xs)).bind fun k => (fFrac xs k).bind (fPow xs)

theorem nth_pos_lt {xs : List Nat} {k c : Nat} (h : nth xs k = c) (hc : 0 < c) : k < xs.length := by
  by_cases hk : k < xs.length
  · exact hk
  · rw [nth_none (by omega)] at h; omega

end Go.Proofs.YtpjllcengnolkaaGreatDoor

namespace Go.Proofs.YtpjllcengnolkaaGreatDoor

/-- Text in parts: sign, whole, fraction, exponent's head and digits. -/
structure Parts (xs sg wh fr pw : List Nat) : Prop where
  eq : xs = sg ++ (wh ++ (fr ++ pw))
  sg : sg = [] ∨ sg = [45]
  wh : allDig wh = true ∧ wh ≠ []
  fr : fr = [] ∨ ∃ f, fr = 46 :: f ∧ allDig f = true ∧ f ≠ []
  pw : pw = [] ∨ ∃ e s p, pw = e :: (s ++ p) ∧ (e = 101 ∨ e = 69) ∧ (s = [] ∨ s = [43] ∨ s = [45]) ∧ allDig p = true ∧ p ≠ []

theorem allDig_run (xs : List Nat) (k : Nat) : allDig ((xs.drop k).take (dEnd xs k - k)) = true := by
  unfold dEnd
  rw [Nat.add_sub_cancel_left]
  have : (xs.drop k).take ((xs.drop k).takeWhile isDig).length = (xs.drop k).takeWhile isDig := by
    obtain ⟨r, hr⟩ := List.takeWhile_prefix (l := xs.drop k) isDig
    conv => lhs; arg 2; rw [← hr]
    simp
  rw [this]
  unfold allDig
  exact List.all_takeWhile
theorem take_drop_cut (xs : List Nat) {a b : Nat} (h : a ≤ b) : xs.drop a = (xs.drop a).take (b - a) ++ xs.drop b := by
  have h1 := (List.take_append_drop (b - a) (xs.drop a)).symm
  rw [List.drop_drop, show a + (b - a) = b by omega] at h1
  exact h1
theorem dEnd_ge (xs : List Nat) (k : Nat) : k ≤ dEnd xs k := Nat.le_add_right _ _
theorem dEnd_gt {xs : List Nat} {k : Nat} (h : isDig (nth xs k) = true) : k < dEnd xs k := by
  rw [dEnd_step h]
  exact dEnd_ge xs (k + 1)
theorem run_ne {xs : List Nat} {a b : Nat} (h : a < b) (hb : b ≤ xs.length) : (xs.drop a).take (b - a) ≠ [] := by
  intro e
  have := congrArg List.length e
  rw [List.length_take, List.length_drop, List.length_nil] at this
  omega
theorem take_one {xs : List Nat} {k c : Nat} (h : nth xs k = c) (hc : 0 < c) : (xs.drop k).take 1 = [c] := by
  rw [drop_eq_nth (nth_pos_lt h hc), h]; rfl

/-- What has the form has these parts. -/
theorem form_parts {xs : List Nat} (h : form xs = some xs.length) : ∃ sg wh fr pw, Parts xs sg wh fr pw := by
  unfold form at h
  obtain ⟨k1, h1, h⟩ := Option.bind_eq_some_iff.1 h
  obtain ⟨k2, h2, h3⟩ := Option.bind_eq_some_iff.1 h
  have hsg : ∃ sg, (sg = [] ∨ sg = [45]) ∧ xs = sg ++ xs.drop (fSgn xs) := by
    unfold fSgn
    by_cases hm : nth xs 0 = 45
    · rw [if_pos hm]
      refine ⟨[45], .inr rfl, ?_⟩
      have := take_drop_cut xs (Nat.zero_le 1)
      rw [take_one hm (by omega), List.drop_zero] at this
      exact this
    · rw [if_neg hm]
      exact ⟨[], .inl rfl, rfl⟩
  obtain ⟨sg, s1, s2⟩ := hsg
  have hwh : ∃ wh, (allDig wh = true ∧ wh ≠ []) ∧ xs.drop (fSgn xs) = wh ++ xs.drop k1 := by
    unfold fWhole at h1
    by_cases hd : isDig (nth xs (fSgn xs)) = true
    · rw [if_pos hd] at h1
      have hlt := dig_lt hd
      by_cases h48 : nth xs (fSgn xs) = 48
      · rw [if_pos h48] at h1
        injection h1 with h1
        subst h1
        refine ⟨[48], ⟨by decide, by simp⟩, ?_⟩
        have := take_drop_cut xs (Nat.le_succ (fSgn xs))
        rw [show (fSgn xs).succ - fSgn xs = 1 by omega, take_one h48 (by omega)] at this
        exact this
      · rw [if_neg h48] at h1
        injection h1 with h1
        subst h1
        exact ⟨_, ⟨allDig_run xs _, run_ne (dEnd_gt hd) (dEnd_le (by omega))⟩, take_drop_cut xs (dEnd_ge xs _)⟩
    · rw [if_neg hd] at h1; cases h1
  obtain ⟨wh, w1, w2⟩ := hwh
  have hfr : ∃ fr, (fr = [] ∨ ∃ f, fr = 46 :: f ∧ allDig f = true ∧ f ≠ []) ∧ xs.drop k1 = fr ++ xs.drop k2 := by
    unfold fFrac at h2
    by_cases hp : nth xs k1 = 46
    · rw [if_pos hp] at h2
      by_cases hd : isDig (nth xs (k1 + 1)) = true
      · rw [if_pos hd] at h2
        injection h2 with h2
        subst h2
        refine ⟨46 :: ((xs.drop (k1 + 1)).take (dEnd xs (k1 + 1) - (k1 + 1))), .inr ⟨_, rfl, allDig_run xs _, run_ne (dEnd_gt hd) (dEnd_le (by have := dig_lt hd; omega))⟩, ?_⟩
        rw [List.cons_append, ← take_drop_cut xs (dEnd_ge xs _), drop_eq_nth (nth_pos_lt hp (by omega)), hp]
      · rw [if_neg hd] at h2; cases h2
    · rw [if_neg hp] at h2
      injection h2 with h2
      subst h2
      exact ⟨[], .inl rfl, rfl⟩
  obtain ⟨fr, f1, f2⟩ := hfr
  have hpw : xs.drop k2 = [] ∨ ∃ e s p, xs.drop k2 = e :: (s ++ p) ∧ (e = 101 ∨ e = 69) ∧ (s = [] ∨ s = [43] ∨ s = [45]) ∧ allDig p = true ∧ p ≠ [] := by
    unfold fPow at h3
    by_cases he : nth xs k2 = 101 ∨ nth xs k2 = 69
    · rw [if_pos he] at h3
      by_cases hd : isDig (nth xs (fSg xs (k2 + 1))) = true
      · rw [if_pos hd] at h3
        injection h3 with h3
        right
        have hk2 : k2 < xs.length := by rcases he with he | he <;> exact nth_pos_lt he (by omega)
        have hs : ∃ s, (s = [] ∨ s = [43] ∨ s = [45]) ∧ xs.drop (k2 + 1) = s ++ xs.drop (fSg xs (k2 + 1)) := by
          unfold fSg
          by_cases hq : nth xs (k2 + 1) = 43 ∨ nth xs (k2 + 1) = 45
          · rw [if_pos hq]
            have := take_drop_cut xs (Nat.le_succ (k2 + 1))
            rw [show (k2 + 1).succ - (k2 + 1) = 1 by omega] at this
            rcases hq with hq | hq
            · rw [take_one hq (by omega)] at this
              exact ⟨[43], .inr (.inl rfl), this⟩
            · rw [take_one hq (by omega)] at this
              exact ⟨[45], .inr (.inr rfl), this⟩
          · rw [if_neg hq]
            exact ⟨[], .inl rfl, rfl⟩
        obtain ⟨s, hs1, hs2⟩ := hs
        have hr := take_drop_cut xs (dEnd_ge xs (fSg xs (k2 + 1)))
        rw [h3, List.drop_length, List.append_nil] at hr
        have hA := allDig_run xs (fSg xs (k2 + 1))
        rw [h3, ← hr] at hA
        refine ⟨nth xs k2, s, xs.drop (fSg xs (k2 + 1)), ?_, he, hs1, hA, ?_⟩
        · rw [← hs2, drop_eq_nth hk2]
        · intro e
          have := congrArg List.length e
          rw [List.length_drop, List.length_nil] at this
          have := dig_lt hd
          omega
      · rw [if_neg hd] at h3; cases h3
    · rw [if_neg he] at h3
      injection h3 with h3
      subst h3
      left
      exact List.drop_length
  exact ⟨sg, wh, fr, xs.drop k2, ⟨by rw [← f2, ← w2]; exact s2, s1, w1, f1, hpw⟩⟩

/-- The mantissa, octet by octet: digits (the lowest first), the point seen, digits behind it. -/
def mstep (st : List Nat × Bool × Nat) (c : Nat) : List Nat × Bool × Nat :=
  if c = 46 then (st.1, true, st.2.2) else if c = 45 then st else ((c - 48) :: st.1, st.2.1, if st.2.1 = true then st.2.2 + 1 else st.2.2)
def mfold (xs : List Nat) : List Nat × Bool × Nat := xs.foldl mstep ([], false, 0)
theorem mdigs (ys : List Nat) : ∀ (ds : List Nat) (b : Bool) (e : Nat), allDig ys = true → ys.foldl mstep (ds, b, e) = (lows ys ++ ds, b, if b = true then e + ys.length else e) := by
  induction ys with
  | nil => intro ds b e _; simp [lows]
  | cons c ys ih =>
    intro ds b e h
    simp [allDig] at h
    obtain ⟨h1, h2⟩ := h
    have hc : 48 ≤ c ∧ c ≤ 57 := of_decide_eq_true h1
    rw [List.foldl_cons]
    have hm : mstep (ds, b, e) c = ((c - 48) :: ds, b, if b = true then e + 1 else e) := by
      unfold mstep; rw [if_neg (by omega), if_neg (by omega)]
    rw [hm, ih _ _ _ (by simp [allDig]; exact h2)]
    have : lows (c :: ys) = lows ys ++ [c - 48] := by simp [lows]
    rw [this, List.append_assoc, List.singleton_append]
    cases b
    · rfl
    · simp; omega
/-- What a number's mantissa tells. -/
theorem mfold_parts {xs sg wh fr pw : List Nat} (h : Parts xs sg wh fr pw) : ∃ f, allDig f = true ∧ (fr = [] ∧ f = [] ∨ fr = 46 :: f) ∧ (mfold (sg ++ (wh ++ fr))).1 = lows (wh ++ f) ∧ (mfold (sg ++ (wh ++ fr))).2.2 = f.length := by
  have h0 : sg.foldl mstep ([], false, 0) = ([], false, 0) := by
    rcases h.sg with rfl | rfl <;> rfl
  unfold mfold
  rw [List.foldl_append, h0, List.foldl_append, mdigs _ _ _ _ h.wh.1]
  rcases h.fr with rfl | ⟨f, rfl, hf, _⟩
  · exact ⟨[], rfl, .inl ⟨rfl, rfl⟩, by simp, by simp⟩
  · refine ⟨f, hf, .inr rfl, ?_⟩
    rw [List.foldl_cons, show mstep (lows wh ++ [], false, if false = true then 0 + wh.length else 0) 46 = (lows wh, true, 0) by simp [mstep], mdigs _ _ _ _ hf]
    simp [lows]
/-- The octets of a mantissa. -/
theorem mant_octs {xs sg wh fr pw : List Nat} (h : Parts xs sg wh fr pw) : ∀ c ∈ sg ++ (wh ++ fr), c = 45 ∨ c = 46 ∨ (48 ≤ c ∧ c ≤ 57) := by
  intro c hc
  have dig : ∀ ys : List Nat, allDig ys = true → c ∈ ys → 48 ≤ c ∧ c ≤ 57 := fun ys hy hm => by
    unfold allDig at hy
    rw [List.all_eq_true] at hy
    exact of_decide_eq_true (hy c hm)
  rcases List.mem_append.1 hc with hc | hc
  · rcases h.sg with rfl | rfl
    · cases hc
    · left; simpa using hc
  · rcases List.mem_append.1 hc with hc | hc
    · exact .inr (.inr (dig _ h.wh.1 hc))
    · rcases h.fr with rfl | ⟨f, rfl, hf, _⟩
      · cases hc
      · rcases List.mem_cons.1 hc with hc | hc
        · exact .inr (.inl hc)
        · exact .inr (.inr (dig _ hf hc))
/-- The exponent, octet by octet. -/
def pstep (st : Bool × Nat) (c : Nat) : Bool × Nat := if c = 45 then (true, st.2) else if c = 43 then st else (st.1, st.2 * 10 + (c - 48))
def pfold (xs : List Nat) : Bool × Nat := xs.foldl pstep (false, 0)
theorem pdigs (ys : List Nat) : ∀ (b : Bool) (v : Nat), allDig ys = true → ys.foldl pstep (b, v) = (b, v * 10 ^ ys.length + pnum ys) := by
  induction ys with
  | nil => intro b v _; simp [pnum_nil]
  | cons c ys ih =>
    intro b v h
    simp [allDig] at h
    obtain ⟨h1, h2⟩ := h
    have hc : 48 ≤ c ∧ c ≤ 57 := of_decide_eq_true h1
    rw [List.foldl_cons, show pstep (b, v) c = (b, v * 10 + (c - 48)) by unfold pstep; rw [if_neg (by omega), if_neg (by omega)], ih _ _ (by simp [allDig]; exact h2), pnum_cons, List.length_cons, Nat.pow_succ, Nat.add_mul, Nat.mul_assoc, Nat.mul_comm 10, Nat.add_assoc]
theorem pfold_parts {s p : List Nat} (hs : s = [] ∨ s = [43] ∨ s = [45]) (hp : allDig p = true) : pfold (s ++ p) = (s == [45], pnum p) := by
  unfold pfold
  rw [List.foldl_append]
  rcases hs with rfl | rfl | rfl
  · rw [List.foldl_nil, pdigs _ _ _ hp]; simp
  · rw [show [43].foldl pstep (false, 0) = (false, 0) from rfl, pdigs _ _ _ hp]; simp
  · rw [show [45].foldl pstep (false, 0) = (true, 0) from rfl, pdigs _ _ _ hp]; simp
end Go.Proofs.YtpjllcengnolkaaGreatDoor

namespace Go.Proofs.YtpjllcengnolkaaGreatDoor
open Go.RowKit

/-- The octets ahead of the exponent. -/
def cutE (xs : List Nat) : List Nat := xs.takeWhile (fun c => decide (c ≠ 101 ∧ c ≠ 69))
def tMan (xs : List Nat) : List Nat × Bool × Nat := mfold (cutE xs)
def tPow (xs : List Nat) : Bool × Nat := pfold (xs.drop ((cutE xs).length + 1))
def tNeg (xs : List Nat) : Bool := nth xs 0 == 45
def tVal (xs : List Nat) : Nat := dval (tMan xs).1
def tExp (xs : List Nat) : Int := (if (tPow xs).1 = true then -((tPow xs).2 : Int) else ((tPow xs).2 : Int)) - ((tMan xs).2.2 : Int)
theorem cutE_plain {ys : List Nat} (h : ∀ c ∈ ys, c = 45 ∨ c = 46 ∨ (48 ≤ c ∧ c ≤ 57)) : cutE ys = ys := by
  induction ys with
  | nil => rfl
  | cons c ys ih =>
    unfold cutE at ih ⊢
    have := h c (List.mem_cons_self ..)
    rw [List.takeWhile_cons_of_pos (by simp; omega), ih fun d hd => h d (List.mem_cons_of_mem _ hd)]
theorem cutE_at {ys : List Nat} (h : ∀ c ∈ ys, c = 45 ∨ c = 46 ∨ (48 ≤ c ∧ c ≤ 57)) {e : Nat} (he : e = 101 ∨ e = 69) (zs : List Nat) : cutE (ys ++ e :: zs) = ys := by
  induction ys with
  | nil =>
    unfold cutE
    rw [List.nil_append, List.takeWhile_cons_of_neg (by simp; omega)]
  | cons c ys ih =>
    unfold cutE at ih ⊢
    have := h c (List.mem_cons_self ..)
    rw [List.cons_append, List.takeWhile_cons_of_pos (by simp; omega), ih fun d hd => h d (List.mem_cons_of_mem _ hd)]
/-- How many digits of the exponent count. -/
def Cnt (v n : Nat) : Prop := v < 10 ^ n ∧ (n = 0 ∨ 10 ^ (n - 1) ≤ v)
theorem Cnt.zero : Cnt 0 0 := ⟨by decide, .inl rfl⟩
theorem Cnt.none {n : Nat} (h : Cnt 0 n) : n = 0 := by
  rcases h.2 with h | h
  · exact h
  · have := Nat.pow_pos (n := n - 1) (by omega : 0 < 10); omega
theorem Cnt.step {v n d : Nat} (h : Cnt v n) (hd : d ≤ 9) (hp : 0 < v ∨ 0 < d) : Cnt (v * 10 + d) (n + 1) := by
  refine ⟨by rw [Nat.pow_succ]; have := h.1; omega, .inr ?_⟩
  rw [Nat.add_sub_cancel]
  rcases h.2 with h0 | h0
  · subst h0
    have := h.1
    simp at this
    simp
    omega
  · obtain ⟨m, rfl⟩ : ∃ m, n = m + 1 := ⟨n - 1, by
      have := h.1
      rcases Nat.eq_zero_or_pos n with e | e
      · subst e; simp at this h0; omega
      · omega⟩
    rw [Nat.add_sub_cancel] at h0
    rw [Nat.pow_succ]
    omega
theorem Cnt.six {v n : Nat} (h : Cnt v n) (hn : n ≤ 6) : v < 1000000 := Nat.lt_of_lt_of_le h.1 (Nat.pow_le_pow_right (by omega) hn)
theorem Cnt.seven {v n : Nat} (h : Cnt v n) (hn : 6 < n) : 1000000 ≤ v := by
  rcases h.2 with h0 | h0
  · omega
  · exact Nat.le_trans (Nat.pow_le_pow_right (by omega : 0 < 10) (by omega : 6 ≤ n - 1)) h0

end Go.Proofs.YtpjllcengnolkaaGreatDoor

namespace Go.Proofs.YtpjllcengnolkaaGreatDoor
open Go.RowKit

/-- What a text tells, settled. -/
def gE (xs : List Nat) : Nat := if 1000000 ≤ (tPow xs).2 then 52 else stE (tVal xs) (tExp xs)
def gN (xs : List Nat) : Bool := if 1000000 ≤ (tPow xs).2 then false else stN (tNeg xs) (tVal xs) (tExp xs)
def gX (xs : List Nat) : Int := if 1000000 ≤ (tPow xs).2 then 0 else stX (tVal xs) (tExp xs)
def gZ (xs : List Nat) : List Nat := if 1000000 ≤ (tPow xs).2 then [] else stZ (tVal xs) (tExp xs)
theorem g_small {xs : List Nat} (h : (tPow xs).2 < 1000000) : gE xs = stE (tVal xs) (tExp xs) ∧ gN xs = stN (tNeg xs) (tVal xs) (tExp xs) ∧ gX xs = stX (tVal xs) (tExp xs) ∧ gZ xs = stZ (tVal xs) (tExp xs) := by
  have : ¬ 1000000 ≤ (tPow xs).2 := by omega
  unfold gE gN gX gZ
  rw [if_neg this, if_neg this, if_neg this, if_neg this]
  exact ⟨rfl, rfl, rfl, rfl⟩
theorem g_big {xs : List Nat} (h : 1000000 ≤ (tPow xs).2) : gE xs = 52 ∧ gN xs = false ∧ gX xs = 0 ∧ gZ xs = [] := by
  unfold gE gN gX gZ
  rw [if_pos h, if_pos h, if_pos h, if_pos h]
  exact ⟨rfl, rfl, rfl, rfl⟩

end Go.Proofs.YtpjllcengnolkaaGreatDoor

namespace Go.Proofs.YtpjllcengnolkaaGreatDoor
open Go.RowKit

/-- What any text tells. -/
def fGood (xs : List Nat) : Prop := form xs = some xs.length ∧ xs.length ≤ 2000
instance (xs : List Nat) : Decidable (fGood xs) := inferInstanceAs (Decidable (_ ∧ _))
def fE (xs : List Nat) : Nat := if fGood xs then gE xs else if form xs = some xs.length then 5 else 32
def fN (xs : List Nat) : Bool := if fGood xs then gN xs else false
def fX (xs : List Nat) : Int := if fGood xs then gX xs else 0
def fZ (xs : List Nat) : List Nat := if fGood xs then gZ xs else []

end Go.Proofs.YtpjllcengnolkaaGreatDoor
