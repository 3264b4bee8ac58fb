/-
  JSON's form of a number over octets; contracts of the reference's digit and Ends.
  Plain mathematics: a number's text in its parts, what its mantissa and its exponent tell. No Go.
  A law for the walk: 'append(a, b...)' of ints, a the call's own, b any slice that reads as numbers, nil or not.
  Contract of the reference's Parse.
  Contract of the reference's Parse, of texts that have the form.
  Contract of the reference's Parse, of any text.
  Contracts of the law's num and Of (of a text).
  What an operation of decimals answers, in numbers; what a decimal that may be is; numbers of so many digits. Plain words and lemmas.
-/
import Derived.Test.YtcanfiaooabocaaGreatDoorQDref
import Derived.Deep.Cut
import Derived.Deep.CutRange
import Derived.Deep.CutBlock
import Derived.Test.YtcanfiaooabocaaGreatDoorQNparse
import Derived.Test.YtcanfiaooabocaaGreatDoorQDset
import Derived.Test.YtcanfiaooabocaaGreatDoorQNdig
import Derived.Laws.AppendOwnNone
import Derived.PlainAid
set_option linter.unusedVariables false
set_option linter.unusedSimpArgs false
namespace Go.Proofs.YtcanfiaooabocaaGreatDoor
open Go.RowKit

/-- Where the digits that begin at a place end. -/
def dEnd (xs : List Nat) (k : Nat) : Nat := k + ((xs.drop k).takeWhile isDig).length
/-- The parts of the form: where each ends, if it may stand there. -/
def fSgn (xs : List Nat) : Nat := if nth xs 0 = 45 then 1 else 0
def fWhole (xs : List Nat) (k : Nat) : Option Nat := if isDig (nth xs k) = true then some (if nth xs k = 48 then k + 1 else dEnd xs k) else none
def fFrac (xs : List Nat) (k : Nat) : Option Nat := if nth xs k = 46 then (if isDig (nth xs (k + 1)) = true then some (dEnd xs (k + 1)) else none) else some k
def fSg (xs : List Nat) (k : Nat) : Nat := if nth xs k = 43 ∨ nth xs k = 45 then k + 1 else k
def fPow (xs : List Nat) (k : Nat) : Option Nat := if nth xs k = 101 ∨ nth xs k = 69 then (if isDig (nth xs (fSg xs (k + 1))) = true then some (dEnd xs (fSg xs (k + 1))) else none) else some k
def form (xs : List Nat) : Option Nat := (fWhole xs (fSgn xs)).bind fun k => (fFrac xs k).bind (fPow xs)

end Go.Proofs.YtcanfiaooabocaaGreatDoor

namespace Go.Proofs.YtcanfiaooabocaaGreatDoor

/-- Text in parts: sign, whole, fraction, exponent's head and digits. -/
structure Parts (xs sg wh fr pw : List Nat) : Prop where
  eq : xs = sg ++ (wh ++ (fr ++ pw))
  sg : sg = [] ∨ sg = [45]
  wh : allDig wh = true ∧ wh ≠ []
  fr : fr = [] ∨ ∃ f, fr = 46 :: f ∧ allDig f = true ∧ f ≠ []
  pw : pw = [] ∨ ∃ e s p, pw = e :: (s ++ p) ∧ (e = 101 ∨ e = 69) ∧ (s = [] ∨ s = [43] ∨ s = [45]) ∧ allDig p = true ∧ p ≠ []

/-- The mantissa, octet by octet: digits (the lowest first), the point seen, digits behind it. -/
def mstep (st : List Nat × Bool × Nat) (c : Nat) : List Nat × Bool × Nat :=
  if c = 46 then (st.1, true, st.2.2) else if c = 45 then st else ((c - 48) :: st.1, st.2.1, if st.2.1 = true then st.2.2 + 1 else st.2.2)
def mfold (xs : List Nat) : List Nat × Bool × Nat := xs.foldl mstep ([], false, 0)
theorem mdigs (ys : List Nat) : ∀ (ds : List Nat) (b : Bool) (e : Nat), allDig ys = true → ys.foldl mstep (ds, b, e) = (lows ys ++ ds, b, if b = true then e + ys.length else e) := by
  induction ys with
  | nil => intro ds b e _; simp [lows]
  | cons c ys ih =>
    intro ds b e h
    simp [allDig] at h
    obtain ⟨h1, h2⟩ := h
    have hc : 48 ≤ c ∧ c ≤ 57 := of_decide_eq_true h1
    rw [List.foldl_cons]
    have hm : mstep (ds, b, e) c = ((c - 48) :: ds, b, if b = true then e + 1 else e) := by
      unfold mstep; rw [if_neg (by omega), if_neg (by omega)]
    rw [hm, ih _ _ _ (by simp [allDig]; exact h2)]
    have : lows (c :: ys) = lows ys ++ [c - 48] := by simp [lows]
    rw [this, List.append_assoc, List.singleton_append]
    cases b
    · rfl
    · simp; omega
/-- What a number's mantissa tells. -/
theorem mfold_parts {xs sg wh fr pw : List Nat} (h : Parts xs sg wh fr pw) : ∃ f, allDig f = true ∧ (fr = [] ∧ f = [] ∨ fr = 46 :: f) ∧ (mfold (sg ++ (wh ++ fr))).1 = lows (wh ++ f) ∧ (mfold (sg ++ (wh ++ fr))).2.2 = f.length := by
  have h0 : sg.foldl mstep ([], false, 0) = ([], false, 0) := by
    rcases h.sg with rfl | rfl <;> rfl
  unfold mfold
  rw [List.foldl_append, h0, List.foldl_append, mdigs _ _ _ _ h.wh.1]
  rcases h.fr with rfl | ⟨f, rfl, hf, _⟩
  · exact ⟨[], rfl, .inl ⟨rfl, rfl⟩, by simp, by simp⟩
  · refine ⟨f, hf, .inr rfl, ?_⟩
    rw [List.foldl_cons, show mstep (lows wh ++ [], false, if false = true then 0 + wh.length else 0) 46 = (lows wh, true, 0) by simp [mstep], mdigs _ _ _ _ hf]
    simp [lows]
/-- The octets of a mantissa. -/
theorem mant_octs {xs sg wh fr pw : List Nat} (h : Parts xs sg wh fr pw) : ∀ c ∈ sg ++ (wh ++ fr), c = 45 ∨ c = 46 ∨ (48 ≤ c ∧ c ≤ 57) := by
  intro c hc
  have dig : ∀ ys : List Nat, allDig ys = true → c ∈ ys → 48 ≤ c ∧ c ≤ 57 := fun ys hy hm => by
    unfold allDig at hy
    rw [List.all_eq_true] at hy
    exact of_decide_eq_true (hy c hm)
  rcases List.mem_append.1 hc with hc | hc
  · rcases h.sg with rfl | rfl
    · cases hc
    · left; simpa using hc
  · rcases List.mem_append.1 hc with hc | hc
    · exact .inr (.inr (dig _ h.wh.1 hc))
    · rcases h.fr with rfl | ⟨f, rfl, hf, _⟩
      · cases hc
      · rcases List.mem_cons.1 hc with hc | hc
        · exact .inr (.inl hc)
        · exact .inr (.inr (dig _ hf hc))
/-- The exponent, octet by octet. -/
def pstep (st : Bool × Nat) (c : Nat) : Bool × Nat := if c = 45 then (true, st.2) else if c = 43 then st else (st.1, st.2 * 10 + (c - 48))
def pfold (xs : List Nat) : Bool × Nat := xs.foldl pstep (false, 0)
theorem pdigs (ys : List Nat) : ∀ (b : Bool) (v : Nat), allDig ys = true → ys.foldl pstep (b, v) = (b, v * 10 ^ ys.length + pnum ys) := by
  induction ys with
  | nil => intro b v _; simp [pnum_nil]
  | cons c ys ih =>
    intro b v h
    simp [allDig] at h
    obtain ⟨h1, h2⟩ := h
    have hc : 48 ≤ c ∧ c ≤ 57 := of_decide_eq_true h1
    rw [List.foldl_cons, show pstep (b, v) c = (b, v * 10 + (c - 48)) by unfold pstep; rw [if_neg (by omega), if_neg (by omega)], ih _ _ (by simp [allDig]; exact h2), pnum_cons, List.length_cons, Nat.pow_succ, Nat.add_mul, Nat.mul_assoc, Nat.mul_comm 10, Nat.add_assoc]
theorem pfold_parts {s p : List Nat} (hs : s = [] ∨ s = [43] ∨ s = [45]) (hp : allDig p = true) : pfold (s ++ p) = (s == [45], pnum p) := by
  unfold pfold
  rw [List.foldl_append]
  rcases hs with rfl | rfl | rfl
  · rw [List.foldl_nil, pdigs _ _ _ hp]; simp
  · rw [show [43].foldl pstep (false, 0) = (false, 0) from rfl, pdigs _ _ _ hp]; simp
  · rw [show [45].foldl pstep (false, 0) = (true, 0) from rfl, pdigs _ _ _ hp]; simp
end Go.Proofs.YtcanfiaooabocaaGreatDoor


namespace Go.Proofs.YtcanfiaooabocaaGreatDoor
open Go.RowKit

/-- The octets ahead of the exponent. -/
def cutE (xs : List Nat) : List Nat := xs.takeWhile (fun c => decide (c ≠ 101 ∧ c ≠ 69))
def tMan (xs : List Nat) : List Nat × Bool × Nat := mfold (cutE xs)
def tPow (xs : List Nat) : Bool × Nat := pfold (xs.drop ((cutE xs).length + 1))
def tNeg (xs : List Nat) : Bool := nth xs 0 == 45
def tVal (xs : List Nat) : Nat := dval (tMan xs).1
def tExp (xs : List Nat) : Int := (if (tPow xs).1 = true then -((tPow xs).2 : Int) else ((tPow xs).2 : Int)) - ((tMan xs).2.2 : Int)
theorem cutE_plain {ys : List Nat} (h : ∀ c ∈ ys, c = 45 ∨ c = 46 ∨ (48 ≤ c ∧ c ≤ 57)) : cutE ys = ys := by
  induction ys with
  | nil => rfl
  | cons c ys ih =>
    unfold cutE at ih ⊢
    have := h c (List.mem_cons_self ..)
    rw [List.takeWhile_cons_of_pos (by simp; omega), ih fun d hd => h d (List.mem_cons_of_mem _ hd)]
theorem cutE_at {ys : List Nat} (h : ∀ c ∈ ys, c = 45 ∨ c = 46 ∨ (48 ≤ c ∧ c ≤ 57)) {e : Nat} (he : e = 101 ∨ e = 69) (zs : List Nat) : cutE (ys ++ e :: zs) = ys := by
  induction ys with
  | nil =>
    unfold cutE
    rw [List.nil_append, List.takeWhile_cons_of_neg (by simp; omega)]
  | cons c ys ih =>
    unfold cutE at ih ⊢
    have := h c (List.mem_cons_self ..)
    rw [List.cons_append, List.takeWhile_cons_of_pos (by simp; omega), ih fun d hd => h d (List.mem_cons_of_mem _ hd)]
end Go.Proofs.YtcanfiaooabocaaGreatDoor

namespace Go.Proofs.YtcanfiaooabocaaGreatDoor
open Go.RowKit

/-- What a text tells, settled. -/
def gE (xs : List Nat) : Nat := if 1000000 ≤ (tPow xs).2 then 52 else stE (tVal xs) (tExp xs)
def gN (xs : List Nat) : Bool := if 1000000 ≤ (tPow xs).2 then false else stN (tNeg xs) (tVal xs) (tExp xs)
def gX (xs : List Nat) : Int := if 1000000 ≤ (tPow xs).2 then 0 else stX (tVal xs) (tExp xs)
def gZ (xs : List Nat) : List Nat := if 1000000 ≤ (tPow xs).2 then [] else stZ (tVal xs) (tExp xs)
theorem g_small {xs : List Nat} (h : (tPow xs).2 < 1000000) : gE xs = stE (tVal xs) (tExp xs) ∧ gN xs = stN (tNeg xs) (tVal xs) (tExp xs) ∧ gX xs = stX (tVal xs) (tExp xs) ∧ gZ xs = stZ (tVal xs) (tExp xs) := by
  have : ¬ 1000000 ≤ (tPow xs).2 := by omega
  unfold gE gN gX gZ
  rw [if_neg this, if_neg this, if_neg this, if_neg this]
  exact ⟨rfl, rfl, rfl, rfl⟩
end Go.Proofs.YtcanfiaooabocaaGreatDoor

namespace Go.Proofs.YtcanfiaooabocaaGreatDoor
open Go.RowKit

/-- What any text tells. -/
def fGood (xs : List Nat) : Prop := form xs = some xs.length ∧ xs.length ≤ 2000
instance (xs : List Nat) : Decidable (fGood xs) := inferInstanceAs (Decidable (_ ∧ _))
def fE (xs : List Nat) : Nat := if fGood xs then gE xs else if form xs = some xs.length then 5 else 32
def fN (xs : List Nat) : Bool := if fGood xs then gN xs else false
def fX (xs : List Nat) : Int := if fGood xs then gX xs else 0
def fZ (xs : List Nat) : List Nat := if fGood xs then gZ xs else []

end Go.Proofs.YtcanfiaooabocaaGreatDoor

namespace Go.Proofs.YtcanfiaooabocaaGreatDoor
open Go.RowKit

theorem pow_le10 {p q : Nat} (h : p ≤ q) : dp p ≤ 10 ^ q := Nat.pow_le_pow_right (by omega) h
/-- What a decimal that may be is, in numbers. -/
theorem okB_true {neg : Bool} {xs : List Nat} {exp : Int} (hl : L32 xs) (h : okB neg xs exp = true) : Can xs ∧ xs.length ≤ 256 ∧ val xs < 10 ^ 300 ∧ (-1000 ≤ exp ∧ exp ≤ 1000) ∧ (xs.length = 0 → neg = false ∧ exp = 0) ∧ (xs.length ≠ 0 → nth (dOf (val xs)) 0 ≠ 0) := by
  unfold okB at h
  rw [Bool.and_eq_true, Bool.and_eq_true, decide_eq_true_eq, decide_eq_true_eq] at h
  obtain ⟨h1, h2, h3⟩ := h
  obtain ⟨c1, c2⟩ := can_of_chk hl h1
  have hv : val xs < 10 ^ 300 := by
    have h4 := dval_lt (dOf_can (val xs)).1
    rw [dOf_val] at h4
    obtain ⟨T, hT⟩ : ∃ T, T = 300 := ⟨_, rfl⟩
    rw [← hT] at h2 ⊢
    exact Nat.lt_of_lt_of_le h4 (pow_le10 h2)
  by_cases h0 : xs.length = 0
  · rw [if_pos h0, Bool.and_eq_true] at h3
    obtain ⟨h5, h6⟩ := h3
    have h7 : exp = 0 := by simpa using h6
    have h8 : neg = false := by simpa using h5
    exact ⟨c1, c2, hv, by omega, fun _ => ⟨h8, h7⟩, fun h => absurd h0 h⟩
  · rw [if_neg h0, Bool.and_eq_true, Bool.and_eq_true, decide_eq_true_eq, decide_eq_true_eq, decide_eq_true_eq] at h3
    exact ⟨c1, c2, hv, h3.2, fun h => absurd h h0, fun _ => h3.1⟩
theorem box3_of {w : World} {b : Nat} {v0 v1 v2 : Value} {t : TypeId} (h : w.heap[b]? = some (.cells #[v0, v1, v2] t)) : w.cell? ⟨b, 0, none⟩ = some v0 ∧ w.cell? ⟨b, 1, none⟩ = some v1 ∧ w.cell? ⟨b, 2, none⟩ = some v2 :=
  ⟨cell_of h rfl, cell_of h rfl, cell_of h rfl⟩
theorem heldz {w w' : World} {b : Nat} {vs : Array Value} {t : TypeId} (hb : Below w.heap.size w w') (h : w.heap[b]? = some (.cells vs t)) : w'.heap[b]? = some (.cells vs t) := held hb (Array.getElem?_eq_some_iff.1 h).1 h
theorem heldA {w : World} {b : Nat} {vs : Array Value} {t : TypeId} (o : Obj) (h : w.heap[b]? = some (.cells vs t)) : (w.alloc o).heap[b]? = some (.cells vs t) := (Below.heap_alloc _ _ _ (Array.getElem?_eq_some_iff.1 h).1).trans h
theorem okB_len {neg : Bool} {xs : List Nat} {exp : Int} (h : okB neg xs exp = true) : (dOf (val xs)).length ≤ 300 := by
  unfold okB at h
  rw [Bool.and_eq_true, Bool.and_eq_true, decide_eq_true_eq, decide_eq_true_eq] at h
  exact h.2.1
end Go.Proofs.YtcanfiaooabocaaGreatDoor
