/-
  What a decimal's text is, in octets, and contracts of dec's plain and withPower.
  Contract of dec.Print: a decimal's text, in octets, or the error.
  JSON's form of a number over octets; contracts of the reference's digit and Ends.
  Plain mathematics: a number's text in its parts, what its mantissa and its exponent tell. No Go.
  A law for the walk: 'append(a, b...)' of ints, a the call's own, b any slice that reads as numbers, nil or not.
  Contract of the reference's Parse.
  Contract of the reference's Parse, of texts that have the form.
  Contract of the reference's Parse, of any text.
  Contracts of the law's num and Of (of a text).
-/
import Derived.Test.YtjjpagdnjafgaaaGreatDoorGDset
import Derived.Test.YtjjpagdnjafgaaaGreatDoorGNparse
import Derived.Test.YtjjpagdnjafgaaaGreatDoorGDadd
import Derived.Test.YtjjpagdnjafgaaaGreatDoorGDref
import Derived.Deep.Cut
import Derived.Deep.CutRange
import Derived.Deep.CutBlock
import Derived.Test.YtjjpagdnjafgaaaGreatDoorGNdig
import Derived.Laws.AppendOwnNone
set_option linter.unusedVariables false
set_option linter.unusedSimpArgs false
namespace Go.Proofs.YtjjpagdnjafgaaaGreatDoor
open Go.RowKit

/-- The octets of a number, with '-' ahead where it is below 0. -/
def itoO (z : Int) : List Nat := (Lib.itoa z).map (·.toNat)
/-- A call of Itoa at this number tells its octets, whatever was laid since. -/
def ItoaOk (B : Nat) (w : World) (z : Int) : Prop := ∀ W, Below B w W → Calls Tryz.prog 155 #[.int .i64 z] W fun e w' => ∃ t, e = .returned (.string t) ∧ octs t = itoO z ∧ t.size ≤ 100 ∧ Below W.heap.size W w'
end Go.Proofs.YtjjpagdnjafgaaaGreatDoor

namespace Go.Proofs.YtjjpagdnjafgaaaGreatDoor
open Go.RowKit

theorem ItoaOk.on {B B' : Nat} {w w' : World} {z : Int} (h : ItoaOk B w z) (hb : Below B w w') (hB : B ≤ B') : ItoaOk B' w' z := fun W hW => h W (hb.trans (hW.mono hB))
end Go.Proofs.YtjjpagdnjafgaaaGreatDoor

namespace Go.Proofs.YtjjpagdnjafgaaaGreatDoor
open Go.RowKit

/-- Where the digits that begin at a place end. -/
def dEnd (xs : List Nat) (k : Nat) : Nat := k + ((xs.drop k).takeWhile isDig).length
/-- The parts of the form: where each ends, if it may stand there. -/
def fSgn (xs : List Nat) : Nat := if nth xs 0 = 45 then 1 else 0
def fWhole (xs : List Nat) (k : Nat) : Option Nat := if isDig (nth xs k) = true then some (if nth xs k = 48 then k + 1 else dEnd xs k) else none
def fFrac (xs : List Nat) (k : Nat) : Option Nat := if nth xs k = 46 then (if isDig (nth xs (k + 1)) = true then some (dEnd xs (k + 1)) else none) else some k
def fSg (xs : List Nat) (k : Nat) : Nat := if nth xs k = 43 ∨ nth xs k = 45 then k + 1 else k
def fPow (xs : List Nat) (k : Nat) : Option Nat := if nth xs k = 101 ∨ nth xs k = 69 then (if isDig (nth xs (fSg xs (k + 1))) = true then some (dEnd xs (fSg xs (k + 1))) else none) else some k
def form (xs : List Nat) : Option Nat := (fWhole xs (fSgn xs)).bind fun k => (fFrac xs k).bind (fPow xs)

end Go.Proofs.YtjjpagdnjafgaaaGreatDoor



namespace Go.Proofs.YtjjpagdnjafgaaaGreatDoor
open Go.RowKit

/-- How many digits of the exponent count. -/
def Cnt (v n : Nat) : Prop := v < 10 ^ n ∧ (n = 0 ∨ 10 ^ (n - 1) ≤ v)
theorem Cnt.zero : Cnt 0 0 := ⟨by decide, .inl rfl⟩
theorem Cnt.none {n : Nat} (h : Cnt 0 n) : n = 0 := by
  rcases h.2 with h | h
  · exact h
  · have := Nat.pow_pos (n := n - 1) (by omega : 0 < 10); omega
theorem Cnt.step {v n d : Nat} (h : Cnt v n) (hd : d ≤ 9) (hp : 0 < v ∨ 0 < d) : Cnt (v * 10 + d) (n + 1) := by
  refine ⟨by rw [Nat.pow_succ]; have := h.1; omega, .inr ?_⟩
  rw [Nat.add_sub_cancel]
  rcases h.2 with h0 | h0
  · subst h0
    have := h.1
    simp at this
    simp
    omega
  · obtain ⟨m, rfl⟩ : ∃ m, n = m + 1 := ⟨n - 1, by
      have := h.1
      rcases Nat.eq_zero_or_pos n with e | e
      · subst e; simp at this h0; omega
      · omega⟩
    rw [Nat.add_sub_cancel] at h0
    rw [Nat.pow_succ]
    omega
theorem Cnt.seven {v n : Nat} (h : Cnt v n) (hn : 6 < n) : 1000000 ≤ v := by
  rcases h.2 with h0 | h0
  · omega
  · exact Nat.le_trans (Nat.pow_le_pow_right (by omega : 0 < 10) (by omega : 6 ≤ n - 1)) h0

end Go.Proofs.YtjjpagdnjafgaaaGreatDoor


namespace Go.Proofs.YtjjpagdnjafgaaaGreatDoor
open Go.RowKit

/-- What any text tells. -/
def fGood (xs : List Nat) : Prop := form xs = some xs.length ∧ xs.length ≤ 2000
instance (xs : List Nat) : Decidable (fGood xs) := inferInstanceAs (Decidable (_ ∧ _))
end Go.Proofs.YtjjpagdnjafgaaaGreatDoor
