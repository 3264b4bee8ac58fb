/-
  Contract of the reference's Same: are two decimals one?
  What the walks of several laws share: words and lemmas (Dordb).
  The answers of dec's Add, Sub and Mul, in numbers, in one form each. Contracts in that form.
  What the walks of several laws share: words and lemmas (Dsumb).
-/
import Derived.Test.YtjjpagdnjafgaaaGreatDoorGDref
import Derived.Test.YtjjpagdnjafgaaaGreatDoorGDq
import Derived.Deep.Cut
import Derived.Test.YtjjpagdnjafgaaaGreatDoorGDpar
import Derived.Test.YtjjpagdnjafgaaaGreatDoorGDadd
import Derived.Test.YtjjpagdnjafgaaaGreatDoorGDsm

set_option linter.unusedVariables false
set_option linter.unusedSimpArgs false
namespace Go.Proofs.YtjjpagdnjafgaaaGreatDoor
open Go.RowKit

/-- What Compare answers, in numbers. -/
def cmpV (na : Bool) (xs : List Nat) (e1 : Int) (nb : Bool) (ys : List Nat) (e2 : Int) : Int := if okE2 na xs e1 nb ys e2 = 0 then cmpI (sv na (val xs) e1) (sv nb (val ys) e2) else 0
theorem okE2_zero {na nb : Bool} {xs ys : List Nat} {e1 e2 : Int} : okE2 na xs e1 nb ys e2 = 0 ↔ okB na xs e1 = true ∧ okB nb ys e2 = true := by
  unfold okE2 okE
  by_cases h1 : okB na xs e1 = true
  · rw [if_pos h1]
    by_cases h2 : okB nb ys e2 = true
    · rw [if_pos h2]; exact ⟨fun _ => ⟨h1, h2⟩, fun _ => rfl⟩
    · rw [if_neg h2]; exact ⟨fun h => by omega, fun h => absurd h.2 h2⟩
  · rw [if_neg h1]; exact ⟨fun h => by omega, fun h => absurd h.1 h1⟩
theorem DCompare_v {S : Nat → Prop} {n m c d : Nat} {A B : Option Addr} {xs ys : List Nat} (na nb : Bool) (e1 e2 : Int) (w : World)
    (ha1 : Rd w S A n xs) (ha2 : Rd w S B m ys) (hS : ∀ b, S b → b < w.heap.size) (hn : n ≤ 9223372036854775807) (hm : m ≤ 9223372036854775807) :
    Calls Tryz.prog 13 #[dv na A n c e1, dv nb B m d e2] w fun e w' => e = .returned (.tuple #[.int .i64 (cmpV na xs e1 nb ys e2), .int .i64 (okE2 na xs e1 nb ys e2 : Int)]) ∧ Below w.heap.size w w' := by
  obtain ⟨P1, hP1⟩ : ∃ P1 : Nat, e1 - min e1 e2 = (P1 : Int) := ⟨(e1 - min e1 e2).toNat, by omega⟩
  obtain ⟨P2, hP2⟩ : ∃ P2 : Nat, e2 - min e1 e2 = (P2 : Int) := ⟨(e2 - min e1 e2).toNat, by omega⟩
  refine (DCompare_c (c := c) (d := d) na nb e1 e2 _ P1 P2 w ha1 ha2 hS hn hm rfl hP1 hP2).mono ?_
  rintro e w' ⟨hbad, hgood, hb⟩
  refine ⟨?_, hb⟩
  unfold cmpV
  by_cases h0 : okE2 na xs e1 nb ys e2 = 0
  · obtain ⟨k1, k2⟩ := okE2_zero.1 h0
    obtain ⟨_, _, _, r1, _, _⟩ := okB_true ha1.l32 k1
    obtain ⟨_, _, _, r2, _, _⟩ := okB_true ha2.l32 k2
    rw [hgood h0, if_pos h0, h0, dcN_sv (okB_pos ha1.l32 k1) (okB_pos ha2.l32 k2) (by omega) hP1 hP2]
    rfl
  · rw [hbad h0, if_neg h0]

end Go.Proofs.YtjjpagdnjafgaaaGreatDoor

namespace Go.Proofs.YtjjpagdnjafgaaaGreatDoor
open Go.RowKit

def p1 (e1 e2 : Int) : Nat := (e1 - min e1 e2).toNat
section
variable {S : Nat → Prop} {n m c d : Nat} {A B : Option Addr} {xs ys : List Nat}
end
end Go.Proofs.YtjjpagdnjafgaaaGreatDoor
