/-
  What the walks of several laws share: words and lemmas (Dsumb).
-/
import Derived.Test.YtnlkcjfedomcgaaGreatDoorDz
set_option linter.unusedVariables false
set_option linter.unusedSimpArgs false
namespace Go.Proofs.YtnlkcjfedomcgaaGreatDoor
open Go.RowKit

theorem heldz {w w' : World} {b : Nat} {vs : Array Value} {t : TypeId} (hb : Below w.heap.size w w') (h : w.heap[b]? = some (.cells vs t)) : w'.heap[b]? = some (.cells vs t) := held hb (Array.getElem?_eq_some_iff.1 h).1 h
theorem heldA {w : World} {b : Nat} {vs : Array Value} {t : TypeId} (o : Obj) (h : w.heap[b]? = some (.cells vs t)) : (w.alloc o).heap[b]? = some (.cells vs t) := (Below.heap_alloc _ _ _ (Array.getElem?_eq_some_iff.1 h).1).trans h
/-- An operation's answer, in letters. -/
def Answ (e : Ending) (w' : World) (base : Nat) (N : Bool) (X : Int) (Z : List Nat) (E : Nat) : Prop := ∃ A' n' c', e = .returned (.tuple #[dv N A' n' c' X, .int .i64 (E : Int)]) ∧ Res w' base A' n' c' Z
theorem Told.answ {e : Ending} {w' : World} {base E : Nat} {s : Bool} {Z : Nat} {lo : Int} (h : Told e w' base E s Z lo) {N : Bool} {X : Int} {L : List Nat} {F : Nat} (h1 : opN E s Z lo = N) (h2 : opX E Z lo = X) (h3 : opZ E Z lo = L) (h4 : opE E Z lo = F) : Answ e w' base N X L F := by
  subst h1 h2 h3 h4
  exact h

theorem DSame_eq {S S' : Nat → Prop} {n m c d : Nat} {A B : Option Addr} {xs : List Nat} (N : Bool) (X : Int) (w : World) (ha : Rd w S A n xs) (hb : Rd w S' B m xs) (hS : ∀ b, S b → b < w.heap.size) (hS' : ∀ b, S' b → b < w.heap.size) (hn : n ≤ 9223372036854775807) (hm : m ≤ 9223372036854775807) :
    Calls Tryz.prog 22 #[dv N A n c X, dv N B m d X] w fun e w' => e = .returned (.bool true) ∧ Below w.heap.size w w' := by
  refine (DSame_c (c := c) (d := d) N N X X w ha hb hS hS' hn hm).mono ?_
  rintro e w' ⟨rfl, hb⟩
  refine ⟨?_, hb⟩
  rw [decide_eq_true ⟨rfl, rfl, rfl⟩]
end Go.Proofs.YtnlkcjfedomcgaaGreatDoor
