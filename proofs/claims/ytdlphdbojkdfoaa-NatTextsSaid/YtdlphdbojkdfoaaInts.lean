/-
  Words for memory: a row of ints that are not negative, of the call's own.
-/
import Derived.Test.YtdlphdbojkdfoaaRed
import Derived.Test.YtdlphdbojkdfoaaDig
set_option linter.unusedVariables false
set_option linter.unusedSimpArgs false
namespace Go.Proofs.Ytdlphdbojkdfoaa
open Go.RowKit

def LI (xs : List Nat) : Prop := ∀ x ∈ xs, x < 9223372036854775808
theorem LI.take {xs : List Nat} (h : LI xs) (n : Nat) : LI (xs.take n) := fun x hx => h x (List.mem_of_mem_take hx)
theorem LI.nil : LI [] := fun _ h => absurd h (by simp)
theorem LI.append {xs ys : List Nat} (h1 : LI xs) (h2 : LI ys) : LI (xs ++ ys) := fun x hx => by
  rcases List.mem_append.1 hx with h | h
  · exact h1 x h
  · exact h2 x h
theorem LI.one {x : Nat} (h : x < 9223372036854775808) : LI [x] := fun y hy => by rw [List.mem_singleton.1 hy]; exact h
theorem nth_ltI {xs : List Nat} (h : LI xs) (k : Nat) : nth xs k < 9223372036854775808 := by
  unfold nth
  rw [List.getD_eq_getElem?_getD]
  by_cases hk : k < xs.length
  · rw [List.getElem?_eq_getElem hk]; exact h _ (List.getElem_mem hk)
  · rw [List.getElem?_eq_none (by omega)]; simp
def i64s (xs : List Nat) : List Value := xs.map fun (x : Nat) => Value.int IntKind.i64 (x : Int)

/-- The slice value '.slice A n c' is a row of the call's own, from block base on, and holds the octets zs. -/
structure ResI (w : World) (base : Nat) (A : Option Addr) (n c : Nat) (zs : List Nat) : Prop where
  len : zs.length = n
  l32 : LI zs
  own : w.ownsRow base 3 1 (.slice A n c) n (i64s zs)

section
variable {w w' : World} {base n c : Nat} {A : Option Addr} {zs : List Nat}
theorem i64s_length (xs : List Nat) : (i64s xs).length = xs.length := by simp [i64s]
theorem i64s_get {xs : List Nat} {k : Nat} (h : k < xs.length) : (i64s xs)[k]? = some (.int IntKind.i64 (nth xs k : Int)) := by
  simp [i64s, nth_get h, h]
theorem i64s_append (xs ys : List Nat) : i64s (xs ++ ys) = i64s xs ++ i64s ys := by simp [i64s]
theorem i64s_take (xs : List Nat) (k : Nat) : i64s (xs.take k) = (i64s xs).take k := by simp [i64s]
theorem i64s_set (xs : List Nat) (k x : Nat) : i64s (xs.set k x) = (i64s xs).set k (.int IntKind.i64 (x : Int)) := by simp [i64s]
theorem LI.set {xs : List Nat} (h : LI xs) {k x : Nat} (hx : x < 9223372036854775808) : LI (xs.set k x) := fun y hy => by
  rcases List.mem_or_eq_of_mem_set hy with h1 | h1
  · exact h y h1
  · rw [h1]; exact hx

theorem ResI.nil (w : World) (base : Nat) : ResI w base none 0 0 [] := ⟨rfl, LI.nil, World.ownsRow_nil w base _ 1⟩
theorem ResI.form (h : ResI w base A n c zs) : (A = none ∧ n = 0 ∧ c = 0) ∨ ∃ g, A = some ⟨g, 0, none⟩ ∧ base ≤ g ∧ g < w.heap.size := by
  rcases h.own.2 with ⟨e, h0⟩ | ⟨g, cap, cur, e, hb, hh, _⟩
  · injection e with e1 e2 e3; exact .inl ⟨e1, e2, e3⟩
  · injection e with e1 e2 e3; exact .inr ⟨g, e1, hb, (Array.getElem?_eq_some_iff.1 hh).1⟩
theorem ResI.n_le (h : ResI w base A n c zs) : n ≤ c ∧ c ≤ maxLen := by
  rcases h.own.2 with ⟨e, h0⟩ | ⟨g, cap, cur, e, hb, hh, h1, h2, _⟩
  · injection e with e1 e2 e3; subst e3; exact ⟨by omega, Nat.zero_le _⟩
  · injection e with e1 e2 e3; subst e3; exact ⟨h1, h2⟩
theorem ResI.cell {g j : Nat} (h : ResI w base (some ⟨g, 0, none⟩) n c zs) (hj : j < n) : w.cell? ⟨g, j, none⟩ = some (.int IntKind.i64 (nth zs j : Int)) := by
  rw [h.own.cellAt j (by omega), i64s_get (by rw [h.len]; exact hj)]
theorem ResI.frozen {g : Nat} (h : ResI w base (some ⟨g, 0, none⟩) n c zs) (j : Nat) : w.frozen? ⟨g, j, none⟩ = false := h.own.frozenAt j
theorem ResI.take {k : Nat} (h : ResI w base A n c zs) (hk : k ≤ n) : ResI w base A k c (zs.take k) := by
  refine ⟨by rw [List.length_take, h.len]; omega, h.l32.take k, by rw [i64s_length, List.length_take, h.len]; omega, ?_⟩
  rcases h.own.2 with ⟨e, h0⟩ | ⟨g, cap, cur, e, hb, hh, h1, h2, h3, h4⟩
  · injection e with e1 e2 e3; subst e1 e3; exact .inl ⟨by rw [show k = 0 by omega], by omega⟩
  · injection e with e1 e2 e3; subst e1 e3
    exact .inr ⟨g, c, cur, rfl, hb, hh, by omega, h2, h3, by rw [i64s_take, ← h4, List.take_take]; congr 1; omega⟩
theorem ResI.set {g j x : Nat} (h : ResI w base (some ⟨g, 0, none⟩) n c zs) (hx : x < 9223372036854775808) : ResI (w.setCell ⟨g, j, none⟩ (.int IntKind.i64 (x : Int))) base (some ⟨g, 0, none⟩) n c (zs.set j x) :=
  ⟨by rw [List.length_set, h.len], h.l32.set hx, by rw [i64s_set]; exact (h.own.stored j _).1⟩
theorem ResI.more {base' : Nat} (h : ResI w base A n c zs) (hb : base' ≤ base) : ResI w base' A n c zs := by
  refine ⟨h.len, h.l32, h.own.1, ?_⟩
  rcases h.own.2 with h0 | ⟨g, cap, cur, e, hb', rest⟩
  · exact .inl h0
  · exact .inr ⟨g, cap, cur, e, by omega, rest⟩
/-- Kept where its block is left alone. -/
theorem ResI.keep (h : ResI w base A n c zs) (hk : ∀ g, A = some ⟨g, 0, none⟩ → w'.heap[g]? = w.heap[g]?) : ResI w' base A n c zs := by
  refine ⟨h.len, h.l32, h.own.1, ?_⟩
  rcases h.own.2 with h0 | ⟨g, cap, cur, e, hb', hh, rest⟩
  · exact .inl h0
  · refine .inr ⟨g, cap, cur, e, hb', ?_, rest⟩
    injection e with e1 e2 e3
    rw [hk g e1]; exact hh
theorem ResI.below {B : Nat} (h : ResI w base A n c zs) (hb : Below B w w') (hB : w.heap.size ≤ B) : ResI w' base A n c zs :=
  h.keep fun g e => by
    rcases h.form with ⟨h0, _⟩ | ⟨g', e', _, hlt⟩
    · rw [h0] at e; cases e
    · rw [e'] at e; injection e with e; injection e with e; subst e; exact hb.block g' (by omega)
theorem ResI.grown {row : Option Nat} (h : ResI w base A n c zs) (hg : w.grownBy w' row) (hr : ∀ g, A = some ⟨g, 0, none⟩ → some g ≠ row) : ResI w' base A n c zs :=
  h.keep fun g e => by
    rcases h.form with ⟨h0, _⟩ | ⟨g', e', _, hlt⟩
    · rw [h0] at e; cases e
    · have : g' = g := by rw [e'] at e; injection e with e; injection e
      subst this; exact hg.block g' hlt (hr _ e)
theorem ResI.own_ne {base' n' c' : Nat} {zs' : List Nat} {g g' : Nat} (h : ResI w base (some ⟨g, 0, none⟩) n c zs) (hb : g < base') (h' : ResI w base' (some ⟨g', 0, none⟩) n' c' zs') : g ≠ g' := by
  rcases h'.form with ⟨h0, _⟩ | ⟨g2, e', hb2, _⟩
  · cases h0
  · injection e' with e'; injection e' with e'; omega
end

theorem infoI : (Try.prog.info? 3).map (fun i => (i.zero, i.size, i.bytes)) = some (some (.int IntKind.i64 0), 1, 8) := by kernel_rfl
theorem ResI.of_row {w : World} {base n : Nat} {v : Value} {xs : List Nat} (hl : xs.length = n) (hI : LI xs) (h : w.ownsRow base 3 1 v n (i64s xs)) : ∃ A c, v = .slice A n c ∧ ResI w base A n c xs := by
  rcases h.2 with ⟨e, h0⟩ | ⟨g, cap, cur, e, _⟩
  · subst h0
    exact ⟨none, 0, e, hl, hI, e ▸ h⟩
  · exact ⟨_, cap, e, hl, hI, e ▸ h⟩

end Go.Proofs.Ytdlphdbojkdfoaa
