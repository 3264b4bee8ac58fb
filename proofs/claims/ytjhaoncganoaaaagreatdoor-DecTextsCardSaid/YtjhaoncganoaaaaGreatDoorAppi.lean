/-
  A law for the walk: 'append(a, b...)' of ints, a the call's own, b any slice that reads as numbers, nil or not.
-/
import Derived.Test.YtjhaoncganoaaaaGreatDoorNdig
import Derived.Laws.AppendOwnNone
set_option linter.unusedVariables false
set_option linter.unusedSimpArgs false
namespace Go.Proofs.YtjhaoncganoaaaaGreatDoor
open Go.RowKit

theorem wpList_append_ints {ops : Array Oper} {rest : List Oper} {o : Oper} {a : Act} {Q : Exit → Act → World → Prop} {w : World} (hgd : o.guard = none) (s x : Operand)
    (ho : o.op = .call { callee := .builtin .append, args := #[s, x], argTypes := #[50, 50] })
    (base : Nat) (A : Option Addr) (n c : Nat) (xs : List Nat) (hs : a.eval s = .slice A n c) (hown : ResI w base A n c xs)
    (S : Nat → Prop) (B : Option Addr) (m d : Nat) (ys : List Nat) (hx : a.eval x = .slice B m d) (hy : RdI w S B m ys) (hd : B = none → d = 0)
    (hb : n + m ≤ 1000000) (hbase : base ≤ w.heap.size)
    (h : ∀ A' c' w', ResI w' base A' (n + m) c' (xs ++ ys) → w.grownBy w' (Value.slice A n c).ownBlock → wpList Tryz.prog ops Q rest (a.put o.dst (.slice A' (n + m) c')) w') : wpList Tryz.prog ops Q (o :: rest) a w := by
  obtain ⟨i0, hi, hz0, hz1, hz2⟩ := info_parts infoI
  cases B with
  | none =>
    obtain ⟨rfl, rfl⟩ := hy.none_nil
    obtain rfl := hd rfl
    refine wpList_append_own_none hgd s x 50 ho base 3 i0 1 Tryz.underlying50 hi (.slice A n c) n (i64s xs) hs hown.own hx ?_
    have := h A c w (by rw [List.append_nil]; exact hown) (World.grownBy.refl w _)
    simpa using this
  | some ad =>
    refine wpList_append_own w hgd s x 50 ho base 3 i0 (.int .i64 0) 1 8 Tryz.underlying50 hi hz0 hz1 hz2 rfl (by decide) (.slice A n c) n (i64s xs) hs hown.own ad m d (i64s ys) hx (by rw [i64s_length, hy.len, Nat.mul_one]) hy.cellsAt (i64s_one ys) (by unfold maxLen; omega) (by omega) hbase ?_
    intro v' w1 h1 h2 _
    rw [← i64s_append] at h1
    obtain ⟨A', c', e, hr⟩ := ResI.of_row (by rw [List.length_append, hown.len, hy.len]) (hown.l32.append hy.li) h1
    subst e
    exact h A' c' w1 hr h2
end Go.Proofs.YtjhaoncganoaaaaGreatDoor
