/-
  The reference: Replace.
-/
import Derived.Test.YtdacdppmgcaioaaDoorLTre
import Derived.Test.YtdacdppmgcaioaaDoorLTbe
import Derived.OrdersHeld
import Derived.Laws.EntriesVeiled
set_option linter.unusedVariables false
set_option linter.unusedSimpArgs false
namespace Go.Proofs.YtdacdppmgcaioaaDoor
open Go.RowKit Go.Lib

theorem tell_more {out more : List UInt8} (h : 16384 < out.length) : tell out = tell (out ++ more) := by
  rw [tell_no h, tell_no (by rw [List.length_append]; omega)]
theorem drop_at {s : ByteArray} {i : Nat} (h : i < s.size) : s.data.toList.drop i = (s[i]'h) :: s.data.toList.drop (i + 1) := by
  have h2 : i < s.data.toList.length := by rw [← sizeT_list]; exact h
  rw [List.drop_eq_getElem_cons h2]
  congr 1
theorem row_grb {w : World} {B n k cap : Nat} {ao : Option Addr} {xs : List Value} {e : TypeId} (h : w.ownsRow B e 1 (.slice ao k cap) n xs) : ∀ g, (Value.slice ao k cap).ownBlock = some g → B ≤ g := fun g e => by
  rcases h.2 with ⟨h, _⟩ | ⟨g2, cap, cur, h, e2, e3, _⟩
  · rw [h] at e; simp [Value.ownBlock] at e
  · rw [h] at e; simp only [Value.ownBlock, Option.some.injEq] at e
    omega
end Go.Proofs.YtdacdppmgcaioaaDoor
