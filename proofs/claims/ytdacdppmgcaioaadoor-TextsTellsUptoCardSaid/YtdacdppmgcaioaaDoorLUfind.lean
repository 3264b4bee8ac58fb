/-
  Contract of the reference's Text; contract of bolterplain.CopyInts.
  Contract of utf.follow's closure: from how much of a text's beginning stood last, and the next octet, how much stands then.
  Contract of utf.Find.
-/
import Derived.Test.YtdacdppmgcaioaaDoorLUref
import Derived.Test.YtdacdppmgcaioaaDoorLUtextb
import Derived.Deep.QuietTactic
import Derived.BigQuiet
import Derived.Deep.AppendLies
import Derived.Deep.RegionHeld3
set_option linter.unusedVariables false
set_option linter.unusedSimpArgs false
namespace Go.Proofs.YtdacdppmgcaioaaDoor
open Go.RowKit Go.Lib

theorem RowV.below_self {w w1 : World} {base n c : Nat} {t : TypeId} {A : Option Addr} {vs : List Value} (h : RowV w base t A n c vs) {W : World} (hb : Below base W w) (hB : base ≤ w.heap.size) (hg : w.grownBy w1 (Value.slice A n c).ownBlock) : Below base W w1 :=
  hb.grown hg hB (by
    intro q hq
    rcases h.form with ⟨h1, _⟩ | ⟨g1, h1, h2, _⟩
    · rw [h1] at hq; simp [Value.ownBlock] at hq
    · rw [h1] at hq; simp [Value.ownBlock] at hq; omega)

end Go.Proofs.YtdacdppmgcaioaaDoor

namespace Go.Proofs.YtdacdppmgcaioaaDoor
open Go.RowKit Go.Lib

theorem mk8_at {l : List UInt8} {k : Nat} {x : UInt8} (h : l[k]? = some x) (hk : k < (mk8 l).size) : (mk8 l)[k]'hk = x := by
  obtain ⟨h1, h2⟩ := List.getElem?_eq_some_iff.1 h
  show (mk8 l).data[k] = x
  rw [← h2]
  simp [mk8]

end Go.Proofs.YtdacdppmgcaioaaDoor

namespace Go.Proofs.YtdacdppmgcaioaaDoor
open Go.RowKit Go.Lib
attribute [local go_sem] Oper.semAt_some

theorem mk8_mid (l : List UInt8) (p q : Nat) : (mk8 l).extract p q = mk8 ((l.take q).drop p) := by
  have h : ((mk8 l).extract p q).data.toList = (l.take q).drop p := by
    rw [ByteArray.data_extract, Array.toList_extract]
    show List.extract l p q = _
    rw [List.extract_eq_take_drop, List.drop_take]
  rw [← mk8_of ((mk8 l).extract p q), h]
end Go.Proofs.YtdacdppmgcaioaaDoor
