/-
  Contract of utf.follow's closure: from how much of a text's beginning stood last, and the next octet, how much stands then.
  Contract of utf.Find.
-/
import Derived.Test.YtdacdppmgcaioaaDoorEUtextb
import Derived.Deep.QuietTactic
import Derived.BigQuiet
import Derived.Deep.AppendLies
import Derived.Deep.RegionHeld3
set_option linter.unusedVariables false
set_option linter.unusedSimpArgs false
namespace Go.Proofs.YtdacdppmgcaioaaDoor
open Go.RowKit Go.Lib

theorem mk8_at {l : List UInt8} {k : Nat} {x : UInt8} (h : l[k]? = some x) (hk : k < (mk8 l).size) : (mk8 l)[k]'hk = x := by
  obtain ⟨h1, h2⟩ := List.getElem?_eq_some_iff.1 h
  show (mk8 l).data[k] = x
  rw [← h2]
  simp [mk8]

end Go.Proofs.YtdacdppmgcaioaaDoor

namespace Go.Proofs.YtdacdppmgcaioaaDoor
open Go.RowKit Go.Lib
attribute [local go_sem] Oper.semAt_some

theorem mk8_mid (l : List UInt8) (p q : Nat) : (mk8 l).extract p q = mk8 ((l.take q).drop p) := by
  have h : ((mk8 l).extract p q).data.toList = (l.take q).drop p := by
    rw [ByteArray.data_extract, Array.toList_extract]
    show List.extract l p q = _
    rw [List.extract_eq_take_drop, List.drop_take]
  rw [← mk8_of ((mk8 l).extract p q), h]
end Go.Proofs.YtdacdppmgcaioaaDoor
