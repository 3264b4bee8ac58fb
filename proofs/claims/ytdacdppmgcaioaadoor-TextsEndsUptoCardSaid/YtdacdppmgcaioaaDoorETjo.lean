/-
  Contract of Join.
-/
import Derived.Test.YtdacdppmgcaioaaDoorETjp
import Derived.Test.YtdacdppmgcaioaaDoorETcu
import Derived.Lib.AppendZerosOnto
import Derived.Laws.AppendOwnNone
import Derived.Lib.AppendZeros
set_option linter.unusedVariables false
set_option linter.unusedSimpArgs false
namespace Go.Proofs.YtdacdppmgcaioaaDoor
open Go.RowKit Go.Lib

abbrev dl (x : ByteArray) : List UInt8 := x.data.toList
end Go.Proofs.YtdacdppmgcaioaaDoor
