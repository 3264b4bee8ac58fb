/-
  The reference: Begins, Ends, TrimLeft, TrimRight.
  Parts joined, pure.
  Contract of replace.
-/
import Derived.Test.YtdacdppmgcaioaaDoorLTrb
import Derived.Test.YtdacdppmgcaioaaDoorLTcp
import Derived.Test.YtdacdppmgcaioaaDoorLTcu
set_option linter.unusedVariables false
set_option linter.unusedSimpArgs false
namespace Go.Proofs.YtdacdppmgcaioaaDoor
open Go.RowKit Go.Lib

theorem whole_s {A : Option Addr} {c : Nat} (S : ByteArray) (w : World) (h : RdO w A S.data.toList) :
    Calls Tryd.prog 42 #[.slice A S.size c] w fun e w' => e = .returned (.tuple #[.string (tell S.data.toList).1, .int .i64 (tell S.data.toList).2]) ∧ w' = w := by
  have h2 := whole_c (c := c) w h
  rwa [← sizeT_list] at h2
theorem hcvT (S : ByteArray) (W : World) : (convert 9 62 (.string S)).run Tryd.prog W = .ok (.slice (some ⟨W.heap.size, 0, none⟩) S.size (grownCap W S.size 0 5)) (Go.Lib.bytesWorld W 5 S) :=
  Go.Lib.run_convert_string_bytes (P := Tryd.prog) W 9 62 5 S Tryd.underlying9 Tryd.underlying62 Tryd.underlying5
end Go.Proofs.YtdacdppmgcaioaaDoor

namespace Go.Proofs.YtdacdppmgcaioaaDoor
open Go.RowKit Go.Lib

/-- Parts behind one another, with sep between. -/
def joinB (sep : List UInt8) : List (List UInt8) → List UInt8
  | [] => []
  | [p] => p
  | p :: q :: r => p ++ sep ++ joinB sep (q :: r)
end Go.Proofs.YtdacdppmgcaioaaDoor

namespace Go.Proofs.YtdacdppmgcaioaaDoor
open Go.RowKit Go.Lib

theorem Sh.more {B pb : Nat} {out : List UInt8} {w : World} (h : Sh B pb out w) (m : List UInt8) (hf : w.cell? ⟨pb, 2, none⟩ = some (.bool true)) : Sh B pb (out ++ m) w := by
  obtain ⟨bs, f, h1, h2, h3⟩ := h
  have h4 := h1.flag.1
  rw [hf] at h4
  injection h4 with h4; injection h4 with h4
  subst h4
  rcases h3 with ⟨h3, -⟩ | ⟨-, h3⟩
  · cases h3
  · exact ⟨bs, true, h1, h2, .inr ⟨rfl, by rw [List.length_append]; omega⟩⟩
end Go.Proofs.YtdacdppmgcaioaaDoor
