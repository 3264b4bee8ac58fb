/-
  What the package utf takes of Go's library, at this program: a character decoded, and the two tables that this reads; a copy of a text. What each asks stands in its premises.
-/
import Derived.Test.YtnfeifafocemaaaDoorCUsync
import Derived.Test.YtnfeifafocemaaaDoorCStops
import Derived.Test.YtnfeifafocemaaaDoorShelf
import Derived.Shelf.Pu.Clone
set_option linter.unusedVariables false
set_option linter.unusedSimpArgs false
namespace Go.Proofs.YtnfeifafocemaaaDoor
open Go.RowKit Go.Lib

/-- The two tables of the library as its text lays them. -/
def Tabs (w : World) : Prop := Lib.Utf8Tabs 1 2 w
theorem Tabs.same {w w' : World} (h : Tabs w) (h1 : w'.heap[(1 : Nat)]? = w.heap[(1 : Nat)]?) (h2 : w'.heap[(2 : Nat)]? = w.heap[(2 : Nat)]?) : Tabs w' :=
  ⟨fun c hc => (World.cell?_of_block h1).trans (h.1 c hc), fun i hi => ⟨(World.cell?_of_block h2).trans (h.2 i hi).1, (World.cell?_of_block h2).trans (h.2 i hi).2⟩⟩
theorem cell_lt {w : World} {b o : Nat} {v : Value} (h : w.cell? ⟨b, o, none⟩ = some v) : b < w.heap.size := by
  rcases Nat.lt_or_ge b w.heap.size with h1 | h1
  · exact h1
  · exfalso
    unfold World.cell? at h
    simp [Array.getElem?_eq_none h1] at h
theorem Tabs.lt0 {w : World} (h : Tabs w) : 1 < w.heap.size := cell_lt (h.1 0 (by omega))
theorem Tabs.lt1 {w : World} (h : Tabs w) : 2 < w.heap.size := cell_lt (h.2 0 (by omega)).1
theorem Tabs.below {w w' : World} (h : Tabs w) (hb : Below w.heap.size w w') : Tabs w' := h.same (hb.block _ h.lt0) (hb.block _ h.lt1)

theorem decodeGo_L (s : ByteArray) (h : s.data.toList ≠ []) : decodeGo s = decodeL s.data.toList := by
  unfold decodeGo decodeL
  have : s.size ≠ 0 := by
    intro e
    apply h
    exact List.eq_nil_of_length_eq_zero (by rw [Array.length_toList]; exact e)
  rw [if_neg this]
theorem decode_c (s : ByteArray) (w : World) (hT : Tabs w) (hs : s.data.toList ≠ []) :
    Calls Tryd.prog 42 #[.string s] w fun e w' => e = .returned (.tuple #[.int .i32 ((decodeL s.data.toList).1 : Int), .int .i64 (wid s.data.toList : Int)]) ∧ Below w.heap.size w w' := by
  have := Tryd.utf8_DecodeRuneInString s w hT
  rw [decodeGo_L s hs] at this
  exact this

end Go.Proofs.YtnfeifafocemaaaDoor
