/-
  What the package utf takes of Go's library, at this program: a character decoded, and the two tables that this reads; a copy of a text. What each asks stands in its premises.
-/
import Derived.Test.YtdgjkhldlmhedaaDoorUsync
import Derived.Test.YtdgjkhldlmhedaaDoorStops
import Derived.Test.YtdgjkhldlmhedaaDoorShelf
import Derived.Shelf.Pu.Clone
set_option linter.unusedVariables false
set_option linter.unusedSimpArgs false
namespace Go.Proofs.YtdgjkhldlmhedaaDoor
open Go.RowKit Go.Lib

/-- The two tables of the library as its text lays them. -/
def Tabs (w : World) : Prop := Lib.Utf8Tabs 0 1 w
theorem Tabs.same {w w' : World} (h : Tabs w) (h1 : w'.heap[(0 : Nat)]? = w.heap[(0 : Nat)]?) (h2 : w'.heap[(1 : Nat)]? = w.heap[(1 : Nat)]?) : Tabs w' :=
  ⟨fun c hc => (World.cell?_of_block h1).trans (h.1 c hc), fun i hi => ⟨(World.cell?_of_block h2).trans (h.2 i hi).1, (World.cell?_of_block h2).trans (h.2 i hi).2⟩⟩
theorem cell_lt {w : World} {b o : Nat} {v : Value} (h : w.cell? ⟨b, o, none⟩ = some v) : b < w.heap.size := by
  rcases Nat.lt_or_ge b w.heap.size with h1 | h1
  · exact h1
  · exfalso
    unfold World.cell? at h
    simp [Array.getElem?_eq_none h1] at h
theorem Tabs.lt0 {w : World} (h : Tabs w) : 0 < w.heap.size := cell_lt (h.1 0 (by omega))
theorem Tabs.lt1 {w : World} (h : Tabs w) : 1 < w.heap.size := cell_lt (h.2 0 (by omega)).1
theorem Tabs.below {w w' : World} (h : Tabs w) (hb : Below w.heap.size w w') : Tabs w' := h.same (hb.block _ h.lt0) (hb.block _ h.lt1)

theorem decodeGo_L (s : ByteArray) (h : s.data.toList ≠ []) : decodeGo s = decodeL s.data.toList := by
  unfold decodeGo decodeL
  have : s.size ≠ 0 := by
    intro e
    apply h
    exact List.eq_nil_of_length_eq_zero (by rw [Array.length_toList]; exact e)
  rw [if_neg this]
theorem decode_c (s : ByteArray) (w : World) (hT : Tabs w) (hs : s.data.toList ≠ []) :
    Calls Tryd.prog 45 #[.string s] w fun e w' => e = .returned (.tuple #[.int .i32 ((decodeL s.data.toList).1 : Int), .int .i64 (wid s.data.toList : Int)]) ∧ Below w.heap.size w w' := by
  have := Tryd.utf8_DecodeRuneInString s w hT
  rw [decodeGo_L s hs] at this
  exact this

def cloneRen : Go.Shelf.Ren := ⟨fun | 25 => 46 | n => n, fun | 0 => 0 | 3 => 3 | 4 => 4 | 5 => 5 | 9 => 9 | 37 => 41 | 47 => 78 | n => n, fun | n => n⟩
theorem cloneLaid : Go.Proofs.LaysPu.n25 Tryd.prog cloneRen := {
  mixed := by kernel_rfl
  f25 := Tryd.func46.trans (congrArg some (by kernel_rfl))
  t0 := Tryd.underlying0
  a0 := Tryd.isAgg0
  z0 := Tryd.sizeOf0
  v0 := Tryd.zeroValue0
  i0 := by kernel_rfl
  t3 := Tryd.underlying3
  a3 := Tryd.isAgg3
  z3 := Tryd.sizeOf3
  v3 := Tryd.zeroValue3
  i3 := by kernel_rfl
  t4 := Tryd.underlying4
  a4 := Tryd.isAgg4
  z4 := Tryd.sizeOf4
  v4 := Tryd.zeroValue4
  i4 := by kernel_rfl
  t5 := Tryd.underlying5
  a5 := Tryd.isAgg5
  z5 := Tryd.sizeOf5
  v5 := Tryd.zeroValue5
  i5 := by kernel_rfl
  t9 := Tryd.underlying9
  a9 := Tryd.isAgg9
  z9 := Tryd.sizeOf9
  v9 := Tryd.zeroValue9
  i9 := by kernel_rfl
  t37 := Tryd.underlying41
  a37 := Tryd.isAgg41
  z37 := Tryd.sizeOf41
  v37 := Tryd.zeroValue41
  i37 := by kernel_rfl
  t47 := Tryd.underlying78
  a47 := Tryd.isAgg78
  z47 := Tryd.sizeOf78
  v47 := Tryd.zeroValue78
  i47 := by kernel_rfl }
theorem clone_c (s : ByteArray) (w : World) (hlim : s.size ≤ 281474976710656) :
    Calls Tryd.prog 35 #[.string s] w fun e w' => e = .returned (.string s) ∧ Below w.heap.size w w' := by
  have h1 := AnyPu.stringslite_Clone cloneLaid s w hlim
  go_enter Tryd.func35, Tryd.ntmps35
  go_wp2_with fail
  refine h1.mono ?_
  rintro e w' ⟨rfl, hb⟩
  go_wp2
  go_ret
  exact ⟨rfl, hb⟩
end Go.Proofs.YtdgjkhldlmhedaaDoor
