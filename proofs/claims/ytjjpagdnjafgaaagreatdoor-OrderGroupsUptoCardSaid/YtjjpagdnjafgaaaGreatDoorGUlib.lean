/-
  What the package utf takes of Go's library, at this program: a character decoded, and the two tables that this reads; a copy of a text. What each asks stands in its premises.
-/
import Derived.Test.YtjjpagdnjafgaaaGreatDoorGUkmp
import Derived.Test.YtjjpagdnjafgaaaGreatDoorGStops
import Derived.Test.YtjjpagdnjafgaaaGreatDoorShelf
import Derived.Shelf.Pu.Clone
set_option linter.unusedVariables false
set_option linter.unusedSimpArgs false
namespace Go.Proofs.YtjjpagdnjafgaaaGreatDoor
open Go.RowKit Go.Lib

/-- The two tables of the library as its text lays them. -/
def Tabs (w : World) : Prop := Lib.Utf8Tabs 0 1 w
theorem Tabs.same {w w' : World} (h : Tabs w) (h1 : w'.heap[(0 : Nat)]? = w.heap[(0 : Nat)]?) (h2 : w'.heap[(1 : Nat)]? = w.heap[(1 : Nat)]?) : Tabs w' :=
  ⟨fun c hc => (World.cell?_of_block h1).trans (h.1 c hc), fun i hi => ⟨(World.cell?_of_block h2).trans (h.2 i hi).1, (World.cell?_of_block h2).trans (h.2 i hi).2⟩⟩
theorem cell_lt {w : World} {b o : Nat} {v : Value} (h : w.cell? ⟨b, o, none⟩ = some v) : b < w.heap.size := by
  rcases Nat.lt_or_ge b w.heap.size with h1 | h1
  · exact h1
  · exfalso
    unfold World.cell? at h
    simp [Array.getElem?_eq_none h1] at h
theorem Tabs.lt0 {w : World} (h : Tabs w) : 0 < w.heap.size := cell_lt (h.1 0 (by omega))
theorem Tabs.lt1 {w : World} (h : Tabs w) : 1 < w.heap.size := cell_lt (h.2 0 (by omega)).1
theorem Tabs.below {w w' : World} (h : Tabs w) (hb : Below w.heap.size w w') : Tabs w' := h.same (hb.block _ h.lt0) (hb.block _ h.lt1)

theorem decodeGo_L (s : ByteArray) (h : s.data.toList ≠ []) : decodeGo s = decodeL s.data.toList := by
  unfold decodeGo decodeL
  have : s.size ≠ 0 := by
    intro e
    apply h
    exact List.eq_nil_of_length_eq_zero (by rw [Array.length_toList]; exact e)
  rw [if_neg this]
theorem decode_c (s : ByteArray) (w : World) (hT : Tabs w) (hs : s.data.toList ≠ []) :
    Calls Tryz.prog 221 #[.string s] w fun e w' => e = .returned (.tuple #[.int .i32 ((decodeL s.data.toList).1 : Int), .int .i64 (wid s.data.toList : Int)]) ∧ Below w.heap.size w w' := by
  have := Tryz.utf8_DecodeRuneInString s w hT
  rw [decodeGo_L s hs] at this
  exact this

def cloneRen : Go.Shelf.Ren := ⟨fun | 25 => 236 | n => n, fun | 0 => 0 | 3 => 3 | 4 => 4 | 5 => 5 | 9 => 9 | 37 => 175 | 47 => 252 | n => n, fun | n => n⟩
theorem cloneLaid : Go.Proofs.LaysPu.n25 Tryz.prog cloneRen := {
  mixed := by kernel_rfl
  f25 := Tryz.func236.trans (congrArg some (by kernel_rfl))
  t0 := Tryz.underlying0
  a0 := Tryz.isAgg0
  z0 := Tryz.sizeOf0
  v0 := Tryz.zeroValue0
  i0 := by kernel_rfl
  t3 := Tryz.underlying3
  a3 := Tryz.isAgg3
  z3 := Tryz.sizeOf3
  v3 := Tryz.zeroValue3
  i3 := by kernel_rfl
  t4 := Tryz.underlying4
  a4 := Tryz.isAgg4
  z4 := Tryz.sizeOf4
  v4 := Tryz.zeroValue4
  i4 := by kernel_rfl
  t5 := Tryz.underlying5
  a5 := Tryz.isAgg5
  z5 := Tryz.sizeOf5
  v5 := Tryz.zeroValue5
  i5 := by kernel_rfl
  t9 := Tryz.underlying9
  a9 := Tryz.isAgg9
  z9 := Tryz.sizeOf9
  v9 := Tryz.zeroValue9
  i9 := by kernel_rfl
  t37 := Tryz.underlying175
  a37 := Tryz.isAgg175
  z37 := Tryz.sizeOf175
  v37 := Tryz.zeroValue175
  i37 := by kernel_rfl
  t47 := Tryz.underlying252
  a47 := Tryz.isAgg252
  z47 := Tryz.sizeOf252
  v47 := Tryz.zeroValue252
  i47 := by kernel_rfl }
theorem clone_c (s : ByteArray) (w : World) (hlim : s.size ≤ 281474976710656) :
    Calls Tryz.prog 209 #[.string s] w fun e w' => e = .returned (.string s) ∧ Below w.heap.size w w' := by
  have h1 := AnyPu.stringslite_Clone cloneLaid s w hlim
  go_enter Tryz.func209, Tryz.ntmps209
  go_wp2_with fail
  refine h1.mono ?_
  rintro e w' ⟨rfl, hb⟩
  go_wp2
  go_ret
  exact ⟨rfl, hb⟩
end Go.Proofs.YtjjpagdnjafgaaaGreatDoor
