/-
  Contract of utf.Text.
-/
import Derived.Test.YtdacdppmgcaioaaDoorLUslice
set_option linter.unusedVariables false
set_option linter.unusedSimpArgs false
namespace Go.Proofs.YtdacdppmgcaioaaDoor
open Go.RowKit Go.Lib

theorem RdV.conv {w : World} {S : Nat → Prop} {A : Option Addr} {n c : Nat} {l : List UInt8} (h : RdV w S A n (bs8 l)) : (convert 62 9 (.slice A n c)).run Tryd.prog w = .ok (.string (mk8 l)) w := by
  have hl : l.length = n := by rw [← h.len, bs8_length]
  cases A with
  | none =>
    have h0 : n = 0 := by
      rcases Nat.eq_zero_or_pos n with e | e
      · exact e
      · obtain ⟨b, off, e2, _⟩ := h.cells e; cases e2
    have hl0 : l = [] := List.eq_nil_of_length_eq_zero (by omega)
    have h1 := run_convert_bytes_nil (P := Tryd.prog) w 62 5 Tryd.underlying62 Tryd.underlying5 n c 9 Tryd.underlying9
    rw [h1, hl0]; rfl
  | some ad =>
    have hm : bs8 l = (l.map fun x => (x.toNat : Int)).map (Value.int .u8) := by unfold bs8; rw [List.map_map]; rfl
    have hld : (loadCells ad n).run Tryd.prog w = .ok ((l.map fun x => (x.toNat : Int)).map (Value.int .u8)).toArray w := by
      have := run_loadCells_list (P := Tryd.prog) w ad (bs8 l) (fun j v hj => h.cellsAt j v hj)
      rw [bs8_length, hl, hm] at this
      exact this
    rw [run_convert_bytes_string w 62 9 5 _ n c Tryd.underlying62 Tryd.underlying5 Tryd.underlying9, run_bytesToString w _ n c (l.map fun x => (x.toNat : Int)) hld, foldl_push_bytes]
    congr 1
    congr 1
    unfold mk8
    congr 1
    rw [List.map_map]
    show ByteArray.empty.data ++ _ = _
    have : (l.map ((fun n : Int => UInt8.ofNat n.toNat) ∘ fun x : UInt8 => (x.toNat : Int))) = l := by
      conv => rhs; rw [← List.map_id l]
      refine List.map_congr_left fun x _ => ?_
      simp
    rw [this]
    simp

end Go.Proofs.YtdacdppmgcaioaaDoor
