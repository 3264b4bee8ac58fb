/-
  Contract of utf.Text.
-/
import Derived.Test.YtnfeifafocemaaaDoorCUslice
set_option linter.unusedVariables false
set_option linter.unusedSimpArgs false
namespace Go.Proofs.YtnfeifafocemaaaDoor
open Go.RowKit Go.Lib

theorem RdV.conv {w : World} {S : Nat → Prop} {A : Option Addr} {n c : Nat} {l : List UInt8} (h : RdV w S A n (bs8 l)) : (convert 41 9 (.slice A n c)).run Tryd.prog w = .ok (.string (mk8 l)) w := by
  have hl : l.length = n := by rw [← h.len, bs8_length]
  cases A with
  | none =>
    have h0 : n = 0 := by
      rcases Nat.eq_zero_or_pos n with e | e
      · exact e
      · obtain ⟨b, off, e2, _⟩ := h.cells e; cases e2
    have hl0 : l = [] := List.eq_nil_of_length_eq_zero (by omega)
    have h1 := run_convert_bytes_nil (P := Tryd.prog) w 41 5 Tryd.underlying41 Tryd.underlying5 n c 9 Tryd.underlying9
    rw [h1, hl0]; rfl
  | some ad =>
    have hm : bs8 l = (l.map fun x => (x.toNat : Int)).map (Value.int .u8) := by unfold bs8; rw [List.map_map]; rfl
    have hld : (loadCells ad n).run Tryd.prog w = .ok ((l.map fun x => (x.toNat : Int)).map (Value.int .u8)).toArray w := by
      have := run_loadCells_list (P := Tryd.prog) w ad (bs8 l) (fun j v hj => h.cellsAt j v hj)
      rw [bs8_length, hl, hm] at this
      exact this
    rw [run_convert_bytes_string w 41 9 5 _ n c Tryd.underlying41 Tryd.underlying5 Tryd.underlying9, run_bytesToString w _ n c (l.map fun x => (x.toNat : Int)) hld, foldl_push_bytes]
    congr 1
    congr 1
    unfold mk8
    congr 1
    rw [List.map_map]
    show ByteArray.empty.data ++ _ = _
    have : (l.map ((fun n : Int => UInt8.ofNat n.toNat) ∘ fun x : UInt8 => (x.toNat : Int))) = l := by
      conv => rhs; rw [← List.map_id l]
      refine List.map_congr_left fun x _ => ?_
      simp
    rw [this]
    simp

def roomB (n : Nat) : Obj := .cells (madeCells #[.int IntKind.u8 0] n) 5
theorem makeB_at {z : Int} (n : Nat) (e : z = (n : Int)) (h : n ≤ 17592186044416) (w : World) : (Instr.makeSlice 41 (.int IntKind.i64 0) (.int IntKind.i64 z)).run Tryd.prog w =
    .ok (.slice (some ⟨w.heap.size, 0, none⟩) 0 n) (w.alloc (roomB n)) := by
  subst e
  obtain ⟨i0, hi, hz0, hz1, hz2⟩ := info_parts uinfo8
  have hr := run_make (P := Tryd.prog) w 41 5 i0 (.int IntKind.u8 0) Tryd.underlying41 hi hz0 IntKind.i64 IntKind.i64 0 n (by omega) (by omega) (by rw [hz2]; omega) (by omega)
  rw [Int.toNat_natCast, hz1, Nat.mul_one] at hr
  exact hr
theorem RowV.roomB (w : World) (n : Nat) (h : n ≤ 17592186044416) : RowV (w.alloc (roomB n)) w.heap.size 5 (some ⟨w.heap.size, 0, none⟩) 0 n [] := by
  refine ⟨rfl, ?_⟩
  have := World.ownsRow_lit (base := w.heap.size) (e := 5) (size := 1) w (madeCells #[.int IntKind.u8 0] n) n (Nat.le_refl _) (by unfold maxLen; omega) (by rw [size_madeCells, Nat.mul_one])
  exact ⟨rfl, by
    rcases this.2 with ⟨e, h0⟩ | ⟨g, cap, cur, e, hb, hh, h1, h2, h3, h4⟩
    · injection e with e1; cases e1
    · injection e with e1 e2 e3
      exact .inr ⟨g, n, cur, by rw [e1], hb, hh, by omega, by omega, by rw [e3]; exact h3, by simp⟩⟩
theorem enc_len_le : ∀ l : List Int, (enc l).length ≤ 4 * l.length
  | [] => Nat.le_refl _
  | c :: l => by
    rw [enc_cons, List.length_append, List.length_cons]
    have := enc_len_le l
    have := enc_len c
    omega
/-- A character put behind a row of octets. -/
theorem append_c {A : Option Addr} {n c base : Nat} {l : List UInt8} (z : Int) (w : World) (h : RowV w base 5 A n c (bs8 l)) (hz : isCh z) (hn : n + 4 ≤ 140737488355328) (hb : base ≤ w.heap.size) :
    Calls Tryd.prog 39 #[.slice A n c, .int .i32 z] w fun e w' => ∃ A' n' c', e = .returned (.slice A' n' c') ∧ RowV w' base 5 A' n' c' (bs8 (l ++ encodeRune z)) ∧ ∃ o, (w.alloc o).grownBy w' (Value.slice A n c).ownBlock := by
  have h2 : -2147483648 ≤ z ∧ z ≤ 2147483647 := by unfold isCh at hz; omega
  refine (Tryd.utf8_AppendRune_plain base (.slice A n c) n (bs8 l) z h2.1 h2.2 w h.own hn hb).mono ?_
  rintro e w' ⟨v', rfl, h3, o, h4⟩
  rw [runeCells_bs8, ← bs8_append] at h3
  obtain ⟨A', c', e, h5⟩ := RowV.of_row (by rw [bs8_length, List.length_append, bs8_length, ← h.len, bs8_length]) h3
  exact ⟨A', _, c', by rw [e], h5, o, h4⟩
end Go.Proofs.YtnfeifafocemaaaDoor
