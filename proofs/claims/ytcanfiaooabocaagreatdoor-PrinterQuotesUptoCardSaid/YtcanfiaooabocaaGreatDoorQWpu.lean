/-
  Contracts of WriteString on a page's Builder and of the sheet's put.
-/
import Derived.Test.YtcanfiaooabocaaGreatDoorQWpg
set_option linter.unusedVariables false
set_option linter.unusedSimpArgs false
namespace Go.Proofs.YtcanfiaooabocaaGreatDoor
open Go.RowKit Go.Lib

theorem strCells_bytes (s : ByteArray) : strCells s = byteCells s.data.toList := by
  unfold strCells byteCells
  rfl
theorem byteCells_app (a b : List UInt8) : byteCells (a ++ b) = byteCells a ++ byteCells b := by unfold byteCells; rw [List.map_append]
theorem Soft.grown {B pb : Nat} {w w' : World} {v : Value} {n : Nat} {xs : List Value} (h : w.ownsRow B 5 1 v n xs) (hg : w.grownBy w' v.ownBlock) : Soft B pb w w' :=
  ⟨hg.os, hg.tape, hg.output, hg.size, fun k hk hp hc => hg.block k hk (fun e => by
    rcases h.2 with ⟨rfl, _⟩ | ⟨g, cap, cur, rfl, e2, e3, _⟩
    · simp [Value.ownBlock] at e
    · simp only [Value.ownBlock, Option.some.injEq] at e
      subst e
      rcases hc with hc | hc
      · omega
      · exact hc _ _ e3)⟩
set_option maxHeartbeats 1000000 in
set_option maxRecDepth 100000 in
theorem writeStr_c {B pb : Nat} {bs : List UInt8} {room st o : Nat} {F : Value} (w : World) (hP : Pg B pb bs room st o F w) (s : ByteArray) (hcap : bs.length + s.size ≤ 140737488355328) (hB : B ≤ w.heap.size) :
    Calls Tryz.prog 38 #[pgP pb, .string s] w fun e w' => e = .returned (.tuple #[.int .i64 s.size, .nilIface]) ∧ Pg B pb (bs ++ s.data.toList) room st o F w' ∧ Soft B pb w w' := by
  obtain ⟨i0, hi, hz0, hz1, hz2⟩ := info_parts infoU8
  obtain ⟨p, v, hp, hx, hown⟩ := hP.box
  have HB := Lib.hid hP.base
  have HT := Lib.hid hP.top
  have HX := Lib.hid hx
  have HO := Lib.hid hown
  clear hP hx hown
  go_enter Tryz.func38, Tryz.ntmps38
  go_wp2_with fail
  refine (copyCheck_c w HX.out hp).mono ?_
  rintro e w1 ⟨rfl, hw1⟩
  have hb1 : w1.heap[pb]? = some (pgO (.pointer (some ⟨pb, 0, none⟩)) v room st o F) := by
    rcases hw1 with ⟨rfl, rfl⟩ | rfl
    · exact HX.out
    · simpa using set_page (i := 0) (.pointer (some ⟨pb, 0, none⟩)) HX.out
  have ho1 : w1.ownsRow B 5 1 v bs.length (byteCells bs) := by
    rcases hw1 with ⟨rfl, rfl⟩ | rfl
    · exact HO.out
    · exact row_set 0 _ HX.out HO.out
  have hs1 : Soft B pb w w1 := by
    rcases hw1 with ⟨rfl, rfl⟩ | rfl
    · exact Soft.refl _ _ _
    · exact Soft.set _ _ _
  have c0 : w1.cell? ⟨pb, 0, none⟩ = some (.pointer (some ⟨pb, 0, none⟩)) := cell_at3 hb1 rfl
  have c1 : w1.cell? ⟨pb, 1, none⟩ = some v := cell_at3 hb1 rfl
  have hsz1 : B ≤ w1.heap.size := Nat.le_trans hB hs1.size
  have HB1 := Lib.hid hb1
  have HS1 := Lib.hid hs1
  clear hb1 hs1 hw1 hp
  go_wp2_with (at_builtin; refine Lib.wpList_append_own_string _ rfl _ _ 38 9 rfl B 5 i0 Tryz.underlying38 Tryz.underlying9 hi hz0 hz1 hz2 _ _ _ rfl ho1 s rfl ?c3 ?c4 ?c5 ?_)
  case c3 => unfold maxLen; omega
  case c4 => omega
  case c5 => exact hsz1
  intro v' w2 hown' hgrow _
  have hs2 : Soft B pb w1 w2 := Soft.grown ho1 hgrow
  have hb2 := hs2.keep HB1.out
  have hlt : pb < w1.heap.size := (Array.getElem?_eq_some_iff.1 HB1.out).1
  have hne : v.ownBlock ≠ some pb := fun e => by
    rcases ho1.2 with ⟨rfl, _⟩ | ⟨g, cap, cur, rfl, e2, e3, _⟩
    · simp [Value.ownBlock] at e
    · simp only [Value.ownBlock, Option.some.injEq] at e
      exact row_ne (B := B) HB1.out e3 e
  have hb2 : w2.heap[pb]? = some (pgO (.pointer (some ⟨pb, 0, none⟩)) v room st o F) := (hgrow.block pb hlt (fun e => hne e.symm)).trans HB1.out
  have d0 : w2.cell? ⟨pb, 0, none⟩ = some (.pointer (some ⟨pb, 0, none⟩)) := cell_at3 hb2 rfl
  have d1 : w2.cell? ⟨pb, 1, none⟩ = some v := cell_at3 hb2 rfl
  have f1 : w2.frozen? ⟨pb, 1, none⟩ = false := by simp [World.frozen?, hb2]
  obtain ⟨ao, n', cap, rfl⟩ : ∃ ao n' cap, v' = .slice ao n' cap := by
    rcases hown'.2 with ⟨hv, _⟩ | ⟨g, cap, cur, hv, _⟩
    · exact ⟨_, _, _, hv⟩
    · exact ⟨_, _, _, hv⟩
  have HB2 := Lib.hid hb2
  have HO2 := Lib.hid hown'
  have HS2 := Lib.hid hs2
  clear hb2 hown' hs2 hgrow c0 c1 ho1
  go_wp2
  go_ret2
  have hl : (bs ++ s.data.toList).length = bs.length + s.size := by rw [List.length_append, Array.length_toList]; rfl
  refine ⟨rfl, ⟨HB.out, ⟨.pointer (some ⟨pb, 0, none⟩), _, .inr rfl, by simpa using set_page (i := 1) (.slice ao n' cap) HB2.out, ?_⟩, HT.out⟩, (HS1.out.trans HS2.out).trans (Soft.set _ _ _)⟩
  rw [hl, byteCells_app, ← strCells_bytes]
  exact row_set 1 _ HB2.out HO2.out

set_option maxHeartbeats 1000000 in
set_option maxRecDepth 100000 in
theorem put_c {B pb : Nat} {bs : List UInt8} {room st o : Nat} {F : Value} (w : World) (hP : Pg B pb bs room st o F w) (s : ByteArray) (hcap : room < s.size ∨ bs.length + s.size ≤ 140737488355328) (hB : B ≤ w.heap.size) :
    Calls Tryz.prog 47 #[pgP pb, .string s] w (Wr B pb bs room st o F w s.data.toList) := by
  have hpn : ∀ (T : Nat) (v : Value) (w : World), (Instr.panic (.iface T v)).run Tryz.prog w = .halt (.panic (.iface T v)) w := fun _ _ _ => rfl
  have hl : s.data.toList.length = s.size := by rw [Array.length_toList]; rfl
  obtain ⟨c2, c3, c4, c5⟩ := hP.cells
  have htop := hP.top
  have HP := Lib.hid hP
  clear hP c3 c4 c5
  by_cases hr : room < s.size
  · have hr2 : (room : Int) < (s.size : Int) := by omega
    go_enter Tryz.func47, Tryz.ntmps47
    go_wp2_with fail
    exact ⟨rfl, Wr.no (by rw [hl]; exact hr) (Soft.refl _ _ _)⟩
  · have hr2 : ¬ (room : Int) < (s.size : Int) := by omega
    have hcap2 := hcap.resolve_left hr
    go_enter Tryz.func47, Tryz.ntmps47
    go_wp2_with fail
    refine (writeStr_c w HP.out s hcap2 hB).mono ?_
    rintro e w1 ⟨rfl, hP1, hS1⟩
    obtain ⟨d2, d3, d4, d5⟩ := hP1.cells
    have f2 := hP1.frozen 2
    have hw : IntKind.i64.wrap ((room : Int) - (s.size : Int)) = (room : Int) - (s.size : Int) := IntWalk.i64_in _ (by omega)
    have HP1 := Lib.hid hP1
    have HS1 := Lib.hid hS1
    clear hP1 hS1 d3 d4 d5 c2
    go_wp2_with fail
    first | go_end0 | refine bodyPost_ret (results_none rfl _ _ _) rfl ?_
    have h := HP1.out.room (r := room - s.size) (by omega)
    rw [show ((room - s.size : Nat) : Int) = (room : Int) - (s.size : Int) by omega] at h
    refine Wr.done (by rw [hl]; omega) ?_ (HS1.out.trans (Soft.set _ _ _))
    rw [hl]; exact h
/-- The octets put, by name. -/
theorem putL_c {B pb : Nat} {bs : List UInt8} {room st o : Nat} {F : Value} (w : World) (hP : Pg B pb bs room st o F w) (s : ByteArray) (l : List UInt8) (hl : s.data.toList = l) (hcap : room < l.length ∨ bs.length + l.length ≤ 140737488355328) (hB : B ≤ w.heap.size) :
    Calls Tryz.prog 47 #[pgP pb, .string s] w (Wr B pb bs room st o F w l) := by
  have hsz : s.size = l.length := by rw [← hl, Array.length_toList]; rfl
  rw [← hl]
  exact put_c w hP s (by rw [hsz]; exact hcap) hB
end Go.Proofs.YtcanfiaooabocaaGreatDoor
