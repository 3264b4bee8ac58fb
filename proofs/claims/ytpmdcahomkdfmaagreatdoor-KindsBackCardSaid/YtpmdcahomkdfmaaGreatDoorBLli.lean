/-
  Contract of utf.Text.
  Contract of utf.Text: the walk.
  Contracts of the reference's may and Octets.
  Contracts of the reference's text, Deep and Size (bolterref05).
  The scan: where it stands in memory, what a step of it tells. Contracts of peek, isDigit, one, need and skip.
  Contracts of the scan's digits and word.
  Contracts of the scan's low, coded and escape.
  Contract of the closure that reads the values of a list.
-/
import Derived.Test.YtpmdcahomkdfmaaGreatDoorBUtext
import Derived.Deep.QuietTactic
import Derived.BigQuiet
import Derived.Test.YtpmdcahomkdfmaaGreatDoorBVchk
import Derived.Test.YtpmdcahomkdfmaaGreatDoorBDset
import Derived.Test.YtpmdcahomkdfmaaGreatDoorBVcm
import Derived.Laws.Concat
import Derived.Test.YtpmdcahomkdfmaaGreatDoorBDintc
import Derived.Test.YtpmdcahomkdfmaaGreatDoorBNapi
import Derived.PlainAid
import Derived.Test.YtpmdcahomkdfmaaGreatDoorBNrefe
import Derived.Deep.AppendLies
import Derived.Deep.RegionHeld3
import Derived.Lib.ItoaNum
import Derived.Test.YtpmdcahomkdfmaaGreatDoorBNparse
import Derived.Test.YtpmdcahomkdfmaaGreatDoorBVob
import Derived.Test.YtpmdcahomkdfmaaGreatDoorBNlimb
import Derived.Test.YtpmdcahomkdfmaaGreatDoorBUbounds
import Derived.Test.YtpmdcahomkdfmaaGreatDoorBRtail
import Derived.Test.YtpmdcahomkdfmaaGreatDoorBVord
import Derived.Deep.Cut
import Derived.Deep.CutRange
import Derived.Test.YtpmdcahomkdfmaaGreatDoorBRfull
import Derived.Test.YtpmdcahomkdfmaaGreatDoorBArgs
import Derived.Test.YtpmdcahomkdfmaaGreatDoorBUsync
import Derived.Deep.CutBlock
import Derived.WalkKit
import Derived.Test.YtpmdcahomkdfmaaGreatDoorShelf
import Derived.Shelf.Strings.BuilderRune
import Derived.Shelf.Spec.DecodeRune
import Derived.Laws.BytesArg
set_option linter.unusedVariables false
set_option linter.unusedSimpArgs false
namespace Go.Proofs.YtpmdcahomkdfmaaGreatDoor
open Go.RowKit Go.Lib

theorem RdV.conv {w : World} {S : Nat → Prop} {A : Option Addr} {n c : Nat} {l : List UInt8} (h : RdV w S A n (bs8 l)) : (convert 78 9 (.slice A n c)).run Tryz.prog w = .ok (.string (mk8 l)) w := by
  have hl : l.length = n := by rw [← h.len, bs8_length]
  cases A with
  | none =>
    have h0 : n = 0 := by
      rcases Nat.eq_zero_or_pos n with e | e
      · exact e
      · obtain ⟨b, off, e2, _⟩ := h.cells e; cases e2
    have hl0 : l = [] := List.eq_nil_of_length_eq_zero (by omega)
    have h1 := run_convert_bytes_nil (P := Tryz.prog) w 78 5 Tryz.underlying78 Tryz.underlying5 n c 9 Tryz.underlying9
    rw [h1, hl0]; rfl
  | some ad =>
    have hm : bs8 l = (l.map fun x => (x.toNat : Int)).map (Value.int .u8) := by unfold bs8; rw [List.map_map]; rfl
    have hld : (loadCells ad n).run Tryz.prog w = .ok ((l.map fun x => (x.toNat : Int)).map (Value.int .u8)).toArray w := by
      have := run_loadCells_list (P := Tryz.prog) w ad (bs8 l) (fun j v hj => h.cellsAt j v hj)
      rw [bs8_length, hl, hm] at this
      exact this
    rw [run_convert_bytes_string w 78 9 5 _ n c Tryz.underlying78 Tryz.underlying5 Tryz.underlying9, run_bytesToString w _ n c (l.map fun x => (x.toNat : Int)) hld, foldl_push_bytes]
    congr 1
    congr 1
    unfold mk8
    congr 1
    rw [List.map_map]
    show ByteArray.empty.data ++ _ = _
    have : (l.map ((fun n : Int => UInt8.ofNat n.toNat) ∘ fun x : UInt8 => (x.toNat : Int))) = l := by
      conv => rhs; rw [← List.map_id l]
      refine List.map_congr_left fun x _ => ?_
      simp
    rw [this]
    simp

/-- What Text answers. -/
def textE (l : List Int) : Nat := if badC l = true then 4 else 0
def textT (l : List Int) : List UInt8 := if badC l = true then [] else enc l
theorem badC_false {l : List Int} (h : badC l = false) : ∀ c ∈ l, isCh c := by
  intro c hc
  by_cases h2 : isCh c
  · exact h2
  · have := badC_mem hc (by rw [decide_eq_false h2]; rfl)
    rw [h] at this; cases this
def roomB (n : Nat) : Obj := .cells (madeCells #[.int IntKind.u8 0] n) 5
theorem makeB_at {z : Int} (n : Nat) (e : z = (n : Int)) (h : n ≤ 17592186044416) (w : World) : (Instr.makeSlice 78 (.int IntKind.i64 0) (.int IntKind.i64 z)).run Tryz.prog w =
    .ok (.slice (some ⟨w.heap.size, 0, none⟩) 0 n) (w.alloc (roomB n)) := by
  subst e
  obtain ⟨i0, hi, hz0, hz1, hz2⟩ := info_parts uinfo8
  have hr := run_make (P := Tryz.prog) w 78 5 i0 (.int IntKind.u8 0) Tryz.underlying78 hi hz0 IntKind.i64 IntKind.i64 0 n (by omega) (by omega) (by rw [hz2]; omega) (by omega)
  rw [Int.toNat_natCast, hz1, Nat.mul_one] at hr
  exact hr
theorem RowV.roomB (w : World) (n : Nat) (h : n ≤ 17592186044416) : RowV (w.alloc (roomB n)) w.heap.size 5 (some ⟨w.heap.size, 0, none⟩) 0 n [] := by
  refine ⟨rfl, ?_⟩
  have := World.ownsRow_lit (base := w.heap.size) (e := 5) (size := 1) w (madeCells #[.int IntKind.u8 0] n) n (Nat.le_refl _) (by unfold maxLen; omega) (by rw [size_madeCells, Nat.mul_one])
  exact ⟨rfl, by
    rcases this.2 with ⟨e, h0⟩ | ⟨g, cap, cur, e, hb, hh, h1, h2, h3, h4⟩
    · injection e with e1; cases e1
    · injection e with e1 e2 e3
      exact .inr ⟨g, n, cur, by rw [e1], hb, hh, by omega, by omega, by rw [e3]; exact h3, by simp⟩⟩
theorem enc_len_le : ∀ l : List Int, (enc l).length ≤ 4 * l.length
  | [] => Nat.le_refl _
  | c :: l => by
    rw [enc_cons, List.length_append, List.length_cons]
    have := enc_len_le l
    have := enc_len c
    omega
/-- A character put behind a row of octets. -/
theorem append_c {A : Option Addr} {n c base : Nat} {l : List UInt8} (z : Int) (w : World) (h : RowV w base 5 A n c (bs8 l)) (hz : isCh z) (hn : n + 4 ≤ 140737488355328) (hb : base ≤ w.heap.size) :
    Calls Tryz.prog 48 #[.slice A n c, .int .i32 z] w fun e w' => ∃ A' n' c', e = .returned (.slice A' n' c') ∧ RowV w' base 5 A' n' c' (bs8 (l ++ encodeRune z)) ∧ ∃ o, (w.alloc o).grownBy w' (Value.slice A n c).ownBlock := by
  have h2 : -2147483648 ≤ z ∧ z ≤ 2147483647 := by unfold isCh at hz; omega
  refine (Tryz.utf8_AppendRune_plain base (.slice A n c) n (bs8 l) z h2.1 h2.2 w h.own hn hb).mono ?_
  rintro e w' ⟨v', rfl, h3, o, h4⟩
  rw [runeCells_bs8, ← bs8_append] at h3
  obtain ⟨A', c', e, h5⟩ := RowV.of_row (by rw [bs8_length, List.length_append, bs8_length, ← h.len, bs8_length]) h3
  exact ⟨A', _, c', by rw [e], h5, o, h4⟩
end Go.Proofs.YtpmdcahomkdfmaaGreatDoor

namespace Go.Proofs.YtpmdcahomkdfmaaGreatDoor
open Go.RowKit Go.Lib

theorem badC_ok {l : List Int} {k : Nat} {z : Int} (h : badC l = false) (hz : l[k]? = some z) : isCh z := badC_false h z (List.mem_of_getElem? hz)

set_option maxRecDepth 100000 in
set_option maxHeartbeats 1000000 in
theorem Text_c {S : Nat → Prop} {A : Option Addr} {n c : Nat} {l : List Int} (w : World) (hr : RdV w S A n (zs64 l)) (hS : ∀ b, S b → b < w.heap.size) (hl : L64 l) (hn : n ≤ 17592186044416) :
    Calls Tryz.prog 24 #[.slice A n c] w fun e w' => e = .returned (.tuple #[.string (mk8 (textT l)), .int .i64 (textE l : Int)]) ∧ Below w.heap.size w w' := by
  have hlen : l.length = n := by rw [← hr.len, zs64_length]
  have hC := ContainsFunc_c (c := c) w hr hl hn
  by_cases hbad : badC l = true
  · have e1 : textE l = 4 := by unfold textE; rw [if_pos hbad]
    have e2 : textT l = [] := by unfold textT; rw [if_pos hbad]
    rw [e1, e2]
    rw [hbad] at hC
    clear e1 e2 hbad hlen hr hl
    go_enter Tryz.func24, Tryz.ntmps24
    go_wp2_with fail
    refine hC.mono ?_
    rintro e w1 ⟨rfl, hw1⟩
    have hw1 := hw1.symm
    subst hw1
    go_wp2
    go_ret2
    exact ⟨rfl, Below.refl _ _⟩
  · have hbf : badC l = false := by simpa using hbad
    have e1 : textE l = 0 := by unfold textE; rw [if_neg hbad]
    have e2 : textT l = enc l := by unfold textT; rw [if_neg hbad]
    rw [e1, e2]
    rw [hbf] at hC
    have hmk := fun W => makeB_at (z := (n : Int)) n rfl (by omega) W
    have HLEN := Lib.hid hlen
    have HR := Lib.hid hr
    have HBF := Lib.hid hbf
    have HE := Lib.hid (show (enc l).length ≤ 4 * n by rw [← hlen]; exact enc_len_le l)
    clear e1 e2 hbad hlen hr hl hbf
    go_enter Tryz.func24, Tryz.ntmps24
    go_wp2_with fail
    refine hC.mono ?_
    rintro e w1 ⟨rfl, hw1⟩
    have hw1 := hw1.symm
    subst hw1
    clear hC
    have hr0 := RowV.roomB w n (by omega)
    have hb0 : Below w.heap.size w (w.alloc (roomB n)) := (Below.refl _ _).alloc (Nat.le_refl _) _
    have HR0 := Lib.hid hr0
    have HB0 := Lib.hid hb0
    clear hr0 hb0
    go_wp2
    go_loopw [4, 14] (fun v i wr => ∃ (k : Nat) (A' : Option Addr) (n' c' : Nat), k ≤ n ∧ i = .int .i64 (k : Int) ∧ v = .slice A' n' c' ∧ RowV wr w.heap.size 5 A' n' c' (bs8 (enc (l.take k))) ∧ Below w.heap.size w wr) (fun _ i _ => n - (RowKit.intOf i).toNat)
    case atStart => exact ⟨0, _, _, _, Nat.zero_le _, rfl, rfl, HR0.out, HB0.out⟩
    case round =>
      obtain ⟨k, A', n', c', hk, rfl, rfl, hrow, hbel⟩ := hrel
      by_cases hlt : k < n
      · obtain ⟨z, hz⟩ : ∃ z, l[k]? = some z := ⟨l[k]'(by rw [HLEN.out]; exact hlt), List.getElem?_eq_getElem (by rw [HLEN.out]; exact hlt)⟩
        have hch := badC_ok HBF.out hz
        obtain ⟨b, off, rfl, hSb, hc⟩ := (HR.out.below hbel hS).at_ (zs64_get hz)
        have hn' : n' ≤ 4 * k := by
          rw [← hrow.len, bs8_length]
          have h1 := enc_len_le (l.take k)
          rw [List.length_take] at h1
          omega
        have hap := append_c z wr hrow hch (by omega) hbel.size
        have hstep : enc (l.take (k + 1)) = enc (l.take k) ++ encodeRune z := by
          rw [List.take_add_one, hz, enc_append]
          simp [enc]
        rw [← hstep] at hap
        have hwr : IntKind.i32.wrap z = z := IntWalk.i32_in _ (by unfold isCh at hch; omega)
        have HAP := Lib.hid hap
        have HROW := Lib.hid hrow
        have HBEL := Lib.hid hbel
        clear hap hrow hbel hstep hz hch
        go_wp2_with fail
        refine HAP.out.mono ?_
        rintro e w2 ⟨A2, n2, c2, rfl, hrow2, o, hg⟩
        have hbel2 := HROW.out.below_append HBEL.out HBEL.out.size hg
        go_wp2
        exact ⟨⟨k + 1, A2, n2, c2, by omega, by go_num, rfl, hrow2, hbel2⟩, by simp [RowKit.intOf]; omega⟩
      · obtain rfl : k = n := by omega
        rw [List.take_of_length_le (by rw [HLEN.out]; exact Nat.le_refl _)] at hrow
        have hcv := hrow.rd.conv (c := c')
        go_wp2
        go_ret2
        exact ⟨rfl, hbel⟩
end Go.Proofs.YtpmdcahomkdfmaaGreatDoor

namespace Go.Proofs.YtpmdcahomkdfmaaGreatDoor
open Go.RowKit Go.Lib

theorem RowV.lit (w : World) (t : TypeId) (vs : List Value) (n : Nat) (hn : vs.length = n) (hm : n ≤ 4294967296) : RowV (w.alloc (.cells vs.toArray t)) w.heap.size t (some ⟨w.heap.size, 0, none⟩) n n vs := by
  refine ⟨hn, ?_⟩
  have h := World.ownsRow_lit (base := w.heap.size) (e := t) (size := 1) w vs.toArray n (Nat.le_refl _) (by unfold maxLen; omega) (by simp [hn])
  simpa using h

end Go.Proofs.YtpmdcahomkdfmaaGreatDoor

namespace Go.Proofs.YtpmdcahomkdfmaaGreatDoor
open Go.RowKit Go.Lib

theorem VIn.seven {w : World} {S : Nat → Prop} {x : VT} {cs : List Value} (h : VIn w S x cs) : ∃ k neg A n c e t LA ln lc KA kn kc, cs = [.int .i64 k, .bool neg, .slice A n c, .int .i64 e, .string t, .slice LA ln lc, .slice KA kn kc] ∧ x.kind = k ∧ RdL w S LA ln x.list := by
  cases x with
  | mk k neg xs e t l ks =>
    obtain ⟨A, n, c, LA, ln, lc, KA, kn, kc, rfl, _, _, _, hl, _⟩ := h.parts
    exact ⟨k, neg, A, n, c, e, t, LA, ln, lc, KA, kn, kc, rfl, rfl, hl⟩

end Go.Proofs.YtpmdcahomkdfmaaGreatDoor

namespace Go.Proofs.YtpmdcahomkdfmaaGreatDoor
open Go.RowKit Go.Lib

/-- All blocks stay but those of C. -/
structure But (C : Nat → Prop) (w w' : World) : Prop where
  os : w'.os = w.os
  tape : w'.tape = w.tape
  output : w'.output = w.output
  size : w.heap.size ≤ w'.heap.size
  block : ∀ k, k < w.heap.size → ¬ C k → w'.heap[k]? = w.heap[k]?
theorem But.refl (C : Nat → Prop) (w : World) : But C w w := ⟨rfl, rfl, rfl, Nat.le_refl _, fun _ _ _ => rfl⟩
theorem But.trans {C : Nat → Prop} {a b c : World} (h : But C a b) (k : But C b c) : But C a c :=
  ⟨k.os.trans h.os, k.tape.trans h.tape, k.output.trans h.output, Nat.le_trans h.size k.size, fun i hi hc => (k.block i (Nat.lt_of_lt_of_le hi h.size) hc).trans (h.block i hi hc)⟩
theorem But.mono {C D : Nat → Prop} {a b : World} (h : But C a b) (hD : ∀ k, k < a.heap.size → C k → D k) : But D a b :=
  ⟨h.os, h.tape, h.output, h.size, fun i hi hc => h.block i hi fun h2 => hc (hD i hi h2)⟩
theorem But.of {C : Nat → Prop} {w w' : World} (h : Below w.heap.size w w') : But C w w' := ⟨h.os, h.tape, h.output, h.size, fun k hk _ => h.block k hk⟩
/-- A store into a block of C, or into a new one. -/
theorem But.setCell {C : Nat → Prop} {a w : World} (h : But C a w) {p : Addr} (hp : C p.block ∨ a.heap.size ≤ p.block) (u : Value) : But C a (w.setCell p u) :=
  ⟨h.os, h.tape, h.output, by simpa [World.setCell] using h.size, fun k hk hc => (Below.heap_setCell _ _ _ _ (by rintro rfl; rcases hp with hp | hp; exact hc hp; omega)).trans (h.block k hk hc)⟩
theorem But.drew {C : Nat → Prop} {a w : World} (h : But C a w) : But C a w.drew := ⟨h.os, h.tape, h.output, h.size, h.block⟩
theorem But.drewN {C : Nat → Prop} {a w : World} (h : But C a w) (k : Nat) : But C a (w.drewN k) := ⟨h.os, h.tape, h.output, h.size, h.block⟩
theorem But.alloc {C : Nat → Prop} {a w : World} (h : But C a w) (o : Obj) : But C a (w.alloc o) := h.trans (But.of ((Below.refl _ _).alloc (Nat.le_refl _) o))
theorem But.below {C : Nat → Prop} {B : Nat} {w w' : World} (h : But C w w') (hB : B ≤ w.heap.size) (hC : ∀ k, k < B → ¬ C k) : Below B w w' :=
  ⟨h.os, h.tape, h.output, h.size, fun k hk => h.block k (Nat.lt_of_lt_of_le hk hB) (hC k hk)⟩
theorem But.cell {C : Nat → Prop} {w w' : World} (h : But C w w') {p : Addr} (hp : p.block < w.heap.size) (hc : ¬ C p.block) : w'.cell? p = w.cell? p := World.cell?_of_block (h.block _ hp hc)
theorem cell_at3 {w : World} {b i : Nat} {vs : Array Value} {v : Value} {t : TypeId} (h : w.heap[b]? = some (.cells vs t)) (hi : vs[i]? = some v) : w.cell? ⟨b, i, none⟩ = some v := by
  simp [World.cell?, h, hi]
variable {B : Nat} {L : List UInt8} {A : Option Addr} {c sb : Nat}

end Go.Proofs.YtpmdcahomkdfmaaGreatDoor

namespace Go.Proofs.YtpmdcahomkdfmaaGreatDoor
open Go.RowKit Go.Lib
variable {B : Nat} {L : List UInt8} {A : Option Addr} {c sb : Nat}

/-- Where digits end. -/
def dgE (L : List UInt8) (p : Nat) : Nat := p + ((L.drop p).takeWhile isDg).length
end Go.Proofs.YtpmdcahomkdfmaaGreatDoor

namespace Go.Proofs.YtpmdcahomkdfmaaGreatDoor
open Go.RowKit Go.Lib
variable {B : Nat} {L : List UInt8} {A : Option Addr} {c sb : Nat}

theorem But.no {C : Nat → Prop} {w w' : World} (h : But (fun _ => False) w w') : But C w w' := h.mono (fun _ _ h => h.elim)
end Go.Proofs.YtpmdcahomkdfmaaGreatDoor

namespace Go.Proofs.YtpmdcahomkdfmaaGreatDoor
open Go.RowKit Go.Lib
variable {B : Nat} {L : List UInt8} {A : Option Addr} {c sb : Nat}

theorem ownsRow_keepB {w w' : World} {base : Nat} {e : TypeId} {size : Nat} {v : Value} {n : Nat} {xs : List Value} {C : Nat → Prop} (h : w.ownsRow base e size v n xs) (hb : But C w w') (hC : ∀ k, v.ownBlock = some k → ¬ C k) : w'.ownsRow base e size v n xs := by
  obtain ⟨h1, h2⟩ := h
  refine ⟨h1, ?_⟩
  rcases h2 with h2 | ⟨g, cap, cur, e1, e2, e3, e4⟩
  · exact .inl h2
  · exact .inr ⟨g, cap, cur, e1, e2, (hb.block g (Array.getElem?_eq_some_iff.1 e3).1 (hC g (by rw [e1]; rfl))).trans e3, e4⟩
theorem ownsRow_lt {w : World} {base : Nat} {e : TypeId} {size : Nat} {v : Value} {n : Nat} {xs : List Value} (h : w.ownsRow base e size v n xs) {k : Nat} (hk : v.ownBlock = some k) : base ≤ k ∧ k < w.heap.size := by
  rcases h.2 with ⟨h2, -⟩ | ⟨g, cap, cur, e1, e2, e3, e4⟩
  · rw [h2] at hk; exact absurd hk (by simp [Value.ownBlock])
  · rw [e1] at hk
    injection hk with hk
    have hk : g = k := hk
    subst hk
    exact ⟨e2, (Array.getElem?_eq_some_iff.1 e3).1⟩
end Go.Proofs.YtpmdcahomkdfmaaGreatDoor
