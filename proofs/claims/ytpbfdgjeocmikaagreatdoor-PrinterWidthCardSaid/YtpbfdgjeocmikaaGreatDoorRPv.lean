/-
  Contracts of the reference's Number and the law's num.
  The page's example of order, as the law asks it.
  The scan: where it stands in memory, what a step of it tells. Contracts of peek, isDigit, one, need and skip.
  A text as the page of layer 9 has it printed, and that it is read as itself. Pure, no program.
  A value as the page of layer 9 has it printed, in one line or in lines, and that it is read as itself. Pure, no program.
  A value as the page of layer 9 has it printed is read as itself: lists and objects. Pure, no program.
-/
import Derived.Test.YtpbfdgjeocmikaaGreatDoorRUbounds
import Derived.Deep.RegionHeld3
import Derived.Deep.Cut
import Derived.Calls
import Derived.Test.YtpbfdgjeocmikaaGreatDoorRVchk
import Derived.Laws.EntriesVeiled
import Derived.Test.YtpbfdgjeocmikaaGreatDoorRDrin
import Derived.Deep.QuietTactic
import Derived.BigQuiet
import Derived.Test.YtpbfdgjeocmikaaGreatDoorRUlib
import Derived.WalkKit
import Derived.Test.YtpbfdgjeocmikaaGreatDoorRDop
import Derived.Test.YtpbfdgjeocmikaaGreatDoorRDintc
set_option linter.unusedVariables false
set_option linter.unusedSimpArgs false
namespace Go.Proofs.YtpbfdgjeocmikaaGreatDoor
open Go.RowKit

set_option maxRecDepth 100000 in
set_option maxHeartbeats 4000000 in
theorem rnum_c (w : World) (z : Int) (h1 : -9223372036854775808 ≤ z) (h2 : z ≤ 9223372036854775807) (hl : (stZ z.natAbs 0).length ≤ 35184372088832) :
    Calls Tryz.prog 21 #[.int .i64 z] w fun e' w' => ∃ cs', e' = .returned (.agg cs'.toArray) ∧ VIn w' (Own' w.heap.size w') (.mk 3 (stN (decide (z < 0)) z.natAbs 0) (stZ z.natAbs 0) (stX z.natAbs 0) ⟨#[]⟩ [] []) cs' ∧ Below w.heap.size w w' := by
  have hW : Below w.heap.size w (w.alloc (.cells #[.int .i64 0, .bool false, .slice none 0 0, .int .i64 0, .string ⟨#[]⟩, .slice none 0 0, .slice none 0 0] 28)) := (Below.refl _ w).alloc (Nat.le_refl _) _
  have hm2 := World.alloc_heap_new w (.cells #[.int .i64 0, .bool false, .slice none 0 0, .int .i64 0, .string ⟨#[]⟩, .slice none 0 0, .slice none 0 0] 28)
  have hz : (w.alloc (.cells #[.int .i64 0, .bool false, .slice none 0 0, .int .i64 0, .string ⟨#[]⟩, .slice none 0 0, .slice none 0 0] 28)).heap.size = w.heap.size + 1 := by simp
  go_enter Tryz.func21, Tryz.ntmps21
  go_upto_region 1 with fail
  generalize (w.alloc (.cells #[.int .i64 0, .bool false, .slice none 0 0, .int .i64 0, .string ⟨#[]⟩, .slice none 0 0, .slice none 0 0] 28)) = W0 at *
  have HC := RInt_c z W0 h1 h2
  have HM2 := Lib.hid hm2
  have HW := Lib.hid hW
  clear hm2 hW
  unfold dv at HC
  go_wp2_with fail
  refine HC.mono ?_
  rintro e' w1 ⟨A, n, c, rfl, hres, hb1⟩
  clear HC
  have hv : VIn w1 (Own' W0.heap.size w1) (.mk 3 (stN (decide (z < 0)) z.natAbs 0) (stZ z.natAbs 0) (stX z.natAbs 0) ⟨#[]⟩ [] []) [.int .i64 3, .bool (stN (decide (z < 0)) z.natAbs 0), .slice A n c, .int .i64 (stX z.natAbs 0), .string ⟨#[]⟩, .slice none 0 0, .slice none 0 0] :=
    .mk (cs := fun _ => []) hres.rd (by rw [← hres.len]; exact hl) (by decide) ⟨rfl, fun h0 => absurd h0 (by omega)⟩ (by omega) rfl (by omega) (Nat.le_refl _) (fun h0 => absurd h0 (by omega)) (fun i x hi => by simp at hi)
  have HRES := Lib.hid hres
  clear hres
  have hmz := (hb1.block _ (by omega)).trans HM2.out
  obtain ⟨z0, z1, z2, z3, z4, z5, z6⟩ := box7_of hmz
  have fz : ∀ j, w1.frozen? ⟨w.heap.size, j, none⟩ = false := fun j => frozen_of_row w1 _ j _ _ hmz
  have HV := Lib.hid hv
  clear hv hmz
  go_wp2_with fail
  refine bodyPost_ret (v := .agg #[.int .i64 3, .bool (stN (decide (z < 0)) z.natAbs 0), .slice A n c, .int .i64 (stX z.natAbs 0), .string ⟨#[]⟩, .slice none 0 0, .slice none 0 0]) (by simp [results, Tryz.results21, go_sem, z0, z1, z2, z3, z4, z5, z6]) rfl ?_
  refine ⟨[.int .i64 3, .bool (stN (decide (z < 0)) z.natAbs 0), .slice A n c, .int .i64 (stX z.natAbs 0), .string ⟨#[]⟩, .slice none 0 0, .slice none 0 0], rfl, ?_, below_seven (HW.out.trans (hb1.mono (by omega))) (by omega) _ _ _ _ _ _ _⟩
  refine (HV.out.keep fun p hp => ?_).more fun b hb => ⟨by have := hb.1; omega, ?_⟩
  · have h1 := hp.1
    exact cell_seven (by omega) _ _ _ _ _ _ _
  · have := hb.2
    simpa [World.setCell] using this

/-- Number(z). -/
def numT (z : Int) : VT := .mk 3 (stN (decide (z < 0)) z.natAbs 0) (stZ z.natAbs 0) (stX z.natAbs 0) ⟨#[]⟩ [] []
end Go.Proofs.YtpbfdgjeocmikaaGreatDoor

namespace Go.Proofs.YtpbfdgjeocmikaaGreatDoor
open Go.RowKit

theorem numLen (z : Int) (h : z = 1 ∨ z = 2 ∨ z = 3) : (stZ z.natAbs 0).length ≤ 35184372088832 := by
  have h1 : (stZ (1 : Int).natAbs 0).length = 1 := by kernel_rfl
  have h2 : (stZ (2 : Int).natAbs 0).length = 1 := by kernel_rfl
  have h3 : (stZ (3 : Int).natAbs 0).length = 1 := by kernel_rfl
  rcases h with rfl | rfl | rfl <;> omega
theorem num_c (z : Int) (h : z = 1 ∨ z = 2 ∨ z = 3) (w : World) : Calls Tryz.prog 21 #[.int .i64 z] w fun e' w' => ∃ cs', e' = .returned (.agg cs'.toArray) ∧ VIn w' (Own' w.heap.size w') (numT z) cs' ∧ Below w.heap.size w w' :=
  rnum_c w z (by omega) (by omega) (numLen z h)
end Go.Proofs.YtpbfdgjeocmikaaGreatDoor

namespace Go.Proofs.YtpbfdgjeocmikaaGreatDoor
open Go.RowKit Go.Lib

/-- All blocks stay but those of C. -/
structure But (C : Nat → Prop) (w w' : World) : Prop where
  os : w'.os = w.os
  tape : w'.tape = w.tape
  output : w'.output = w.output
  size : w.heap.size ≤ w'.heap.size
  block : ∀ k, k < w.heap.size → ¬ C k → w'.heap[k]? = w.heap[k]?
theorem But.refl (C : Nat → Prop) (w : World) : But C w w := ⟨rfl, rfl, rfl, Nat.le_refl _, fun _ _ _ => rfl⟩
theorem But.trans {C : Nat → Prop} {a b c : World} (h : But C a b) (k : But C b c) : But C a c :=
  ⟨k.os.trans h.os, k.tape.trans h.tape, k.output.trans h.output, Nat.le_trans h.size k.size, fun i hi hc => (k.block i (Nat.lt_of_lt_of_le hi h.size) hc).trans (h.block i hi hc)⟩
theorem But.mono {C D : Nat → Prop} {a b : World} (h : But C a b) (hD : ∀ k, k < a.heap.size → C k → D k) : But D a b :=
  ⟨h.os, h.tape, h.output, h.size, fun i hi hc => h.block i hi fun h2 => hc (hD i hi h2)⟩
theorem But.of {C : Nat → Prop} {w w' : World} (h : Below w.heap.size w w') : But C w w' := ⟨h.os, h.tape, h.output, h.size, fun k hk _ => h.block k hk⟩
/-- A store into a block of C, or into a new one. -/
theorem But.setCell {C : Nat → Prop} {a w : World} (h : But C a w) {p : Addr} (hp : C p.block ∨ a.heap.size ≤ p.block) (u : Value) : But C a (w.setCell p u) :=
  ⟨h.os, h.tape, h.output, by simpa [World.setCell] using h.size, fun k hk hc => (Below.heap_setCell _ _ _ _ (by rintro rfl; rcases hp with hp | hp; exact hc hp; omega)).trans (h.block k hk hc)⟩
theorem But.drew {C : Nat → Prop} {a w : World} (h : But C a w) : But C a w.drew := ⟨h.os, h.tape, h.output, h.size, h.block⟩
theorem But.drewN {C : Nat → Prop} {a w : World} (h : But C a w) (k : Nat) : But C a (w.drewN k) := ⟨h.os, h.tape, h.output, h.size, h.block⟩
theorem But.alloc {C : Nat → Prop} {a w : World} (h : But C a w) (o : Obj) : But C a (w.alloc o) := h.trans (But.of ((Below.refl _ _).alloc (Nat.le_refl _) o))
theorem But.below {C : Nat → Prop} {B : Nat} {w w' : World} (h : But C w w') (hB : B ≤ w.heap.size) (hC : ∀ k, k < B → ¬ C k) : Below B w w' :=
  ⟨h.os, h.tape, h.output, h.size, fun k hk => h.block k (Nat.lt_of_lt_of_le hk hB) (hC k hk)⟩
theorem But.cell {C : Nat → Prop} {w w' : World} (h : But C w w') {p : Addr} (hp : p.block < w.heap.size) (hc : ¬ C p.block) : w'.cell? p = w.cell? p := World.cell?_of_block (h.block _ hp hc)
theorem cell_at3 {w : World} {b i : Nat} {vs : Array Value} {v : Value} {t : TypeId} (h : w.heap[b]? = some (.cells vs t)) (hi : vs[i]? = some v) : w.cell? ⟨b, i, none⟩ = some v := by
  simp [World.cell?, h, hi]
variable {B : Nat} {L : List UInt8} {A : Option Addr} {c sb : Nat}

end Go.Proofs.YtpbfdgjeocmikaaGreatDoor

namespace Go.Proofs.YtpbfdgjeocmikaaGreatDoor
open Go.Lib

def hxD (n : Nat) : UInt8 := if n < 10 then UInt8.ofNat (48 + n) else UInt8.ofNat (87 + n)
/-- A character of a text, printed. -/
def quoteC (c : Int) : List UInt8 :=
  if c = 34 then [92, 34] else if c = 92 then [92, 92] else if c = 8 then [92, 98] else if c = 9 then [92, 116] else if c = 10 then [92, 110]
  else if c = 12 then [92, 102] else if c = 13 then [92, 114]
  else if c < 32 ∨ c = 127 then [92, 117, 48, 48, hxD (c.toNat / 16), hxD (c.toNat % 16)] else encodeRune c
end Go.Proofs.YtpbfdgjeocmikaaGreatDoor

namespace Go.Proofs.YtpbfdgjeocmikaaGreatDoor
open Go.Lib

def qL (qc : Int → List UInt8) (cs : List Int) : List UInt8 := cs.flatMap qc
theorem qL_cons (qc : Int → List UInt8) (c : Int) (cs : List Int) : qL qc (c :: cs) = qc c ++ qL qc cs := rfl
theorem pcs_gd (l : List UInt8) : ∀ p ∈ pcs l, p.2 ≠ -1 → isCh p.2 ∧ p.1 = encodeRune p.2 := by
  refine text_ind (p := fun l => ∀ p ∈ pcs l, p.2 ≠ -1 → isCh p.2 ∧ p.1 = encodeRune p.2) (fun p h => by cases h) (fun l hl ih => ?_) l
  intro p hp hn
  rw [pcs_cons hl, List.mem_cons] at hp
  rcases hp with rfl | hp
  · rcases part_cases hl with ⟨h, _⟩ | ⟨_, h1, h2, _⟩
    · exact absurd h hn
    · exact ⟨h1, h2⟩
  · exact ih p hp hn
theorem flat_same {α β : Type} (f g : α → List β) : ∀ l : List α, (∀ x ∈ l, f x = g x) → l.flatMap f = l.flatMap g
  | [], _ => rfl
  | x :: l, h => by rw [List.flatMap_cons, List.flatMap_cons, h x (by simp), flat_same f g l (fun y hy => h y (by simp [hy]))]
theorem charsT {l : List UInt8} (h : isT l = true) : enc ((pcs l).map (·.2)) = l ∧ ∀ c ∈ (pcs l).map (·.2), isCh c := by
  rw [isT_iff] at h
  refine ⟨?_, fun c hc => ?_⟩
  · conv => rhs; rw [← pcs_flat l]
    unfold enc
    rw [List.flatMap_map]
    refine flat_same _ _ _ fun p hp => ?_
    exact (pcs_gd l p hp (h p hp)).2.symm
  · rw [List.mem_map] at hc
    obtain ⟨p, hp, rfl⟩ := hc
    exact (pcs_gd l p hp (h p hp)).1
/-- A text, printed. -/
def txtL (qc : Int → List UInt8) (s : ByteArray) : List UInt8 := 34 :: (qL qc ((pcs s.data.toList).map (·.2)) ++ [34])
/-- A new line, if there is more than one. -/
def lineL (st o : Nat) : List UInt8 := if st = 0 then [] else 10 :: List.replicate (st * o) 32
/-- What stands behind an item: another one, or the end. -/
def itT {α : Type} (st o : Nat) (en : UInt8) : Bool → List (α × List UInt8) → List UInt8
  | _, [] => [en]
  | first, x :: r => (if first then [] else 44 :: lineL st (o + 1)) ++ (x.2 ++ ((if r.isEmpty then lineL st o else []) ++ itT st o en false r))
end Go.Proofs.YtpbfdgjeocmikaaGreatDoor

namespace Go.Proofs.YtpbfdgjeocmikaaGreatDoor
open Go.Lib

mutual
/-- A value, printed, with so many lists and objects open. -/
def prV (qc : Int → List UInt8) (nt : Bool → List Nat → Int → List UInt8) (st : Nat) (o : Nat) : VT → List UInt8
  | .mk k n xs e t l ks =>
    if k = 1 then [102, 97, 108, 115, 101] else if k = 2 then [116, 114, 117, 101] else if k = 3 then nt n xs e else if k = 4 then txtL qc t
    else if k = 5 then 91 :: ((if l.isEmpty then [] else lineL st (o + 1)) ++ itT st o 93 true (prI qc nt st o l))
    else if k = 6 then 123 :: ((if l.isEmpty then [] else lineL st (o + 1)) ++ itT st o 125 true (prK qc nt st o l ks))
    else [110, 117, 108, 108]
def prI (qc : Int → List UInt8) (nt : Bool → List Nat → Int → List UInt8) (st : Nat) (o : Nat) : List VT → List (VT × List UInt8)
  | [] => []
  | v :: r => (v, prV qc nt st (o + 1) v) :: prI qc nt st o r
def prK (qc : Int → List UInt8) (nt : Bool → List Nat → Int → List UInt8) (st : Nat) (o : Nat) : List VT → List ByteArray → List ((ByteArray × VT) × List UInt8)
  | [], _ => []
  | v :: r, ks => ((ks.headD ⟨#[]⟩, v), txtL qc (ks.headD ⟨#[]⟩) ++ ([58] ++ ((if st = 0 then [] else [32]) ++ prV qc nt st (o + 1) v))) :: prK qc nt st o r ks.tail
end

/-- How numbers are printed: each is read as itself. -/
def NtOk (nt : Bool → List Nat → Int → List UInt8) : Prop := ∀ {n xs e}, L32 xs → okB n xs e = true → fE ((nt n xs e).map (·.toNat)) = 0 ∧ fN ((nt n xs e).map (·.toNat)) = n ∧ fX ((nt n xs e).map (·.toNat)) = e ∧ fZ ((nt n xs e).map (·.toNat)) = xs ∧
  ∃ c t, nt n xs e = c :: t ∧ (c = 45 ∨ isDg c = true)
/-- A value all of whose parts may be by themselves, with limbs that are some. -/
def Gp (x : VT) : Prop := ∀ y ∈ partsV x, alone y = 0 ∧ L32 y.num
theorem Gp.sub {x z : VT} (h : Gp x) (hz : z ∈ x.inner) : Gp z := fun y hy => h y (by rw [parts_eq]; exact List.mem_cons_of_mem _ (List.mem_flatMap.2 ⟨z, hz, hy⟩))
theorem Gp.own {x : VT} (h : Gp x) : alone x = 0 ∧ L32 x.num := h x (by rw [parts_eq]; exact List.mem_cons_self)
theorem prI_map {qc : Int → List UInt8} {nt : Bool → List Nat → Int → List UInt8} {st o : Nat} : ∀ l : List VT, (prI qc nt st o l).map (·.1) = l ∧ (prI qc nt st o l).length = l.length
  | [] => by unfold prI; exact ⟨rfl, rfl⟩
  | v :: r => by
    have ih := prI_map (qc := qc) (nt := nt) (st := st) (o := o) r
    unfold prI
    exact ⟨by rw [List.map_cons, ih.1], by rw [List.length_cons, List.length_cons, ih.2]⟩
theorem prK_map {qc : Int → List UInt8} {nt : Bool → List Nat → Int → List UInt8} {st o : Nat} : ∀ (l : List VT) (ks : List ByteArray), ks.length = l.length → (prK qc nt st o l ks).map (·.1) = ks.zip l ∧ (prK qc nt st o l ks).length = l.length
  | [], [], _ => by unfold prK; exact ⟨rfl, rfl⟩
  | [], s :: ks, hk => by simp at hk
  | v :: r, [], hk => by simp at hk
  | v :: r, s :: ks, hk => by
    have ih := prK_map (qc := qc) (nt := nt) (st := st) (o := o) r ks (by simpa using hk)
    unfold prK
    exact ⟨by rw [List.map_cons, show (s :: ks).tail = ks from rfl, ih.1]; rfl, by rw [List.length_cons, List.length_cons, show (s :: ks).tail = ks from rfl, ih.2]⟩
end Go.Proofs.YtpbfdgjeocmikaaGreatDoor
