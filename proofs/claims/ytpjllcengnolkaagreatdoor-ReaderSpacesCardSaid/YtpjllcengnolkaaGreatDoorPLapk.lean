/-
  The reader reads as the page has it: the contracts of value, Next and Read without a hypothesis.
  The law's example of the reader. Over what Word tells of 2.5 (Word25: from RWord_c of dec's Drword).
  The walk of bolterlaw07.ReaderShort.
  Contract of reader.All.
  The walk of bolterlaw07.ReaderAhead.
  append onto a slice of the call's own: where the new slice lies in a new block, all elder blocks stay. Over any program.
-/
import Derived.Test.YtpjllcengnolkaaGreatDoorPLobj
import Derived.Test.YtpjllcengnolkaaGreatDoorPLcu
import Derived.Test.YtpjllcengnolkaaGreatDoorPLrd
import Derived.Lib.SlBytesConst
import Derived.Test.YtpjllcengnolkaaGreatDoorPVsame
import Derived.Laws.EntriesVeiled
import Derived.Test.YtpjllcengnolkaaGreatDoorPLch
import Derived.Maps.AppendAt
set_option linter.unusedVariables false
set_option linter.unusedSimpArgs false
namespace Go.Proofs.YtpjllcengnolkaaGreatDoor
open Go.RowKit Go.Lib
theorem objC_of {k : Nat} (ih : ValC k) : ObjC k := fun E hko hcap hpl => robject_c ih E hko hcap hpl
theorem valC (k : Nat) : ValC k := val_all (fun _ ih => objC_of ih) k
end Go.Proofs.YtpjllcengnolkaaGreatDoor

namespace Go.Proofs.YtpjllcengnolkaaGreatDoor
open Go.RowKit Go.Lib
/-- What the reference's Word tells of 2.5. -/
def Word25 : Prop := ∀ (S : Nat → Prop) (c : Nat) (A : Option Addr) (w : World), Rd w S A 1 [25] → (∀ b, S b → b < w.heap.size) →
  Calls Tryz.prog 16 #[.agg #[.bool false, .slice A 1 c, .int .i64 (-1)]] w fun e w' => e = .returned (.string ⟨#[50, 46, 53]⟩) ∧ Below w.heap.size w w'
theorem lnum7_c (z : Int) (w : World) : Calls Tryz.prog 10 #[.int .i64 z] w fun e w' => e = .returned (.int .i64 z) ∧ w = w' := by
  go_enter Tryz.func10, Tryz.ntmps10
  go_wp2_with fail
  go_ret
  exact ⟨rfl, rfl⟩
set_option maxRecDepth 100000 in
set_option maxHeartbeats 4000000 in
theorem alive7_c (hW : Word25) (w : World) (hT : Tabs w) : Calls Tryz.prog 7 #[] w fun e w' => e = .returned (.bool true) ∧ Below w.heap.size w w' := by
  have HW := Lib.hid hW
  have kc := Lib.run_convert_bytes_const (P := Tryz.prog) w 22 5 #[.int .u8 91, .int .u8 49, .int .u8 44, .int .u8 32, .int .u8 50, .int .u8 46, .int .u8 53, .int .u8 48, .int .u8 93] 9 9 Tryz.underlying22 Tryz.underlying5
  have hb0 : Below w.heap.size w (w.alloc (.cells #[.int .u8 91, .int .u8 49, .int .u8 44, .int .u8 32, .int .u8 50, .int .u8 46, .int .u8 53, .int .u8 48, .int .u8 93] 5 (9, 10))) := (Below.refl _ _).alloc (Nat.le_refl _) _
  have hs0 : (w.alloc (.cells #[.int .u8 91, .int .u8 49, .int .u8 44, .int .u8 32, .int .u8 50, .int .u8 46, .int .u8 53, .int .u8 48, .int .u8 93] 5 (9, 10))).heap.size = w.heap.size + 1 := by simp
  have hoct : Oct (w.alloc (.cells #[.int .u8 91, .int .u8 49, .int .u8 44, .int .u8 32, .int .u8 50, .int .u8 46, .int .u8 53, .int .u8 48, .int .u8 93] 5 (9, 10))).heap.size exB (some ⟨w.heap.size, 0, none⟩) (w.alloc (.cells #[.int .u8 91, .int .u8 49, .int .u8 44, .int .u8 32, .int .u8 50, .int .u8 46, .int .u8 53, .int .u8 48, .int .u8 93] 5 (9, 10))) := fun k x hx => by
    refine ⟨w.heap.size, 0, rfl, by rw [hs0]; omega, ?_⟩
    rw [World.cell?_alloc_mark]
    unfold exB at hx
    match k, hx with
    | 0, hx => injection hx with hx; subst hx; rfl
    | 1, hx => injection hx with hx; subst hx; rfl
    | 2, hx => injection hx with hx; subst hx; rfl
    | 3, hx => injection hx with hx; subst hx; rfl
    | 4, hx => injection hx with hx; subst hx; rfl
    | 5, hx => injection hx with hx; subst hx; rfl
    | 6, hx => injection hx with hx; subst hx; rfl
    | 7, hx => injection hx with hx; subst hx; rfl
    | 8, hx => injection hx with hx; subst hx; rfl
    | k + 9, hx => simp at hx
  have HR := Lib.hid (Read_c (c := 9) (valC 64) hoct (hT.below hb0) (by decide) (by decide))
  have HB0 := Lib.hid hb0
  have HS0 := Lib.hid hs0
  clear hW hT hb0 hs0 hoct
  go_enter Tryz.func7, Tryz.ntmps7
  go_wp2_with fail
  refine HR.out.mono ?_
  rintro e w1 ⟨⟨cs, rfl, hv⟩, hb1⟩
  rw [alive_read] at hv
  have hr2 : ((rRead mkObj exB).2.1 : Int) = 9 := by rw [alive_read]; rfl
  have hr3 : ((rRead mkObj exB).2.2 : Int) = 0 := by rw [alive_read]; rfl
  rw [hr2, hr3]
  clear hr2 hr3 HR kc
  have hv : VIn w1 _ (.mk 5 false [] 0 ⟨#[]⟩ [numV [49], numV [50, 46, 53, 48]] []) cs := hv
  obtain ⟨A1, n1, c1, LA1, ln1, lc1, KA1, kn1, kc1, rfl, _, _, _, hl1, _⟩ := hv.parts
  obtain rfl : 2 = ln1 := hl1.1
  obtain ⟨_, _, csl, hrow, hall⟩ := hl1
  obtain ⟨b, off, rfl, hbS, hc⟩ := hrow (by omega)
  have hv2 := hall 1 _ rfl
  rw [alive_num] at hv2
  obtain ⟨hc7, hcc⟩ := hc 1 (by omega)
  obtain ⟨A2, n2, c2, LA2, ln2, lc2, KA2, kn2, kc2, he2, hrd2, _, _, _, _⟩ := hv2.parts
  obtain rfl : 1 = n2 := hrd2.len
  rw [he2] at hcc
  have hbw := hbS.2
  have x0 : w1.cell? ⟨b, off + 7, none⟩ = some (.int .i64 3) := hcc 0 (by omega)
  have x1 : w1.cell? ⟨b, off + 7 + 1, none⟩ = some (.bool false) := hcc 1 (by omega)
  have x2 : w1.cell? ⟨b, off + 7 + 2, none⟩ = some (.slice A2 1 c2) := hcc 2 (by omega)
  have x3 : w1.cell? ⟨b, off + 7 + 3, none⟩ = some (.int .i64 (-1)) := hcc 3 (by omega)
  have HV2 := Lib.hid hrd2
  have HB1 := Lib.hid hb1
  clear hv hv2 hrow hall hc hcc hc7 he2 hrd2 hb1
  go_wp2_with fail
  have f0 : ∀ j, (w1.alloc (.cells #[.int .i64 5, .bool false, .slice A1 n1 c1, .int .i64 0, .string ⟨#[]⟩, .slice (some ⟨b, off, none⟩) 2 lc1, .slice KA1 kn1 kc1] 34)).frozen? ⟨w1.heap.size, j, none⟩ = false := fun j => frozen_of_row _ _ j _ _ (World.alloc_heap_new w1 _)
  have hbx := World.alloc_heap_new w1 (.cells #[.int .i64 5, .bool false, .slice A1 n1 c1, .int .i64 0, .string ⟨#[]⟩, .slice (some ⟨b, off, none⟩) 2 lc1, .slice KA1 kn1 kc1] 34)
  have hb2 : Below w1.heap.size w1 (w1.alloc (.cells #[.int .i64 5, .bool false, .slice A1 n1 c1, .int .i64 0, .string ⟨#[]⟩, .slice (some ⟨b, off, none⟩) 2 lc1, .slice KA1 kn1 kc1] 34)) := (Below.refl _ _).alloc (Nat.le_refl _) _
  have HV3 := Lib.hid (HV2.out.keep (w' := (w1.alloc (.cells #[.int .i64 5, .bool false, .slice A1 n1 c1, .int .i64 0, .string ⟨#[]⟩, .slice (some ⟨b, off, none⟩) 2 lc1, .slice KA1 kn1 kc1] 34))) fun p hp => hb2.cell hp.2)
  have hs2 : (w1.alloc (.cells #[.int .i64 5, .bool false, .slice A1 n1 c1, .int .i64 0, .string ⟨#[]⟩, .slice (some ⟨b, off, none⟩) 2 lc1, .slice KA1 kn1 kc1] 34)).heap.size = w1.heap.size + 1 := by simp
  have y0 := (hb2.cell (p := ⟨b, off + 7, none⟩) hbw).trans x0
  have y1 := (hb2.cell (p := ⟨b, off + 7 + 1, none⟩) hbw).trans x1
  have y2 := (hb2.cell (p := ⟨b, off + 7 + 2, none⟩) hbw).trans x2
  have y3 := (hb2.cell (p := ⟨b, off + 7 + 3, none⟩) hbw).trans x3
  generalize (w1.alloc (.cells #[.int .i64 5, .bool false, .slice A1 n1 c1, .int .i64 0, .string ⟨#[]⟩, .slice (some ⟨b, off, none⟩) 2 lc1, .slice KA1 kn1 kc1] 34)) = w2 at *
  obtain ⟨t0, t1, t2, t3, t4, t5, t6⟩ := box7_of hbx
  have HC := HW.out _ c2 A2 w2 HV3.out (fun b hb => by have := hb.2; have := hb2.size; omega)
  refine (lnum7_c 0 w2).mono ?_
  rintro e w3 ⟨rfl, rfl⟩
  go_wp2_with fail
  refine HC.mono ?_
  rintro e w4 ⟨rfl, hb4⟩
  go_wp2_with fail
  go_ret
  exact ⟨rfl, (HB0.out.trans (HB1.out.mono (by have := HS0.out; omega))).trans ((hb2.mono (by have := HS0.out; have := HB1.out.size; omega)).trans (hb4.mono (by have := HS0.out; have := HB1.out.size; have := hb2.size; omega)))⟩
end Go.Proofs.YtpjllcengnolkaaGreatDoor

namespace Go.Proofs.YtpjllcengnolkaaGreatDoor
open Go.RowKit Go.Lib
variable {L : List UInt8} {A : Option Addr} {c : Nat}

/-- What Read comes to, its value spelt out. -/
theorem PoR.seven {N : Nat} {e : Ending} {w' : World} (h : PoR L N e w') : ∃ k neg A1 n1 c1 ex t LA ln lc KA kn kc,
    e = .returned (.tuple #[.agg #[.int .i64 k, .bool neg, .slice A1 n1 c1, .int .i64 ex, .string t, .slice LA ln lc, .slice KA kn kc], .int .i64 ((rRead mkObj L).2.1 : Int), .int .i64 ((rRead mkObj L).2.2 : Int)]) ∧ (rRead mkObj L).1.kind = k ∧
    VIn w' (fun b => N ≤ b ∧ b < w'.heap.size) (rRead mkObj L).1 [.int .i64 k, .bool neg, .slice A1 n1 c1, .int .i64 ex, .string t, .slice LA ln lc, .slice KA kn kc] := by
  obtain ⟨cs, rfl, hv⟩ := h
  obtain ⟨X, hX⟩ : ∃ X, (rRead mkObj L).1 = X := ⟨_, rfl⟩
  rw [hX] at hv ⊢
  cases X with
  | mk k neg xs ex t l ks =>
    obtain ⟨A1, n1, c1, LA1, ln1, lc1, KA1, kn1, kc1, rfl, -⟩ := hv.parts
    exact ⟨k, neg, A1, n1, c1, ex, t, LA1, ln1, lc1, KA1, kn1, kc1, rfl, rfl, hv⟩
theorem Oct.stay {B B' : Nat} {w w' : World} (h : Oct B L A w) (hb : Below B w w') (hB : B ≤ B') : Oct B' L A w' := fun k x hk => by
  obtain ⟨g, off, e1, e2, e3⟩ := h k x hk
  exact ⟨g, off, e1, by omega, (hb.cell (p := ⟨g, off + k, none⟩) e2).trans e3⟩
theorem Oct.take {B : Nat} {w : World} (h : Oct B L A w) (n : Nat) : Oct B (L.take n) A w := fun k x hk => by
  rw [List.getElem?_take] at hk
  by_cases h1 : k < n
  · rw [if_pos h1] at hk; exact h k x hk
  · rw [if_neg h1] at hk; exact absurd hk (by simp)
/-- A place behind one place and ahead of another. -/
theorem place_in (z : Int) (n : Nat) (hn : 0 < n) : ∃ m : Nat, m < n ∧ (z.tmod (n : Int) + (n : Int)).tmod (n : Int) = (m : Int) ∧ -(n : Int) < z.tmod (n : Int) ∧ z.tmod (n : Int) < (n : Int) := by
  have h1 := Int.tmod_lt_of_pos z (show (0 : Int) < (n : Int) by omega)
  have h2 := Int.lt_tmod_of_pos z (show (0 : Int) < (n : Int) by omega)
  have h3 := Int.tmod_nonneg (n : Int) (show (0 : Int) ≤ z.tmod (n : Int) + (n : Int) by omega)
  have h4 := Int.tmod_lt_of_pos (z.tmod (n : Int) + (n : Int)) (show (0 : Int) < (n : Int) by omega)
  exact ⟨((z.tmod (n : Int) + (n : Int)).tmod (n : Int)).toNat, by omega, by omega, by omega, h1⟩

end Go.Proofs.YtpjllcengnolkaaGreatDoor

namespace Go.Proofs.YtpjllcengnolkaaGreatDoor
open Go.RowKit Go.Lib
variable {L : List UInt8} {A : Option Addr} {c : Nat}

/-- What Next tells, of too many octets, too. -/
def nextR (b : List UInt8) (p : Nat) : RR (Option VT) := if 65536 < b.length then .bad 0 5 else rNext mkObj b p
/-- What Next comes to. -/
def PoY (L : List UInt8) (N : Nat) (p : Nat) (e : Ending) (w' : World) : Prop :=
  match nextR L p with
  | .ok none _ => e = .returned (.tuple #[zv, .int .i64 0, .bool false, .int .i64 0])
  | .ok (some v) q => ∃ k neg A1 n1 c1 ex t LA ln lc KA kn kc, e = .returned (.tuple #[.agg #[.int .i64 k, .bool neg, .slice A1 n1 c1, .int .i64 ex, .string t, .slice LA ln lc, .slice KA kn kc], .int .i64 (q : Int), .bool true, .int .i64 0]) ∧
    VIn w' (fun b => N ≤ b ∧ b < w'.heap.size) v [.int .i64 k, .bool neg, .slice A1 n1 c1, .int .i64 ex, .string t, .slice LA ln lc, .slice KA kn kc] ∧ q ≤ L.length ∧ L.length ≤ 65536
  | .bad q x => e = .returned (.tuple #[zv, .int .i64 (q : Int), .bool false, .int .i64 (x : Int)]) ∧ x ≠ 0
theorem PoX.y {N p : Nat} {e : Ending} {w' : World} (h : PoX L N p e w') : PoY L N p e w' := by
  unfold PoX at h
  unfold PoY nextR
  by_cases hl : 65536 < L.length
  · rw [if_pos hl] at h ⊢
    exact ⟨h, by decide⟩
  · rw [if_neg hl] at h ⊢
    cases hr : rNext mkObj L p with
    | bad q x => rw [hr] at h; exact h
    | ok o q =>
      rw [hr] at h
      cases o with
      | none => exact h
      | some v =>
        obtain ⟨cs, rfl, hv, hq⟩ := h
        cases v with
        | mk k neg xs ex t l ks =>
          obtain ⟨A1, n1, c1, LA1, ln1, lc1, KA1, kn1, kc1, rfl, -⟩ := hv.parts
          exact ⟨k, neg, A1, n1, c1, ex, t, LA1, ln1, lc1, KA1, kn1, kc1, rfl, hv, hq, by omega⟩
theorem Grow.row {N : Nat} {l : List VT} {W : World} {LA : Option Addr} {n lc : Nat} (h : Grow N (.slice LA n lc) l W) (hn : n = l.length) (hs : n ≤ 1256584717458) : RdL W (fun b => N ≤ b ∧ b < W.heap.size) LA n l ∧ n ≤ lc := by
  obtain ⟨A', n', c', LA', ln', lc', KA', kn', kc', he, _, _, _, h1, _, _, h2⟩ := (h.rdl (k := 0) (e := 0) hn hs).parts
  simp only [List.cons.injEq, Value.slice.injEq] at he
  obtain ⟨-, -, -, -, -, ⟨rfl, rfl, rfl⟩, -⟩ := he
  exact ⟨h1, h2⟩
end Go.Proofs.YtpjllcengnolkaaGreatDoor

namespace Go.Proofs.YtpjllcengnolkaaGreatDoor
open Go.RowKit Go.Lib
variable {L : List UInt8} {A : Option Addr} {c : Nat}

theorem Oct.rdv {B : Nat} {w : World} (h : Oct B L A w) : RdV w (fun b => b < B) A L.length (bs8 L) := by
  refine ⟨by rw [bs8_length], fun h0 => ?_⟩
  obtain ⟨g, off, rfl, hg, -⟩ := h 0 _ (List.getElem?_eq_getElem h0)
  refine ⟨g, off, rfl, hg, fun j v hv => ?_⟩
  have hj : j < L.length := by have := (List.getElem?_eq_some_iff.1 hv).1; rwa [bs8_length] at this
  have hx : L[j]? = some L[j] := List.getElem?_eq_getElem hj
  obtain ⟨g', off', e, -, hc⟩ := h j _ hx
  injection e with e
  injection e with e1 e2
  subst e1
  subst e2
  rw [bs8_get hx] at hv
  injection hv with hv
  rw [hc, hv]
theorem RowV.oct {w : World} {base n : Nat} (h : RowV w base 5 A n c (bs8 L)) : L.length = n ∧ n ≤ c ∧ Oct w.heap.size L A w := by
  have h1 := h.rd
  have h2 : L.length = n := by rw [← h1.len, bs8_length]
  refine ⟨h2, h.n_le.1, fun k x hk => ?_⟩
  obtain ⟨b, off, e, hb, hc⟩ := h1.at_ (bs8_get hk)
  exact ⟨b, off, e, hb.2, hc⟩

end Go.Proofs.YtpjllcengnolkaaGreatDoor

namespace Go.Proofs.YtpjllcengnolkaaGreatDoor
open Go

theorem wpList_append_own_new {P : Program} (w : World) {ops : Array Oper} {rest : List Oper} {o : Oper} {a : Act} {Q : Exit → Act → World → Prop} (hgd : o.guard = none) (s x : Operand) (t : TypeId)
    (ho : o.op = .call { callee := .builtin .append, args := #[s, x], argTypes := #[t, t] })
    (base : Nat) (e : TypeId) (i : TypeInfo) (z : Value) (size bytes : Nat) (ht : P.underlying t = some (.slice e)) (hi : P.info? e = some i) (hz : i.zero = some z)
    (hsize : i.size = size) (hby : i.bytes = bytes) (hzs : z.cells.size = size) (hsz : 0 < size)
    (v : Value) (n : Nat) (xs : List Value) (hs : a.eval s = v) (hown : w.ownsRow base e size v n xs)
    (ad : Addr) (m c : Nat) (news : List Value) (hx : a.eval x = .slice (some ad) m c) (hl : news.length = m * size) (hnews : ∀ j u, news[j]? = some u → w.cell? (ad.add j) = some u) (h1 : ∀ u ∈ news, u.oneCell' = true)
    (h63 : n + m ≤ maxLen) (hbytes : (n + m) * bytes ≤ 140737488355328) (hbase : base ≤ w.heap.size)
    (h : ∀ v' w', w'.ownsRow base e size v' (n + m) (xs ++ news) → w.grownBy w' v.ownBlock → (v'.ownBlock = v.ownBlock ∨ (v'.ownBlock = some w.heap.size ∧ w.grownBy w' none)) → wpList P ops Q rest (a.put o.dst v') w') :
    wpList P ops Q (o :: rest) a w := by
  refine wpList_plain hgd fun K hK => ?_
  obtain ⟨v', w', hr, h2, h3, h4, h5⟩ := run_append_own_at (P := P) w base t o.type e i z size bytes ht hi hz hsize hby hzs hsz v n xs hown ad m c news hl hnews h1 h63 hbytes hbase
  have h6 : v'.ownBlock = v.ownBlock ∨ (v'.ownBlock = some w.heap.size ∧ w.grownBy w' none) := by
    subst hsize
    subst hby
    rcases hown.2 with ⟨hv, -⟩ | ⟨g, cap, cur, hv, hbg, hg, hnc, hcm, hcs, htake⟩
    · subst hv
      rcases h5 with h5 | h5
      · exact .inl h5
      · exact .inr ⟨h5, h3⟩
    · subst hv
      by_cases hroom : n + m ≤ cap
      · left
        have hfit : n * i.size + news.length ≤ cur.size := by rw [hl, hcs, ← Nat.add_mul]; exact Nat.mul_le_mul_right _ hroom
        have hr2 := run_append_room (P := P) w t o.type e i ht hi g n cap cur hg ad m c news hl hnews h1 hroom hfit
        rw [hr2] at hr
        injection hr with e1 e2
        rw [← e1]; rfl
      · right
        have h63' : ((n + m : Nat) : Int) ≤ 9223372036854775807 := by unfold maxLen at h63; omega
        have hr2 := run_append_grow (P := P) w t o.type e i z ht hi hz ⟨g, 0, none⟩ n cap xs hown.1 (hown.cells (g := g) rfl) ad m c news hl hnews (by omega) h63' (growslice_fits (by omega) hbytes)
        rw [hr2] at hr
        injection hr with e1 e2
        rw [← e1, ← e2]
        exact ⟨rfl, ⟨rfl, rfl, rfl, by simp, fun k hk _ => by
          show (w.heap.push _)[k]? = w.heap[k]?
          rw [Array.getElem?_push, if_neg (by omega)]⟩⟩
  unfold Oper.wp execOp
  simp only [ho, resolve, invoke, builtin, Sem.run_bind, Sem.run_pure, Result.andThen_ok, List.map_toArray, List.map_cons, List.map_nil, hs, hx, hr]
  exact hK _ _ (h v' w' h2 h3 h6)
end Go.Proofs.YtpjllcengnolkaaGreatDoor
