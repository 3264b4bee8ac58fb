/-
  A value as a tree: what seven cells of the memory read as, part by part.
  Contracts of value's holds and inside.
  Contract of value's rise: whether each of the texts is above the one ahead of it.
-/
import Derived.Test.YtpmdcahomkdfmaaGreatDoorBArgs
import Derived.Lib.SmallJoins
import Derived.Deep.Slices
import Derived.Deep.Strs
import Derived.Below
import Derived.RangeFuncRecord
import Derived.Deep.QuietTactic
import Derived.Outline
import Derived.Maps.AppendAt
import Derived.RangeFuncBox
set_option linter.unusedVariables false
set_option linter.unusedSimpArgs false
namespace Go.Proofs.YtpmdcahomkdfmaaGreatDoor
open Go.ChangeShapes Go.WideShapes Go.ChangeAt Go.RowKit Go.Joins Go.Deep

/-- A value: kind, number (sign, limbs, exponent), text, list, keys. -/
inductive VT where
  | mk (kind : Int) (neg : Bool) (num : List Nat) (exp : Int) (text : ByteArray) (list : List VT) (keys : List ByteArray)
/-- A row of texts lies in w, in blocks of S. -/
def RdT (w : World) (S : Nat → Prop) (A : Option Addr) (n : Nat) (ks : List ByteArray) : Prop :=
  ks.length = n ∧ (0 < n → ∃ b off, A = some ⟨b, off, none⟩ ∧ S b ∧ ∀ i k, ks[i]? = some k → w.cell? ⟨b, off + i, none⟩ = some (.string k) ∧ k.size ≤ 140737488355328)
/-- Seven cells in w read as a tree; all its parts lie in blocks of S. -/
inductive VIn (w : World) (S : Nat → Prop) : VT → List Value → Prop where
  | mk {k : Int} {neg : Bool} {xs : List Nat} {e : Int} {t : ByteArray} {l : List VT} {ks : List ByteArray} {A LA KA : Option Addr} {n c ln lc kn kc : Nat} {cs : Nat → List Value} :
      Rd w S A n xs → n ≤ 35184372088832 → t.size ≤ 140737488355328 → RdT w S KA kn ks → kn ≤ 8796093022208 → l.length = ln → ln ≤ 1256584717458 → ln ≤ lc →
      (0 < ln → ∃ b off, LA = some ⟨b, off, none⟩ ∧ S b ∧ ∀ i, i < ln → (cs i).length = 7 ∧ ∀ j, j < 7 → w.cell? ⟨b, off + (i * 7 + j), none⟩ = (cs i)[j]?) →
      (∀ i x, l[i]? = some x → VIn w S x (cs i)) →
      VIn w S (.mk k neg xs e t l ks) [.int .i64 k, .bool neg, .slice A n c, .int .i64 e, .string t, .slice LA ln lc, .slice KA kn kc]

theorem RdT.keep {w w' : World} {S : Nat → Prop} {A : Option Addr} {n : Nat} {ks : List ByteArray} (h : RdT w S A n ks) (hk : ∀ p : Addr, S p.block → w'.cell? p = w.cell? p) : RdT w' S A n ks := by
  refine ⟨h.1, fun h0 => ?_⟩
  obtain ⟨b, off, e, hS, h2⟩ := h.2 h0
  exact ⟨b, off, e, hS, fun i k hi => ⟨(hk ⟨b, off + i, none⟩ hS).trans (h2 i k hi).1, (h2 i k hi).2⟩⟩
theorem RdT.more {w : World} {S S' : Nat → Prop} {A : Option Addr} {n : Nat} {ks : List ByteArray} (h : RdT w S A n ks) (hS : ∀ b, S b → S' b) : RdT w S' A n ks := by
  refine ⟨h.1, fun h0 => ?_⟩
  obtain ⟨b, off, e, hb, h2⟩ := h.2 h0
  exact ⟨b, off, e, hS b hb, h2⟩
/-- The tree stays where its blocks stay. -/
theorem VIn.keep {w w' : World} {S : Nat → Prop} {x : VT} {cs : List Value} (h : VIn w S x cs) (hk : ∀ p : Addr, S p.block → w'.cell? p = w.cell? p) : VIn w' S x cs := by
  induction h with
  | mk hr hn ht hks hkn hl hln hlc hrow _ ih =>
    refine .mk (hr.keep hk) hn ht (hks.keep hk) hkn hl hln hlc (fun h0 => ?_) (fun i x hi => ih i x hi)
    obtain ⟨b, off, e, hS, h2⟩ := hrow h0
    exact ⟨b, off, e, hS, fun i hi => ⟨(h2 i hi).1, fun j hj => (hk ⟨b, off + (i * 7 + j), none⟩ hS).trans ((h2 i hi).2 j hj)⟩⟩
theorem VIn.more {w : World} {S S' : Nat → Prop} {x : VT} {cs : List Value} (h : VIn w S x cs) (hS : ∀ b, S b → S' b) : VIn w S' x cs := by
  induction h with
  | mk hr hn ht hks hkn hl hln hlc hrow _ ih =>
    refine .mk (hr.more hS) hn ht (hks.more hS) hkn hl hln hlc (fun h0 => ?_) (fun i x hi => ih i x hi)
    obtain ⟨b, off, e, hb, h2⟩ := hrow h0
    exact ⟨b, off, e, hS b hb, h2⟩
theorem VIn.stay {w w' : World} {S : Nat → Prop} {x : VT} {cs : List Value} {B : Nat} (h : VIn w S x cs) (hb : Below B w w') (hS : ∀ b, S b → b < B) : VIn w' S x cs := h.keep fun _ hp => hb.cell (hS _ hp)

theorem cellsStr : Tryz.prog.cellsOf 9 = 1 := by kernel_rfl
theorem cellsVal : Tryz.prog.cellsOf 28 = 7 := by kernel_rfl
theorem weights_all {H : Type} (t : TypeId) : ∀ (l : List (DataW H)) (d : DataW H), d ∈ l → ∀ q ∈ d.weights Tryz.prog t, q ∈ DataW.weightsAll Tryz.prog t l
  | [], _, h, _, _ => absurd h (by simp)
  | e :: r, d, h, q, hq => by
    simp only [DataW.weightsAll, List.mem_append]
    rcases List.mem_cons.1 h with rfl | h
    · exact .inl hq
    · exact .inr (weights_all t r d h q hq)
theorem bytesStr : Tryz.prog.bytesOf 9 = 16 := by kernel_rfl
theorem bytesVal : Tryz.prog.bytesOf 28 = 112 := by kernel_rfl
theorem bytesU32 : Tryz.prog.bytesOf 72 = 4 := by kernel_rfl
/-- No part of the datum takes more than a machine has. -/
def Fits {H : Type} (t : TypeId) (d : DataW H) : Prop := ∀ m ∈ d.weights Tryz.prog t, m ≤ reachBytes
theorem reach_lt : reachBytes ≤ 140737488355328 := by decide
theorem viewT {H : Type} {enc : TypeId × Value → H} {W : World} {fuel : Nat} {c : Value} {y : DataW H × List MemPlace}
    (h : DataW.trod enc Tryz.prog W 0 (fun _ => true) true fuel 26 [c] = some y) (hw : Fits 26 y.1) :
    ∃ A n cap ks, c = .slice A n cap ∧ RdT W (fun b => b < W.heap.size) A n ks ∧ n ≤ 8796093022208 := by
  rcases open_strs Tryz.underlying26 Tryz.underlying9 cellsStr h with ⟨hcs, _⟩ | ⟨a, len, cap, m, Sx, hcs, _, hl, hm, hmm, hy, hx⟩
  · injection hcs with h1
    exact ⟨none, 0, 0, [], h1, ⟨rfl, fun h0 => absurd h0 (by omega)⟩, by omega⟩
  · injection hcs with h1
    simp only [if_true] at hmm
    have hbig : len ≤ 8796093022208 := by
      have h2 := hw (((List.range len).map fun i => (DataW.lit (.string (Sx i).data.toList) : DataW H)).length * Tryz.prog.bytesOf 9 + ((List.range (m - len)).map fun j => (DataW.lit (.string (Sx (len + j)).data.toList) : DataW H)).length * Tryz.prog.bytesOf 9) (by
        rw [hy]
        simp [DataW.weights, Tryz.underlying26, Nat.add_mul])
      have h3 := reach_lt
      simp [bytesStr] at h2
      omega
    have hstr : ∀ i, i < len → (Sx i).size ≤ 140737488355328 := fun i hi => by
      have hall : ∀ (l : List (DataW H)) (d : DataW H), d ∈ l → ∀ q ∈ d.weights Tryz.prog 9, q ∈ DataW.weightsAll Tryz.prog 9 l := weights_all _
      have h2 := hw (Sx i).data.toList.length (by
        rw [hy]
        simp only [DataW.weights, Tryz.underlying26, List.mem_cons, List.mem_append]
        exact .inr (.inl (hall _ (.lit (.string (Sx i).data.toList)) (List.mem_map.2 ⟨i, by simpa using hi, rfl⟩) _ (by simp [DataW.weights]))))
      have h3 := reach_lt
      rw [Array.length_toList] at h2
      exact Nat.le_trans h2 h3
    refine ⟨some a, len, cap, (List.range len).map Sx, h1, ⟨by simp, fun h0 => ?_⟩, hbig⟩
    obtain ⟨b, off, sp⟩ := a
    have h2 := (hx 0 (by omega)).1
    have hsp : sp = none := by simpa [Addr.add] using World.cell?_spot h2
    subst hsp
    refine ⟨b, off, rfl, by simpa [Addr.add] using World.block_lt_of_cell? W _ h2, fun i k hi => ?_⟩
    obtain ⟨hi2, rfl⟩ := List.getElem?_eq_some_iff.1 hi
    have hil : i < len := by simpa using hi2
    have := hx i (by omega)
    rw [Addr.add_lit] at this
    have h5 := hstr i hil
    simpa using ⟨this.1, h5⟩

theorem list7 {α : Type} {l : List α} (h : l.length = 7) : ∃ a b c d e f g, l = [a, b, c, d, e, f, g] := by
  match l, h with
  | [a, b, c, d, e, f, g], _ => exact ⟨a, b, c, d, e, f, g, rfl⟩
theorem list5 {α : Type} {l : List α} (h : l.length = 5) : ∃ a b c d e, l = [a, b, c, d, e] := by
  match l, h with
  | [a, b, c, d, e], _ => exact ⟨a, b, c, d, e, rfl⟩
theorem fits_row {H : Type} {elems rest : List (DataW H × List MemPlace)} (hw : Fits 25 (.slice (elems.map (·.1)) (rest.map (·.1)) : DataW H)) :
    elems.length ≤ 1256584717458 ∧ ∀ q ∈ elems, Fits 28 q.1 := by
  have h3 := reach_lt
  refine ⟨?_, fun q hq m hm => hw m ?_⟩
  · have h2 := hw (elems.length * 112 + rest.length * 112) (by simp [DataW.weights, Tryz.underlying25, bytesVal, Nat.add_mul])
    omega
  · simp only [DataW.weights, Tryz.underlying25, List.mem_cons, List.mem_append]
    exact .inr (.inl (weights_all _ _ _ (List.mem_map.2 ⟨q, hq, rfl⟩) m hm))
set_option maxRecDepth 100000 in
/-- Whatever reads as a value is a tree. -/
theorem viewV {H : Type} {enc : TypeId × Value → H} {W : World} : ∀ (fuel : Nat) {cs : List Value} {y : DataW H × List MemPlace},
    DataW.trod enc Tryz.prog W 0 (fun _ => true) true fuel 28 cs = some y → Fits 28 y.1 → ∃ x, VIn W (fun b => b < W.heap.size) x cs := by
  intro fuel
  induction fuel using Nat.strongRecOn with
  | _ fuel ih =>
  intro cs y h hw
  obtain ⟨ys, n, rfl, hyy, hl, hlen, hf⟩ := DataW.trod_struct Tryz.underlying28 h
  rw [cellsVal] at hl
  obtain ⟨c0, c1, c2, c3, c4, c5, c6, rfl⟩ := list7 hl
  obtain ⟨y0, y1, y2, y3, y4, rfl⟩ := list5 (show ys.length = 5 from hlen)
  subst hyy
  have hw1 : Fits 24 y1.1 := fun m hm => hw m (by simp only [DataW.weights, Tryz.underlying28]; exact DataW.weights_mem_each (j := 1) (t := 24) rfl rfl m hm)
  have hw2 : Fits 9 y2.1 := fun m hm => hw m (by simp only [DataW.weights, Tryz.underlying28]; exact DataW.weights_mem_each (j := 2) (t := 9) rfl rfl m hm)
  have hw3 : Fits 25 y3.1 := fun m hm => hw m (by simp only [DataW.weights, Tryz.underlying28]; exact DataW.weights_mem_each (j := 3) (t := 25) rfl rfl m hm)
  have hw4 : Fits 26 y4.1 := fun m hm => hw m (by simp only [DataW.weights, Tryz.underlying28]; exact DataW.weights_mem_each (j := 4) (t := 26) rfl rfl m hm)
  have h0 : DataW.trod enc Tryz.prog W 0 (fun _ => true) true n 3 [c0] = some y0 := hf 0 _ rfl
  have h1 : DataW.trod enc Tryz.prog W 0 (fun _ => true) true n 24 [c1, c2, c3] = some y1 := hf 1 _ rfl
  have h2 : DataW.trod enc Tryz.prog W 0 (fun _ => true) true n 9 [c4] = some y2 := hf 2 _ rfl
  have h3 : DataW.trod enc Tryz.prog W 0 (fun _ => true) true n 25 [c5] = some y3 := hf 3 _ rfl
  have h4 : DataW.trod enc Tryz.prog W 0 (fun _ => true) true n 26 [c6] = some y4 := hf 4 _ rfl
  clear hf
  obtain ⟨k, e0, _⟩ := DataW.trod_int (k := .i64) Tryz.underlying3 h0
  obtain ⟨t, e4, hy2, _⟩ := DataW.trod_string Tryz.underlying9 h2
  have ht : t.size ≤ 140737488355328 := by
    have h5 := hw2 t.data.toList.length (by rw [hy2]; simp [DataW.weights])
    rw [Array.length_toList] at h5
    exact Nat.le_trans h5 reach_lt
  obtain ⟨KA, kn, kc, ks, rfl, hks, hkn⟩ := viewT h4 hw4
  obtain ⟨zs, n1, rfl, hyz, _, hlen1, hf1⟩ := DataW.trod_struct Tryz.underlying24 h1
  have hz3 : zs.length = 3 := hlen1
  obtain ⟨z0, z1, z2, rfl⟩ : ∃ z0 z1 z2, zs = [z0, z1, z2] := by
    match zs, hz3 with
    | [a, b, c], _ => exact ⟨a, b, c, rfl⟩
  have g0 : DataW.trod enc Tryz.prog W 0 (fun _ => true) true n1 4 [c1] = some z0 := hf1 0 _ rfl
  have g1 : DataW.trod enc Tryz.prog W 0 (fun _ => true) true n1 22 [c2] = some z1 := hf1 1 _ rfl
  have g2 : DataW.trod enc Tryz.prog W 0 (fun _ => true) true n1 3 [c3] = some z2 := hf1 2 _ rfl
  obtain ⟨neg, e1, _⟩ := DataW.trod_bool Tryz.underlying4 g0
  obtain ⟨exp, e3, _⟩ := DataW.trod_int (k := .i64) Tryz.underlying3 g2
  obtain ⟨A, l, c, e2⟩ := slice_form Tryz.underlying22 g1
  injection e0 with e0
  injection e1 with e1
  injection e2 with e2
  injection e3 with e3
  injection e4 with e4
  subst e0 e1 e2 e3 e4
  obtain ⟨xs, rx, _, hvz⟩ := view32 (W := W) (fuel := n1) (a0 := A) (len := l) (cap := c) (d := z1.1) (p := z1.2) g1
  have hx : l ≤ 35184372088832 := by
    rcases hvz with ⟨_, h5⟩ | ⟨zs, sp, h5, h6⟩
    · omega
    · have h7 : Fits 22 z1.1 := fun m hm => hw1 m (by rw [hyz]; simp only [DataW.weights, Tryz.underlying24]; exact DataW.weights_mem_each (j := 1) (t := 22) rfl rfl m hm)
      have h8 := h7 (zs.length * 4 + sp.length * 4) (by rw [h6]; simp [DataW.weights, Tryz.underlying22, bytesU32, lits, Nat.add_mul])
      have := reach_lt
      omega
  clear h h0 h1 h2 h4 hf1 g0 g1 g2 hw hw1 hw2 hw4
  rcases DataW.trod_slice Tryz.underlying25 h3 with ⟨hcs, _⟩ | ⟨a, len, cap, elems, rest, n2, hfu, hcs, hy3, _, hlc, hcm, hel, hee, _, _⟩
  · injection hcs with h1
    subst h1
    exact ⟨.mk k neg xs exp t [] ks, .mk (cs := fun _ => []) rx hx ht hks hkn rfl (by omega) (by omega) (fun h0 => absurd h0 (by omega)) (fun i x hi => by simp at hi)⟩
  · injection hcs with h1
    subst h1
    rw [hy3] at hw3
    have hfr := fits_row hw3
    have hln : len ≤ 1256584717458 := by have := hfr.1; omega
    have hall : ∀ i, i < len → ∃ q : List Value × VT, W.cells? 0 (a.add (i * 7)) 7 = some q.1 ∧ VIn W (fun b => b < W.heap.size) q.2 q.1 := by
      intro i hi
      have h2 := hee i hi
      rw [cellsVal, List.getElem?_eq_getElem (by omega), Option.bind_eq_some_iff] at h2
      obtain ⟨cs', h5, h6⟩ := h2
      obtain ⟨x, hxx⟩ := ih n2 (by omega) h6 (hfr.2 _ (List.getElem_mem _))
      exact ⟨(cs', x), h5, hxx⟩
    have hdef : Inhabited (List Value × VT) := ⟨([], .mk 0 false [] 0 ⟨#[]⟩ [] [])⟩
    obtain ⟨Q, hQ⟩ := choose_lt hall
    refine ⟨.mk k neg xs exp t ((List.range len).map fun i => (Q i).2) ks, .mk (cs := fun i => (Q i).1) rx hx ht hks hkn (by simp) (by omega) (by omega) (fun h0 => ?_) (fun i x hi => ?_)⟩
    · obtain ⟨b, off, sp⟩ := a
      obtain ⟨_, hl0, hc0⟩ := World.cells?_some (hQ 0 h0).1
      have h2 := hc0 0 (by omega)
      rw [List.getElem?_eq_getElem (by omega)] at h2
      have hsp : sp = none := by simpa [Addr.add] using World.cell?_spot h2
      subst hsp
      refine ⟨b, off, rfl, by simpa [Addr.add] using World.block_lt_of_cell? W _ h2, fun i hi => ?_⟩
      obtain ⟨_, hl1, hc1⟩ := World.cells?_some (hQ i hi).1
      refine ⟨hl1, fun j hj => ?_⟩
      have := hc1 j hj
      rwa [Addr.add_lit, Addr.add_lit, Nat.add_assoc] at this
    · obtain ⟨hi2, rfl⟩ := List.getElem?_eq_some_iff.1 hi
      have hil : i < len := by simpa using hi2
      simpa using (hQ i hil).2

/-- A row of values in w reads as trees. -/
def RdL (w : World) (S : Nat → Prop) (A : Option Addr) (n : Nat) (l : List VT) : Prop :=
  l.length = n ∧ n ≤ 140737488355328 ∧ ∃ cs : Nat → List Value, (0 < n → ∃ b off, A = some ⟨b, off, none⟩ ∧ S b ∧ ∀ i, i < n → (cs i).length = 7 ∧ ∀ j, j < 7 → w.cell? ⟨b, off + (i * 7 + j), none⟩ = (cs i)[j]?) ∧ ∀ i x, l[i]? = some x → VIn w S x (cs i)
/-- A value, part by part. -/
theorem VIn.parts {w : World} {S : Nat → Prop} {k : Int} {neg : Bool} {xs : List Nat} {e : Int} {t : ByteArray} {l : List VT} {ks : List ByteArray} {cs : List Value} (h : VIn w S (.mk k neg xs e t l ks) cs) :
    ∃ A n c LA ln lc KA kn kc, cs = [.int .i64 k, .bool neg, .slice A n c, .int .i64 e, .string t, .slice LA ln lc, .slice KA kn kc] ∧ Rd w S A n xs ∧ n ≤ 140737488355328 ∧ t.size ≤ 140737488355328 ∧ RdL w S LA ln l ∧ RdT w S KA kn ks ∧ kn ≤ 140737488355328 ∧ ln ≤ lc := by
  cases h with
  | mk hr hn ht hks hkn hl hln hlc hrow hall => exact ⟨_, _, _, _, _, _, _, _, _, rfl, hr, by omega, ht, ⟨hl, by omega, _, hrow, hall⟩, hks, by omega, hlc⟩
theorem VIn.bounds {w : World} {S : Nat → Prop} {x : VT} {k : Int} {neg : Bool} {e : Int} {t : ByteArray} {A LA KA : Option Addr} {n c ln lc kn kc : Nat} (h : VIn w S x [.int .i64 k, .bool neg, .slice A n c, .int .i64 e, .string t, .slice LA ln lc, .slice KA kn kc]) : n ≤ 35184372088832 ∧ kn ≤ 8796093022208 ∧ ln ≤ 1256584717458 := by
  cases h with
  | mk hr hn ht hks hkn hl hln hlc hrow hall => exact ⟨hn, hkn, hln⟩
theorem RdL.keep {w w' : World} {S : Nat → Prop} {A : Option Addr} {n : Nat} {l : List VT} (h : RdL w S A n l) (hk : ∀ p : Addr, S p.block → w'.cell? p = w.cell? p) : RdL w' S A n l := by
  obtain ⟨h1, h2, cs, h3, h4⟩ := h
  refine ⟨h1, h2, cs, fun h0 => ?_, fun i x hi => (h4 i x hi).keep hk⟩
  obtain ⟨b, off, e, hS, h5⟩ := h3 h0
  exact ⟨b, off, e, hS, fun i hi => ⟨(h5 i hi).1, fun j hj => (hk ⟨b, off + (i * 7 + j), none⟩ hS).trans ((h5 i hi).2 j hj)⟩⟩
theorem RdL.more {w : World} {S S' : Nat → Prop} {A : Option Addr} {n : Nat} {l : List VT} (h : RdL w S A n l) (hS : ∀ b, S b → S' b) : RdL w S' A n l := by
  obtain ⟨h1, h2, cs, h3, h4⟩ := h
  refine ⟨h1, h2, cs, fun h0 => ?_, fun i x hi => (h4 i x hi).more hS⟩
  obtain ⟨b, off, e, hb, h5⟩ := h3 h0
  exact ⟨b, off, e, hS b hb, h5⟩
theorem RdL.stay {w w' : World} {S : Nat → Prop} {A : Option Addr} {n B : Nat} {l : List VT} (h : RdL w S A n l) (hb : Below B w w') (hS : ∀ b, S b → b < B) : RdL w' S A n l := h.keep fun _ hp => hb.cell (hS _ hp)
theorem RdL.nil (w : World) (S : Nat → Prop) (A : Option Addr) : RdL w S A 0 [] := ⟨rfl, by omega, fun _ => [], fun h0 => absurd h0 (by omega), fun i x hi => by simp at hi⟩
/-- The i-th value of a row. -/
theorem RdL.at_ {w : World} {S : Nat → Prop} {A : Option Addr} {n i : Nat} {l : List VT} (h : RdL w S A n l) (hi : i < n) : ∃ b off x cs, A = some ⟨b, off, none⟩ ∧ S b ∧ l[i]? = some x ∧ cs.length = 7 ∧ (∀ j, j < 7 → w.cell? ⟨b, off + (i * 7 + j), none⟩ = cs[j]?) ∧ VIn w S x cs := by
  obtain ⟨h1, _, cs, h3, h4⟩ := h
  obtain ⟨b, off, e, hS, h5⟩ := h3 (by omega)
  have hx : l[i]? = some l[i] := List.getElem?_eq_getElem (by omega)
  exact ⟨b, off, _, cs i, e, hS, hx, (h5 i hi).1, (h5 i hi).2, h4 i _ hx⟩
/-- What stands behind the first k values of a row. -/
theorem RdL.drop {w : World} {S : Nat → Prop} {n k b off : Nat} {l : List VT} (h : RdL w S (some ⟨b, off, none⟩) n l) (hk : k ≤ n) : RdL w S (some ⟨b, off + k * 7, none⟩) (n - k) (l.drop k) := by
  obtain ⟨h1, h2, cs, h3, h4⟩ := h
  refine ⟨by rw [List.length_drop, h1], by omega, fun i => cs (k + i), fun h0 => ?_, fun i x hi => h4 (k + i) x (by rwa [List.getElem?_drop] at hi)⟩
  obtain ⟨b', off', e, hS, h5⟩ := h3 (by omega)
  rw [Option.some.injEq, Addr.mk.injEq] at e
  obtain ⟨rfl, rfl, -⟩ := e
  refine ⟨b, off + k * 7, rfl, hS, fun i hi => ⟨(h5 (k + i) (by omega)).1, fun j hj => ?_⟩⟩
  have := (h5 (k + i) (by omega)).2 j hj
  rwa [show off + ((k + i) * 7 + j) = off + k * 7 + (i * 7 + j) by omega] at this
set_option maxRecDepth 100000 in
/-- An argument that is a value. -/
theorem viewVal {H : Type} {enc : TypeId × Value → H} {W : World} {r : Reach} {b0 : Nat} {v : Value} {d : DataW H} {p : List MemPlace}
    (hv : Value.okWide Tryz.prog W r b0 28 v) (h : DataW.Trod enc Tryz.prog W 0 (fun _ => true) true 28 v d p) (hw : Fits 28 d) :
    ∃ x cs, v = .agg cs.toArray ∧ VIn W (fun b => b < W.heap.size) x cs := by
  obtain ⟨cs, rfl, _⟩ := okWide_struct Tryz.underlying28 hv
  obtain ⟨fuel, hf⟩ := h
  obtain ⟨x, hx⟩ := viewV (y := (d, p)) fuel (by simpa [Value.cells] using hf) hw
  exact ⟨x, cs.toList, by simp, hx⟩
end Go.Proofs.YtpmdcahomkdfmaaGreatDoor

namespace Go.Proofs.YtpmdcahomkdfmaaGreatDoor
open Go.RowKit

/-- A value as a walk holds it. -/
def vv (k : Int) (neg : Bool) (A : Option Addr) (n c : Nat) (e : Int) (t : ByteArray) (LA : Option Addr) (ln lc : Nat) (KA : Option Addr) (kn kc : Nat) : Value :=
  .agg #[.int .i64 k, .bool neg, .slice A n c, .int .i64 e, .string t, .slice LA ln lc, .slice KA kn kc]
theorem cell_at {w : World} {b i : Nat} {vs : Array Value} {v : Value} {t : TypeId} (h : w.heap[b]? = some (.cells vs t)) (hi : vs[i]? = some v) : w.cell? ⟨b, i, none⟩ = some v := by
  simp [World.cell?, h, hi]
theorem box7_of {w : World} {b : Nat} {v0 v1 v2 v3 v4 v5 v6 : Value} {t : TypeId} (h : w.heap[b]? = some (.cells #[v0, v1, v2, v3, v4, v5, v6] t)) :
    w.cell? ⟨b, 0, none⟩ = some v0 ∧ w.cell? ⟨b, 1, none⟩ = some v1 ∧ w.cell? ⟨b, 2, none⟩ = some v2 ∧ w.cell? ⟨b, 3, none⟩ = some v3 ∧ w.cell? ⟨b, 4, none⟩ = some v4 ∧ w.cell? ⟨b, 5, none⟩ = some v5 ∧ w.cell? ⟨b, 6, none⟩ = some v6 :=
  ⟨cell_at h rfl, cell_at h rfl, cell_at h rfl, cell_at h rfl, cell_at h rfl, cell_at h rfl, cell_at h rfl⟩
/-- Whether a kind holds values. -/
def hold (k : Int) : Bool := k == 5 || k == 6

set_option maxRecDepth 100000 in
theorem holds_c (k : Int) (neg : Bool) (A : Option Addr) (n c : Nat) (e : Int) (t : ByteArray) (LA : Option Addr) (ln lc : Nat) (KA : Option Addr) (kn kc : Nat) (w : World) :
    Calls Tryz.prog 90 #[vv k neg A n c e t LA ln lc KA kn kc] w fun e w' => e = .returned (.bool (hold k)) ∧ Below w.heap.size w w' := by
  have hW : Below w.heap.size w (w.alloc (.cells #[.int .i64 k, .bool neg, .slice A n c, .int .i64 e, .string t, .slice LA ln lc, .slice KA kn kc] 28)) := (Below.refl w.heap.size w).alloc (Nat.le_refl _) _
  obtain ⟨x0, x1, x2, x3, x4, x5, x6⟩ := box7_of (World.alloc_heap_new w (.cells #[.int .i64 k, .bool neg, .slice A n c, .int .i64 e, .string t, .slice LA ln lc, .slice KA kn kc] 28))
  unfold vv hold
  cases h5 : (k == 5)
  all_goals
    go_enter Tryz.func90, Tryz.ntmps90
    go_wp2
    go_ret
    exact ⟨rfl, hW⟩

set_option maxRecDepth 100000 in
theorem inside_c (k : Int) (neg : Bool) (A : Option Addr) (n c : Nat) (e : Int) (t : ByteArray) (LA : Option Addr) (ln lc : Nat) (KA : Option Addr) (kn kc : Nat) (w : World) :
    Calls Tryz.prog 92 #[vv k neg A n c e t LA ln lc KA kn kc] w fun e w' => e = .returned (if hold k then .slice LA ln lc else .slice none 0 0) ∧ Below w.heap.size w w' := by
  have hW : Below w.heap.size w (w.alloc (.cells #[.int .i64 k, .bool neg, .slice A n c, .int .i64 e, .string t, .slice LA ln lc, .slice KA kn kc] 28)) := (Below.refl w.heap.size w).alloc (Nat.le_refl _) _
  have mx := World.alloc_heap_new w (.cells #[.int .i64 k, .bool neg, .slice A n c, .int .i64 e, .string t, .slice LA ln lc, .slice KA kn kc] 28)
  have hs : w.heap.size < (w.alloc (.cells #[.int .i64 k, .bool neg, .slice A n c, .int .i64 e, .string t, .slice LA ln lc, .slice KA kn kc] 28)).heap.size := by simp
  have HH := Lib.hid (fun V => holds_c k neg A n c e t LA ln lc KA kn kc V)
  obtain ⟨HK, hHK⟩ : ∃ b, hold k = b := ⟨_, rfl⟩
  rw [hHK] at HH ⊢
  unfold vv at *
  go_enter Tryz.func92, Tryz.ntmps92
  obtain ⟨x0, x1, x2, x3, x4, x5, x6⟩ := box7_of mx
  go_wp2_with fail
  generalize (w.alloc (.cells #[.int .i64 k, .bool neg, .slice A n c, .int .i64 e, .string t, .slice LA ln lc, .slice KA kn kc] 28)) = W at *
  refine (HH.out W).mono ?_
  rintro e' w1 ⟨rfl, hb0⟩
  have mx : w1.heap[w.heap.size]? = _ := (hb0.block _ hs).trans mx
  clear x0 x1 x2 x3 x4 x5 x6
  obtain ⟨x0, x1, x2, x3, x4, x5, x6⟩ := box7_of mx
  have hB := hW.trans (hb0.mono hW.size)
  cases HK
  all_goals
    go_wp2
    go_ret
    exact ⟨rfl, hB⟩
end Go.Proofs.YtpmdcahomkdfmaaGreatDoor

namespace Go.Proofs.YtpmdcahomkdfmaaGreatDoor
open Go.RowKit

/-- Each is above the one ahead of it, by octets. -/
def rises : List ByteArray → Bool
  | a :: b :: r => Go.Op.bytesLess a.toList b.toList && rises (b :: r)
  | _ => true
/-- Of the first k + 1 each is above the one ahead of it. -/
def risesTo (ks : List ByteArray) (k : Nat) : Prop := ∀ j a b, j + 1 < k → ks[j]? = some a → ks[j + 1]? = some b → Go.Op.bytesLess a.toList b.toList = true
theorem rises_iff (ks : List ByteArray) : rises ks = true ↔ risesTo ks ks.length := by
  induction ks with
  | nil => simp [rises, risesTo]
  | cons a r ih =>
    cases r with
    | nil => simp [rises]; intro j x y h; simp at h
    | cons b r =>
      unfold rises
      rw [Bool.and_eq_true, ih]
      constructor
      · rintro ⟨h1, h2⟩ j x y hj hx hy
        cases j with
        | zero => simp at hx hy; subst hx hy; exact h1
        | succ j => exact h2 j x y (by simp at hj ⊢; omega) (by simpa using hx) (by simpa using hy)
      · intro h
        exact ⟨h 0 a b (by simp) rfl rfl, fun j x y hj hx hy => h (j + 1) x y (by simp at hj ⊢; omega) (by simpa using hx) (by simpa using hy)⟩
theorem RdT.at_ {w : World} {S : Nat → Prop} {A : Option Addr} {n k : Nat} {ks : List ByteArray} (h : RdT w S A n ks) (hk : k < n) : ∃ b off s, A = some ⟨b, off, none⟩ ∧ S b ∧ ks[k]? = some s ∧ w.cell? ⟨b, off + k, none⟩ = some (.string s) := by
  obtain ⟨h1, h2⟩ := h
  obtain ⟨b, off, e, hS, h3⟩ := h2 (by omega)
  have hx : ks[k]? = some ks[k] := List.getElem?_eq_getElem (by omega)
  exact ⟨b, off, _, e, hS, hx, (h3 k _ hx).1⟩

set_option maxRecDepth 100000 in
set_option maxHeartbeats 1000000 in
theorem rise_c {S : Nat → Prop} {A : Option Addr} {n c : Nat} {ks : List ByteArray} (w : World) (h : RdT w S A n ks) (hn : n ≤ maxLen) :
    Calls Tryz.prog 127 #[.slice A n c] w fun e w' => e = .returned (.bool (rises ks)) ∧ ∃ k, w' = w.drewN k := by
  unfold maxLen at hn
  have HL := Lib.hid h.1
  go_enter Tryz.func127, Tryz.ntmps127
  go_wp2
  go_loopw [3] (fun i wr => ∃ k q : Nat, (k ≤ n ∨ k = 1) ∧ 1 ≤ k ∧ Hid (risesTo ks k) ∧ i = .int .i64 (k : Int) ∧ wr = w.drewN q) (fun i _ => n + 1 - (RowKit.intOf i).toNat)
  case atStart => exact ⟨1, 0, .inr rfl, Nat.le_refl _, (fun j a b h1 => by omega), rfl, rfl⟩
  case round =>
    obtain ⟨k, q, hk, hk1, ht, rfl, rfl⟩ := hrel
    by_cases hkn : k < n
    · obtain ⟨j, rfl⟩ : ∃ j, k = j + 1 := ⟨k - 1, by omega⟩
      obtain ⟨b1, o1, s1, rfl, _, hs1, hc1⟩ := h.at_ (k := j) (by omega)
      obtain ⟨b2, o2, s2, e2, _, hs2, hc2⟩ := h.at_ (k := j + 1) (by omega)
      rw [Option.some.injEq, Addr.mk.injEq] at e2
      obtain ⟨rfl, rfl, -⟩ := e2
      have hji : (((j + 1 : Nat) : Int) - 1) = (j : Int) := by omega
      have hwj : IntKind.i64.wrap (j : Int) = (j : Int) := IntWalk.i64_in _ (by omega)
      have hjn : (j : Int) < (n : Int) := by omega
      have hjn1 : (j : Int) + 1 < (n : Int) := by omega
      have hjp : 0 ≤ (j : Int) + 1 := by omega
      have hjt : ((j : Int) + 1).toNat = j + 1 := by omega
      cases hBL : Go.Op.bytesLess s1.toList s2.toList with
      | true =>
        have hs : Hid (risesTo ks (j + 1 + 1)) := fun i a b hi ha hb => by
          by_cases hij : i = j
          · subst hij
            rw [hs1] at ha; rw [hs2] at hb
            injection ha with ha; injection hb with hb
            subst ha hb; exact hBL
          · exact ht.out i a b (by omega) ha hb
        clear ht
        go_wp2
        go_quiet (fail)
        go_wp2
        go_roundw
        case rel => exact ⟨j + 1 + 1, _, .inl (by omega), by omega, hs, by go_num, by first | rfl | (simp only [World.drewN_drewN])⟩
        case measure => simp [RowKit.intOf]; omega
      | false =>
        have he : Hid (rises ks = false) := by
          show _ = _
          rcases hr : rises ks with _ | _
          · rfl
          · have := (rises_iff ks).1 hr j s1 s2 (by have := HL.out; omega) hs1 hs2
            rw [hBL] at this; exact this.symm
        clear ht
        go_wp2
        go_quiet (fail)
        go_wp2
        go_ret
        rw [he.out]
        exact ⟨rfl, by first | exact ⟨_, rfl⟩ | (simp only [World.drewN_drewN]; exact ⟨_, rfl⟩)⟩
    · have he : Hid (rises ks = true) := (rises_iff ks).2 (fun j a b hj hx hy => ht.out j a b (by have := HL.out; omega) hx hy)
      clear ht
      go_wp2
      go_ret
      rw [he.out]
      exact ⟨rfl, by first | exact ⟨_, rfl⟩ | (simp only [World.drewN_drewN]; exact ⟨_, rfl⟩)⟩
end Go.Proofs.YtpmdcahomkdfmaaGreatDoor
