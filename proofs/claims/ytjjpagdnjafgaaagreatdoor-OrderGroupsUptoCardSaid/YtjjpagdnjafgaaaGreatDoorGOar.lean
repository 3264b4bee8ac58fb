/-
  An argument that is a value, with a bound of its bulk: it has no more parts.
  An argument that is a row of values, with a bound of its bulk.
-/
import Derived.Test.YtjjpagdnjafgaaaGreatDoorGVargs
import Derived.Test.YtjjpagdnjafgaaaGreatDoorGVcpy
set_option linter.unusedVariables false
set_option linter.unusedSimpArgs false
namespace Go.Proofs.YtjjpagdnjafgaaaGreatDoor
open Go.ChangeShapes Go.WideShapes Go.ChangeAt Go.RowKit Go.Joins Go.Deep

theorem one_bulk {H : Type} (d : DataW H) : 1 ≤ Rows.uptoBulk d := by
  cases d with
  | lit l => cases l <;> simp [Rows.uptoBulk]
  | nil => simp [Rows.uptoBulk]
  | ptr d => simp [Rows.uptoBulk]
  | slice elems spare => simp [Rows.uptoBulk]
  | agg parts => simp [Rows.uptoBulk]
  | iface t d => simp [Rows.uptoBulk]
  | map entries => simp [Rows.uptoBulk]
  | held h => simp [Rows.uptoBulk]
theorem underL_bulk {H : Type} : ∀ (l : List VT) (ds : List (DataW H)), l.length = ds.length → (∀ (i : Nat) (x : VT) (d : DataW H), l[i]? = some x → ds[i]? = some d → under x + 1 ≤ Rows.uptoBulk d) → underL l ≤ Rows.uptoBulkAll ds
  | [], _, _, _ => by simp [underL]
  | _ :: _, [], h, _ => by simp at h
  | a :: r, d :: s, h, hp => by
    have h1 := hp 0 a d rfl rfl
    have h2 := underL_bulk r s (by simpa using h) (fun i x e hx he => hp (i + 1) x e (by simpa using hx) (by simpa using he))
    simp only [underL, Rows.uptoBulkAll]
    omega
theorem bulk_slice {H : Type} (elems rest : List (DataW H × List MemPlace)) : Rows.uptoBulkAll (elems.map (·.1)) + 1 ≤ Rows.uptoBulk (.slice (elems.map (·.1)) (rest.map (·.1))) := by
  simp only [Rows.uptoBulk]
  omega
theorem bulk_part {H : Type} {d : DataW H} : ∀ {l : List (DataW H)}, d ∈ l → Rows.uptoBulk d ≤ Rows.uptoBulkAll l
  | x :: r, h => by
    simp only [Rows.uptoBulkAll]
    rcases List.mem_cons.1 h with rfl | h
    · omega
    · have := bulk_part h; omega
theorem bulk_bound {H : Type} {d : DataW H} {l : List (DataW H)} (hk : Rows.uptoSmall H l = true) (h : d ∈ l) : Rows.uptoBulk d ≤ 1048576 := by
  have h1 : Rows.uptoBulkAll l ≤ 1048576 := of_decide_eq_true hk
  exact Nat.le_trans (bulk_part h) h1
set_option maxRecDepth 100000 in
/-- Whatever reads as a value is a tree, with no more parts than the bulk of what is read. -/
theorem viewVb {H : Type} {enc : TypeId × Value → H} {W : World} : ∀ (fuel : Nat) {cs : List Value} {y : DataW H × List MemPlace},
    DataW.trod enc Tryz.prog W 0 (fun _ => true) true fuel 53 cs = some y → Fits 53 y.1 → ∃ x, VIn W (fun b => b < W.heap.size) x cs ∧ under x + 1 ≤ Rows.uptoBulk y.1 := by
  intro fuel
  induction fuel using Nat.strongRecOn with
  | _ fuel ih =>
  intro cs y h hw
  obtain ⟨ys, n, rfl, hyy, hl, hlen, hf⟩ := DataW.trod_struct Tryz.underlying53 h
  rw [cellsVal] at hl
  obtain ⟨c0, c1, c2, c3, c4, c5, c6, rfl⟩ := list7 hl
  obtain ⟨y0, y1, y2, y3, y4, rfl⟩ := list5 (show ys.length = 5 from hlen)
  subst hyy
  have hw1 : Fits 24 y1.1 := fun m hm => hw m (by simp only [DataW.weights, Tryz.underlying53]; exact DataW.weights_mem_each (j := 1) (t := 24) rfl rfl m hm)
  have hw2 : Fits 9 y2.1 := fun m hm => hw m (by simp only [DataW.weights, Tryz.underlying53]; exact DataW.weights_mem_each (j := 2) (t := 9) rfl rfl m hm)
  have hw3 : Fits 50 y3.1 := fun m hm => hw m (by simp only [DataW.weights, Tryz.underlying53]; exact DataW.weights_mem_each (j := 3) (t := 50) rfl rfl m hm)
  have hw4 : Fits 51 y4.1 := fun m hm => hw m (by simp only [DataW.weights, Tryz.underlying53]; exact DataW.weights_mem_each (j := 4) (t := 51) rfl rfl m hm)
  have h0 : DataW.trod enc Tryz.prog W 0 (fun _ => true) true n 3 [c0] = some y0 := hf 0 _ rfl
  have h1 : DataW.trod enc Tryz.prog W 0 (fun _ => true) true n 24 [c1, c2, c3] = some y1 := hf 1 _ rfl
  have h2 : DataW.trod enc Tryz.prog W 0 (fun _ => true) true n 9 [c4] = some y2 := hf 2 _ rfl
  have h3 : DataW.trod enc Tryz.prog W 0 (fun _ => true) true n 50 [c5] = some y3 := hf 3 _ rfl
  have h4 : DataW.trod enc Tryz.prog W 0 (fun _ => true) true n 51 [c6] = some y4 := hf 4 _ rfl
  clear hf
  obtain ⟨k, e0, _⟩ := DataW.trod_int (k := .i64) Tryz.underlying3 h0
  obtain ⟨t, e4, hy2, _⟩ := DataW.trod_string Tryz.underlying9 h2
  have ht : t.size ≤ 140737488355328 := by
    have h5 := hw2 t.data.toList.length (by rw [hy2]; simp [DataW.weights])
    rw [Array.length_toList] at h5
    exact Nat.le_trans h5 reach_lt
  obtain ⟨KA, kn, kc, ks, rfl, hks, hkn⟩ := viewT h4 hw4
  obtain ⟨zs, n1, rfl, hyz, _, hlen1, hf1⟩ := DataW.trod_struct Tryz.underlying24 h1
  have hz3 : zs.length = 3 := hlen1
  obtain ⟨z0, z1, z2, rfl⟩ : ∃ z0 z1 z2, zs = [z0, z1, z2] := by
    match zs, hz3 with
    | [a, b, c], _ => exact ⟨a, b, c, rfl⟩
  have g0 : DataW.trod enc Tryz.prog W 0 (fun _ => true) true n1 4 [c1] = some z0 := hf1 0 _ rfl
  have g1 : DataW.trod enc Tryz.prog W 0 (fun _ => true) true n1 22 [c2] = some z1 := hf1 1 _ rfl
  have g2 : DataW.trod enc Tryz.prog W 0 (fun _ => true) true n1 3 [c3] = some z2 := hf1 2 _ rfl
  obtain ⟨neg, e1, _⟩ := DataW.trod_bool Tryz.underlying4 g0
  obtain ⟨exp, e3, _⟩ := DataW.trod_int (k := .i64) Tryz.underlying3 g2
  obtain ⟨A, l, c, e2⟩ := slice_form Tryz.underlying22 g1
  injection e0 with e0
  injection e1 with e1
  injection e2 with e2
  injection e3 with e3
  injection e4 with e4
  subst e0 e1 e2 e3 e4
  obtain ⟨xs, rx, _, hvz⟩ := view32 (W := W) (fuel := n1) (a0 := A) (len := l) (cap := c) (d := z1.1) (p := z1.2) g1
  have hx : l ≤ 35184372088832 := by
    rcases hvz with ⟨_, h5⟩ | ⟨zs, sp, h5, h6⟩
    · omega
    · have h7 : Fits 22 z1.1 := fun m hm => hw1 m (by rw [hyz]; simp only [DataW.weights, Tryz.underlying24]; exact DataW.weights_mem_each (j := 1) (t := 22) rfl rfl m hm)
      have h8 := h7 (zs.length * 4 + sp.length * 4) (by rw [h6]; simp [DataW.weights, Tryz.underlying22, bytesU32, lits, Nat.add_mul])
      have := reach_lt
      omega
  clear h h0 h1 h2 h4 hf1 g0 g1 g2 hw hw1 hw2 hw4
  rcases DataW.trod_slice Tryz.underlying50 h3 with ⟨hcs, _⟩ | ⟨a, len, cap, elems, rest, n2, hfu, hcs, hy3, _, hlc, hcm, hel, hee, _, _⟩
  · injection hcs with h1
    subst h1
    refine ⟨.mk k neg xs exp t [] ks, .mk (cs := fun _ => []) rx hx ht hks hkn rfl (by omega) (by omega) (fun h0 => absurd h0 (by omega)) (fun i x hi => by simp at hi), ?_⟩
    have := one_bulk y3.1
    simp only [under, underL, List.map_cons, List.map_nil, Rows.uptoBulk, Rows.uptoBulkAll]
    omega
  · injection hcs with h1
    subst h1
    rw [hy3] at hw3
    have hfr := fits_row hw3
    have hln : len ≤ 1256584717458 := by have := hfr.1; omega
    have hall : ∀ i, i < len → ∃ q : List Value × VT, W.cells? 0 (a.add (i * 7)) 7 = some q.1 ∧ VIn W (fun b => b < W.heap.size) q.2 q.1 ∧ ∀ d, (elems.map (·.1))[i]? = some d → under q.2 + 1 ≤ Rows.uptoBulk d := by
      intro i hi
      have h2 := hee i hi
      rw [cellsVal, List.getElem?_eq_getElem (by omega), Option.bind_eq_some_iff] at h2
      obtain ⟨cs', h5, h6⟩ := h2
      obtain ⟨x, hxx, hub⟩ := ih n2 (by omega) h6 (hfr.2 _ (List.getElem_mem _))
      refine ⟨(cs', x), h5, hxx, fun d hd => ?_⟩
      rw [List.getElem?_map, List.getElem?_eq_getElem (by omega)] at hd
      injection hd with hd
      subst hd
      exact hub
    have hdef : Inhabited (List Value × VT) := ⟨([], .mk 0 false [] 0 ⟨#[]⟩ [] [])⟩
    obtain ⟨Q, hQ⟩ := choose_lt hall
    refine ⟨.mk k neg xs exp t ((List.range len).map fun i => (Q i).2) ks, .mk (cs := fun i => (Q i).1) rx hx ht hks hkn (by simp) (by omega) (by omega) (fun h0 => ?_) (fun i x hi => ?_), ?_⟩
    · obtain ⟨b, off, sp⟩ := a
      obtain ⟨_, hl0, hc0⟩ := World.cells?_some (hQ 0 h0).1
      have h2 := hc0 0 (by omega)
      rw [List.getElem?_eq_getElem (by omega)] at h2
      have hsp : sp = none := by simpa [Addr.add] using World.cell?_spot h2
      subst hsp
      refine ⟨b, off, rfl, by simpa [Addr.add] using World.block_lt_of_cell? W _ h2, fun i hi => ?_⟩
      obtain ⟨_, hl1, hc1⟩ := World.cells?_some (hQ i hi).1
      refine ⟨hl1, fun j hj => ?_⟩
      have := hc1 j hj
      rwa [Addr.add_lit, Addr.add_lit, Nat.add_assoc] at this
    · obtain ⟨hi2, rfl⟩ := List.getElem?_eq_some_iff.1 hi
      have hil : i < len := by simpa using hi2
      simpa using (hQ i hil).2.1
    · have h9 := underL_bulk ((List.range len).map fun i => (Q i).2) (elems.map (·.1)) (by simp; omega) (fun i x d hi hd => by
        obtain ⟨hi2, rfl⟩ := List.getElem?_eq_some_iff.1 hi
        have hil : i < len := by simpa using hi2
        simpa using (hQ i hil).2.2 d hd)
      have h8 := bulk_slice elems rest
      simp only [under, List.map_cons, List.map_nil, Rows.uptoBulk, Rows.uptoBulkAll]
      rw [hy3]
      simp only [Rows.uptoBulk]
      omega
end Go.Proofs.YtjjpagdnjafgaaaGreatDoor

namespace Go.Proofs.YtjjpagdnjafgaaaGreatDoor
open Go.ChangeShapes Go.WideShapes Go.ChangeAt Go.RowKit Go.Joins Go.Deep

set_option maxRecDepth 100000 in
theorem viewValsb {H : Type} {enc : TypeId × Value → H} {W : World} {fuel : Nat} {A : Option Addr} {n c : Nat} {y : DataW H × List MemPlace}
    (h : DataW.trod enc Tryz.prog W 0 (fun _ => true) true fuel 50 [.slice A n c] = some y) (hw : Fits 50 y.1) : ∃ l, RdL W (fun b => b < W.heap.size) A n l ∧ underL l + 1 ≤ Rows.uptoBulk y.1 := by
  rcases DataW.trod_slice Tryz.underlying50 h with ⟨hcs, _⟩ | ⟨a, len, cap, elems, rest, n2, _, hcs, hy3, _, hlc, hcm, hel, hee, _, _⟩
  · injection hcs with h1
    injection h1 with h1 h2
    subst h1 h2
    exact ⟨[], RdL.nil _ _ _, by have := one_bulk y.1; simp only [underL]; omega⟩
  · injection hcs with h1
    injection h1 with h1 h2
    subst h1 h2
    rw [hy3] at hw
    have hfr := fits_row hw
    have hln : n ≤ 140737488355328 := by have := hfr.1; omega
    have hall : ∀ i, i < n → ∃ q : List Value × VT, W.cells? 0 (a.add (i * 7)) 7 = some q.1 ∧ VIn W (fun b => b < W.heap.size) q.2 q.1 ∧ ∀ d, (elems.map (·.1))[i]? = some d → under q.2 + 1 ≤ Rows.uptoBulk d := by
      intro i hi
      have h2 := hee i hi
      rw [cellsVal, List.getElem?_eq_getElem (by omega), Option.bind_eq_some_iff] at h2
      obtain ⟨cs', h5, h6⟩ := h2
      obtain ⟨x, hxx, hub⟩ := viewVb n2 h6 (hfr.2 _ (List.getElem_mem _))
      refine ⟨(cs', x), h5, hxx, fun d hd => ?_⟩
      rw [List.getElem?_map, List.getElem?_eq_getElem (by omega)] at hd
      injection hd with hd
      subst hd
      exact hub
    have hdef : Inhabited (List Value × VT) := ⟨([], .mk 0 false [] 0 ⟨#[]⟩ [] [])⟩
    obtain ⟨Q, hQ⟩ := choose_lt hall
    refine ⟨(List.range n).map fun i => (Q i).2, ⟨by simp, by omega, fun i => (Q i).1, fun h0 => ?_, fun i x hi => ?_⟩, ?_⟩
    · obtain ⟨b, off, sp⟩ := a
      obtain ⟨_, hl0, hc0⟩ := World.cells?_some (hQ 0 h0).1
      have h2 := hc0 0 (by omega)
      rw [List.getElem?_eq_getElem (by omega)] at h2
      have hsp : sp = none := by simpa [Addr.add] using World.cell?_spot h2
      subst hsp
      refine ⟨b, off, rfl, by simpa [Addr.add] using World.block_lt_of_cell? W _ h2, fun i hi => ?_⟩
      obtain ⟨_, hl1, hc1⟩ := World.cells?_some (hQ i hi).1
      refine ⟨hl1, fun j hj => ?_⟩
      have := hc1 j hj
      rwa [Addr.add_lit, Addr.add_lit, Nat.add_assoc] at this
    · obtain ⟨hi2, rfl⟩ := List.getElem?_eq_some_iff.1 hi
      have hil : i < n := by simpa using hi2
      simpa using (hQ i hil).2.1
    · have h9 := underL_bulk ((List.range n).map fun i => (Q i).2) (elems.map (·.1)) (by simp; omega) (fun i x d hi hd => by
        obtain ⟨hi2, rfl⟩ := List.getElem?_eq_some_iff.1 hi
        have hil : i < n := by simpa using hi2
        simpa using (hQ i hil).2.2 d hd)
      have h8 := bulk_slice elems rest
      rw [hy3]
      simp only [Rows.uptoBulk] at h8 ⊢
      omega
end Go.Proofs.YtjjpagdnjafgaaaGreatDoor
