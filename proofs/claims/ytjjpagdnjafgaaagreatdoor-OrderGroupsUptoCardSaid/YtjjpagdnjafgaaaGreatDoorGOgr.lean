/-
  Contracts of order.Index, where no value has an error, and of the reference's SameAll.
  Rows of values that are put together of others: their cells, two rows side by side. The groups' values one behind the other are all in order.
-/
import Derived.Test.YtjjpagdnjafgaaaGreatDoorGOsor
import Derived.Test.YtjjpagdnjafgaaaGreatDoorGVsame
import Derived.Test.YtjjpagdnjafgaaaGreatDoorGOal
import Derived.Test.YtjjpagdnjafgaaaGreatDoorGOgc
set_option linter.unusedVariables false
set_option linter.unusedSimpArgs false
namespace Go.Proofs.YtjjpagdnjafgaaaGreatDoor
open Go.RowKit Go.Lib

/-- A list as a value. -/
def listV (l : List VT) : VT := .mk 5 false [] 0 ⟨#[]⟩ l []
theorem listV_in {w : World} {S : Nat → Prop} {A : Option Addr} {n c : Nat} {l : List VT} (h : RdL w S A n l) (hn : n ≤ 1256584717458) (hc : n ≤ c) : VIn w S (listV l) [.int .i64 5, .bool false, .slice none 0 0, .int .i64 0, .string ⟨#[]⟩, .slice A n c, .slice none 0 0] := by
  obtain ⟨h1, h2, cs, h3, h4⟩ := h
  exact .mk (cs := cs) (Rd.nil w S none) (by omega) (by decide) ⟨rfl, fun h0 => absurd h0 (by omega)⟩ (by omega) h1 hn hc h3 h4
theorem buildL (A : Option Addr) (n c : Nat) (w : World) : (Instr.build 53 #[(0, .int .i64 5), (3, .slice A n c)]).run Tryz.prog w = .ok (.agg #[.int .i64 5, .bool false, .slice none 0 0, .int .i64 0, .string ⟨#[]⟩, .slice A n c, .slice none 0 0]) w := run_build w 53 _ _ (by kernel_rfl)

set_option maxRecDepth 100000 in
set_option maxHeartbeats 1000000 in
theorem sameAll_c {S S' : Nat → Prop} {A B : Option Addr} {n c m d : Nat} {l r : List VT} (w : World) (hl : RdL w S A n l) (hr : RdL w S' B m r) (hS : ∀ b, S b → b < w.heap.size) (hS' : ∀ b, S' b → b < w.heap.size) (hn : n ≤ 1256584717458) (hm : m ≤ 1256584717458) (hc : n ≤ c) (hd : m ≤ d) :
    Calls Tryz.prog 46 #[.slice A n c, .slice B m d] w fun e w' => e = .returned (.bool (sameV (listV l) (listV r))) ∧ Below w.heap.size w w' := by
  have HC := same_c (listV l) (listV r) S S' _ _ w (listV_in hl hn hc) (listV_in hr hm hd) hS hS'
  obtain ⟨R, hR⟩ : ∃ R, sameV (listV l) (listV r) = R := ⟨_, rfl⟩
  rw [hR] at HC ⊢
  have hb1 := fun W => buildL A n c W
  have hb2 := fun W => buildL B m d W
  clear hR hl hr hS hS'
  go_enter Tryz.func46, Tryz.ntmps46
  go_wp2_with fail
  refine HC.mono ?_
  rintro e' w1 ⟨rfl, hb⟩
  clear HC
  go_wp2_with fail
  go_ret
  exact ⟨rfl, hb⟩

end Go.Proofs.YtjjpagdnjafgaaaGreatDoor

namespace Go.Proofs.YtjjpagdnjafgaaaGreatDoor
open Go.RowKit Go.Lib

theorem flat7 : ∀ (cs : List (List Value)), (∀ c ∈ cs, c.length = 7) → ∀ i j, j < 7 → cs.flatten[i * 7 + j]? = (cs[i]?).bind fun c => c[j]?
  | [], _, i, j, _ => by simp
  | c :: r, h, 0, j, hj => by
    have := h c (by simp)
    rw [List.flatten_cons, List.getElem?_append_left (by omega)]
    simp
  | c :: r, h, i + 1, j, hj => by
    have h7 := h c (by simp)
    rw [List.flatten_cons, List.getElem?_append_right (by omega), h7, show (i + 1) * 7 + j - 7 = i * 7 + j by omega, flat7 r (fun x hx => h x (by simp [hx])) i j hj]
    simp
theorem flat7_len : ∀ (cs : List (List Value)), (∀ c ∈ cs, c.length = 7) → cs.flatten.length = cs.length * 7
  | [], _ => by simp
  | c :: r, h => by
    rw [List.flatten_cons, List.length_append, h c (by simp), flat7_len r (fun x hx => h x (by simp [hx])), List.length_cons]
    omega
/-- Cells, seven by seven, read as values. -/
def Reads (w : World) (S : Nat → Prop) (cs : List (List Value)) (l : List VT) : Prop :=
  cs.length = l.length ∧ (∀ c ∈ cs, c.length = 7) ∧ (∀ c ∈ cs, ∀ u ∈ c, u.oneCell' = true) ∧ ∀ (i : Nat) (c : List Value) (x : VT), cs[i]? = some c → l[i]? = some x → VIn w S x c
theorem Reads.nil (w : World) (S : Nat → Prop) : Reads w S [] [] := ⟨rfl, fun c h => by simp at h, fun c h => by simp at h, fun i c x h => by simp at h⟩
theorem Reads.append {w : World} {S : Nat → Prop} {cs ds : List (List Value)} {l m : List VT} (h : Reads w S cs l) (k : Reads w S ds m) : Reads w S (cs ++ ds) (l ++ m) := by
  refine ⟨by rw [List.length_append, List.length_append, h.1, k.1], fun c hc => ?_, fun c hc => ?_, fun i c x h1 h2 => ?_⟩
  · rcases List.mem_append.1 hc with hc | hc
    · exact h.2.1 c hc
    · exact k.2.1 c hc
  · rcases List.mem_append.1 hc with hc | hc
    · exact h.2.2.1 c hc
    · exact k.2.2.1 c hc
  · rw [List.getElem?_append] at h1 h2
    have hl := h.1
    by_cases hi : i < cs.length
    · rw [if_pos hi] at h1
      rw [if_pos (by omega)] at h2
      exact h.2.2.2 i c x h1 h2
    · rw [if_neg hi] at h1
      rw [if_neg (by omega), ← hl] at h2
      exact k.2.2.2 _ c x h1 h2
theorem Reads.one {w : World} {S : Nat → Prop} {cs : List (List Value)} {l : List VT} (h : Reads w S cs l) : ∀ u ∈ cs.flatten, u.oneCell' = true := fun u hu => by
  obtain ⟨c, hc, hu⟩ := List.mem_flatten.1 hu
  exact h.2.2.1 c hc u hu
theorem Reads.single {w : World} {S : Nat → Prop} {x : VT} {cs : List Value} (h : VIn w S x cs) : Reads w S [cs] [x] := by
  refine ⟨rfl, fun c hc => ?_, fun c hc => ?_, fun i c y h1 h2 => ?_⟩
  · rw [List.mem_singleton] at hc; rw [hc]; exact h.one.1
  · rw [List.mem_singleton] at hc; rw [hc]; exact h.one.2
  · cases i with
    | zero => simp at h1 h2; subst h1 h2; exact h
    | succ i => simp at h1
theorem RdL.reads {w : World} {S : Nat → Prop} {A : Option Addr} {n : Nat} {l : List VT} (h : RdL w S A n l) : ∃ cs, Reads w S cs l ∧ cs.length = n ∧ (0 < n → ∃ b off, A = some ⟨b, off, none⟩ ∧ S b ∧ ∀ (j : Nat) (u : Value), cs.flatten[j]? = some u → w.cell? ⟨b, off + j, none⟩ = some u) := by
  obtain ⟨h1, h2, cf, h3, h4⟩ := h
  have hv : ∀ i, i < n → ∃ x, l[i]? = some x ∧ VIn w S x (cf i) := fun i hi => ⟨l[i], List.getElem?_eq_getElem (by omega), h4 i _ (List.getElem?_eq_getElem (by omega))⟩
  have h7 : ∀ c ∈ (List.range n).map cf, c.length = 7 := fun c hc => by
    obtain ⟨i, hi, rfl⟩ := List.mem_map.1 hc
    obtain ⟨x, -, hx⟩ := hv i (List.mem_range.1 hi)
    exact hx.one.1
  refine ⟨(List.range n).map cf, ⟨by simp [h1], h7, fun c hc => ?_, fun i c x hc hx => ?_⟩, by simp, fun h0 => ?_⟩
  · obtain ⟨i, hi, rfl⟩ := List.mem_map.1 hc
    obtain ⟨x, -, hx⟩ := hv i (List.mem_range.1 hi)
    exact hx.one.2
  · have hi : i < n := by have := (List.getElem?_eq_some_iff.1 hx).1; omega
    rw [List.getElem?_map, List.getElem?_range hi] at hc
    simp at hc
    rw [← hc]
    exact h4 i x hx
  · obtain ⟨b, off, e, hS, hc⟩ := h3 h0
    refine ⟨b, off, e, hS, fun j u hu => ?_⟩
    have hj : j = j / 7 * 7 + j % 7 := by omega
    have hm : j % 7 < 7 := Nat.mod_lt _ (by omega)
    have hlt : j / 7 < n := by
      have h5 := (List.getElem?_eq_some_iff.1 hu).1
      rw [flat7_len _ h7] at h5
      simp at h5
      omega
    rw [hj, flat7 _ h7 _ _ hm, List.getElem?_map, List.getElem?_range hlt] at hu
    have hu2 : (cf (j / 7))[j % 7]? = some u := by simpa using hu
    have := (hc (j / 7) hlt).2 (j % 7) hm
    rw [hu2] at this
    rw [hj]
    exact this
/-- A row of the call's own, as a row of values. -/
theorem Reads.row {w W : World} {S : Nat → Prop} {cs : List (List Value)} {l : List VT} {v : Value} {n : Nat} {base : Nat} {e : TypeId} (h : Reads w S cs l) (hS : ∀ b, S b → b < w.heap.size) (hb : Below w.heap.size w W) (hown : W.ownsRow base e 7 v n cs.flatten) (hn : n ≤ 140737488355328) :
    ∃ VA vc, v = .slice VA n vc ∧ n ≤ vc ∧ RdL W (fun b => b < W.heap.size) VA n l := by
  have hlen : cs.length = n := by
    have h1 := hown.1
    rw [flat7_len _ h.2.1] at h1
    omega
  rcases hown.2 with ⟨rfl, h0⟩ | ⟨q, cap, cur, rfl, hb1, hh, hnc, -⟩
  · subst h0
    have : l = [] := List.eq_nil_of_length_eq_zero (by rw [← h.1, hlen])
    subst this
    exact ⟨none, 0, rfl, Nat.le_refl _, RdL.nil _ _ _⟩
  · refine ⟨_, _, rfl, hnc, by rw [← h.1, hlen], hn, fun i => cs[i]?.getD [], fun h0 => ⟨q, 0, rfl, (Array.getElem?_eq_some_iff.1 hh).1, fun i hi => ?_⟩, fun i x hx => ?_⟩
    · have hci : cs[i]? = some cs[i] := List.getElem?_eq_getElem (by omega)
      have h7 := h.2.1 _ (List.getElem_mem (l := cs) (n := i) (by omega))
      dsimp only
      rw [hci]
      refine ⟨h7, fun j hj => ?_⟩
      have hfl := flat7 cs h.2.1 i j hj
      rw [hci] at hfl
      have hju : cs[i][j]? = some (cs[i][j]'(by omega)) := List.getElem?_eq_getElem (by omega)
      simp only [Option.bind_some] at hfl
      rw [hju] at hfl
      have := hown.cells (g := q) rfl _ _ hfl
      rw [Addr.add_lit] at this
      simp only [Option.getD_some]
      rw [hju]
      exact this
    · have hil : i < cs.length := by have := (List.getElem?_eq_some_iff.1 hx).1; have := h.1; omega
      have hci : cs[i]? = some cs[i] := List.getElem?_eq_getElem hil
      dsimp only
      rw [hci]
      exact ((h.2.2.2 i _ x hci hx).keep fun p hp => hb.cell (hS _ hp)).more fun b hb2 => Nat.lt_of_lt_of_le (hS _ hb2) hb.size

/-- Two rows of the call's own, side by side. -/
structure Two (w W : World) (e : TypeId) (va : Value) (na : Nat) (xa : List Value) (vf : Value) (nf : Nat) (xf : List Value) : Prop where
  below : Below w.heap.size w W
  a : W.ownsRow w.heap.size e 7 va na xa
  f : W.ownsRow w.heap.size e 7 vf nf xf
  ne : ∀ q, va.ownBlock = some q → vf.ownBlock ≠ some q
theorem Two.alloc {w W : World} {e : TypeId} {va vf : Value} {na nf : Nat} {xa xf : List Value} (h : Two w W e va na xa vf nf xf) (o : Obj) : Two w (W.alloc o) e va na xa vf nf xf :=
  ⟨h.below.alloc h.below.size _, h.a.alloc o, h.f.alloc o, h.ne⟩
theorem Two.drew {w W : World} {e : TypeId} {va vf : Value} {na nf : Nat} {xa xf : List Value} (h : Two w W e va na xa vf nf xf) : Two w W.drew e va na xa vf nf xf :=
  ⟨h.below.drew, h.a.drew, h.f.drew, h.ne⟩
theorem Two.appA {w W X : World} {e : TypeId} {va vf v' : Value} {na nf n' : Nat} {xa xf ys : List Value} (h : Two w W e va na xa vf nf xf) (hg : W.grownBy X va.ownBlock) (ho : X.ownsRow w.heap.size e 7 v' n' ys) (hat : v'.ownBlock = va.ownBlock ∨ v'.ownBlock = some W.heap.size) : Two w X e v' n' ys vf nf xf :=
  ⟨h.below.grown hg h.below.size (fun k e => (own_block h.a e).1), ho, own_same h.f (fun q hq => hg.block q (own_block h.f hq).2.1 (fun e => h.ne q e.symm hq)), fun q hq => by
    rcases hat with e | e
    · exact h.ne q (by rw [← e]; exact hq)
    · intro h2
      rw [hq] at e
      injection e with e
      have := (own_block h.f h2).2.1
      omega⟩
theorem Two.appF {w W X : World} {e : TypeId} {va vf v' : Value} {na nf n' : Nat} {xa xf ys : List Value} (h : Two w W e va na xa vf nf xf) (hg : W.grownBy X vf.ownBlock) (ho : X.ownsRow w.heap.size e 7 v' n' ys) (hat : v'.ownBlock = vf.ownBlock ∨ v'.ownBlock = some W.heap.size) : Two w X e va na xa v' n' ys :=
  ⟨h.below.grown hg h.below.size (fun k e => (own_block h.f e).1), own_same h.a (fun q hq => hg.block q (own_block h.a hq).2.1 (fun e => h.ne q hq e.symm)), ho, fun q hq => by
    rcases hat with e | e
    · rw [e]; exact h.ne q hq
    · intro h2
      rw [h2] at e
      injection e with e
      have := (own_block h.a hq).2.1
      omega⟩

/-- The groups, one behind the other, are all in order. -/
theorem grp_flat (l keys : List VT) (ps : List Nat) : (grpV l keys ps).flatten = pickV l ps := by
  have h := segs_flat (likeK keys ps) ps
  conv => rhs; rw [← h]
  rw [pickV_flat]
  unfold grpV
  rw [List.map_map]
  rfl
theorem grp_ne {l keys : List VT} {ps : List Nat} {x : List VT} (h : x ∈ grpV l keys ps) : 0 < x.length := by
  unfold grpV at h
  obtain ⟨p, hp, rfl⟩ := List.mem_map.1 h
  have := runG_ok (likeK_self keys ps 0) hp
  unfold pickV
  rw [List.length_map, seg_len this.2]
  omega
/-- The first values of the groups. -/
def firstsV (L : List (List VT)) : List VT := L.map fun x => x.headD (.mk 0 false [] 0 ⟨#[]⟩ [] [])
theorem grp_firsts (l keys : List VT) (ps : List Nat) : firstsV (grpV l keys ps) = pickV l (heads ps (runG (likeK keys ps) ps.length)) := by
  rw [heads_map]
  unfold firstsV grpV
  rw [List.map_map]
  apply List.map_congr_left
  intro p hp
  have h := runG_ok (likeK_self keys ps 0) hp
  have h1 : (seg ps p)[0]? = ps[p.1]? := seg_get (k := 0) (by omega)
  have h2 : ps[p.1]? = some ps[p.1] := List.getElem?_eq_getElem (by omega)
  show (pickV l (seg ps p)).headD _ = _
  unfold pickV
  rw [h2] at h1 ⊢
  cases hs : seg ps p with
  | nil => rw [hs] at h1; simp at h1
  | cons q r =>
    rw [hs] at h1
    simp at h1
    simp [h1]
end Go.Proofs.YtjjpagdnjafgaaaGreatDoor
