/-
  Contracts of kinds.text, of the closure that tells an object's key, and of what Keys does.
-/
import Derived.Test.YtobfeneeehmpcaaGreatDoorYKhs
import Derived.Laws.EntriesVeiled
set_option linter.unusedVariables false
set_option linter.unusedSimpArgs false
namespace Go.Proofs.YtobfeneeehmpcaaGreatDoor
open Go.RowKit Go.Lib

theorem buildTK (s : ByteArray) (w : World) : (Instr.build 28 #[(0, .int .i64 4), (2, .string s)]).run Tryz.prog w = .ok (.agg #[.int .i64 4, .bool false, .slice none 0 0, .int .i64 0, .string s, .slice none 0 0, .slice none 0 0]) w := run_build w 28 _ _ (by kernel_rfl)
theorem vinTextK (w : World) (S : Nat → Prop) {s : ByteArray} (h : s.size ≤ 140737488355328) : VIn w S (textK7 s) [.int .i64 4, .bool false, .slice none 0 0, .int .i64 0, .string s, .slice none 0 0, .slice none 0 0] :=
  .mk (cs := fun _ => []) (Rd.nil _ _ _) (by omega) h ⟨rfl, fun h0 => absurd h0 (by omega)⟩ (by omega) rfl (by omega) (Nat.le_refl _) (fun h0 => absurd h0 (by omega)) (fun i x hi => by simp at hi)
set_option maxRecDepth 100000 in
theorem ktext_c (s : ByteArray) (w : World) : Calls Tryz.prog 22 #[.string s] w fun e w' => e = .returned (.agg #[.int .i64 4, .bool false, .slice none 0 0, .int .i64 0, .string s, .slice none 0 0, .slice none 0 0]) ∧ Below w.heap.size w w' := by
  obtain ⟨rs, hrs⟩ : ∃ b, w.heap.size = b := ⟨_, rfl⟩
  have hb0 : Below rs w (w.alloc (.cells #[.int .i64 0, .bool false, .slice none 0 0, .int .i64 0, .string ⟨#[]⟩, .slice none 0 0, .slice none 0 0] 28)) := (Below.refl _ w).alloc (by omega) _
  have hm := World.alloc_heap_new w (.cells #[.int .i64 0, .bool false, .slice none 0 0, .int .i64 0, .string ⟨#[]⟩, .slice none 0 0, .slice none 0 0] 28)
  rw [hrs] at hm ⊢
  obtain ⟨z0, z1, z2, z3, z4, z5, z6⟩ := box7_of hm
  have fz : ∀ j, (w.alloc (.cells #[.int .i64 0, .bool false, .slice none 0 0, .int .i64 0, .string ⟨#[]⟩, .slice none 0 0, .slice none 0 0] 28)).frozen? ⟨rs, j, none⟩ = false := fun j => frozen_of_row _ _ j _ _ hm
  have hbu := fun W => buildTK s W
  have HB := Lib.hid hb0
  clear hb0 hm
  go_enter Tryz.func22, Tryz.ntmps22
  go_upto_region 1 with fail
  try rw [hrs]
  clear hrs
  generalize (w.alloc (.cells #[.int .i64 0, .bool false, .slice none 0 0, .int .i64 0, .string ⟨#[]⟩, .slice none 0 0, .slice none 0 0] 28)) = w0 at *
  go_wp2_with fail
  refine bodyPost_ret (v := .agg #[.int .i64 4, .bool false, .slice none 0 0, .int .i64 0, .string s, .slice none 0 0, .slice none 0 0]) (by simp [results, Tryz.results22, go_sem, z0, z1, z2, z3, z4, z5, z6]) rfl ?_
  exact ⟨rfl, below_seven HB.out (Nat.le_refl _) _ _ _ _ _ _ _⟩
set_option maxRecDepth 100000 in
theorem keyOf_c {S : Nat → Prop} {KA : Option Addr} {kn kc vb i : Nat} {ks : List ByteArray} {s : ByteArray} {v0 v1 v2 v3 v4 v5 : Value} (w : World) (hv : w.heap[vb]? = some (.cells #[v0, v1, v2, v3, v4, v5, .slice KA kn kc] 28)) (hk : RdT w S KA kn ks) (hs : ks[i]? = some s) (hS : ∀ b, S b → b < w.heap.size) (hkn : kn ≤ 8796093022208) :
    Calls Tryz.prog 21 #[.int .i64 (i : Int), .pointer (some ⟨vb, 0, none⟩)] w fun e w' => e = .returned (.agg #[.int .i64 4, .bool false, .slice none 0 0, .int .i64 0, .string s, .slice none 0 0, .slice none 0 0]) ∧ Below w.heap.size w w' := by
  obtain ⟨rs, hrs⟩ : ∃ b, w.heap.size = b := ⟨_, rfl⟩
  have hi : i < kn := by rw [← hk.1]; exact (List.getElem?_eq_some_iff.1 hs).1
  obtain ⟨kb, off, rfl, hkb, hcell⟩ := hk.2 (by omega)
  have hkb := hS _ hkb
  obtain ⟨hc, -⟩ := hcell i s hs
  have hvl := (Array.getElem?_eq_some_iff.1 hv).1
  have hb0 : Below rs w (w.alloc (.cells #[.int .i64 0, .bool false, .slice none 0 0, .int .i64 0, .string ⟨#[]⟩, .slice none 0 0, .slice none 0 0] 28)) := (Below.refl _ w).alloc (by omega) _
  have hm := World.alloc_heap_new w (.cells #[.int .i64 0, .bool false, .slice none 0 0, .int .i64 0, .string ⟨#[]⟩, .slice none 0 0, .slice none 0 0] 28)
  have hs0 : (w.alloc (.cells #[.int .i64 0, .bool false, .slice none 0 0, .int .i64 0, .string ⟨#[]⟩, .slice none 0 0, .slice none 0 0] 28)).heap.size = rs + 1 := by rw [World.size_alloc, hrs]
  have hv0 := (hb0.block vb (by omega)).trans hv
  have y6 : (w.alloc (.cells #[.int .i64 0, .bool false, .slice none 0 0, .int .i64 0, .string ⟨#[]⟩, .slice none 0 0, .slice none 0 0] 28)).cell? ⟨vb, 6, none⟩ = some (.slice (some ⟨kb, off, none⟩) kn kc) := cell_at3 hv0 rfl
  have hck : (w.alloc (.cells #[.int .i64 0, .bool false, .slice none 0 0, .int .i64 0, .string ⟨#[]⟩, .slice none 0 0, .slice none 0 0] 28)).cell? ⟨kb, off + i, none⟩ = some (.string s) := (hb0.cell (p := ⟨kb, off + i, none⟩) (by show kb < _; omega)).trans hc
  rw [hrs] at hm ⊢
  have hilt : (i : Int) < (kn : Int) := by omega
  have hi0 : (0 : Int) ≤ (i : Int) := by omega
  have hit : ((i : Int)).toNat = i := by omega
  have HB := Lib.hid hb0
  have HM := Lib.hid hm
  have HS0 := Lib.hid hs0
  clear hb0 hm hk hcell hc hv hv0 hs0 hS
  go_enter Tryz.func21, Tryz.ntmps21
  go_upto_region 1 with fail
  try rw [hrs]
  clear hrs
  generalize (w.alloc (.cells #[.int .i64 0, .bool false, .slice none 0 0, .int .i64 0, .string ⟨#[]⟩, .slice none 0 0, .slice none 0 0] 28)) = w0 at *
  go_wp2_with fail
  refine (ktext_c s w0).mono ?_
  rintro e9 w1 ⟨rfl, hb1⟩
  rw [HS0.out] at hb1
  have hm1 := (hb1.block rs (by omega)).trans HM.out
  have HB1 := Lib.hid (HB.out.trans (hb1.mono (by omega)))
  obtain ⟨z0, z1, z2, z3, z4, z5, z6⟩ := box7_of hm1
  have fz : ∀ j, w1.frozen? ⟨rs, j, none⟩ = false := fun j => frozen_of_row _ _ j _ _ hm1
  clear hb1 hm1 y6 hck
  go_wp2_with fail
  refine bodyPost_ret (v := .agg #[.int .i64 4, .bool false, .slice none 0 0, .int .i64 0, .string s, .slice none 0 0, .slice none 0 0]) (by simp [results, Tryz.results21, go_sem, z0, z1, z2, z3, z4, z5, z6]) rfl ?_
  exact ⟨rfl, below_seven HB1.out (Nat.le_refl _) _ _ _ _ _ _ _⟩
theorem set_heapK {w : World} {pb i : Nat} {vs : Array Value} {t : TypeId} {u : Value} (h : w.heap[pb]? = some (.cells vs t)) : (w.setCell ⟨pb, i, none⟩ u).heap[pb]? = some (.cells (vs.set! i u) t) := by
  have hlt := (Array.getElem?_eq_some_iff.1 h).1
  rw [Array.getElem?_eq_getElem hlt] at h
  injection h with h
  show (w.heap.modify pb _)[pb]? = _
  rw [Array.getElem?_modify, if_pos rfl, Array.getElem?_eq_getElem hlt, h]
  rfl
/-- A row of values that is told by a box, on its way. -/
structure RndK (wr : World) (N ob j : Nat) (LA : Option Addr) (lc : Nat) (acc : List VT) : Prop where
  ho : wr.heap[ob]? = some (.cells #[.int .i64 5, .bool false, .slice none 0 0, .int .i64 0, .string ⟨#[]⟩, .slice LA j lc, .slice none 0 0] 28)
  hg : Grow N (.slice LA j lc) acc wr
  hl : acc.length = j
  hn : ob < N
  hw : N ≤ wr.heap.size
  hj : j ≤ 100000
theorem rnd_step {wr w2 w5 : World} {N ob j lc g' cap' : Nat} {LA : Option Addr} {acc : List VT} {item : VT} {fs : Nat → List Value} {k3 ex3 : Int} {neg3 : Bool} {A3 LA3 KA3 : Option Addr} {n3 c3 ln3 lc3 kn3 kc3 : Nat} {t3 : ByteArray} (h : RndK wr N ob j LA lc acc) (hbw : But (fun _ => False) wr w2) (hv : VIn w2 (fun b => wr.heap.size ≤ b ∧ b < w2.heap.size) item [.int .i64 k3, .bool neg3, .slice A3 n3 c3, .int .i64 ex3, .string t3, .slice LA3 ln3 lc3, .slice KA3 kn3 kc3])
    (hf7 : ∀ i, i < j → (fs i).length = 7) (hft : ∀ i x, acc[i]? = some x → VIn (w2.alloc (.cells #[.int .i64 k3, .bool neg3, .slice A3 n3 c3, .int .i64 ex3, .string t3, .slice LA3 ln3 lc3, .slice KA3 kn3 kc3] 28)) (fun b => N ≤ b ∧ b < (w2.alloc (.cells #[.int .i64 k3, .bool neg3, .slice A3 n3 c3, .int .i64 ex3, .string t3, .slice LA3 ln3 lc3, .slice KA3 kn3 kc3] 28)).heap.size ∧ (Value.slice LA j lc).ownBlock ≠ some b) x (fs i)) (hg5 : (w2.alloc (.cells #[.int .i64 k3, .bool neg3, .slice A3 n3 c3, .int .i64 ex3, .string t3, .slice LA3 ln3 lc3, .slice KA3 kn3 kc3] 28)).grownBy w5 (Value.slice LA j lc).ownBlock)
    (hat : (Value.slice (some ⟨g', 0, none⟩) (j + 1) cap').ownBlock = (Value.slice LA j lc).ownBlock ∨ (Value.slice (some ⟨g', 0, none⟩) (j + 1) cap').ownBlock = some (w2.alloc (.cells #[.int .i64 k3, .bool neg3, .slice A3 n3 c3, .int .i64 ex3, .string t3, .slice LA3 ln3 lc3, .slice KA3 kn3 kc3] 28)).heap.size)
    (hown : w5.ownsRow N 28 7 (.slice (some ⟨g', 0, none⟩) (j + 1) cap') (j + 1) (flatC fs id j ++ [.int .i64 k3, .bool neg3, .slice A3 n3 c3, .int .i64 ex3, .string t3, .slice LA3 ln3 lc3, .slice KA3 kn3 kc3])) (hob : w5.heap[ob]? = some (.cells #[.int .i64 5, .bool false, .slice none 0 0, .int .i64 0, .string ⟨#[]⟩, .slice LA j lc, .slice none 0 0] 28)) (hbl : Below N (w2.alloc (.cells #[.int .i64 k3, .bool neg3, .slice A3 n3 c3, .int .i64 ex3, .string t3, .slice LA3 ln3 lc3, .slice KA3 kn3 kc3] 28)) w5) :
    RndK (w5.setCell ⟨ob, 5, none⟩ (.slice (some ⟨g', 0, none⟩) (j + 1) cap')) N ob (j + 1) (some ⟨g', 0, none⟩) cap' (acc ++ [item]) ∨ 100000 ≤ j := by
  by_cases hj : 100000 ≤ j
  · exact .inr hj
  have hgN : N ≤ g' := (ownsRow_lt hown rfl).1
  have hb6 : But (fun k => k = g' ∨ k = ob) w5 (w5.setCell ⟨ob, 5, none⟩ (.slice (some ⟨g', 0, none⟩) (j + 1) cap')) := But.setCell (p := ⟨ob, 5, none⟩) (But.refl _ _) (.inl (.inr rfl)) _
  have hbo : But (fun k => k = ob) w5 (w5.setCell ⟨ob, 5, none⟩ (.slice (some ⟨g', 0, none⟩) (j + 1) cap')) := But.setCell (C := fun k => k = ob) (p := ⟨ob, 5, none⟩) (But.refl _ _) (.inl rfl) _
  have hobn := h.hn
  obtain ⟨fs0, hown0, -⟩ := h.hg
  rw [h.hl] at hown0
  refine .inl ⟨?_, ?_, by rw [List.length_append, h.hl]; rfl, h.hn, ?_, by omega⟩
  · have := set_heapK (i := 5) (u := .slice (some ⟨g', 0, none⟩) (j + 1) cap') hob
    simpa using this
  · exact Grow.push (M := wr.heap.size) (ob := ob) h.hl hf7 hft (fun k hk => (ownsRow_lt hown0 hk).2) h.hw ((Below.refl _ w2).alloc (Nat.le_refl _) _) hv rfl hg5 hat hb6 h.hn (ownsRow_keepB hown hbo (fun k hk hc => by injection hk with hk; have hk : g' = k := hk; omega))
  · have h1 := hbw.size
    have h2 := hbl.size
    have h3 := h.hw
    rw [World.size_alloc] at h2
    exact Nat.le_trans h3 (Nat.le_trans h1 (Nat.le_trans (Nat.le_succ _) (Nat.le_trans h2 hbo.size)))
/-- What Keys comes to, of a value that may be. -/
def keysE (x : VT) : Nat := if x.kind = 6 then 0 else if x.kind = 5 then 0 else 41
def keysY (x : VT) : VT := if x.kind = 6 then listV (x.keys.map textK7) else if x.kind = 5 then listV ((List.range x.list.length).map fun i : Nat => numT (i : Int)) else VT0
theorem build5K (w : World) : (Instr.build 28 #[(0, .int .i64 5)]).run Tryz.prog w = .ok (.agg #[.int .i64 5, .bool false, .slice none 0 0, .int .i64 0, .string ⟨#[]⟩, .slice none 0 0, .slice none 0 0]) w := run_build w 28 _ _ (by kernel_rfl)
/-- A row that was told by a box, as a list. -/
theorem grow_listK {N n lc : Nat} {LA : Option Addr} {l : List VT} {W : World} (h : Grow N (.slice LA n lc) l W) (hn : l.length = n) (hs : n ≤ 1000000) : VIn W (Own' N W) (listV l) [.int .i64 5, .bool false, .slice none 0 0, .int .i64 0, .string ⟨#[]⟩, .slice LA n lc, .slice none 0 0] := by
  obtain ⟨cs, h1, h2, h3⟩ := h
  subst hn
  have h4 : ∀ i x, l[i]? = some x → VIn W (Own' N W) x (cs i) := fun i x hx => (h3 i x hx).more fun b hb => ⟨hb.1, hb.2.1⟩
  rcases h1.2 with ⟨e, h0⟩ | ⟨g, cap, cur, e1, e2, e3, e4, e5, e6, e7⟩
  · injection e with e1 e2 e3
    exact listV_in ⟨rfl, by omega, cs, fun h => absurd h (by omega), h4⟩ (by omega) (by omega)
  · injection e1 with e8 e9 e10
    subst e8 e10
    refine listV_in ⟨rfl, by omega, cs, fun h => ⟨g, 0, rfl, ⟨e2, (Array.getElem?_eq_some_iff.1 e3).1⟩, fun i hi => ⟨h2 i hi, fun j hj => ?_⟩⟩, h4⟩ (by omega) e4
    have h7 := flatC_get (cs := cs) (ix := id) (j := l.length) (fun q hq => h2 q hq) i j hi hj
    have h8 : j < (cs i).length := by rw [h2 i hi]; exact hj
    rw [show (cs (id i))[j]? = some ((cs i)[j]) from List.getElem?_eq_getElem h8] at h7
    rw [List.getElem?_eq_getElem h8, Nat.zero_add]
    exact ownsRow_cellK h1 h7
set_option maxRecDepth 4000000 in
set_option maxHeartbeats 16000000 in
theorem keysO_c {S : Nat → Prop} {x : VT} {cs : List Value} (vb : Nat) (w : World) (hok : okV x) (h5 : x.kind = 6) (hx : VIn w S x cs) (hS : ∀ b, S b → b < w.heap.size) (hv : w.heap[vb]? = some (.cells cs.toArray 28)) :
    Calls Tryz.prog 20 #[.pointer (some ⟨vb, 0, none⟩)] w fun e w' => ∃ cs' : List Value, e = .returned (.tuple #[.agg cs'.toArray, .int .i64 ((0 : Nat) : Int)]) ∧ VIn w' (fun b => b < w'.heap.size) (listV (x.keys.map textK7)) cs' ∧ Below w.heap.size w w' := by
  obtain ⟨i7, hi7, hp7, hq7, hr7⟩ := info_parts infoV7
  have hmf : ∀ (fn : Fn) (first cap : Array Value) (w : World), (Instr.makeFunc fn first cap).run Tryz.prog w = .ok (.func fn first cap) w := fun _ _ _ _ => rfl
  obtain ⟨rs, hrs⟩ : ∃ b, w.heap.size = b := ⟨_, rfl⟩
  have hun := under_ok hok
  have hte := keysK hok h5
  obtain ⟨k2, neg2, xs2, e2, t2, li2, ks2, rfl⟩ : ∃ k2 neg2 xs2 e2 t2 li2 ks2, x = VT.mk k2 neg2 xs2 e2 t2 li2 ks2 := by cases x; exact ⟨_, _, _, _, _, _, _, rfl⟩
  obtain ⟨A2, n2, c2, LA2, ln2, lc2, KA2, kn2, kc2, rfl, -⟩ := hx.parts
  obtain ⟨-, hks, hkn, hln, -⟩ := vin_keysK hx
  have h5' : k2 = 6 := h5
  subst h5'
  have hlnb : li2.length ≤ 16383 := Nat.le_trans (underL_len li2) hun
  have hl2b : ln2 ≤ 16383 := by omega
  have hvl := (Array.getElem?_eq_some_iff.1 hv).1
  obtain ⟨w0, hw0⟩ : ∃ w0, w.alloc (.cells #[.int .i64 0, .bool false, .slice none 0 0, .int .i64 0, .string ⟨#[]⟩, .slice none 0 0, .slice none 0 0] 28) = w0 := ⟨_, rfl⟩
  have hb0 : Below rs w w0 := by rw [← hw0]; exact (Below.refl _ w).alloc (by omega) _
  have hm0 : w0.heap[rs]? = some (.cells #[.int .i64 0, .bool false, .slice none 0 0, .int .i64 0, .string ⟨#[]⟩, .slice none 0 0, .slice none 0 0] 28) := by rw [← hw0, ← hrs]; exact World.alloc_heap_new _ _
  have hs0 : w0.heap.size = rs + 1 := by rw [← hw0, World.size_alloc, hrs]
  obtain ⟨ob, hob⟩ : ∃ ob, w0.heap.size = ob := ⟨_, rfl⟩
  have hro : rs < ob := by omega
  obtain ⟨N, hNr⟩ : ∃ N, N = ob + 1 := ⟨_, rfl⟩
  obtain ⟨w1, hw1⟩ : ∃ w1, w0.alloc (.cells #[.int .i64 5, .bool false, .slice none 0 0, .int .i64 0, .string ⟨#[]⟩, .slice none 0 0, .slice none 0 0] 28) = w1 := ⟨_, rfl⟩
  have hb1 : Below ob w0 w1 := by rw [← hw1]; exact (Below.refl _ w0).alloc (by omega) _
  have hm1 : w1.heap[ob]? = some (.cells #[.int .i64 5, .bool false, .slice none 0 0, .int .i64 0, .string ⟨#[]⟩, .slice none 0 0, .slice none 0 0] 28) := by rw [← hw1, ← hob]; exact World.alloc_heap_new _ _
  have hs1 : w1.heap.size = ob + 1 := by rw [← hw1, World.size_alloc, hob]
  have hv0 := (hb0.block vb (by omega)).trans hv
  have hv1 := (hb1.block vb (by omega)).trans hv0
  have hrs1 := (hb1.block rs (by omega)).trans hm0
  obtain ⟨y0, y1, y2, y3, y4, y5, y6⟩ := box7_of hv0
  obtain ⟨u0, u1, u2, u3, u4, u5, u6⟩ := box7_of hv1
  have HB1 := Lib.hid (hb0.trans (hb1.mono (by omega)))
  have HW0 := Lib.hid hw0
  have HW1 := Lib.hid hw1
  have HV1 := Lib.hid hv1
  have HR1 := Lib.hid hrs1
  have HRN0 := Lib.hid (show RndK w1 N ob 0 none 0 [] from ⟨hm1, ⟨fun _ => [], ⟨rfl, .inl ⟨rfl, rfl⟩⟩, fun i hi => absurd hi (by simp), fun i x hx => absurd hx (by simp)⟩, rfl, by omega, by omega, by omega⟩)
  have HKS := Lib.hid hks
  have HLN := Lib.hid hln
  have HS := Lib.hid (show ∀ b, S b → b < rs from fun b hb => by have := hS b hb; omega)
  have HRS0 := Lib.hid hrs
  have hs0' := hob
  have HV0 := Lib.hid hv
  have hbu := fun W => build5K W
  have HVL := Lib.hid (show vb < rs by omega)
  have HTE := Lib.hid hte
  rw [hrs]
  clear hw0 hw1 hb0 hb1 hm0 hm1 hs0 hs1 hob hv hv0 hv1 hrs1 hx hks hln hS hok hun h5 hte hvl
  go_enter Tryz.func20, Tryz.ntmps20
  go_upto_region 1 with fail
  try rw [hrs]
  clear hrs
  rw [HW0.out]
  go_upto_region 9 with fail
  try rw [hs0']
  rw [HW1.out]
  clear y0 y1 y2 y3 y4 y5 y6 hs0'
  go_upto_region 10 with fail
  clear u0 u1 u2 u3 u4 u5 u6
  go_loopw [18] (fun iv wr => ∃ (j lc : Nat) (LA : Option Addr), j ≤ ln2 ∧ iv = .int .i64 (j : Int) ∧ Hid (RndK wr N ob j LA lc ((ks2.take j).map textK7)) ∧ Hid (wr.heap[rs]? = some (.cells #[.int .i64 0, .bool false, .slice none 0 0, .int .i64 0, .string ⟨#[]⟩, .slice none 0 0, .slice none 0 0] 28)) ∧ Hid (Below rs w wr)) (fun iv _ => ln2 - (RowKit.intOf iv).toNat)
  case atStart => exact ⟨0, 0, none, Nat.zero_le _, rfl, HRN0.out, HR1.out, HB1.out⟩
  case round =>
    obtain ⟨j, lc, LA, hjn, rfl, HRN, HRS, HBEL⟩ := hrel
    by_cases hj : j < ln2
    · have hjlt : (j : Int) < (ln2 : Int) := by omega
      have hjw : IntKind.i64.wrap ((j : Int) + 1) = (j : Int) + 1 := IntWalk.i64_in _ (by omega)
      obtain ⟨s, hs⟩ : ∃ s, ks2[j]? = some s := ⟨_, List.getElem?_eq_getElem (by have h9 : ks2.length = li2.length := HTE.out.2.1; have := HLN.out; omega)⟩
      have hsz : s.size ≤ 16384 := (HTE.out.2.2 s (List.mem_of_getElem? hs)).2
      obtain ⟨item, hitem⟩ : ∃ item, textK7 s = item := ⟨_, rfl⟩
      have HACC := Lib.hid (show (ks2.take j).map textK7 ++ [item] = (ks2.take (j + 1)).map textK7 by rw [List.take_add_one, hs, ← hitem]; simp)
      have HF := Lib.hid (show ∀ W, But (fun _ => False) wr W → Calls Tryz.prog 21 #[.int .i64 (j : Int), .pointer (some ⟨vb, 0, none⟩)] W (fun e w' => ∃ cs : List Value, e = .returned (.agg cs.toArray) ∧ VIn w' (fun b => W.heap.size ≤ b ∧ b < w'.heap.size) item cs ∧ Below W.heap.size W w') from fun W hW => by
        have hvw : W.heap[vb]? = _ := (hW.block vb (by have := HBEL.out.size; have := HVL.out; have := HRS0.out; omega) (fun h => h)).trans ((HBEL.out.block vb HVL.out).trans HV0.out)
        have hkw := HKS.out.keep (w' := W) fun p hp => (hW.cell (p := p) (by have := HS.out _ hp; have := HBEL.out.size; have := HRS0.out; omega) (fun h => h)).trans (HBEL.out.cell (p := p) (HS.out _ hp))
        refine (keyOf_c W hvw hkw hs (fun b hb => by have := HS.out b hb; have := HBEL.out.size; have := hW.size; have := HRS0.out; omega) hkn).mono ?_
        rintro e9 w9 ⟨rfl, hb9⟩
        exact ⟨_, rfl, by rw [← hitem]; exact vinTextK _ _ (by omega), hb9⟩)
      clear hitem hs
      have c5 : wr.cell? ⟨ob, 5, none⟩ = some (.slice LA j lc) := cell_at3 HRN.out.ho rfl
      have hwN := HRN.out.hw
      go_upto_region 12 with fail
      refine wp_region_held_drew (S := fun _ => True) (by kernel_rfl) trivial (fun hHeld => ?_)
      (try simp only [List.size_toArray, List.length_cons, List.length_nil, Nat.reduceAdd, Array.replicate_succ, Array.replicate_zero, List.push_toArray, List.append_toArray, List.nil_append, List.cons_append])
      refine wpAnyH_take (i := 0) (oi := ⟨_, _, _, _, _, _⟩) (v := ?_) rfl (by kernel_rfl) (by kernel_rfl) (by kernel_rfl) (fun _ _ _ h => h) (Or.inl ⟨by rfl, ?_⟩) (by assumption) ?_
      rotate_left
      · intro w hSw
        (try dsimp only at hSw)
        go_split_ands
        go_simp
        try with_reducible rfl
      try simp only [Act.put, List.setIfInBounds_toArray, List.set_cons_zero, List.set_cons_succ]
      refine wpAnyH_take (i := 2) (oi := ⟨_, _, _, _, _, _⟩) (v := ?_) rfl (by kernel_rfl) (by kernel_rfl) (by kernel_rfl) (fun _ _ _ h => h) (Or.inl ⟨by rfl, ?_⟩) (by assumption) ?_
      rotate_left
      · intro w hSw
        (try dsimp only at hSw)
        go_split_ands
        go_simp
        try with_reducible rfl
      try simp only [Act.put, List.setIfInBounds_toArray, List.set_cons_zero, List.set_cons_succ]
      refine wpAnyH_take (i := 3) (oi := ⟨_, _, _, _, _, _⟩) (v := ?_) rfl (by kernel_rfl) (by kernel_rfl) (by kernel_rfl) (fun _ _ _ h => h) (Or.inl ⟨by rfl, ?_⟩) (by assumption) ?_
      rotate_left
      · intro w hSw
        (try dsimp only at hSw)
        go_split_ands
        go_simp
        try with_reducible rfl
      try simp only [Act.put, List.setIfInBounds_toArray, List.set_cons_zero, List.set_cons_succ]
      refine wpAnyH_ready (rs := [1, 4]) (by kernel_rfl) (by simp) (AllReadyH.cons (o := ⟨_, _, _, _, _, _⟩) rfl (fun K hK => ?_) (AllReadyH.cons (o := ⟨_, _, _, _, _, _⟩) rfl (fun K hK => ?_) AllReadyH.nil))
      · skip
        go_simp
        refine hK _ _ trivial (fun hHeld1 => ?_)
        clear hK K
        try simp only [Act.put, List.setIfInBounds_toArray, List.set_cons_zero, List.set_cons_succ]
        refine wpAnyH_ready (rs := [4]) (by kernel_rfl) (by simp) (AllReadyH.cons (o := ⟨_, _, _, _, _, _⟩) rfl (fun K hK => ?_) AllReadyH.nil)
        go_simp
        refine (HF.out wr.drew ((But.refl (fun _ => False) wr).drew)).mono ?_
        rintro e9 w2 ⟨cs3, rfl, hv2, hb2⟩
        obtain ⟨k3, neg3, A3, n3, c3, ex3, t3, LA3, ln3, lc3, KA3, kn3, kc3, rfl, -, -⟩ := hv2.seven
        (try dsimp only)
        have hbW : But (fun _ => False) wr w2 := ((But.refl (fun _ => False) wr).drew).trans (But.of hb2)
        have HV2 := Lib.hid (show VIn w2 (fun b => wr.heap.size ≤ b ∧ b < w2.heap.size) item [.int .i64 k3, .bool neg3, .slice A3 n3 c3, .int .i64 ex3, .string t3, .slice LA3 ln3 lc3, .slice KA3 kn3 kc3] from hv2)
        have HBW := Lib.hid hbW
        have c52 : w2.cell? ⟨ob, 5, none⟩ = some (.slice LA j lc) := hbW.cell_some c5 (fun h => h)
        have c53 : (w2.alloc (.cells #[.int .i64 k3, .bool neg3, .slice A3 n3 c3, .int .i64 ex3, .string t3, .slice LA3 ln3 lc3, .slice KA3 kn3 kc3] 28)).cell? ⟨ob, 5, none⟩ = some (.slice LA j lc) := (hbW.alloc _).cell_some c5 (fun h => h)
        refine hK _ _ trivial (fun hHeld2 => ?_)
        clear hK K hbW hb2 hv2
        try simp only [Act.put, List.setIfInBounds_toArray, List.set_cons_zero, List.set_cons_succ]
        refine wpAnyH_ready (rs := [5]) (by kernel_rfl) (by simp) (AllReadyH.cons (o := ⟨_, _, _, _, _, _⟩) rfl (fun K hK => ?_) AllReadyH.nil)
        go_simp
        refine hK _ _ trivial (fun hHeld3 => ?_)
        clear hK K
        try simp only [Act.put, List.setIfInBounds_toArray, List.set_cons_zero, List.set_cons_succ]
        have hb3 : But (fun _ => False) wr (w2.alloc (.cells #[.int .i64 k3, .bool neg3, .slice A3 n3 c3, .int .i64 ex3, .string t3, .slice LA3 ln3 lc3, .slice KA3 kn3 kc3] 28)) := HBW.out.alloc _
        have hgr := HRN.out.hg.keep hb3 (fun k hk => hk.elim)
        obtain ⟨fs, hown, hf7, hft⟩ := hgr
        rw [HRN.out.hl] at hown hf7
        have HOWN := Lib.hid hown
        have HF7 := Lib.hid hf7
        have HFT := Lib.hid hft
        have HB3 := Lib.hid hb3
        have HZ := Lib.hid (new7 w2 (.int .i64 k3) (.bool neg3) (.slice A3 n3 c3) (.int .i64 ex3) (.string t3) (.slice LA3 ln3 lc3) (.slice KA3 kn3 kc3) 28)
        have HNA := Lib.hid (show N ≤ (w2.alloc (.cells #[.int .i64 k3, .bool neg3, .slice A3 n3 c3, .int .i64 ex3, .string t3, .slice LA3 ln3 lc3, .slice KA3 kn3 kc3] 28)).heap.size from Nat.le_trans HRN.out.hw hb3.size)
        have hjj := HRN.out.hj
        clear hown hf7 hft hb3
        refine wpAnyH_ready (rs := [6]) (by kernel_rfl) (by simp) (AllReadyH.cons (o := ⟨_, _, _, _, _, _⟩) rfl (fun K hK => ?_) AllReadyH.nil)
        refine step_append_at (base := N) (e := 28) (v := .slice LA j lc) (n := j) (xs := flatC fs id j) (news := [.int .i64 k3, .bool neg3, .slice A3 n3 c3, .int .i64 ex3, .string t3, .slice LA3 ln3 lc3, .slice KA3 kn3 kc3]) (m := 1) (c := 1) (ad := ⟨w2.heap.size, 0, none⟩) rfl (.tmp 22) (.tmp 26) 25 rfl Tryz.underlying25 hi7 hp7 hq7 hr7 rfl (by decide) rfl HOWN.out rfl rfl HZ.out (by simp [Value.oneCell']) (by unfold maxLen; omega) (by omega) HNA.out ?_
        intro v' w5 hown5 hg5 _ hat5
        obtain ⟨g', cap', rfl⟩ := ownsRow_succ hown5
        have hgN : N ≤ g' := (ownsRow_lt hown5 rfl).1
        have hbl5 : Below N (w2.alloc (.cells #[.int .i64 k3, .bool neg3, .slice A3 n3 c3, .int .i64 ex3, .string t3, .slice LA3 ln3 lc3, .slice KA3 kn3 kc3] 28)) w5 := (Below.refl N _).grown hg5 HNA.out (fun q e => (ownsRow_lt HOWN.out e).1)
        have hob5 : w5.heap[ob]? = _ := (hbl5.block ob HRN.out.hn).trans ((HB3.out.block ob (Array.getElem?_eq_some_iff.1 HRN.out.ho).1 (fun h => h)).trans HRN.out.ho)
        have o5 : w5.cell? ⟨ob, 5, none⟩ = some (.slice LA j lc) := cell_at3 hob5 rfl
        have p5 : w5.frozen? ⟨ob, 5, none⟩ = false := by simp [World.frozen?, hob5]
        have HW5 := Lib.hid hown5
        have HG5 := Lib.hid hg5
        have HAT5 := Lib.hid hat5
        have HBL5 := Lib.hid hbl5
        have HOB5 := Lib.hid hob5
        (try dsimp only)
        refine hK _ _ trivial (fun hHeld4 => ?_)
        clear hK K hown5 hg5 hat5 hbl5 hob5 c52 c53
        try simp only [Act.put, List.setIfInBounds_toArray, List.set_cons_zero, List.set_cons_succ]
        refine wpAnyH_take (i := 7) (oi := ⟨_, _, _, _, _, _⟩) (v := ?_) rfl (by kernel_rfl) (by kernel_rfl) (by kernel_rfl) (fun _ _ _ h => h) (Or.inl ⟨by rfl, ?_⟩) (by assumption) ?_
        rotate_left
        · intro w hSw
          (try dsimp only at hSw)
          go_split_ands
          go_simp
          try with_reducible rfl
        try simp only [Act.put, List.setIfInBounds_toArray, List.set_cons_zero, List.set_cons_succ]
        refine wpAnyH_ready (rs := [8]) (by kernel_rfl) (by simp) (AllReadyH.cons (o := ⟨_, _, _, _, _, _⟩) rfl (fun K hK => ?_) AllReadyH.nil)
        go_simp
        refine hK _ _ trivial (fun hHeld5 => ?_)
        clear hK K o5 p5
        try simp only [Act.put, List.setIfInBounds_toArray, List.set_cons_zero, List.set_cons_succ]
        refine wpAnyH_done (by kernel_rfl) ?_ _
        have hnd := rnd_step HRN.out HBW.out HV2.out HF7.out HFT.out HG5.out HAT5.out HW5.out HOB5.out HBL5.out
        have hbt : Below rs w (w5.setCell ⟨ob, 5, none⟩ (.slice (some ⟨g', 0, none⟩) (j + 1) cap')) := ((HBEL.out.trans ((((HBW.out.alloc _).below (Nat.le_refl _) (fun _ _ h => h)).mono (by omega)))).trans (HBL5.out.mono (by omega))).setCell (p := ⟨ob, 5, none⟩) (by show rs ≤ ob; omega) _
        obtain ⟨w6, hw6⟩ : ∃ w6, w5.setCell ⟨ob, 5, none⟩ (.slice (some ⟨g', 0, none⟩) (j + 1) cap') = w6 := ⟨_, rfl⟩
        have hrs6 : w5.heap[rs]? = some (.cells #[.int .i64 0, .bool false, .slice none 0 0, .int .i64 0, .string ⟨#[]⟩, .slice none 0 0, .slice none 0 0] 28) := (HBL5.out.block rs (by omega)).trans ((HB3.out.block rs (by omega) (fun h => h)).trans HRS.out)
        have hrs7 : (w5.setCell ⟨ob, 5, none⟩ (.slice (some ⟨g', 0, none⟩) (j + 1) cap')).heap[rs]? = some (.cells #[.int .i64 0, .bool false, .slice none 0 0, .int .i64 0, .string ⟨#[]⟩, .slice none 0 0, .slice none 0 0] 28) := (Below.heap_setCell _ _ _ _ (show rs ≠ ob by omega)).trans hrs6
        rw [hw6] at hnd hbt hrs7
        rw [hw6]
        have HND2 := Lib.hid (hnd.elim (fun h => HACC.out ▸ h) (fun h => absurd h (by omega)))
        have HBT := Lib.hid hbt
        have HR7 := Lib.hid hrs7
        clear hnd hw6 HW5 HG5 HAT5 HBL5 HOB5 HOWN HF7 HFT HB3 HZ HNA HBW HV2 hbt hrs6 hrs7 hgN
        go_wp2_with fail
        go_roundw
        case rel => exact ⟨j + 1, cap', some ⟨g', 0, none⟩, by omega, by go_num, HND2.out, HR7.out, HBT.out⟩
        case measure => simp [RowKit.intOf]; omega
      · skip
        go_simp
        refine (HF.out wr.drew ((But.refl (fun _ => False) wr).drew)).mono ?_
        rintro e9 w2 ⟨cs3, rfl, hv2, hb2⟩
        obtain ⟨k3, neg3, A3, n3, c3, ex3, t3, LA3, ln3, lc3, KA3, kn3, kc3, rfl, -, -⟩ := hv2.seven
        (try dsimp only)
        have hbW : But (fun _ => False) wr w2 := ((But.refl (fun _ => False) wr).drew).trans (But.of hb2)
        have HV2 := Lib.hid (show VIn w2 (fun b => wr.heap.size ≤ b ∧ b < w2.heap.size) item [.int .i64 k3, .bool neg3, .slice A3 n3 c3, .int .i64 ex3, .string t3, .slice LA3 ln3 lc3, .slice KA3 kn3 kc3] from hv2)
        have HBW := Lib.hid hbW
        have c52 : w2.cell? ⟨ob, 5, none⟩ = some (.slice LA j lc) := hbW.cell_some c5 (fun h => h)
        have c53 : (w2.alloc (.cells #[.int .i64 k3, .bool neg3, .slice A3 n3 c3, .int .i64 ex3, .string t3, .slice LA3 ln3 lc3, .slice KA3 kn3 kc3] 28)).cell? ⟨ob, 5, none⟩ = some (.slice LA j lc) := (hbW.alloc _).cell_some c5 (fun h => h)
        refine hK _ _ trivial (fun hHeld2 => ?_)
        clear hK K hbW hb2 hv2
        try simp only [Act.put, List.setIfInBounds_toArray, List.set_cons_zero, List.set_cons_succ]
        refine wpAnyH_ready (rs := [1, 5]) (by kernel_rfl) (by simp) (AllReadyH.cons (o := ⟨_, _, _, _, _, _⟩) rfl (fun K hK => ?_) (AllReadyH.cons (o := ⟨_, _, _, _, _, _⟩) rfl (fun K hK => ?_) AllReadyH.nil))
        · skip
          go_simp
          refine hK _ _ trivial (fun hHeld1 => ?_)
          clear hK K
          try simp only [Act.put, List.setIfInBounds_toArray, List.set_cons_zero, List.set_cons_succ]
          refine wpAnyH_ready (rs := [5]) (by kernel_rfl) (by simp) (AllReadyH.cons (o := ⟨_, _, _, _, _, _⟩) rfl (fun K hK => ?_) AllReadyH.nil)
          go_simp
          refine hK _ _ trivial (fun hHeld3 => ?_)
          clear hK K
          try simp only [Act.put, List.setIfInBounds_toArray, List.set_cons_zero, List.set_cons_succ]
          have hb3 : But (fun _ => False) wr (w2.alloc (.cells #[.int .i64 k3, .bool neg3, .slice A3 n3 c3, .int .i64 ex3, .string t3, .slice LA3 ln3 lc3, .slice KA3 kn3 kc3] 28)) := HBW.out.alloc _
          have hgr := HRN.out.hg.keep hb3 (fun k hk => hk.elim)
          obtain ⟨fs, hown, hf7, hft⟩ := hgr
          rw [HRN.out.hl] at hown hf7
          have HOWN := Lib.hid hown
          have HF7 := Lib.hid hf7
          have HFT := Lib.hid hft
          have HB3 := Lib.hid hb3
          have HZ := Lib.hid (new7 w2 (.int .i64 k3) (.bool neg3) (.slice A3 n3 c3) (.int .i64 ex3) (.string t3) (.slice LA3 ln3 lc3) (.slice KA3 kn3 kc3) 28)
          have HNA := Lib.hid (show N ≤ (w2.alloc (.cells #[.int .i64 k3, .bool neg3, .slice A3 n3 c3, .int .i64 ex3, .string t3, .slice LA3 ln3 lc3, .slice KA3 kn3 kc3] 28)).heap.size from Nat.le_trans HRN.out.hw hb3.size)
          have hjj := HRN.out.hj
          clear hown hf7 hft hb3
          refine wpAnyH_ready (rs := [6]) (by kernel_rfl) (by simp) (AllReadyH.cons (o := ⟨_, _, _, _, _, _⟩) rfl (fun K hK => ?_) AllReadyH.nil)
          refine step_append_at (base := N) (e := 28) (v := .slice LA j lc) (n := j) (xs := flatC fs id j) (news := [.int .i64 k3, .bool neg3, .slice A3 n3 c3, .int .i64 ex3, .string t3, .slice LA3 ln3 lc3, .slice KA3 kn3 kc3]) (m := 1) (c := 1) (ad := ⟨w2.heap.size, 0, none⟩) rfl (.tmp 22) (.tmp 26) 25 rfl Tryz.underlying25 hi7 hp7 hq7 hr7 rfl (by decide) rfl HOWN.out rfl rfl HZ.out (by simp [Value.oneCell']) (by unfold maxLen; omega) (by omega) HNA.out ?_
          intro v' w5 hown5 hg5 _ hat5
          obtain ⟨g', cap', rfl⟩ := ownsRow_succ hown5
          have hgN : N ≤ g' := (ownsRow_lt hown5 rfl).1
          have hbl5 : Below N (w2.alloc (.cells #[.int .i64 k3, .bool neg3, .slice A3 n3 c3, .int .i64 ex3, .string t3, .slice LA3 ln3 lc3, .slice KA3 kn3 kc3] 28)) w5 := (Below.refl N _).grown hg5 HNA.out (fun q e => (ownsRow_lt HOWN.out e).1)
          have hob5 : w5.heap[ob]? = _ := (hbl5.block ob HRN.out.hn).trans ((HB3.out.block ob (Array.getElem?_eq_some_iff.1 HRN.out.ho).1 (fun h => h)).trans HRN.out.ho)
          have o5 : w5.cell? ⟨ob, 5, none⟩ = some (.slice LA j lc) := cell_at3 hob5 rfl
          have p5 : w5.frozen? ⟨ob, 5, none⟩ = false := by simp [World.frozen?, hob5]
          have HW5 := Lib.hid hown5
          have HG5 := Lib.hid hg5
          have HAT5 := Lib.hid hat5
          have HBL5 := Lib.hid hbl5
          have HOB5 := Lib.hid hob5
          (try dsimp only)
          refine hK _ _ trivial (fun hHeld4 => ?_)
          clear hK K hown5 hg5 hat5 hbl5 hob5 c52 c53
          try simp only [Act.put, List.setIfInBounds_toArray, List.set_cons_zero, List.set_cons_succ]
          refine wpAnyH_take (i := 7) (oi := ⟨_, _, _, _, _, _⟩) (v := ?_) rfl (by kernel_rfl) (by kernel_rfl) (by kernel_rfl) (fun _ _ _ h => h) (Or.inl ⟨by rfl, ?_⟩) (by assumption) ?_
          rotate_left
          · intro w hSw
            (try dsimp only at hSw)
            go_split_ands
            go_simp
            try with_reducible rfl
          try simp only [Act.put, List.setIfInBounds_toArray, List.set_cons_zero, List.set_cons_succ]
          refine wpAnyH_ready (rs := [8]) (by kernel_rfl) (by simp) (AllReadyH.cons (o := ⟨_, _, _, _, _, _⟩) rfl (fun K hK => ?_) AllReadyH.nil)
          go_simp
          refine hK _ _ trivial (fun hHeld5 => ?_)
          clear hK K o5 p5
          try simp only [Act.put, List.setIfInBounds_toArray, List.set_cons_zero, List.set_cons_succ]
          refine wpAnyH_done (by kernel_rfl) ?_ _
          have hnd := rnd_step HRN.out HBW.out HV2.out HF7.out HFT.out HG5.out HAT5.out HW5.out HOB5.out HBL5.out
          have hbt : Below rs w (w5.setCell ⟨ob, 5, none⟩ (.slice (some ⟨g', 0, none⟩) (j + 1) cap')) := ((HBEL.out.trans ((((HBW.out.alloc _).below (Nat.le_refl _) (fun _ _ h => h)).mono (by omega)))).trans (HBL5.out.mono (by omega))).setCell (p := ⟨ob, 5, none⟩) (by show rs ≤ ob; omega) _
          obtain ⟨w6, hw6⟩ : ∃ w6, w5.setCell ⟨ob, 5, none⟩ (.slice (some ⟨g', 0, none⟩) (j + 1) cap') = w6 := ⟨_, rfl⟩
          have hrs6 : w5.heap[rs]? = some (.cells #[.int .i64 0, .bool false, .slice none 0 0, .int .i64 0, .string ⟨#[]⟩, .slice none 0 0, .slice none 0 0] 28) := (HBL5.out.block rs (by omega)).trans ((HB3.out.block rs (by omega) (fun h => h)).trans HRS.out)
          have hrs7 : (w5.setCell ⟨ob, 5, none⟩ (.slice (some ⟨g', 0, none⟩) (j + 1) cap')).heap[rs]? = some (.cells #[.int .i64 0, .bool false, .slice none 0 0, .int .i64 0, .string ⟨#[]⟩, .slice none 0 0, .slice none 0 0] 28) := (Below.heap_setCell _ _ _ _ (show rs ≠ ob by omega)).trans hrs6
          rw [hw6] at hnd hbt hrs7
          rw [hw6]
          have HND2 := Lib.hid (hnd.elim (fun h => HACC.out ▸ h) (fun h => absurd h (by omega)))
          have HBT := Lib.hid hbt
          have HR7 := Lib.hid hrs7
          clear hnd hw6 HW5 HG5 HAT5 HBL5 HOB5 HOWN HF7 HFT HB3 HZ HNA HBW HV2 hbt hrs6 hrs7 hgN
          go_wp2_with fail
          go_roundw
          case rel => exact ⟨j + 1, cap', some ⟨g', 0, none⟩, by omega, by go_num, HND2.out, HR7.out, HBT.out⟩
          case measure => simp [RowKit.intOf]; omega
        · skip
          go_simp
          refine hK _ _ trivial (fun hHeld3 => ?_)
          clear hK K
          try simp only [Act.put, List.setIfInBounds_toArray, List.set_cons_zero, List.set_cons_succ]
          refine wpAnyH_ready (rs := [1]) (by kernel_rfl) (by simp) (AllReadyH.cons (o := ⟨_, _, _, _, _, _⟩) rfl (fun K hK => ?_) AllReadyH.nil)
          go_simp
          refine hK _ _ trivial (fun hHeld1 => ?_)
          clear hK K
          try simp only [Act.put, List.setIfInBounds_toArray, List.set_cons_zero, List.set_cons_succ]
          have hb3 : But (fun _ => False) wr (w2.alloc (.cells #[.int .i64 k3, .bool neg3, .slice A3 n3 c3, .int .i64 ex3, .string t3, .slice LA3 ln3 lc3, .slice KA3 kn3 kc3] 28)) := HBW.out.alloc _
          have hgr := HRN.out.hg.keep hb3 (fun k hk => hk.elim)
          obtain ⟨fs, hown, hf7, hft⟩ := hgr
          rw [HRN.out.hl] at hown hf7
          have HOWN := Lib.hid hown
          have HF7 := Lib.hid hf7
          have HFT := Lib.hid hft
          have HB3 := Lib.hid hb3
          have HZ := Lib.hid (new7 w2 (.int .i64 k3) (.bool neg3) (.slice A3 n3 c3) (.int .i64 ex3) (.string t3) (.slice LA3 ln3 lc3) (.slice KA3 kn3 kc3) 28)
          have HNA := Lib.hid (show N ≤ (w2.alloc (.cells #[.int .i64 k3, .bool neg3, .slice A3 n3 c3, .int .i64 ex3, .string t3, .slice LA3 ln3 lc3, .slice KA3 kn3 kc3] 28)).heap.size from Nat.le_trans HRN.out.hw hb3.size)
          have hjj := HRN.out.hj
          clear hown hf7 hft hb3
          refine wpAnyH_ready (rs := [6]) (by kernel_rfl) (by simp) (AllReadyH.cons (o := ⟨_, _, _, _, _, _⟩) rfl (fun K hK => ?_) AllReadyH.nil)
          refine step_append_at (base := N) (e := 28) (v := .slice LA j lc) (n := j) (xs := flatC fs id j) (news := [.int .i64 k3, .bool neg3, .slice A3 n3 c3, .int .i64 ex3, .string t3, .slice LA3 ln3 lc3, .slice KA3 kn3 kc3]) (m := 1) (c := 1) (ad := ⟨w2.heap.size, 0, none⟩) rfl (.tmp 22) (.tmp 26) 25 rfl Tryz.underlying25 hi7 hp7 hq7 hr7 rfl (by decide) rfl HOWN.out rfl rfl HZ.out (by simp [Value.oneCell']) (by unfold maxLen; omega) (by omega) HNA.out ?_
          intro v' w5 hown5 hg5 _ hat5
          obtain ⟨g', cap', rfl⟩ := ownsRow_succ hown5
          have hgN : N ≤ g' := (ownsRow_lt hown5 rfl).1
          have hbl5 : Below N (w2.alloc (.cells #[.int .i64 k3, .bool neg3, .slice A3 n3 c3, .int .i64 ex3, .string t3, .slice LA3 ln3 lc3, .slice KA3 kn3 kc3] 28)) w5 := (Below.refl N _).grown hg5 HNA.out (fun q e => (ownsRow_lt HOWN.out e).1)
          have hob5 : w5.heap[ob]? = _ := (hbl5.block ob HRN.out.hn).trans ((HB3.out.block ob (Array.getElem?_eq_some_iff.1 HRN.out.ho).1 (fun h => h)).trans HRN.out.ho)
          have o5 : w5.cell? ⟨ob, 5, none⟩ = some (.slice LA j lc) := cell_at3 hob5 rfl
          have p5 : w5.frozen? ⟨ob, 5, none⟩ = false := by simp [World.frozen?, hob5]
          have HW5 := Lib.hid hown5
          have HG5 := Lib.hid hg5
          have HAT5 := Lib.hid hat5
          have HBL5 := Lib.hid hbl5
          have HOB5 := Lib.hid hob5
          (try dsimp only)
          refine hK _ _ trivial (fun hHeld4 => ?_)
          clear hK K hown5 hg5 hat5 hbl5 hob5 c52 c53
          try simp only [Act.put, List.setIfInBounds_toArray, List.set_cons_zero, List.set_cons_succ]
          refine wpAnyH_take (i := 7) (oi := ⟨_, _, _, _, _, _⟩) (v := ?_) rfl (by kernel_rfl) (by kernel_rfl) (by kernel_rfl) (fun _ _ _ h => h) (Or.inl ⟨by rfl, ?_⟩) (by assumption) ?_
          rotate_left
          · intro w hSw
            (try dsimp only at hSw)
            go_split_ands
            go_simp
            try with_reducible rfl
          try simp only [Act.put, List.setIfInBounds_toArray, List.set_cons_zero, List.set_cons_succ]
          refine wpAnyH_ready (rs := [8]) (by kernel_rfl) (by simp) (AllReadyH.cons (o := ⟨_, _, _, _, _, _⟩) rfl (fun K hK => ?_) AllReadyH.nil)
          go_simp
          refine hK _ _ trivial (fun hHeld5 => ?_)
          clear hK K o5 p5
          try simp only [Act.put, List.setIfInBounds_toArray, List.set_cons_zero, List.set_cons_succ]
          refine wpAnyH_done (by kernel_rfl) ?_ _
          have hnd := rnd_step HRN.out HBW.out HV2.out HF7.out HFT.out HG5.out HAT5.out HW5.out HOB5.out HBL5.out
          have hbt : Below rs w (w5.setCell ⟨ob, 5, none⟩ (.slice (some ⟨g', 0, none⟩) (j + 1) cap')) := ((HBEL.out.trans ((((HBW.out.alloc _).below (Nat.le_refl _) (fun _ _ h => h)).mono (by omega)))).trans (HBL5.out.mono (by omega))).setCell (p := ⟨ob, 5, none⟩) (by show rs ≤ ob; omega) _
          obtain ⟨w6, hw6⟩ : ∃ w6, w5.setCell ⟨ob, 5, none⟩ (.slice (some ⟨g', 0, none⟩) (j + 1) cap') = w6 := ⟨_, rfl⟩
          have hrs6 : w5.heap[rs]? = some (.cells #[.int .i64 0, .bool false, .slice none 0 0, .int .i64 0, .string ⟨#[]⟩, .slice none 0 0, .slice none 0 0] 28) := (HBL5.out.block rs (by omega)).trans ((HB3.out.block rs (by omega) (fun h => h)).trans HRS.out)
          have hrs7 : (w5.setCell ⟨ob, 5, none⟩ (.slice (some ⟨g', 0, none⟩) (j + 1) cap')).heap[rs]? = some (.cells #[.int .i64 0, .bool false, .slice none 0 0, .int .i64 0, .string ⟨#[]⟩, .slice none 0 0, .slice none 0 0] 28) := (Below.heap_setCell _ _ _ _ (show rs ≠ ob by omega)).trans hrs6
          rw [hw6] at hnd hbt hrs7
          rw [hw6]
          have HND2 := Lib.hid (hnd.elim (fun h => HACC.out ▸ h) (fun h => absurd h (by omega)))
          have HBT := Lib.hid hbt
          have HR7 := Lib.hid hrs7
          clear hnd hw6 HW5 HG5 HAT5 HBL5 HOB5 HOWN HF7 HFT HB3 HZ HNA HBW HV2 hbt hrs6 hrs7 hgN
          go_wp2_with fail
          go_roundw
          case rel => exact ⟨j + 1, cap', some ⟨g', 0, none⟩, by omega, by go_num, HND2.out, HR7.out, HBT.out⟩
          case measure => simp [RowKit.intOf]; omega
    · have hnj : ¬ (j : Int) < (ln2 : Int) := by omega
      obtain ⟨o0, o1, o2, o3, o4, o5, o6⟩ := box7_of HRN.out.ho
      obtain ⟨z0, z1, z2, z3, z4, z5, z6⟩ := box7_of HRS.out
      have fz : ∀ i, wr.frozen? ⟨rs, i, none⟩ = false := fun i => frozen_of_row _ _ i _ _ HRS.out
      have HV := Lib.hid (grow_listK HRN.out.hg HRN.out.hl (by omega))
      have hwN := HRN.out.hw
      go_wp2_with fail
      refine bodyPost_ret (v := .tuple #[.agg #[.int .i64 5, .bool false, .slice none 0 0, .int .i64 0, .string ⟨#[]⟩, .slice LA j lc, .slice none 0 0], .int .i64 ((0 : Nat) : Int)]) (by simp [results, Tryz.results20, go_sem, z0, z1, z2, z3, z4, z5, z6]) rfl ?_
      have hend : (ks2.take j).map textK7 = ks2.map textK7 := by rw [show j = ks2.length by have h9 : ks2.length = li2.length := HTE.out.2.1; have := HLN.out; omega, List.take_length]
      have hfin := fin7 (E := 0) (y := listV ((ks2.take j).map textK7)) (show rs + 1 ≤ wr.heap.size by omega) (HV.out.more fun b hb => ⟨by have := hb.1; omega, hb.2⟩) HBEL.out
      rw [hend] at hfin
      exact hfin
set_option maxRecDepth 4000000 in
set_option maxHeartbeats 16000000 in
theorem keysL_c {S : Nat → Prop} {x : VT} {cs : List Value} (vb : Nat) (w : World) (hok : okV x) (h5 : x.kind = 5) (hx : VIn w S x cs) (hS : ∀ b, S b → b < w.heap.size) (hv : w.heap[vb]? = some (.cells cs.toArray 28)) :
    Calls Tryz.prog 20 #[.pointer (some ⟨vb, 0, none⟩)] w fun e w' => ∃ cs' : List Value, e = .returned (.tuple #[.agg cs'.toArray, .int .i64 ((0 : Nat) : Int)]) ∧ VIn w' (fun b => b < w'.heap.size) (listV ((List.range x.list.length).map fun i : Nat => numT (i : Int))) cs' ∧ Below w.heap.size w w' := by
  obtain ⟨i7, hi7, hp7, hq7, hr7⟩ := info_parts infoV7
  have hmf : ∀ (fn : Fn) (first cap : Array Value) (w : World), (Instr.makeFunc fn first cap).run Tryz.prog w = .ok (.func fn first cap) w := fun _ _ _ _ => rfl
  obtain ⟨rs, hrs⟩ : ∃ b, w.heap.size = b := ⟨_, rfl⟩
  have hun := under_ok hok
  have hte := True.intro
  obtain ⟨k2, neg2, xs2, e2, t2, li2, ks2, rfl⟩ : ∃ k2 neg2 xs2 e2 t2 li2 ks2, x = VT.mk k2 neg2 xs2 e2 t2 li2 ks2 := by cases x; exact ⟨_, _, _, _, _, _, _, rfl⟩
  obtain ⟨A2, n2, c2, LA2, ln2, lc2, KA2, kn2, kc2, rfl, -⟩ := hx.parts
  obtain ⟨-, hks, hkn, hln, -⟩ := vin_keysK hx
  have h5' : k2 = 5 := h5
  subst h5'
  have hlnb : li2.length ≤ 16383 := Nat.le_trans (underL_len li2) hun
  have hl2b : ln2 ≤ 16383 := by omega
  have hvl := (Array.getElem?_eq_some_iff.1 hv).1
  obtain ⟨w0, hw0⟩ : ∃ w0, w.alloc (.cells #[.int .i64 0, .bool false, .slice none 0 0, .int .i64 0, .string ⟨#[]⟩, .slice none 0 0, .slice none 0 0] 28) = w0 := ⟨_, rfl⟩
  have hb0 : Below rs w w0 := by rw [← hw0]; exact (Below.refl _ w).alloc (by omega) _
  have hm0 : w0.heap[rs]? = some (.cells #[.int .i64 0, .bool false, .slice none 0 0, .int .i64 0, .string ⟨#[]⟩, .slice none 0 0, .slice none 0 0] 28) := by rw [← hw0, ← hrs]; exact World.alloc_heap_new _ _
  have hs0 : w0.heap.size = rs + 1 := by rw [← hw0, World.size_alloc, hrs]
  obtain ⟨ob, hob⟩ : ∃ ob, w0.heap.size = ob := ⟨_, rfl⟩
  have hro : rs < ob := by omega
  obtain ⟨N, hNr⟩ : ∃ N, N = ob + 1 := ⟨_, rfl⟩
  obtain ⟨w1, hw1⟩ : ∃ w1, w0.alloc (.cells #[.int .i64 5, .bool false, .slice none 0 0, .int .i64 0, .string ⟨#[]⟩, .slice none 0 0, .slice none 0 0] 28) = w1 := ⟨_, rfl⟩
  have hb1 : Below ob w0 w1 := by rw [← hw1]; exact (Below.refl _ w0).alloc (by omega) _
  have hm1 : w1.heap[ob]? = some (.cells #[.int .i64 5, .bool false, .slice none 0 0, .int .i64 0, .string ⟨#[]⟩, .slice none 0 0, .slice none 0 0] 28) := by rw [← hw1, ← hob]; exact World.alloc_heap_new _ _
  have hs1 : w1.heap.size = ob + 1 := by rw [← hw1, World.size_alloc, hob]
  have hv0 := (hb0.block vb (by omega)).trans hv
  have hv1 := (hb1.block vb (by omega)).trans hv0
  have hrs1 := (hb1.block rs (by omega)).trans hm0
  obtain ⟨y0, y1, y2, y3, y4, y5, y6⟩ := box7_of hv0
  obtain ⟨u0, u1, u2, u3, u4, u5, u6⟩ := box7_of hv1
  have HB1 := Lib.hid (hb0.trans (hb1.mono (by omega)))
  have HW0 := Lib.hid hw0
  have HW1 := Lib.hid hw1
  have HV1 := Lib.hid hv1
  have HR1 := Lib.hid hrs1
  have HRN0 := Lib.hid (show RndK w1 N ob 0 none 0 [] from ⟨hm1, ⟨fun _ => [], ⟨rfl, .inl ⟨rfl, rfl⟩⟩, fun i hi => absurd hi (by simp), fun i x hx => absurd hx (by simp)⟩, rfl, by omega, by omega, by omega⟩)
  have HKS := Lib.hid hks
  have HLN := Lib.hid hln
  have HS := Lib.hid (show ∀ b, S b → b < rs from fun b hb => by have := hS b hb; omega)
  have HRS0 := Lib.hid hrs
  have hs0' := hob
  have HV0 := Lib.hid hv
  have hbu := fun W => build5K W
  have HVL := Lib.hid (show vb < rs by omega)
  have HTE := Lib.hid hte
  rw [hrs]
  clear hw0 hw1 hb0 hb1 hm0 hm1 hs0 hs1 hob hv hv0 hv1 hrs1 hx hks hln hS hok hun h5 hte hvl
  go_enter Tryz.func20, Tryz.ntmps20
  go_upto_region 1 with fail
  try rw [hrs]
  clear hrs
  rw [HW0.out]
  go_upto_region 9 with fail
  try rw [hs0']
  rw [HW1.out]
  clear y0 y1 y2 y3 y4 y5 y6 hs0'
  go_upto_region 10 with fail
  clear u0 u1 u2 u3 u4 u5 u6
  go_loopw [18] (fun iv wr => ∃ (j lc : Nat) (LA : Option Addr), j ≤ ln2 ∧ iv = .int .i64 (j : Int) ∧ Hid (RndK wr N ob j LA lc ((List.range j).map fun i : Nat => numT (i : Int))) ∧ Hid (wr.heap[rs]? = some (.cells #[.int .i64 0, .bool false, .slice none 0 0, .int .i64 0, .string ⟨#[]⟩, .slice none 0 0, .slice none 0 0] 28)) ∧ Hid (Below rs w wr)) (fun iv _ => ln2 - (RowKit.intOf iv).toNat)
  case atStart => exact ⟨0, 0, none, Nat.zero_le _, rfl, HRN0.out, HR1.out, HB1.out⟩
  case round =>
    obtain ⟨j, lc, LA, hjn, rfl, HRN, HRS, HBEL⟩ := hrel
    by_cases hj : j < ln2
    · have hjlt : (j : Int) < (ln2 : Int) := by omega
      have hjw : IntKind.i64.wrap ((j : Int) + 1) = (j : Int) + 1 := IntWalk.i64_in _ (by omega)
      obtain ⟨item, hitem⟩ : ∃ item, numT (j : Int) = item := ⟨_, rfl⟩
      have HACC := Lib.hid (show ((List.range j).map fun i : Nat => numT (i : Int)) ++ [item] = (List.range (j + 1)).map fun i : Nat => numT (i : Int) by rw [List.range_succ, ← hitem]; simp)
      have HF := Lib.hid (show ∀ W, But (fun _ => False) wr W → Calls Tryz.prog 23 #[.int .i64 (j : Int)] W (fun e w' => ∃ cs : List Value, e = .returned (.agg cs.toArray) ∧ VIn w' (fun b => W.heap.size ≤ b ∧ b < w'.heap.size) item cs ∧ Below W.heap.size W w') from fun W hW => by
        refine (number_c W (j : Int) (by omega) (by omega) (numT_lenK _)).mono ?_
        rintro e9 w9 ⟨cs9, rfl, hv9, hb9⟩
        exact ⟨cs9, rfl, by rw [← hitem]; exact hv9, hb9⟩)
      clear hitem
      have c5 : wr.cell? ⟨ob, 5, none⟩ = some (.slice LA j lc) := cell_at3 HRN.out.ho rfl
      have hwN := HRN.out.hw
      go_upto_region 12 with fail
      refine wp_region_held_drew (S := fun _ => True) (by kernel_rfl) trivial (fun hHeld => ?_)
      (try simp only [List.size_toArray, List.length_cons, List.length_nil, Nat.reduceAdd, Array.replicate_succ, Array.replicate_zero, List.push_toArray, List.append_toArray, List.nil_append, List.cons_append])
      refine wpAnyH_take (i := 0) (oi := ⟨_, _, _, _, _, _⟩) (v := ?_) rfl (by kernel_rfl) (by kernel_rfl) (by kernel_rfl) (fun _ _ _ h => h) (Or.inl ⟨by rfl, ?_⟩) (by assumption) ?_
      rotate_left
      · intro w hSw
        (try dsimp only at hSw)
        go_split_ands
        go_simp
        try with_reducible rfl
      try simp only [Act.put, List.setIfInBounds_toArray, List.set_cons_zero, List.set_cons_succ]
      refine wpAnyH_take (i := 2) (oi := ⟨_, _, _, _, _, _⟩) (v := ?_) rfl (by kernel_rfl) (by kernel_rfl) (by kernel_rfl) (fun _ _ _ h => h) (Or.inl ⟨by rfl, ?_⟩) (by assumption) ?_
      rotate_left
      · intro w hSw
        (try dsimp only at hSw)
        go_split_ands
        go_simp
        try with_reducible rfl
      try simp only [Act.put, List.setIfInBounds_toArray, List.set_cons_zero, List.set_cons_succ]
      refine wpAnyH_take (i := 3) (oi := ⟨_, _, _, _, _, _⟩) (v := ?_) rfl (by kernel_rfl) (by kernel_rfl) (by kernel_rfl) (fun _ _ _ h => h) (Or.inl ⟨by rfl, ?_⟩) (by assumption) ?_
      rotate_left
      · intro w hSw
        (try dsimp only at hSw)
        go_split_ands
        go_simp
        try with_reducible rfl
      try simp only [Act.put, List.setIfInBounds_toArray, List.set_cons_zero, List.set_cons_succ]
      refine wpAnyH_ready (rs := [1, 4]) (by kernel_rfl) (by simp) (AllReadyH.cons (o := ⟨_, _, _, _, _, _⟩) rfl (fun K hK => ?_) (AllReadyH.cons (o := ⟨_, _, _, _, _, _⟩) rfl (fun K hK => ?_) AllReadyH.nil))
      · skip
        go_simp
        refine hK _ _ trivial (fun hHeld1 => ?_)
        clear hK K
        try simp only [Act.put, List.setIfInBounds_toArray, List.set_cons_zero, List.set_cons_succ]
        refine wpAnyH_ready (rs := [4]) (by kernel_rfl) (by simp) (AllReadyH.cons (o := ⟨_, _, _, _, _, _⟩) rfl (fun K hK => ?_) AllReadyH.nil)
        go_simp
        refine (HF.out wr.drew ((But.refl (fun _ => False) wr).drew)).mono ?_
        rintro e9 w2 ⟨cs3, rfl, hv2, hb2⟩
        obtain ⟨k3, neg3, A3, n3, c3, ex3, t3, LA3, ln3, lc3, KA3, kn3, kc3, rfl, -, -⟩ := hv2.seven
        (try dsimp only)
        have hbW : But (fun _ => False) wr w2 := ((But.refl (fun _ => False) wr).drew).trans (But.of hb2)
        have HV2 := Lib.hid (show VIn w2 (fun b => wr.heap.size ≤ b ∧ b < w2.heap.size) item [.int .i64 k3, .bool neg3, .slice A3 n3 c3, .int .i64 ex3, .string t3, .slice LA3 ln3 lc3, .slice KA3 kn3 kc3] from hv2)
        have HBW := Lib.hid hbW
        have c52 : w2.cell? ⟨ob, 5, none⟩ = some (.slice LA j lc) := hbW.cell_some c5 (fun h => h)
        have c53 : (w2.alloc (.cells #[.int .i64 k3, .bool neg3, .slice A3 n3 c3, .int .i64 ex3, .string t3, .slice LA3 ln3 lc3, .slice KA3 kn3 kc3] 28)).cell? ⟨ob, 5, none⟩ = some (.slice LA j lc) := (hbW.alloc _).cell_some c5 (fun h => h)
        refine hK _ _ trivial (fun hHeld2 => ?_)
        clear hK K hbW hb2 hv2
        try simp only [Act.put, List.setIfInBounds_toArray, List.set_cons_zero, List.set_cons_succ]
        refine wpAnyH_ready (rs := [5]) (by kernel_rfl) (by simp) (AllReadyH.cons (o := ⟨_, _, _, _, _, _⟩) rfl (fun K hK => ?_) AllReadyH.nil)
        go_simp
        refine hK _ _ trivial (fun hHeld3 => ?_)
        clear hK K
        try simp only [Act.put, List.setIfInBounds_toArray, List.set_cons_zero, List.set_cons_succ]
        have hb3 : But (fun _ => False) wr (w2.alloc (.cells #[.int .i64 k3, .bool neg3, .slice A3 n3 c3, .int .i64 ex3, .string t3, .slice LA3 ln3 lc3, .slice KA3 kn3 kc3] 28)) := HBW.out.alloc _
        have hgr := HRN.out.hg.keep hb3 (fun k hk => hk.elim)
        obtain ⟨fs, hown, hf7, hft⟩ := hgr
        rw [HRN.out.hl] at hown hf7
        have HOWN := Lib.hid hown
        have HF7 := Lib.hid hf7
        have HFT := Lib.hid hft
        have HB3 := Lib.hid hb3
        have HZ := Lib.hid (new7 w2 (.int .i64 k3) (.bool neg3) (.slice A3 n3 c3) (.int .i64 ex3) (.string t3) (.slice LA3 ln3 lc3) (.slice KA3 kn3 kc3) 28)
        have HNA := Lib.hid (show N ≤ (w2.alloc (.cells #[.int .i64 k3, .bool neg3, .slice A3 n3 c3, .int .i64 ex3, .string t3, .slice LA3 ln3 lc3, .slice KA3 kn3 kc3] 28)).heap.size from Nat.le_trans HRN.out.hw hb3.size)
        have hjj := HRN.out.hj
        clear hown hf7 hft hb3
        refine wpAnyH_ready (rs := [6]) (by kernel_rfl) (by simp) (AllReadyH.cons (o := ⟨_, _, _, _, _, _⟩) rfl (fun K hK => ?_) AllReadyH.nil)
        refine step_append_at (base := N) (e := 28) (v := .slice LA j lc) (n := j) (xs := flatC fs id j) (news := [.int .i64 k3, .bool neg3, .slice A3 n3 c3, .int .i64 ex3, .string t3, .slice LA3 ln3 lc3, .slice KA3 kn3 kc3]) (m := 1) (c := 1) (ad := ⟨w2.heap.size, 0, none⟩) rfl (.tmp 22) (.tmp 26) 25 rfl Tryz.underlying25 hi7 hp7 hq7 hr7 rfl (by decide) rfl HOWN.out rfl rfl HZ.out (by simp [Value.oneCell']) (by unfold maxLen; omega) (by omega) HNA.out ?_
        intro v' w5 hown5 hg5 _ hat5
        obtain ⟨g', cap', rfl⟩ := ownsRow_succ hown5
        have hgN : N ≤ g' := (ownsRow_lt hown5 rfl).1
        have hbl5 : Below N (w2.alloc (.cells #[.int .i64 k3, .bool neg3, .slice A3 n3 c3, .int .i64 ex3, .string t3, .slice LA3 ln3 lc3, .slice KA3 kn3 kc3] 28)) w5 := (Below.refl N _).grown hg5 HNA.out (fun q e => (ownsRow_lt HOWN.out e).1)
        have hob5 : w5.heap[ob]? = _ := (hbl5.block ob HRN.out.hn).trans ((HB3.out.block ob (Array.getElem?_eq_some_iff.1 HRN.out.ho).1 (fun h => h)).trans HRN.out.ho)
        have o5 : w5.cell? ⟨ob, 5, none⟩ = some (.slice LA j lc) := cell_at3 hob5 rfl
        have p5 : w5.frozen? ⟨ob, 5, none⟩ = false := by simp [World.frozen?, hob5]
        have HW5 := Lib.hid hown5
        have HG5 := Lib.hid hg5
        have HAT5 := Lib.hid hat5
        have HBL5 := Lib.hid hbl5
        have HOB5 := Lib.hid hob5
        (try dsimp only)
        refine hK _ _ trivial (fun hHeld4 => ?_)
        clear hK K hown5 hg5 hat5 hbl5 hob5 c52 c53
        try simp only [Act.put, List.setIfInBounds_toArray, List.set_cons_zero, List.set_cons_succ]
        refine wpAnyH_take (i := 7) (oi := ⟨_, _, _, _, _, _⟩) (v := ?_) rfl (by kernel_rfl) (by kernel_rfl) (by kernel_rfl) (fun _ _ _ h => h) (Or.inl ⟨by rfl, ?_⟩) (by assumption) ?_
        rotate_left
        · intro w hSw
          (try dsimp only at hSw)
          go_split_ands
          go_simp
          try with_reducible rfl
        try simp only [Act.put, List.setIfInBounds_toArray, List.set_cons_zero, List.set_cons_succ]
        refine wpAnyH_ready (rs := [8]) (by kernel_rfl) (by simp) (AllReadyH.cons (o := ⟨_, _, _, _, _, _⟩) rfl (fun K hK => ?_) AllReadyH.nil)
        go_simp
        refine hK _ _ trivial (fun hHeld5 => ?_)
        clear hK K o5 p5
        try simp only [Act.put, List.setIfInBounds_toArray, List.set_cons_zero, List.set_cons_succ]
        refine wpAnyH_done (by kernel_rfl) ?_ _
        have hnd := rnd_step HRN.out HBW.out HV2.out HF7.out HFT.out HG5.out HAT5.out HW5.out HOB5.out HBL5.out
        have hbt : Below rs w (w5.setCell ⟨ob, 5, none⟩ (.slice (some ⟨g', 0, none⟩) (j + 1) cap')) := ((HBEL.out.trans ((((HBW.out.alloc _).below (Nat.le_refl _) (fun _ _ h => h)).mono (by omega)))).trans (HBL5.out.mono (by omega))).setCell (p := ⟨ob, 5, none⟩) (by show rs ≤ ob; omega) _
        obtain ⟨w6, hw6⟩ : ∃ w6, w5.setCell ⟨ob, 5, none⟩ (.slice (some ⟨g', 0, none⟩) (j + 1) cap') = w6 := ⟨_, rfl⟩
        have hrs6 : w5.heap[rs]? = some (.cells #[.int .i64 0, .bool false, .slice none 0 0, .int .i64 0, .string ⟨#[]⟩, .slice none 0 0, .slice none 0 0] 28) := (HBL5.out.block rs (by omega)).trans ((HB3.out.block rs (by omega) (fun h => h)).trans HRS.out)
        have hrs7 : (w5.setCell ⟨ob, 5, none⟩ (.slice (some ⟨g', 0, none⟩) (j + 1) cap')).heap[rs]? = some (.cells #[.int .i64 0, .bool false, .slice none 0 0, .int .i64 0, .string ⟨#[]⟩, .slice none 0 0, .slice none 0 0] 28) := (Below.heap_setCell _ _ _ _ (show rs ≠ ob by omega)).trans hrs6
        rw [hw6] at hnd hbt hrs7
        rw [hw6]
        have HND2 := Lib.hid (hnd.elim (fun h => HACC.out ▸ h) (fun h => absurd h (by omega)))
        have HBT := Lib.hid hbt
        have HR7 := Lib.hid hrs7
        clear hnd hw6 HW5 HG5 HAT5 HBL5 HOB5 HOWN HF7 HFT HB3 HZ HNA HBW HV2 hbt hrs6 hrs7 hgN
        go_wp2_with fail
        go_roundw
        case rel => exact ⟨j + 1, cap', some ⟨g', 0, none⟩, by omega, by go_num, HND2.out, HR7.out, HBT.out⟩
        case measure => simp [RowKit.intOf]; omega
      · skip
        go_simp
        refine (HF.out wr.drew ((But.refl (fun _ => False) wr).drew)).mono ?_
        rintro e9 w2 ⟨cs3, rfl, hv2, hb2⟩
        obtain ⟨k3, neg3, A3, n3, c3, ex3, t3, LA3, ln3, lc3, KA3, kn3, kc3, rfl, -, -⟩ := hv2.seven
        (try dsimp only)
        have hbW : But (fun _ => False) wr w2 := ((But.refl (fun _ => False) wr).drew).trans (But.of hb2)
        have HV2 := Lib.hid (show VIn w2 (fun b => wr.heap.size ≤ b ∧ b < w2.heap.size) item [.int .i64 k3, .bool neg3, .slice A3 n3 c3, .int .i64 ex3, .string t3, .slice LA3 ln3 lc3, .slice KA3 kn3 kc3] from hv2)
        have HBW := Lib.hid hbW
        have c52 : w2.cell? ⟨ob, 5, none⟩ = some (.slice LA j lc) := hbW.cell_some c5 (fun h => h)
        have c53 : (w2.alloc (.cells #[.int .i64 k3, .bool neg3, .slice A3 n3 c3, .int .i64 ex3, .string t3, .slice LA3 ln3 lc3, .slice KA3 kn3 kc3] 28)).cell? ⟨ob, 5, none⟩ = some (.slice LA j lc) := (hbW.alloc _).cell_some c5 (fun h => h)
        refine hK _ _ trivial (fun hHeld2 => ?_)
        clear hK K hbW hb2 hv2
        try simp only [Act.put, List.setIfInBounds_toArray, List.set_cons_zero, List.set_cons_succ]
        refine wpAnyH_ready (rs := [1, 5]) (by kernel_rfl) (by simp) (AllReadyH.cons (o := ⟨_, _, _, _, _, _⟩) rfl (fun K hK => ?_) (AllReadyH.cons (o := ⟨_, _, _, _, _, _⟩) rfl (fun K hK => ?_) AllReadyH.nil))
        · skip
          go_simp
          refine hK _ _ trivial (fun hHeld1 => ?_)
          clear hK K
          try simp only [Act.put, List.setIfInBounds_toArray, List.set_cons_zero, List.set_cons_succ]
          refine wpAnyH_ready (rs := [5]) (by kernel_rfl) (by simp) (AllReadyH.cons (o := ⟨_, _, _, _, _, _⟩) rfl (fun K hK => ?_) AllReadyH.nil)
          go_simp
          refine hK _ _ trivial (fun hHeld3 => ?_)
          clear hK K
          try simp only [Act.put, List.setIfInBounds_toArray, List.set_cons_zero, List.set_cons_succ]
          have hb3 : But (fun _ => False) wr (w2.alloc (.cells #[.int .i64 k3, .bool neg3, .slice A3 n3 c3, .int .i64 ex3, .string t3, .slice LA3 ln3 lc3, .slice KA3 kn3 kc3] 28)) := HBW.out.alloc _
          have hgr := HRN.out.hg.keep hb3 (fun k hk => hk.elim)
          obtain ⟨fs, hown, hf7, hft⟩ := hgr
          rw [HRN.out.hl] at hown hf7
          have HOWN := Lib.hid hown
          have HF7 := Lib.hid hf7
          have HFT := Lib.hid hft
          have HB3 := Lib.hid hb3
          have HZ := Lib.hid (new7 w2 (.int .i64 k3) (.bool neg3) (.slice A3 n3 c3) (.int .i64 ex3) (.string t3) (.slice LA3 ln3 lc3) (.slice KA3 kn3 kc3) 28)
          have HNA := Lib.hid (show N ≤ (w2.alloc (.cells #[.int .i64 k3, .bool neg3, .slice A3 n3 c3, .int .i64 ex3, .string t3, .slice LA3 ln3 lc3, .slice KA3 kn3 kc3] 28)).heap.size from Nat.le_trans HRN.out.hw hb3.size)
          have hjj := HRN.out.hj
          clear hown hf7 hft hb3
          refine wpAnyH_ready (rs := [6]) (by kernel_rfl) (by simp) (AllReadyH.cons (o := ⟨_, _, _, _, _, _⟩) rfl (fun K hK => ?_) AllReadyH.nil)
          refine step_append_at (base := N) (e := 28) (v := .slice LA j lc) (n := j) (xs := flatC fs id j) (news := [.int .i64 k3, .bool neg3, .slice A3 n3 c3, .int .i64 ex3, .string t3, .slice LA3 ln3 lc3, .slice KA3 kn3 kc3]) (m := 1) (c := 1) (ad := ⟨w2.heap.size, 0, none⟩) rfl (.tmp 22) (.tmp 26) 25 rfl Tryz.underlying25 hi7 hp7 hq7 hr7 rfl (by decide) rfl HOWN.out rfl rfl HZ.out (by simp [Value.oneCell']) (by unfold maxLen; omega) (by omega) HNA.out ?_
          intro v' w5 hown5 hg5 _ hat5
          obtain ⟨g', cap', rfl⟩ := ownsRow_succ hown5
          have hgN : N ≤ g' := (ownsRow_lt hown5 rfl).1
          have hbl5 : Below N (w2.alloc (.cells #[.int .i64 k3, .bool neg3, .slice A3 n3 c3, .int .i64 ex3, .string t3, .slice LA3 ln3 lc3, .slice KA3 kn3 kc3] 28)) w5 := (Below.refl N _).grown hg5 HNA.out (fun q e => (ownsRow_lt HOWN.out e).1)
          have hob5 : w5.heap[ob]? = _ := (hbl5.block ob HRN.out.hn).trans ((HB3.out.block ob (Array.getElem?_eq_some_iff.1 HRN.out.ho).1 (fun h => h)).trans HRN.out.ho)
          have o5 : w5.cell? ⟨ob, 5, none⟩ = some (.slice LA j lc) := cell_at3 hob5 rfl
          have p5 : w5.frozen? ⟨ob, 5, none⟩ = false := by simp [World.frozen?, hob5]
          have HW5 := Lib.hid hown5
          have HG5 := Lib.hid hg5
          have HAT5 := Lib.hid hat5
          have HBL5 := Lib.hid hbl5
          have HOB5 := Lib.hid hob5
          (try dsimp only)
          refine hK _ _ trivial (fun hHeld4 => ?_)
          clear hK K hown5 hg5 hat5 hbl5 hob5 c52 c53
          try simp only [Act.put, List.setIfInBounds_toArray, List.set_cons_zero, List.set_cons_succ]
          refine wpAnyH_take (i := 7) (oi := ⟨_, _, _, _, _, _⟩) (v := ?_) rfl (by kernel_rfl) (by kernel_rfl) (by kernel_rfl) (fun _ _ _ h => h) (Or.inl ⟨by rfl, ?_⟩) (by assumption) ?_
          rotate_left
          · intro w hSw
            (try dsimp only at hSw)
            go_split_ands
            go_simp
            try with_reducible rfl
          try simp only [Act.put, List.setIfInBounds_toArray, List.set_cons_zero, List.set_cons_succ]
          refine wpAnyH_ready (rs := [8]) (by kernel_rfl) (by simp) (AllReadyH.cons (o := ⟨_, _, _, _, _, _⟩) rfl (fun K hK => ?_) AllReadyH.nil)
          go_simp
          refine hK _ _ trivial (fun hHeld5 => ?_)
          clear hK K o5 p5
          try simp only [Act.put, List.setIfInBounds_toArray, List.set_cons_zero, List.set_cons_succ]
          refine wpAnyH_done (by kernel_rfl) ?_ _
          have hnd := rnd_step HRN.out HBW.out HV2.out HF7.out HFT.out HG5.out HAT5.out HW5.out HOB5.out HBL5.out
          have hbt : Below rs w (w5.setCell ⟨ob, 5, none⟩ (.slice (some ⟨g', 0, none⟩) (j + 1) cap')) := ((HBEL.out.trans ((((HBW.out.alloc _).below (Nat.le_refl _) (fun _ _ h => h)).mono (by omega)))).trans (HBL5.out.mono (by omega))).setCell (p := ⟨ob, 5, none⟩) (by show rs ≤ ob; omega) _
          obtain ⟨w6, hw6⟩ : ∃ w6, w5.setCell ⟨ob, 5, none⟩ (.slice (some ⟨g', 0, none⟩) (j + 1) cap') = w6 := ⟨_, rfl⟩
          have hrs6 : w5.heap[rs]? = some (.cells #[.int .i64 0, .bool false, .slice none 0 0, .int .i64 0, .string ⟨#[]⟩, .slice none 0 0, .slice none 0 0] 28) := (HBL5.out.block rs (by omega)).trans ((HB3.out.block rs (by omega) (fun h => h)).trans HRS.out)
          have hrs7 : (w5.setCell ⟨ob, 5, none⟩ (.slice (some ⟨g', 0, none⟩) (j + 1) cap')).heap[rs]? = some (.cells #[.int .i64 0, .bool false, .slice none 0 0, .int .i64 0, .string ⟨#[]⟩, .slice none 0 0, .slice none 0 0] 28) := (Below.heap_setCell _ _ _ _ (show rs ≠ ob by omega)).trans hrs6
          rw [hw6] at hnd hbt hrs7
          rw [hw6]
          have HND2 := Lib.hid (hnd.elim (fun h => HACC.out ▸ h) (fun h => absurd h (by omega)))
          have HBT := Lib.hid hbt
          have HR7 := Lib.hid hrs7
          clear hnd hw6 HW5 HG5 HAT5 HBL5 HOB5 HOWN HF7 HFT HB3 HZ HNA HBW HV2 hbt hrs6 hrs7 hgN
          go_wp2_with fail
          go_roundw
          case rel => exact ⟨j + 1, cap', some ⟨g', 0, none⟩, by omega, by go_num, HND2.out, HR7.out, HBT.out⟩
          case measure => simp [RowKit.intOf]; omega
        · skip
          go_simp
          refine hK _ _ trivial (fun hHeld3 => ?_)
          clear hK K
          try simp only [Act.put, List.setIfInBounds_toArray, List.set_cons_zero, List.set_cons_succ]
          refine wpAnyH_ready (rs := [1]) (by kernel_rfl) (by simp) (AllReadyH.cons (o := ⟨_, _, _, _, _, _⟩) rfl (fun K hK => ?_) AllReadyH.nil)
          go_simp
          refine hK _ _ trivial (fun hHeld1 => ?_)
          clear hK K
          try simp only [Act.put, List.setIfInBounds_toArray, List.set_cons_zero, List.set_cons_succ]
          have hb3 : But (fun _ => False) wr (w2.alloc (.cells #[.int .i64 k3, .bool neg3, .slice A3 n3 c3, .int .i64 ex3, .string t3, .slice LA3 ln3 lc3, .slice KA3 kn3 kc3] 28)) := HBW.out.alloc _
          have hgr := HRN.out.hg.keep hb3 (fun k hk => hk.elim)
          obtain ⟨fs, hown, hf7, hft⟩ := hgr
          rw [HRN.out.hl] at hown hf7
          have HOWN := Lib.hid hown
          have HF7 := Lib.hid hf7
          have HFT := Lib.hid hft
          have HB3 := Lib.hid hb3
          have HZ := Lib.hid (new7 w2 (.int .i64 k3) (.bool neg3) (.slice A3 n3 c3) (.int .i64 ex3) (.string t3) (.slice LA3 ln3 lc3) (.slice KA3 kn3 kc3) 28)
          have HNA := Lib.hid (show N ≤ (w2.alloc (.cells #[.int .i64 k3, .bool neg3, .slice A3 n3 c3, .int .i64 ex3, .string t3, .slice LA3 ln3 lc3, .slice KA3 kn3 kc3] 28)).heap.size from Nat.le_trans HRN.out.hw hb3.size)
          have hjj := HRN.out.hj
          clear hown hf7 hft hb3
          refine wpAnyH_ready (rs := [6]) (by kernel_rfl) (by simp) (AllReadyH.cons (o := ⟨_, _, _, _, _, _⟩) rfl (fun K hK => ?_) AllReadyH.nil)
          refine step_append_at (base := N) (e := 28) (v := .slice LA j lc) (n := j) (xs := flatC fs id j) (news := [.int .i64 k3, .bool neg3, .slice A3 n3 c3, .int .i64 ex3, .string t3, .slice LA3 ln3 lc3, .slice KA3 kn3 kc3]) (m := 1) (c := 1) (ad := ⟨w2.heap.size, 0, none⟩) rfl (.tmp 22) (.tmp 26) 25 rfl Tryz.underlying25 hi7 hp7 hq7 hr7 rfl (by decide) rfl HOWN.out rfl rfl HZ.out (by simp [Value.oneCell']) (by unfold maxLen; omega) (by omega) HNA.out ?_
          intro v' w5 hown5 hg5 _ hat5
          obtain ⟨g', cap', rfl⟩ := ownsRow_succ hown5
          have hgN : N ≤ g' := (ownsRow_lt hown5 rfl).1
          have hbl5 : Below N (w2.alloc (.cells #[.int .i64 k3, .bool neg3, .slice A3 n3 c3, .int .i64 ex3, .string t3, .slice LA3 ln3 lc3, .slice KA3 kn3 kc3] 28)) w5 := (Below.refl N _).grown hg5 HNA.out (fun q e => (ownsRow_lt HOWN.out e).1)
          have hob5 : w5.heap[ob]? = _ := (hbl5.block ob HRN.out.hn).trans ((HB3.out.block ob (Array.getElem?_eq_some_iff.1 HRN.out.ho).1 (fun h => h)).trans HRN.out.ho)
          have o5 : w5.cell? ⟨ob, 5, none⟩ = some (.slice LA j lc) := cell_at3 hob5 rfl
          have p5 : w5.frozen? ⟨ob, 5, none⟩ = false := by simp [World.frozen?, hob5]
          have HW5 := Lib.hid hown5
          have HG5 := Lib.hid hg5
          have HAT5 := Lib.hid hat5
          have HBL5 := Lib.hid hbl5
          have HOB5 := Lib.hid hob5
          (try dsimp only)
          refine hK _ _ trivial (fun hHeld4 => ?_)
          clear hK K hown5 hg5 hat5 hbl5 hob5 c52 c53
          try simp only [Act.put, List.setIfInBounds_toArray, List.set_cons_zero, List.set_cons_succ]
          refine wpAnyH_take (i := 7) (oi := ⟨_, _, _, _, _, _⟩) (v := ?_) rfl (by kernel_rfl) (by kernel_rfl) (by kernel_rfl) (fun _ _ _ h => h) (Or.inl ⟨by rfl, ?_⟩) (by assumption) ?_
          rotate_left
          · intro w hSw
            (try dsimp only at hSw)
            go_split_ands
            go_simp
            try with_reducible rfl
          try simp only [Act.put, List.setIfInBounds_toArray, List.set_cons_zero, List.set_cons_succ]
          refine wpAnyH_ready (rs := [8]) (by kernel_rfl) (by simp) (AllReadyH.cons (o := ⟨_, _, _, _, _, _⟩) rfl (fun K hK => ?_) AllReadyH.nil)
          go_simp
          refine hK _ _ trivial (fun hHeld5 => ?_)
          clear hK K o5 p5
          try simp only [Act.put, List.setIfInBounds_toArray, List.set_cons_zero, List.set_cons_succ]
          refine wpAnyH_done (by kernel_rfl) ?_ _
          have hnd := rnd_step HRN.out HBW.out HV2.out HF7.out HFT.out HG5.out HAT5.out HW5.out HOB5.out HBL5.out
          have hbt : Below rs w (w5.setCell ⟨ob, 5, none⟩ (.slice (some ⟨g', 0, none⟩) (j + 1) cap')) := ((HBEL.out.trans ((((HBW.out.alloc _).below (Nat.le_refl _) (fun _ _ h => h)).mono (by omega)))).trans (HBL5.out.mono (by omega))).setCell (p := ⟨ob, 5, none⟩) (by show rs ≤ ob; omega) _
          obtain ⟨w6, hw6⟩ : ∃ w6, w5.setCell ⟨ob, 5, none⟩ (.slice (some ⟨g', 0, none⟩) (j + 1) cap') = w6 := ⟨_, rfl⟩
          have hrs6 : w5.heap[rs]? = some (.cells #[.int .i64 0, .bool false, .slice none 0 0, .int .i64 0, .string ⟨#[]⟩, .slice none 0 0, .slice none 0 0] 28) := (HBL5.out.block rs (by omega)).trans ((HB3.out.block rs (by omega) (fun h => h)).trans HRS.out)
          have hrs7 : (w5.setCell ⟨ob, 5, none⟩ (.slice (some ⟨g', 0, none⟩) (j + 1) cap')).heap[rs]? = some (.cells #[.int .i64 0, .bool false, .slice none 0 0, .int .i64 0, .string ⟨#[]⟩, .slice none 0 0, .slice none 0 0] 28) := (Below.heap_setCell _ _ _ _ (show rs ≠ ob by omega)).trans hrs6
          rw [hw6] at hnd hbt hrs7
          rw [hw6]
          have HND2 := Lib.hid (hnd.elim (fun h => HACC.out ▸ h) (fun h => absurd h (by omega)))
          have HBT := Lib.hid hbt
          have HR7 := Lib.hid hrs7
          clear hnd hw6 HW5 HG5 HAT5 HBL5 HOB5 HOWN HF7 HFT HB3 HZ HNA HBW HV2 hbt hrs6 hrs7 hgN
          go_wp2_with fail
          go_roundw
          case rel => exact ⟨j + 1, cap', some ⟨g', 0, none⟩, by omega, by go_num, HND2.out, HR7.out, HBT.out⟩
          case measure => simp [RowKit.intOf]; omega
    · have hnj : ¬ (j : Int) < (ln2 : Int) := by omega
      obtain ⟨o0, o1, o2, o3, o4, o5, o6⟩ := box7_of HRN.out.ho
      obtain ⟨z0, z1, z2, z3, z4, z5, z6⟩ := box7_of HRS.out
      have fz : ∀ i, wr.frozen? ⟨rs, i, none⟩ = false := fun i => frozen_of_row _ _ i _ _ HRS.out
      have HV := Lib.hid (grow_listK HRN.out.hg HRN.out.hl (by omega))
      have hwN := HRN.out.hw
      go_wp2_with fail
      refine bodyPost_ret (v := .tuple #[.agg #[.int .i64 5, .bool false, .slice none 0 0, .int .i64 0, .string ⟨#[]⟩, .slice LA j lc, .slice none 0 0], .int .i64 ((0 : Nat) : Int)]) (by simp [results, Tryz.results20, go_sem, z0, z1, z2, z3, z4, z5, z6]) rfl ?_
      have hend : ((List.range j).map fun i : Nat => numT (i : Int)) = (List.range li2.length).map fun i : Nat => numT (i : Int) := by rw [show j = li2.length by have := HLN.out; omega]
      have hfin := fin7 (E := 0) (y := listV ((List.range j).map fun i : Nat => numT (i : Int))) (show rs + 1 ≤ wr.heap.size by omega) (HV.out.more fun b hb => ⟨by have := hb.1; omega, hb.2⟩) HBEL.out
      rw [hend] at hfin
      exact hfin
end Go.Proofs.YtobfeneeehmpcaaGreatDoor
