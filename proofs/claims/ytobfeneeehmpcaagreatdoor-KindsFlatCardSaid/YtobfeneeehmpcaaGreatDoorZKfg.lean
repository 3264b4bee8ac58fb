/-
  What a list's values are; what flattening comes to. Pure, no program.
  Contract of kinds.Flatten.
  Contract of kinds.Flatten, whole.
-/
import Derived.Test.YtobfeneeehmpcaaGreatDoorZKfl
import Derived.Test.YtobfeneeehmpcaaGreatDoorZKwo
set_option linter.unusedVariables false
set_option linter.unusedSimpArgs false
namespace Go.Proofs.YtobfeneeehmpcaaGreatDoor
open Go.RowKit Go.Lib

mutual
theorem deep_monoK {a b : Nat} (h : a ≤ b) : ∀ x, deepL (pre a x) ≤ deepL (pre b x)
  | .mk k n x e t l ks => by
    have hl := deepL_monoK (a := a + 1) (b := b + 1) (by omega) l
    unfold pre
    split
    · simp only [deepL]; split <;> omega
    · simp only [deepL]; split <;> omega
theorem deepL_monoK {a b : Nat} (h : a ≤ b) : ∀ l, deepL (preL a l) ≤ deepL (preL b l)
  | [] => by simp [preL]
  | v :: r => by
    have h1 := deep_monoK h v
    have h2 := deepL_monoK h r
    simp only [preL, deepL_append]; omega
end
theorem preL_memK {y : VT} {lv : Nat} : ∀ {l : List VT}, y ∈ l → (pre lv y).length ≤ (preL lv l).length ∧ deepL (pre lv y) ≤ deepL (preL lv l)
  | v :: r, h => by
    simp only [preL, List.length_append, deepL_append]
    rcases List.mem_cons.1 h with rfl | h
    · exact ⟨by omega, by omega⟩
    · have := preL_memK (lv := lv) h
      exact ⟨by omega, by omega⟩
theorem firstBadK {l : List (Nat × VT)} (h : ∀ p ∈ l, alone p.2 = 0) : firstBad l = 0 := by
  induction l with
  | nil => rfl
  | cons p r ih =>
    unfold firstBad
    rw [if_pos (h p (by simp))]
    exact ih fun q hq => h q (by simp [hq])
theorem okV_ofK {x : VT} (h1 : ∀ y ∈ partsV x, alone y = 0) (h2 : (partsV x).length ≤ 16384) (h3 : deepL (pre 0 x) ≤ 64) : okV x := by
  have hl : (pre 0 x).length ≤ 16384 := by unfold partsV at h2; rwa [List.length_map] at h2
  have hs : seen x = pre 0 x := List.take_of_length_le (by unfold mostP; omega)
  unfold okV errV
  rw [hs, if_neg (by omega), if_neg (by omega)]
  exact firstBadK fun p hp => h1 _ ((mem_pre (lv := 0)).1 ⟨p.1, hp⟩)
/-- A part of a value that may be may be. -/
theorem okV_elemK {x y : VT} (h : okV x) (hy : y ∈ x.inner) : okV y := by
  obtain ⟨h1, h2, h3⟩ := okV_parts h
  obtain ⟨g1, g2⟩ := preL_memK (lv := 1) hy
  have hx : (pre 0 x).length = 1 + (preL 1 x.inner).length := by rw [pre_eq, List.length_cons, Nat.zero_add]; omega
  have hd : deepL (preL 1 x.inner) ≤ deepL (pre 0 x) := by rw [pre_eq, Nat.zero_add]; simp only [deepL]; omega
  have hl : (pre 0 y).length = (pre 1 y).length := by
    have := congrArg List.length (pre_snd 0 1 y)
    simpa using this
  refine okV_ofK (fun z hz => h1 z (mem_parts.2 (.inr ⟨y, hy, hz⟩))) ?_ ?_
  · unfold partsV at h2 ⊢
    rw [List.length_map] at h2 ⊢
    omega
  · have := deep_monoK (show 0 ≤ 1 by omega) y
    omega
theorem alone_of {x : VT} (h : okV x) : alone x = 0 := (okV_parts h).1 x (mem_parts.2 (.inl rfl))
theorem textK {t : ByteArray} (h : t.size = 0) : t = ⟨#[]⟩ := by
  cases t with
  | mk d => exact congrArg ByteArray.mk (Array.eq_empty_of_size_eq_zero h)
theorem listV_ofK {x : VT} (h : okV x) (h5 : x.kind = 5) : x = listV x.list := by
  have ha := alone_of h
  cases x with
  | mk k n xs e t l ks =>
    have h5 : k = 5 := h5
    subst h5
    unfold alone at ha
    split at ha
    · exact absurd ha (by decide)
    split at ha
    · exact absurd ha (by decide)
    split at ha
    · exact absurd ha (by decide)
    split at ha
    · exact absurd ha (by decide)
    split at ha
    · rename_i hf
      rw [fitV_mk, if_neg (by decide), if_neg (by decide), if_pos rfl] at hf
      simp only [Bool.and_eq_true, decide_eq_true_eq, Bool.not_eq_true'] at hf
      obtain ⟨⟨h1, h2⟩, h3⟩ := hf
      have e1 : xs = [] := List.eq_nil_of_length_eq_zero (by omega)
      have e2 : t = ⟨#[]⟩ := textK (by omega)
      have e3 : ks = [] := List.eq_nil_of_length_eq_zero (by omega)
      subst e1 e2 e3 h2 h3
      rfl
    · exact absurd ha (by decide)
/-- What flattening comes to, ahead of the answer's own error. -/
def flatE (x : VT) : Nat := if x.kind = 5 then 0 else 41
def flatY (d : Nat) (x : VT) : VT := if x.kind = 5 then listV (flatD d x.list) else VT0
end Go.Proofs.YtobfeneeehmpcaaGreatDoor

namespace Go.Proofs.YtobfeneeehmpcaaGreatDoor
open Go.RowKit Go.Lib

theorem listV_okK {w : World} {S : Nat → Prop} {N : Nat} {A : Option Addr} {n c : Nat} {l : List VT} (h : RowS w N S A n l) (hn : n ≤ 1000000) (hc : n ≤ c) : VIn w (fun b => S b ∨ (N ≤ b ∧ b < w.heap.size)) (listV l) [.int .i64 5, .bool false, .slice none 0 0, .int .i64 0, .string ⟨#[]⟩, .slice A n c, .slice none 0 0] :=
  listV_in (h.rdl (by omega)) (by omega) hc
theorem buildLK (A : Option Addr) (n c : Nat) (w : World) : (Instr.build 28 #[(0, .int .i64 5), (3, .slice A n c)]).run Tryz.prog w = .ok (.agg #[.int .i64 5, .bool false, .slice none 0 0, .int .i64 0, .string ⟨#[]⟩, .slice A n c, .slice none 0 0]) w := run_build w 28 _ _ (by kernel_rfl)
set_option maxRecDepth 1000000 in
set_option maxHeartbeats 4000000 in
theorem flatten1_c {S : Nat → Prop} {x : VT} {cs : List Value} (d : Nat) (vb db : Nat) (w : World) (hok : okV x) (hx : VIn w S x cs) (hS : ∀ b, S b → b < w.heap.size) (hd : d ≤ 1000) (hv : w.heap[vb]? = some (.cells cs.toArray 28)) (hdb : w.heap[db]? = some (.cells #[.int .i64 (d : Int)] 3)) :
    Calls Tryz.prog 16 #[.pointer (some ⟨vb, 0, none⟩), .pointer (some ⟨db, 0, none⟩)] w fun e w' => ∃ cs' : List Value, e = .returned (.tuple #[.agg cs'.toArray, .int .i64 (flatE x : Int)]) ∧ VIn w' (fun b => b < w'.heap.size) (flatY d x) cs' ∧ Below w.heap.size w w' := by
  obtain ⟨rs, hrs⟩ : ∃ b, w.heap.size = b := ⟨_, rfl⟩
  have hb0 : Below w.heap.size w (w.alloc (.cells #[.int .i64 0, .bool false, .slice none 0 0, .int .i64 0, .string ⟨#[]⟩, .slice none 0 0, .slice none 0 0] 28)) := (Below.refl _ w).alloc (Nat.le_refl _) _
  have hm := World.alloc_heap_new w (.cells #[.int .i64 0, .bool false, .slice none 0 0, .int .i64 0, .string ⟨#[]⟩, .slice none 0 0, .slice none 0 0] 28)
  have hs0 : (w.alloc (.cells #[.int .i64 0, .bool false, .slice none 0 0, .int .i64 0, .string ⟨#[]⟩, .slice none 0 0, .slice none 0 0] 28)).heap.size = rs + 1 := by rw [World.size_alloc, hrs]
  have hun : underL x.list ≤ 1000000 := by
    have := under_ok hok
    cases x
    exact Nat.le_trans this (by decide)
  obtain ⟨k2, neg2, xs2, e2, t2, li2, ks2, hx2⟩ : ∃ k2 neg2 xs2 e2 t2 li2 ks2, x = VT.mk k2 neg2 xs2 e2 t2 li2 ks2 := by cases x; exact ⟨_, _, _, _, _, _, _, rfl⟩
  have hvx2 := hx
  rw [hx2] at hvx2
  obtain ⟨A2, n2, c2, LA2, ln2, lc2, KA2, kn2, kc2, rfl, -, -, -, hli2, -, -, hlc2⟩ := hvx2.parts
  have hvl := (Array.getElem?_eq_some_iff.1 hv).1
  have hdl := (Array.getElem?_eq_some_iff.1 hdb).1
  have hv0 := (hb0.block vb hvl).trans hv
  have hd0 := (hb0.block db hdl).trans hdb
  have hl0 := hli2.keep (w' := w.alloc (.cells #[.int .i64 0, .bool false, .slice none 0 0, .int .i64 0, .string ⟨#[]⟩, .slice none 0 0, .slice none 0 0] 28)) fun p hp => hb0.cell (p := p) (hS _ hp)
  have hlist : x.list = li2 := by rw [hx2]; rfl
  have hkind : x.kind = k2 := by rw [hx2]; rfl
  rw [hlist] at hun
  rw [hrs] at hb0 hm hS ⊢
  obtain ⟨y0, y1, y2, y3, y4, y5, y6⟩ := box7_of hv0
  obtain ⟨z0, z1, z2, z3, z4, z5, z6⟩ := box7_of hm
  have fz : ∀ j, (w.alloc (.cells #[.int .i64 0, .bool false, .slice none 0 0, .int .i64 0, .string ⟨#[]⟩, .slice none 0 0, .slice none 0 0] 28)).frozen? ⟨rs, j, none⟩ = false := fun j => frozen_of_row _ _ j _ _ hm
  have dd : (w.alloc (.cells #[.int .i64 0, .bool false, .slice none 0 0, .int .i64 0, .string ⟨#[]⟩, .slice none 0 0, .slice none 0 0] 28)).cell? ⟨db, 0, none⟩ = some (.int .i64 (d : Int)) := cell_at3 hd0 rfl
  have HB0 := Lib.hid hb0
  have HM := Lib.hid hm
  have HS0 := Lib.hid hs0
  have HX2 := Lib.hid hx2
  have HLI := Lib.hid hlist
  have HKI := Lib.hid hkind
  have HS := Lib.hid hS
  have HL0 := Lib.hid hl0
  clear hb0 hm hs0 hx2 hx hvx2 hli2 hv hdb hv0 hd0 hlist hkind hS hl0 hok
  obtain ⟨YV, hYV⟩ : ∃ YV, flatY d x = YV := ⟨_, rfl⟩
  obtain ⟨EV, hEV⟩ : ∃ EV, flatE x = EV := ⟨_, rfl⟩
  rw [hYV, hEV]
  go_enter Tryz.func16, Tryz.ntmps16
  go_upto_region 1 with fail
  try rw [hrs]
  clear hrs
  generalize (w.alloc (.cells #[.int .i64 0, .bool false, .slice none 0 0, .int .i64 0, .string ⟨#[]⟩, .slice none 0 0, .slice none 0 0] 28)) = w0 at *
  by_cases h5 : k2 = 5
  · subst h5
    have hcl := flat_c d (c := lc2) w0 HL0.out (fun b hb => by have := HS.out b hb; rw [HS0.out]; omega) hd hun
    have HCL := Lib.hid hcl
    have hdn : ¬ (d : Int) < 0 := by omega
    have hyy : flatY d x = listV (flatD d li2) := by unfold flatY; rw [if_pos HKI.out, HLI.out]
    have hee : flatE x = 0 := by unfold flatE; rw [if_pos HKI.out]
    have hfu := Nat.le_trans (flatD_under d li2) hun
    obtain ⟨Y, hY⟩ : ∃ Y, flatD d li2 = Y := ⟨_, rfl⟩
    rw [hY] at hcl hyy hfu HCL
    have e1 : YV = listV Y := hYV.symm.trans hyy
    have e2' : EV = 0 := hEV.symm.trans hee
    subst e1 e2'
    have HFU := Lib.hid hfu
    clear hcl hyy hee hY hfu hYV hEV
    go_wp2_with fail
    refine HCL.out.mono ?_
    rintro e9 w1 ⟨⟨LB, lb, rfl, hrow, hlb, -⟩, hb1⟩
    rw [HS0.out] at hrow hb1
    have hm1 := (hb1.block rs (by omega)).trans HM.out
    have hs1 : rs + 1 ≤ w1.heap.size := by have := hb1.size; rw [HS0.out] at this; exact this
    clear y0 y1 y2 y3 y4 y5 y6 z0 z1 z2 z3 z4 z5 z6 fz dd
    obtain ⟨z0, z1, z2, z3, z4, z5, z6⟩ := box7_of hm1
    have fz : ∀ j, w1.frozen? ⟨rs, j, none⟩ = false := fun j => frozen_of_row _ _ j _ _ hm1
    have hbl := fun W => buildLK LB Y.length lb W
    have HV := Lib.hid (listV_okK hrow HFU.out hlb)
    have HB1 := Lib.hid (HB0.out.trans (hb1.mono (by omega)))
    clear hrow hb1 hm1 hlb
    go_wp2_with fail
    refine bodyPost_ret (v := .tuple #[.agg #[.int .i64 5, .bool false, .slice none 0 0, .int .i64 0, .string ⟨#[]⟩, .slice LB Y.length lb, .slice none 0 0], .int .i64 0]) (by simp [results, Tryz.results16, go_sem, z0, z1, z2, z3, z4, z5, z6]) rfl ?_
    refine ⟨[.int .i64 5, .bool false, .slice none 0 0, .int .i64 0, .string ⟨#[]⟩, .slice LB Y.length lb, .slice none 0 0], rfl, (HV.out.keep fun p hp => cell_seven ?_ _ _ _ _ _ _ _).more fun b hb => ?_, below_seven HB1.out (Nat.le_refl _) _ _ _ _ _ _ _⟩
    · rcases hp with h | h
      · have := HS.out _ h; omega
      · have := h.1; omega
    · have : b < w1.heap.size := by
        rcases hb with h | h
        · have := HS.out _ h; omega
        · exact h.2
      simpa [World.setCell] using this
  · have hkb : (k2 == 5) = false := by simpa using h5
    have hyy : flatY d x = VT0 := by unfold flatY; rw [if_neg (by rw [HKI.out]; exact h5)]
    have hee : flatE x = 41 := by unfold flatE; rw [if_neg (by rw [HKI.out]; exact h5)]
    have e1 : YV = VT0 := hYV.symm.trans hyy
    have e2' : EV = 41 := hEV.symm.trans hee
    subst e1 e2'
    clear hyy hee hYV hEV
    go_wp2_with fail
    refine bodyPost_ret (v := .tuple #[.agg #[.int .i64 0, .bool false, .slice none 0 0, .int .i64 0, .string ⟨#[]⟩, .slice none 0 0, .slice none 0 0], .int .i64 41]) (by simp [results, Tryz.results16, go_sem, z0, z1, z2, z3, z4, z5, z6]) rfl ?_
    exact ⟨_, rfl, vin_zero _ _, below_seven HB0.out (Nat.le_refl _) _ _ _ _ _ _ _⟩
end Go.Proofs.YtobfeneeehmpcaaGreatDoor

namespace Go.Proofs.YtobfeneeehmpcaaGreatDoor
open Go.RowKit Go.Lib

set_option maxRecDepth 1000000 in
set_option maxHeartbeats 4000000 in
theorem flatten_c {S : Nat → Prop} {x : VT} {cs : List Value} (d : Nat) (w : World) (hT : Tabs w) (hx : VIn w S x cs) (hS : ∀ b, S b → b < w.heap.size) (hd : d ≤ 1000) :
    Calls Tryz.prog 6 #[.agg cs.toArray, .int .i64 (d : Int)] w fun e w' => WoP (WoV (errV x) (flatE x) (flatY d x)) (WoR (errV x) (flatE x) (flatY d x)) w.heap.size e w' ∧ Below w.heap.size w w' := by
  have hmf : ∀ (fn : Fn) (first cap : Array Value) (w : World), (Instr.makeFunc fn first cap).run Tryz.prog w = .ok (.func fn first cap) w := fun _ _ _ _ => rfl
  obtain ⟨k, neg, A, n, c, e, t, LA, ln, lc, KA, kn, kc, rfl, -, -⟩ := hx.seven
  obtain ⟨vb, hvb⟩ : ∃ b, w.heap.size = b := ⟨_, rfl⟩
  obtain ⟨w3, hw3⟩ : ∃ w3, ((w.alloc (.cells #[.int .i64 k, .bool neg, .slice A n c, .int .i64 e, .string t, .slice LA ln lc, .slice KA kn kc] 28)).alloc (.cells #[.int .i64 (d : Int)] 3)).alloc (.cells #[.int .i64 0, .bool false, .slice none 0 0, .int .i64 0, .string ⟨#[]⟩, .slice none 0 0, .slice none 0 0] 28) = w3 := ⟨_, rfl⟩
  have hb3 : Below vb w w3 := by
    rw [← hw3]
    exact (((Below.refl vb w).alloc (by omega) _).alloc (by rw [World.size_alloc]; omega) _).alloc (by rw [World.size_alloc, World.size_alloc]; omega) _
  have hs3 : w3.heap.size = vb + 3 := by rw [← hw3, World.size_alloc, World.size_alloc, World.size_alloc]; omega
  have h0 : w3.heap[vb]? = some (.cells #[.int .i64 k, .bool neg, .slice A n c, .int .i64 e, .string t, .slice LA ln lc, .slice KA kn kc] 28) := by
    rw [← hw3, Below.heap_alloc _ _ _ (by simp; omega), Below.heap_alloc _ _ _ (by simp; omega), ← hvb]; exact World.alloc_heap_new _ _
  have h1 : w3.heap[vb + 1]? = some (.cells #[.int .i64 (d : Int)] 3) := by
    rw [← hw3, Below.heap_alloc _ _ _ (by simp; omega)]
    have := World.alloc_heap_new (w.alloc (.cells #[.int .i64 k, .bool neg, .slice A n c, .int .i64 e, .string t, .slice LA ln lc, .slice KA kn kc] 28)) (.cells #[.int .i64 (d : Int)] 3)
    rwa [World.size_alloc, hvb] at this
  have h2 : w3.heap[vb + 1 + 1]? = some (.cells #[.int .i64 0, .bool false, .slice none 0 0, .int .i64 0, .string ⟨#[]⟩, .slice none 0 0, .slice none 0 0] 28) := by
    rw [← hw3]
    have := World.alloc_heap_new ((w.alloc (.cells #[.int .i64 k, .bool neg, .slice A n c, .int .i64 e, .string t, .slice LA ln lc, .slice KA kn kc] 28)).alloc (.cells #[.int .i64 (d : Int)] 3)) (.cells #[.int .i64 0, .bool false, .slice none 0 0, .int .i64 0, .string ⟨#[]⟩, .slice none 0 0, .slice none 0 0] 28)
    rwa [World.size_alloc, World.size_alloc, hvb] at this
  have hx3 := hx.keep (w' := w3) fun p hp => hb3.cell (p := p) (by have := hS _ hp; omega)
  have hT3 := hT.below (hvb ▸ hb3)
  obtain ⟨w4, hw4⟩ : ∃ w4, w3.alloc (.cells #[.int .i64 k, .bool neg, .slice A n c, .int .i64 e, .string t, .slice LA ln lc, .slice KA kn kc] 28) = w4 := ⟨_, rfl⟩
  have hb4 : Below (vb + 3) w3 w4 := by rw [← hw4]; exact (Below.refl _ w3).alloc (by omega) _
  have hr4 : w4.heap[vb + 3]? = some (.cells #[.int .i64 k, .bool neg, .slice A n c, .int .i64 e, .string t, .slice LA ln lc, .slice KA kn kc] 28) := by
    rw [← hw4, ← hs3]; exact World.alloc_heap_new _ _
  have hs4 : w4.heap.size = vb + 4 := by rw [← hw4, World.size_alloc, hs3]
  have hx4 := (hx3.keep (w' := w4) fun p hp => hb4.cell (p := p) (by have := hS _ hp; omega))
  have hrow := row_oneK (S := fun b => b < vb + 4) hr4 (by omega) (hx4.more fun b hb => by have := hS b hb; omega)
  have hwo := workOut_c (c := 1) (fn := 16) (caps := #[.pointer (some ⟨vb, 0, none⟩), .pointer (some ⟨vb + 1, 0, none⟩)]) (y := flatY d x) (E := flatE x) w4 (hT3.below (hb4.mono (by omega))) hrow (fun b hb => by omega) (fun ar W => by kernel_rfl)
    (fun hok W hW => flatten1_c d vb (vb + 1) W (by rw [errK_one] at hok; exact hok) (hx4.keep (w' := W) fun p hp => hW.cell (p := p) (by have := hS _ hp; omega)) (fun b hb => by have := hS b hb; have := hW.size; omega) hd ((hW.block vb (by omega)).trans ((hb4.block vb (by omega)).trans h0)) ((hW.block (vb + 1) (by omega)).trans ((hb4.block (vb + 1) (by omega)).trans h1)))
  rw [errK_one] at hwo
  obtain ⟨y0, y1, y2, y3, y4, y5, y6⟩ := box7_of h0
  have HWO := Lib.hid hwo
  have HW3 := Lib.hid hw3
  have HW4 := Lib.hid hw4
  have HB4 := Lib.hid (hb3.trans (hb4.mono (by omega)))
  have H2 := Lib.hid ((hb4.block (vb + 1 + 1) (by omega)).trans h2)
  have HS4 := Lib.hid hs4
  have HVB := Lib.hid hvb
  have hs3' := hs3
  rw [hvb]
  obtain ⟨Y, hY⟩ : ∃ Y, WoV (errV x) (flatE x) (flatY d x) = Y := ⟨_, rfl⟩
  obtain ⟨R, hR⟩ : ∃ R, WoR (errV x) (flatE x) (flatY d x) = R := ⟨_, rfl⟩
  rw [hY, hR] at HWO ⊢
  clear hwo hw3 hw4 hb3 hb4 h0 h1 h2 hs3 hs4 hx hx3 hx4 hrow hr4 hT hT3 hS hY hR
  go_enter Tryz.func6, Tryz.ntmps6
  go_upto_region 1 with fail
  try rw [hvb]
  clear hvb
  rw [HW3.out]
  go_wp2_with fail
  try rw [hs3']
  rw [HW4.out]
  refine HWO.out.mono ?_
  rintro e9 w5 ⟨⟨cs', rfl, hv⟩, hb5⟩
  rw [HS4.out] at hv hb5
  obtain ⟨k3, neg3, A3, n3, c3, ex3, t3, LA3, ln3, lc3, KA3, kn3, kc3, rfl, -, -⟩ := hv.seven
  have hm5 := (hb5.block (vb + 1 + 1) (by omega)).trans H2.out
  have hs5 : vb + 4 ≤ w5.heap.size := by have := hb5.size; rw [HS4.out] at this; exact this
  clear y0 y1 y2 y3 y4 y5 y6 hs3'
  obtain ⟨z0, z1, z2, z3, z4, z5, z6⟩ := box7_of hm5
  have fz : ∀ j, w5.frozen? ⟨vb + 1 + 1, j, none⟩ = false := fun j => frozen_of_row _ _ j _ _ hm5
  have HV := Lib.hid hv
  have HB5 := Lib.hid (HB4.out.trans (hb5.mono (by omega)))
  clear hv hb5 hm5
  go_wp2_with fail
  refine bodyPost_ret (v := .tuple #[.agg #[.int .i64 k3, .bool neg3, .slice A3 n3 c3, .int .i64 ex3, .string t3, .slice LA3 ln3 lc3, .slice KA3 kn3 kc3], .int .i64 (R : Int)]) (by simp [results, Tryz.results6, go_sem, z0, z1, z2, z3, z4, z5, z6]) rfl ?_
  refine ⟨⟨[.int .i64 k3, .bool neg3, .slice A3 n3 c3, .int .i64 ex3, .string t3, .slice LA3 ln3 lc3, .slice KA3 kn3 kc3], rfl, (HV.out.keep fun p hp => cell_seven (by have := hp.1; omega) _ _ _ _ _ _ _).more fun b hb => ⟨by have := hb.1; omega, ?_⟩⟩, below_seven HB5.out (by omega) _ _ _ _ _ _ _⟩
  have := hb.2
  simpa [World.setCell] using this
end Go.Proofs.YtobfeneeehmpcaaGreatDoor
