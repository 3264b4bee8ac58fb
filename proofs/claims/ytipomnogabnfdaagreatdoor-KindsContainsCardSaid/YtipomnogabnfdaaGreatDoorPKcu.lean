/-
  Contracts of contains' closures, and of contains.
  Contract of contains, given that of strings.Contains.
-/
import Derived.Test.YtipomnogabnfdaaGreatDoorPKcy
set_option linter.unusedVariables false
set_option linter.unusedSimpArgs false
namespace Go.Proofs.YtipomnogabnfdaaGreatDoor
open Go.RowKit Go.Lib

set_option maxRecDepth 100000 in
set_option maxHeartbeats 4000000 in
/-- Does this one contain the part? -/
theorem holdsPart_c {N B0 : Nat} {w0 : World} (hC : ConS N B0 w0) {S S' : Nat → Prop} {o p : VT} {cs : List Value} {pb : Nat} {k2 ex2 : Int} {neg2 : Bool} {A2 LA2 KA2 : Option Addr} {n2 c2 ln2 lc2 kn2 kc2 : Nat} {t2 : ByteArray} (w : World) (hsz : SizeOf.sizeOf o < N) (hok1 : okV o) (hok2 : okV p) (ho : VIn w S o cs) (hp : VIn w S' p [.int .i64 k2, .bool neg2, .slice A2 n2 c2, .int .i64 ex2, .string t2, .slice LA2 ln2 lc2, .slice KA2 kn2 kc2]) (hpb : w.heap[pb]? = some (.cells #[.int .i64 k2, .bool neg2, .slice A2 n2 c2, .int .i64 ex2, .string t2, .slice LA2 ln2 lc2, .slice KA2 kn2 kc2] 28)) (hS : ∀ b, S b → b < w.heap.size) (hS' : ∀ b, S' b → b < w.heap.size) (hB : Below B0 w0 w) (hB0 : B0 ≤ w.heap.size) :
    Calls Tryz.prog 44 #[.agg cs.toArray, .pointer (some ⟨pb, 0, none⟩)] w fun e w' => e = .returned (.bool (conF N o p)) ∧ Below w.heap.size w w' := by
  obtain ⟨k1, neg1, A1, n1, c1, ex1, t1, LA1, ln1, lc1, KA1, kn1, kc1, rfl, -, -⟩ := ho.seven
  obtain ⟨vb, hvb⟩ : ∃ b, w.heap.size = b := ⟨_, rfl⟩
  have hpl : pb < vb := by rw [← hvb]; exact (Array.getElem?_eq_some_iff.1 hpb).1
  obtain ⟨v1, hw1⟩ : ∃ W, w.alloc (.cells #[.int .i64 k1, .bool neg1, .slice A1 n1 c1, .int .i64 ex1, .string t1, .slice LA1 ln1 lc1, .slice KA1 kn1 kc1] 28) = W := ⟨_, rfl⟩
  have hb1 : Below vb w v1 := by rw [← hw1]; exact (Below.refl vb w).alloc (by omega) _
  have hs1 : v1.heap.size = vb + 1 := by rw [← hw1, World.size_alloc, hvb]
  have x0 : v1.heap[vb]? = some (.cells #[.int .i64 k1, .bool neg1, .slice A1 n1 c1, .int .i64 ex1, .string t1, .slice LA1 ln1 lc1, .slice KA1 kn1 kc1] 28) := by rw [← hw1, ← hvb]; exact World.alloc_heap_new _ _
  have x1 := (hb1.block pb hpl).trans hpb
  have hcc := hC o p S S' _ _ v1 hsz hok1 hok2 (ho.keep (w' := v1) fun q hq => hb1.cell (p := q) (by have := hS _ hq; omega)) (hp.keep (w' := v1) fun q hq => hb1.cell (p := q) (by have := hS' _ hq; omega)) (fun b hb => by have := hS b hb; omega) (fun b hb => by have := hS' b hb; omega) (hB.trans (hb1.mono (by omega))) (by omega)
  obtain ⟨C, hCe⟩ : ∃ C, conF N o p = C := ⟨_, rfl⟩
  rw [hCe] at hcc ⊢
  obtain ⟨y0, y1, y2, y3, y4, y5, y6⟩ := box7_of x0
  obtain ⟨q0, q1, q2, q3, q4, q5, q6⟩ := box7_of x1
  have HCC := Lib.hid hcc
  have HB1 := Lib.hid hb1
  have HW1 := Lib.hid hw1
  have hs1' : vb ≤ v1.heap.size := by omega
  rw [hvb]
  clear hcc hb1 hw1 hs1 x0 x1 hCe hC ho hp hpb hS hS' hB hB0 hok1 hok2 hsz
  go_enter Tryz.func44, Tryz.ntmps44
  go_upto_region 1 with fail
  try rw [hvb]
  clear hvb
  rw [HW1.out]
  go_wp2_with fail
  refine HCC.out.mono ?_
  rintro e9 w6 ⟨rfl, hb6⟩
  have HB6 := Lib.hid (HB1.out.trans (hb6.mono hs1'))
  clear hb6
  go_wp2_with fail
  go_ret
  exact ⟨rfl, HB6.out⟩
set_option maxRecDepth 100000 in
set_option maxHeartbeats 4000000 in
/-- Does the list lack this part? -/
theorem lacks_c {N B0 : Nat} {w0 : World} (hC : ConS N B0 w0) {S S' : Nat → Prop} {l : List VT} {p : VT} {cs : List Value} {ab : Nat} {k1 ex1 : Int} {neg1 : Bool} {A1 LA1 KA1 : Option Addr} {n1 c1 ln1 lc1 kn1 kc1 : Nat} {t1 : ByteArray} (w : World) (hsz : ∀ o ∈ l, SizeOf.sizeOf o < N) (hok1 : ∀ o ∈ l, okV o) (hok2 : okV p) (hl : RdL w S LA1 ln1 l) (hp : VIn w S' p cs) (hab : w.heap[ab]? = some (.cells #[.int .i64 k1, .bool neg1, .slice A1 n1 c1, .int .i64 ex1, .string t1, .slice LA1 ln1 lc1, .slice KA1 kn1 kc1] 28)) (hS : ∀ b, S b → b < w.heap.size) (hS' : ∀ b, S' b → b < w.heap.size) (hB : Below B0 w0 w) (hB0 : B0 ≤ w.heap.size) :
    Calls Tryz.prog 42 #[.agg cs.toArray, .pointer (some ⟨ab, 0, none⟩)] w fun e w' => e = .returned (.bool (!(l.any fun o => conF N o p))) ∧ Below w.heap.size w w' := by
  obtain ⟨k2, neg2, A2, n2, c2, ex2, t2, LA2, ln2, lc2, KA2, kn2, kc2, rfl, -, -⟩ := hp.seven
  obtain ⟨vb, hvb⟩ : ∃ b, w.heap.size = b := ⟨_, rfl⟩
  have hpl : ab < vb := by rw [← hvb]; exact (Array.getElem?_eq_some_iff.1 hab).1
  obtain ⟨v1, hw1⟩ : ∃ W, w.alloc (.cells #[.int .i64 k2, .bool neg2, .slice A2 n2 c2, .int .i64 ex2, .string t2, .slice LA2 ln2 lc2, .slice KA2 kn2 kc2] 28) = W := ⟨_, rfl⟩
  have hb1 : Below vb w v1 := by rw [← hw1]; exact (Below.refl vb w).alloc (by omega) _
  have hs1 : v1.heap.size = vb + 1 := by rw [← hw1, World.size_alloc, hvb]
  have x0 : v1.heap[vb]? = some (.cells #[.int .i64 k2, .bool neg2, .slice A2 n2 c2, .int .i64 ex2, .string t2, .slice LA2 ln2 lc2, .slice KA2 kn2 kc2] 28) := by rw [← hw1, ← hvb]; exact World.alloc_heap_new _ _
  have x1 := (hb1.block ab hpl).trans hab
  have hl1 := hl.keep (w' := v1) fun q hq => hb1.cell (p := q) (by have := hS _ hq; omega)
  have hp1 := hp.keep (w' := v1) fun q hq => hb1.cell (p := q) (by have := hS' _ hq; omega)
  have hS1 : ∀ b, S b → b < vb := fun b hb => by have := hS b hb; omega
  have hS1' : ∀ b, S' b → b < vb := fun b hb => by have := hS' b hb; omega
  have hB1 := hB.trans (hb1.mono (by omega))
  have hcc := containsV1_c (c := lc1) (fun o => conF N o p) (.pointer (some ⟨vb, 0, none⟩)) v1 hl1 (fun b hb => by have := hS1 b hb; omega) (fun o cs wr ho hoi hbw => holdsPart_c hC wr (hsz o ho) (hok1 o ho) hok2 hoi (hp1.keep (w' := wr) fun q hq => hbw.cell (p := q) (by have := hS1' _ hq; omega)) ((hbw.block vb (by omega)).trans x0) (fun b hb => by have := hS1 b hb; have := hbw.size; omega) (fun b hb => by have := hS1' b hb; have := hbw.size; omega) (hB1.trans (hbw.mono (by omega))) (by have := hbw.size; omega))
  obtain ⟨C, hCe⟩ : ∃ C, (l.any fun o => conF N o p) = C := ⟨_, rfl⟩
  rw [hCe] at hcc ⊢
  obtain ⟨q0, q1, q2, q3, q4, q5, q6⟩ := box7_of x1
  have HCC := Lib.hid hcc
  have HB1 := Lib.hid hb1
  have HW1 := Lib.hid hw1
  have hs1' : vb ≤ v1.heap.size := by omega
  rw [hvb]
  clear hcc hb1 hw1 hs1 x0 x1 hCe hC hl hl1 hp hp1 hab hS hS' hS1 hS1' hB hB1 hB0 hok1 hok2 hsz
  go_enter Tryz.func42, Tryz.ntmps42
  go_upto_region 1 with fail
  try rw [hvb]
  try rw [hvb]
  rw [HW1.out]
  go_wp2_with fail
  refine HCC.out.mono ?_
  rintro e9 w6 ⟨rfl, hb6⟩
  have HB6 := Lib.hid (HB1.out.trans (hb6.mono hs1'))
  clear hb6
  go_wp2_with fail
  go_ret
  exact ⟨rfl, HB6.out⟩
end Go.Proofs.YtipomnogabnfdaaGreatDoor

namespace Go.Proofs.YtipomnogabnfdaaGreatDoor
open Go.RowKit Go.Lib

/-- strings.Contains tells whether a text stands in a text, wherever it is asked. -/
def TextsK (B0 : Nat) (w0 : World) : Prop := ∀ (W : World), Below B0 w0 W → B0 ≤ W.heap.size → ∀ s t : ByteArray, s.size ≤ 16384 → Calls Tryz.prog 41 #[.string s, .string t] W fun e w' => e = .returned (.bool (inT s t)) ∧ Below W.heap.size W w'
theorem textK4 {x : VT} (h : okV x) (h4 : x.kind = 4) : x.text.size ≤ 16384 := by
  have ha := alone_of h
  have hT : ownT x = [x.text] := by unfold ownT; rw [if_pos h4]
  unfold alone at ha
  split at ha
  · exact absurd ha (by decide)
  split at ha
  · exact absurd ha (by decide)
  rename_i h2
  split at ha
  · exact absurd ha (by decide)
  rename_i h3
  rw [hT] at h3
  simp at h3
  omega
theorem all_notK {l : List VT} (P : VT → Bool) : l.all P = !(l.any fun x => !(P x)) := by
  induction l with
  | nil => rfl
  | cons a l ih => rw [List.all_cons, List.any_cons, ih]; cases P a <;> simp
set_option maxRecDepth 4000000 in
set_option maxHeartbeats 16000000 in
theorem contains_n {B0 : Nat} {w0 : World} (hTX : TextsK B0 w0) : ∀ N, ConS N B0 w0 := by
  intro N
  induction N with
  | zero => intro x y S S' cs ds w h; exact absurd h (Nat.not_lt_zero _)
  | succ N hC =>
  intro x y S S' cs ds w hsz hok1 hok2 hx hy hS hS' hB hB0
  obtain ⟨z1, zn1, zx1, ze1, zt1, l1, ks1⟩ := x
  obtain ⟨z2, zn2, zx2, ze2, zt2, l2, ks2⟩ := y
  have hbd1 := hx
  have hbd2 := hy
  obtain ⟨A1, n1, c1, LA1, ln1, lc1, KA1, kn1, kc1, rfl, ha1, hn1, -, hl1, -, -, -⟩ := hx.parts
  obtain ⟨A2, n2, c2, LA2, ln2, lc2, KA2, kn2, kc2, rfl, ha2, -, -, hl2, -, -, -⟩ := hy.parts
  show Calls Tryz.prog 17 #[.agg #[.int .i64 z1, .bool zn1, .slice A1 n1 c1, .int .i64 ze1, .string zt1, .slice LA1 ln1 lc1, .slice KA1 kn1 kc1], .agg #[.int .i64 z2, .bool zn2, .slice A2 n2 c2, .int .i64 ze2, .string zt2, .slice LA2 ln2 lc2, .slice KA2 kn2 kc2]] w fun e w' => e = .returned (.bool (conF (N + 1) (.mk z1 zn1 zx1 ze1 zt1 l1 ks1) (.mk z2 zn2 zx2 ze2 zt2 l2 ks2))) ∧ Below w.heap.size w w'
  have hF : conF (N + 1) (.mk z1 zn1 zx1 ze1 zt1 l1 ks1) (.mk z2 zn2 zx2 ze2 zt2 l2 ks2) = (if z1 ≠ z2 then false else if z1 = 4 then inT zt1 zt2 else if z1 = 5 then l2.all fun p => l1.any fun o => conF N o p else if z1 = 6 then (ks2.zip l2).all fun p => (ks1.zip l1).any fun o => decide (o.1 = p.1) && conF N o.2 p.2 else (decide (zn1 = zn2) && decide (ze1 = ze2)) && decide (zx1 = zx2)) := rfl
  obtain ⟨R, hR⟩ : ∃ R, conF (N + 1) (.mk z1 zn1 zx1 ze1 zt1 l1 ks1) (.mk z2 zn2 zx2 ze2 zt2 l2 ks2) = R := ⟨_, rfl⟩
  rw [hR] at hF ⊢
  clear hR
  obtain ⟨vb, hvb⟩ : ∃ b, w.heap.size = b := ⟨_, rfl⟩
  obtain ⟨w3, hw3⟩ : ∃ w3, (w.alloc (.cells #[.int .i64 z1, .bool zn1, .slice A1 n1 c1, .int .i64 ze1, .string zt1, .slice LA1 ln1 lc1, .slice KA1 kn1 kc1] 28)).alloc (.cells #[.int .i64 z2, .bool zn2, .slice A2 n2 c2, .int .i64 ze2, .string zt2, .slice LA2 ln2 lc2, .slice KA2 kn2 kc2] 28) = w3 := ⟨_, rfl⟩
  have hb3 : Below vb w w3 := by
    rw [← hw3]
    exact ((Below.refl vb w).alloc (by omega) _).alloc (by rw [World.size_alloc]; omega) _
  have hs3 : w3.heap.size = vb + 2 := by rw [← hw3, World.size_alloc, World.size_alloc]; omega
  have h0 : w3.heap[vb]? = some (.cells #[.int .i64 z1, .bool zn1, .slice A1 n1 c1, .int .i64 ze1, .string zt1, .slice LA1 ln1 lc1, .slice KA1 kn1 kc1] 28) := by
    rw [← hw3, Below.heap_alloc _ _ _ (by simp; omega), ← hvb]; exact World.alloc_heap_new _ _
  have h1 : w3.heap[vb + 1]? = some (.cells #[.int .i64 z2, .bool zn2, .slice A2 n2 c2, .int .i64 ze2, .string zt2, .slice LA2 ln2 lc2, .slice KA2 kn2 kc2] 28) := by
    rw [← hw3]
    have := World.alloc_heap_new (w.alloc (.cells #[.int .i64 z1, .bool zn1, .slice A1 n1 c1, .int .i64 ze1, .string zt1, .slice LA1 ln1 lc1, .slice KA1 kn1 kc1] 28)) (.cells #[.int .i64 z2, .bool zn2, .slice A2 n2 c2, .int .i64 ze2, .string zt2, .slice LA2 ln2 lc2, .slice KA2 kn2 kc2] 28)
    rwa [World.size_alloc, hvb] at this
  have hBw := hB.trans ((hvb ▸ hb3).mono hB0)
  have hS1 : ∀ b, S b → b < vb := fun b hb => by have := hS b hb; omega
  have hS1' : ∀ b, S' b → b < vb := fun b hb => by have := hS' b hb; omega
  have hB0' : B0 ≤ vb + 2 := by omega
  have hx3 := hbd1.keep (w' := w3) fun p hp => hb3.cell (p := p) (by have := hS1 _ hp; omega)
  have hy3 := hbd2.keep (w' := w3) fun p hp => hb3.cell (p := p) (by have := hS1' _ hp; omega)
  have hl13 := hl1.keep (w' := w3) fun p hp => hb3.cell (p := p) (by have := hS1 _ hp; omega)
  have hl23 := hl2.keep (w' := w3) fun p hp => hb3.cell (p := p) (by have := hS1' _ hp; omega)
  have ha13 := ha1.keep (w' := w3) fun p hp => hb3.cell (p := p) (by have := hS1 _ hp; omega)
  have ha23 := ha2.keep (w' := w3) fun p hp => hb3.cell (p := p) (by have := hS1' _ hp; omega)
  obtain ⟨y0, y1, y2, y3, y4, y5, y6⟩ := box7_of h0
  obtain ⟨q0, q1, q2, q3, q4, q5, q6⟩ := box7_of h1
  have HB3 := Lib.hid hb3
  have HW3 := Lib.hid hw3
  have HF := Lib.hid hF
  have HS3 := Lib.hid hs3
  rw [hvb]
  clear hb3 hw3 hF hx hy hbd1 hbd2 hl1 hl2 ha1 ha2 hB hB0 hS hS'
  by_cases hk : z1 = z2
  case neg =>
    have hkb : (z1 == z2) = false := by rw [beq_eq_false_iff_ne]; exact hk
    have hRF : R = false := by rw [HF.out]; exact if_pos hk
    subst hRF
    clear hx3 hy3 hl13 hl23 ha13 ha23 h0 h1 hs3
    go_enter Tryz.func17, Tryz.ntmps17
    go_upto_region 1 with fail
    try rw [hvb]
    clear hvb
    rw [HW3.out]
    go_wp2_with fail
    go_ret
    exact ⟨rfl, HB3.out⟩
  subst hk
  have HF := Lib.hid (HF.out.trans (if_neg (by simp)))
  by_cases k4 : z1 = 4
  · subst k4
    have hRT : R = inT zt1 zt2 := HF.out
    have htx := hTX w3 hBw (by omega) zt1 zt2 (textK4 hok1 rfl)
    rw [← hRT] at htx
    have HTX := Lib.hid htx
    clear hx3 hy3 hl13 hl23 ha13 ha23 h0 h1 htx hRT hs3 HF
    go_enter Tryz.func17, Tryz.ntmps17
    go_upto_region 1 with fail
    try rw [hvb]
    clear hvb
    rw [HW3.out]
    go_wp2_with fail
    refine HTX.out.mono ?_
    rintro e9 w6 ⟨rfl, hb6⟩
    have HB6 := Lib.hid (HB3.out.trans (hb6.mono (by have := HS3.out; omega)))
    clear hb6
    go_wp2_with fail
    go_ret
    exact ⟨rfl, HB6.out⟩
  have HF := Lib.hid (HF.out.trans (if_neg k4))
  by_cases k5 : z1 = 5
  · subst k5
    have hRT : R = !(l2.any fun p => !(l1.any fun o => conF N o p)) := HF.out.trans (all_notK _)
    have hcc := containsV_c (c := lc2) (fun p => !(l1.any fun o => conF N o p)) (.pointer (some ⟨vb, 0, none⟩)) w3 hl23 (fun b hb => by have := hS1' b hb; omega) (fun p cs wr hp hpi hbw => lacks_c hC wr (fun o ho => by have := size_elem (x := .mk 5 zn1 zx1 ze1 zt1 l1 ks1) (y := o) ho; omega) (fun o ho => okV_elemK hok1 (inner6 (.inr rfl) ho)) (okV_elemK hok2 (inner6 (.inr rfl) hp)) (hl13.keep (w' := wr) fun q hq => hbw.cell (p := q) (by have := hS1 _ hq; omega)) hpi ((hbw.block vb (by omega)).trans h0) (fun b hb => by have := hS1 b hb; have := hbw.size; omega) (fun b hb => by have := hS1' b hb; have := hbw.size; omega) (hBw.trans (hbw.mono (by omega))) (by have := hbw.size; omega))
    obtain ⟨C, hCe⟩ : ∃ C, (l2.any fun p => !(l1.any fun o => conF N o p)) = C := ⟨_, rfl⟩
    rw [hCe] at hcc hRT
    have HCC := Lib.hid hcc
    subst hRT
    clear hx3 hy3 hl13 hl23 ha13 ha23 h0 h1 hcc hCe hs3 HF
    go_enter Tryz.func17, Tryz.ntmps17
    go_upto_region 1 with fail
    try rw [hvb]
    try rw [hvb]
    rw [HW3.out]
    go_wp2_with fail
    refine HCC.out.mono ?_
    rintro e9 w6 ⟨rfl, hb6⟩
    have HB6 := Lib.hid (HB3.out.trans (hb6.mono (by have := HS3.out; omega)))
    clear hb6
    go_wp2_with fail
    go_ret
    exact ⟨rfl, HB6.out⟩
  have HF := Lib.hid (HF.out.trans (if_neg k5))
  by_cases k6 : z1 = 6
  · subst k6
    have hRT : R = (ks2.zip l2).all fun p => (ks1.zip l1).any fun o => decide (o.1 = p.1) && conF N o.2 p.2 := HF.out
    have hcc := containsKeys_c hC w3 hok1 hok2 hx3 hy3 (fun b hb => by have := hS1 b hb; omega) (fun b hb => by have := hS1' b hb; omega) hBw (by omega) rfl rfl hsz
    have hcc : Calls Tryz.prog 45 #[.agg #[.int .i64 6, .bool zn1, .slice A1 n1 c1, .int .i64 ze1, .string zt1, .slice LA1 ln1 lc1, .slice KA1 kn1 kc1], .agg #[.int .i64 6, .bool zn2, .slice A2 n2 c2, .int .i64 ze2, .string zt2, .slice LA2 ln2 lc2, .slice KA2 kn2 kc2]] w3 fun e w' => e = .returned (.bool ((ks2.zip l2).all fun p => (ks1.zip l1).any fun o => decide (o.1 = p.1) && conF N o.2 p.2)) ∧ Below w3.heap.size w3 w' := hcc
    rw [← hRT] at hcc
    have HCC := Lib.hid hcc
    clear hx3 hy3 hl13 hl23 ha13 ha23 h0 h1 hcc hRT hs3 HF
    go_enter Tryz.func17, Tryz.ntmps17
    go_upto_region 1 with fail
    try rw [hvb]
    clear hvb
    rw [HW3.out]
    go_wp2_with fail
    refine HCC.out.mono ?_
    rintro e9 w6 ⟨rfl, hb6⟩
    have HB6 := Lib.hid (HB3.out.trans (hb6.mono (by have := HS3.out; omega)))
    clear hb6
    go_wp2_with fail
    go_ret
    exact ⟨rfl, HB6.out⟩
  have HF := Lib.hid (HF.out.trans (if_neg k6))
  have j4 : (z1 == 4) = false := by rw [beq_eq_false_iff_ne]; exact k4
  have j5 : (z1 == 5) = false := by rw [beq_eq_false_iff_ne]; exact k5
  have j6 : (z1 == 6) = false := by rw [beq_eq_false_iff_ne]; exact k6
  have heq := equalU_c (c := c1) (d := c2) w3 ha13 ha23 hn1 (fun b hb => by have := hS1 b hb; omega) (fun b hb => by have := hS1' b hb; omega)
  have HEQ := Lib.hid heq
  clear hx3 hy3 hl13 hl23 ha13 ha23 h0 h1 heq hs3
  by_cases hn : zn1 = zn2
  case neg =>
    have hnb : (zn1 == zn2) = false := by rw [beq_eq_false_iff_ne]; exact hn
    have hRF : R = false := by rw [HF.out, decide_eq_false hn]; rfl
    subst hRF
    go_enter Tryz.func17, Tryz.ntmps17
    go_upto_region 1 with fail
    try rw [hvb]
    clear hvb
    rw [HW3.out]
    go_wp2_with fail
    go_ret
    exact ⟨rfl, HB3.out⟩
  subst hn
  by_cases he : ze1 = ze2
  case neg =>
    have heb : (ze1 == ze2) = false := by rw [beq_eq_false_iff_ne]; exact he
    have hRF : R = false := by rw [HF.out, decide_eq_false he, Bool.and_false]; rfl
    subst hRF
    go_enter Tryz.func17, Tryz.ntmps17
    go_upto_region 1 with fail
    try rw [hvb]
    clear hvb
    rw [HW3.out]
    go_wp2_with fail
    go_ret
    exact ⟨rfl, HB3.out⟩
  subst he
  have hRT : R = decide (zx1 = zx2) := by rw [HF.out, decide_eq_true rfl, decide_eq_true rfl]; rfl
  rw [← hRT] at HEQ
  clear hRT HF
  · skip
    go_enter Tryz.func17, Tryz.ntmps17
    go_upto_region 1 with fail
    try rw [hvb]
    clear hvb
    rw [HW3.out]
    go_wp2_with fail
    refine HEQ.out.mono ?_
    rintro e9 w6 ⟨rfl, hb6⟩
    have HB6 := Lib.hid (HB3.out.trans (hb6.mono (by have := HS3.out; omega)))
    clear hb6
    go_wp2_with fail
    go_ret
    exact ⟨rfl, HB6.out⟩
end Go.Proofs.YtipomnogabnfdaaGreatDoor
