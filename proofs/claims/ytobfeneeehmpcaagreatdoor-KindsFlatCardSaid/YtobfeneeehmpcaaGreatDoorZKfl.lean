/-
  Lists made flat; contract of kinds.flat.
-/
import Derived.Test.YtobfeneeehmpcaaGreatDoorZKck
import Derived.Laws.AppendOwnNone
set_option linter.unusedVariables false
set_option linter.unusedSimpArgs false
namespace Go.Proofs.YtobfeneeehmpcaaGreatDoor
open Go.RowKit Go.Lib

theorem flatMap_congrK {α β : Type} {f g : α → List β} : ∀ {l : List α}, (∀ x ∈ l, f x = g x) → l.flatMap f = l.flatMap g
  | [], _ => rfl
  | x :: r, h => by rw [List.flatMap_cons, List.flatMap_cons, h x (by simp), flatMap_congrK fun y hy => h y (by simp [hy])]
theorem ownsRow_cellK {w : World} {base : Nat} {e : TypeId} {size n g cap : Nat} {xs : List Value} (h : w.ownsRow base e size (.slice (some ⟨g, 0, none⟩) n cap) n xs) {j : Nat} {u : Value} (hj : xs[j]? = some u) : w.cell? ⟨g, j, none⟩ = some u := by
  rcases h.2 with ⟨h2, -⟩ | ⟨g', cap', cur, e1, e2, e3, e4, e5, e6, e7⟩
  · exact absurd h2 (by simp)
  · injection e1 with e1
    injection e1 with e1
    have e8 : g = g' := congrArg Addr.block e1
    subst e8
    have h3 : cur[j]? = some u := by
      rw [← e7, List.getElem?_take] at hj
      by_cases hjn : j < n * size
      · rw [if_pos hjn] at hj
        rw [← Array.getElem?_toList]; exact hj
      · rw [if_neg hjn] at hj; exact absurd hj (by simp)
    simp [World.cell?, e3, h3]
/-- A value among those of a list that is made flat down to a depth. -/
def itemD : Nat → VT → List VT
  | 0, x => [x]
  | d + 1, x => if x.kind = 5 then x.list.flatMap (itemD d) else [x]
def flatD (d : Nat) (l : List VT) : List VT := l.flatMap (itemD d)
theorem flatD_zero (l : List VT) : flatD 0 l = l := by
  unfold flatD
  induction l with
  | nil => rfl
  | cons x r ih => rw [List.flatMap_cons, ih]; rfl
theorem flatD_take {d : Nat} {l : List VT} {j : Nat} {x : VT} (h : l[j]? = some x) : flatD d (l.take (j + 1)) = flatD d (l.take j) ++ itemD d x := by
  unfold flatD
  rw [List.take_add_one, h]; simp
theorem flatD_one (d : Nat) (l : List VT) : flatD 1 (flatD d l) = flatD (d + 1) l := by
  have key : ∀ (d : Nat) (x : VT), (itemD d x).flatMap (itemD 1) = itemD (d + 1) x := by
    intro d
    induction d with
    | zero => intro x; simp [itemD]
    | succ d ih =>
      intro x
      show (if x.kind = 5 then x.list.flatMap (itemD d) else [x]).flatMap (itemD 1) = if x.kind = 5 then x.list.flatMap (itemD (d + 1)) else [x]
      by_cases h : x.kind = 5
      · rw [if_pos h, if_pos h, List.flatMap_assoc]
        exact flatMap_congrK fun y _ => ih y
      · rw [if_neg h, if_neg h]
        simp [itemD, h]
  unfold flatD
  rw [List.flatMap_assoc]
  exact flatMap_congrK fun y _ => key d y
theorem flatD_le {d : Nat} {l : List VT} (h : ∀ x, (itemD d x).length ≤ 1 + under x) : (flatD d l).length ≤ underL l := by
  unfold flatD
  induction l with
  | nil => simp [underL]
  | cons x r ih => rw [List.flatMap_cons, List.length_append]; simp only [underL]; have := h x; omega
theorem itemD_le : ∀ (d : Nat) (x : VT), (itemD d x).length ≤ 1 + under x
  | 0, x => by simp [itemD]
  | d + 1, x => by
    show (if x.kind = 5 then x.list.flatMap (itemD d) else [x]).length ≤ _
    by_cases h : x.kind = 5
    · rw [if_pos h]
      have := flatD_le (d := d) (l := x.list) (itemD_le d)
      have hu : under x = underL x.list := by cases x; rfl
      unfold flatD at this
      omega
    · rw [if_neg h]; simp
theorem flatD_under (d : Nat) (l : List VT) : (flatD d l).length ≤ underL l := flatD_le (itemD_le d)
theorem underL_take (l : List VT) (j : Nat) : underL (l.take j) ≤ underL l := by
  have := underL_append (l.take j) (l.drop j)
  rw [List.take_append_drop] at this
  omega
/-- A row of values in a block from N on; its values' parts lie in blocks of S. -/
def RowS (w : World) (N : Nat) (S : Nat → Prop) (A : Option Addr) (n : Nat) (l : List VT) : Prop := l.length = n ∧ ∃ cs : Nat → List Value, (0 < n → ∃ b off, A = some ⟨b, off, none⟩ ∧ N ≤ b ∧ b < w.heap.size ∧ ∀ i, i < n → (cs i).length = 7 ∧ ∀ j, j < 7 → w.cell? ⟨b, off + (i * 7 + j), none⟩ = (cs i)[j]?) ∧ ∀ i x, l[i]? = some x → VIn w S x (cs i)
theorem RowS.rdl {w : World} {N : Nat} {S : Nat → Prop} {A : Option Addr} {n : Nat} {l : List VT} (h : RowS w N S A n l) (hn : n ≤ 140737488355328) : RdL w (fun b => S b ∨ (N ≤ b ∧ b < w.heap.size)) A n l := by
  obtain ⟨h1, cs, h2, h3⟩ := h
  refine ⟨h1, hn, cs, fun h0 => ?_, fun i x hx => (h3 i x hx).more fun b hb => .inl hb⟩
  obtain ⟨b, off, e, h4, h5, h6⟩ := h2 h0
  exact ⟨b, off, e, .inr ⟨h4, h5⟩, h6⟩
/-- A row of the call's own that grows; its values' parts lie in blocks of S. -/
def GrowS (N : Nat) (S : Nat → Prop) (v : Value) (l : List VT) (W : World) : Prop := ∃ cs : Nat → List Value, W.ownsRow N 28 7 v l.length (flatC cs id l.length) ∧ (∀ i, i < l.length → (cs i).length = 7) ∧ ∀ i x, l[i]? = some x → VIn W S x (cs i)
/-- A flat list, told in a row of the call's own. -/
def FlatP (Y : List VT) (N : Nat) (S : Nat → Prop) (e : Ending) (w' : World) : Prop := ∃ LA lc, e = .returned (.slice LA Y.length lc) ∧ RowS w' N S LA Y.length Y ∧ Y.length ≤ lc ∧ (LA = none → Y.length = 0 ∧ lc = 0)
theorem GrowS.nil (N : Nat) (S : Nat → Prop) (W : World) : GrowS N S (.slice none 0 0) [] W := ⟨fun _ => [], ⟨rfl, .inl ⟨rfl, rfl⟩⟩, fun i hi => absurd hi (by simp), fun i x hx => absurd hx (by simp)⟩
theorem GrowS.keepS {N : Nat} {S : Nat → Prop} {v : Value} {l : List VT} {W W' : World} (hS : ∀ b, S b → b < W.heap.size) (h : GrowS N S v l W) (hb : Below W.heap.size W W') : GrowS N S v l W' := by
  obtain ⟨cs, h1, h2, h3⟩ := h
  exact ⟨cs, ownsRow_keepB h1 (But.of hb) (fun k hk hc => hc), h2, fun i x hx => (h3 i x hx).keep fun p hp => hb.cell (p := p) (hS _ hp)⟩
theorem GrowS.row {N : Nat} {S : Nat → Prop} {A : Option Addr} {n c : Nat} {l : List VT} {W : World} (h : GrowS N S (.slice A n c) l W) (hn : l.length = n) : RowS W N S A n l ∧ n ≤ c ∧ (A = none → n = 0 ∧ c = 0) := by
  obtain ⟨cs, h1, h2, h3⟩ := h
  subst hn
  rcases h1.2 with ⟨e, h0⟩ | ⟨g, cap, cur, e1, e2, e3, e4, e5, e6, e7⟩
  · injection e with e1 e2 e3
    exact ⟨⟨rfl, cs, fun h => absurd h (by omega), h3⟩, by omega, fun _ => ⟨h0, e3⟩⟩
  · injection e1 with e8 e9 e10
    subst e8 e10
    refine ⟨⟨rfl, cs, fun h => ⟨g, 0, rfl, e2, (Array.getElem?_eq_some_iff.1 e3).1, fun i hi => ⟨h2 i hi, fun j hj => ?_⟩⟩, h3⟩, e4, fun h => absurd h (by simp)⟩
    have h7 := flatC_get (cs := cs) (ix := id) (j := l.length) (fun q hq => h2 q hq) i j hi hj
    have h8 : j < (cs i).length := by rw [h2 i hi]; exact hj
    rw [show (cs (id i))[j]? = some ((cs i)[j]) from List.getElem?_eq_getElem h8] at h7
    rw [List.getElem?_eq_getElem h8, Nat.zero_add]
    exact ownsRow_cellK h1 h7
theorem flatC_app (fs gs : Nat → List Value) (ln : Nat) : ∀ m, flatC (fun i => if i < ln then fs i else gs (i - ln)) id (ln + m) = flatC fs id ln ++ flatC gs id m
  | 0 => by
    rw [Nat.add_zero, show flatC gs id 0 = [] from rfl, List.append_nil]
    unfold flatC
    congr 1
    refine List.map_congr_left fun q hq => ?_
    have := List.mem_range.1 hq
    simp [this]
  | m + 1 => by
    rw [show ln + (m + 1) = (ln + m) + 1 from rfl, flatC_succ, flatC_app fs gs ln m, flatC_succ, List.append_assoc]
    simp [show ¬ (ln + m < ln) by omega]
theorem GrowS.app {N ln m : Nat} {S : Nat → Prop} {v v' : Value} {acc ys : List VT} {W1 w5 : World} {fs gs : Nat → List Value} (hln : acc.length = ln) (hm : ys.length = m)
    (hfl : ∀ i, i < ln → (fs i).length = 7) (hft : ∀ i x, acc[i]? = some x → VIn W1 S x (fs i)) (hgl : ∀ i, i < m → (gs i).length = 7) (hgt : ∀ i x, ys[i]? = some x → VIn W1 S x (gs i))
    (hS : ∀ b, S b → b < N) (hN : N ≤ W1.heap.size) (how : W1.ownsRow N 28 7 v ln (flatC fs id ln)) (hg : W1.grownBy w5 v.ownBlock)
    (hown : w5.ownsRow N 28 7 v' (ln + m) (flatC fs id ln ++ flatC gs id m)) : GrowS N S v' (acc ++ ys) w5 := by
  have hk : ∀ p : Addr, S p.block → w5.cell? p = W1.cell? p := fun p hp => World.cell?_of_block (hg.block _ (by have := hS _ hp; omega) (fun e => by have := (ownsRow_lt how e.symm).1; have := hS _ hp; omega))
  refine ⟨fun i => if i < ln then fs i else gs (i - ln), ?_, fun i hi => ?_, fun i x hx => ?_⟩
  · rw [List.length_append, hln, hm, flatC_app]; exact hown
  · rw [List.length_append, hln, hm] at hi
    by_cases h : i < ln
    · simp only [h, if_true]; exact hfl i h
    · simp only [h, if_false]; exact hgl _ (by omega)
  · by_cases h : i < ln
    · simp only [h, if_true]
      exact (hft i x (by rwa [List.getElem?_append_left (by omega)] at hx)).keep hk
    · simp only [h, if_false]
      exact (hgt _ x (by rwa [List.getElem?_append_right (by omega), hln] at hx)).keep hk
theorem ownsRow_any {w : World} {base n : Nat} {e : TypeId} {size : Nat} {v : Value} {xs : List Value} (h : w.ownsRow base e size v n xs) : ∃ A c, v = .slice A n c := by
  rcases h.2 with ⟨h1, h2⟩ | ⟨g, cap, cur, h1, -⟩
  · exact ⟨none, 0, by rw [h1, h2]⟩
  · exact ⟨_, _, h1⟩
theorem oneC_flat {W : World} {S : Nat → Prop} {l : List VT} {gs : Nat → List Value} (h : ∀ i x, l[i]? = some x → VIn W S x (gs i)) : ∀ m, m ≤ l.length → ∀ u ∈ flatC gs id m, u.oneCell' = true
  | 0, _, u, hu => absurd hu (by simp [flatC])
  | m + 1, hm, u, hu => by
    rw [flatC_succ] at hu
    rcases List.mem_append.1 hu with hu | hu
    · exact oneC_flat h m (by omega) u hu
    · have hv := h m _ (List.getElem?_eq_getElem (by omega))
      obtain ⟨k, neg, A, n, c, e, t, LA, ln, lc, KA, kn, kc, hc, -, -⟩ := hv.seven
      rw [show gs (id m) = gs m from rfl, hc] at hu
      simp only [List.mem_cons, List.not_mem_nil, or_false] at hu
      rcases hu with rfl | rfl | rfl | rfl | rfl | rfl | rfl <;> rfl
set_option maxRecDepth 1000000 in
set_option maxHeartbeats 8000000 in
theorem flatStep_c (d : Nat) (IH : ∀ (d' : Nat), d = d' + 1 → ∀ {S : Nat → Prop} {A : Option Addr} {n c : Nat} {l : List VT} (w : World) (hl : RdL w S A n l) (hS : ∀ b, S b → b < w.heap.size) (hd : d' ≤ 1000) (hsz : underL l ≤ 1000000),
      Calls Tryz.prog 17 #[.slice A n c, .int .i64 (d' : Int)] w fun e w' => FlatP (flatD d' l) w.heap.size S e w' ∧ Below w.heap.size w w')
    {S : Nat → Prop} {A : Option Addr} {n c : Nat} {l : List VT} (w : World) (hl : RdL w S A n l) (hS : ∀ b, S b → b < w.heap.size) (hd : d ≤ 1000) (hsz : underL l ≤ 1000000) :
    Calls Tryz.prog 17 #[.slice A n c, .int .i64 (d : Int)] w fun e w' => FlatP (flatD d l) w.heap.size S e w' ∧ Below w.heap.size w w' := by
  obtain ⟨i7, hi7, hp7, hq7, hr7⟩ := info_parts infoV7
  obtain ⟨N, hN⟩ : ∃ N, w.heap.size = N := ⟨_, rfl⟩
  have hfin : ∀ (ln lc : Nat) (LA : Option Addr) (w' : World), (flatD d l).length = ln → GrowS N S (.slice LA ln lc) (flatD d l) w' → Below N w w' →
      FlatP (flatD d l) N S (.returned (.slice LA ln lc)) w' ∧ Below N w w' := by
    intro ln lc LA w' h1 h2 h3
    subst h1
    obtain ⟨h4, h5, h6⟩ := h2.row rfl
    exact ⟨⟨LA, lc, rfl, h4, h5, h6⟩, h3⟩
  have HFIN := Lib.hid hfin
  have HS := Lib.hid (show ∀ b, S b → b < N from hN ▸ hS)
  have HL := Lib.hid hl
  have HXL := Lib.hid hl.1
  have HN := Lib.hid (show N ≤ w.heap.size by omega)
  have HNE := Lib.hid hN
  have HSZ := Lib.hid hsz
  have hnb := hl.2.1
  have HI := Lib.hid @IH
  rw [hN]
  clear hfin hS hl hN hsz IH
  go_enter Tryz.func17, Tryz.ntmps17
  go_upto_region 3 with fail
  go_loopw [5, 10] (fun ov iv wr => ∃ (j ln lc : Nat) (LA : Option Addr), j ≤ n ∧ ov = .slice LA ln lc ∧ iv = .int .i64 (j : Int) ∧ Hid ((flatD d (l.take j)).length = ln) ∧ Hid (GrowS N S (.slice LA ln lc) (flatD d (l.take j)) wr) ∧ Hid (Below N w wr)) (fun _ iv _ => n - (RowKit.intOf iv).toNat)
  case atStart => exact ⟨0, 0, 0, none, Nat.zero_le _, rfl, rfl, rfl, GrowS.nil _ _ _, Below.refl _ _⟩
  case round =>
    obtain ⟨j, ln, lc, LA, hjn, rfl, rfl, hlen, hg, hbel⟩ := hrel
    have HLEN := Lib.hid hlen.out
    have HG := Lib.hid hg.out
    have HBEL := Lib.hid hbel.out
    clear hlen hg hbel
    by_cases hj : j < n
    · have hjlt : (j : Int) < (n : Int) := by omega
      have hj0 : (0 : Int) ≤ (j : Int) := by omega
      have hjt : ((j : Int)).toNat = j := by omega
      have hjw : IntKind.i64.wrap ((j : Int) + 1) = (j : Int) + 1 := IntWalk.i64_in _ (by omega)
      obtain ⟨b, off, x, cs, rfl, hSb, hx, h7, hcells, hvx⟩ := HL.out.at_ hj
      obtain ⟨k2, neg2, xs2, e2, t2, li2, ks2, hx2⟩ : ∃ k2 neg2 xs2 e2 t2 li2 ks2, x = VT.mk k2 neg2 xs2 e2 t2 li2 ks2 := by cases x; exact ⟨_, _, _, _, _, _, _, rfl⟩
      have hvx2 := hvx
      rw [hx2] at hvx2
      obtain ⟨A2, n2, c2, LA2, ln2, lc2, KA2, kn2, kc2, rfl, -, -, -, hli2, -⟩ := hvx2.parts
      have hcw : ∀ a, a < 7 → wr.cell? ⟨b, off + (j * 7 + a), none⟩ = _ := fun a ha => (HBEL.out.cell (p := ⟨b, off + (j * 7 + a), none⟩) (HS.out _ hSb)).trans (hcells a ha)
      have d0 : wr.cell? ⟨b, off + j * 7, none⟩ = some (.int .i64 k2) := hcw 0 (by omega)
      have d1 : wr.cell? ⟨b, off + j * 7 + 1, none⟩ = some (.bool neg2) := hcw 1 (by omega)
      have d2 : wr.cell? ⟨b, off + j * 7 + 2, none⟩ = some (.slice A2 n2 c2) := hcw 2 (by omega)
      have d3 : wr.cell? ⟨b, off + j * 7 + 3, none⟩ = some (.int .i64 e2) := hcw 3 (by omega)
      have d4 : wr.cell? ⟨b, off + j * 7 + 4, none⟩ = some (.string t2) := hcw 4 (by omega)
      have d5 : wr.cell? ⟨b, off + j * 7 + 5, none⟩ = some (.slice LA2 ln2 lc2) := hcw 5 (by omega)
      have d6 : wr.cell? ⟨b, off + j * 7 + 6, none⟩ = some (.slice KA2 kn2 kc2) := hcw 6 (by omega)
      have HX := Lib.hid hx
      have HX2 := Lib.hid hx2
      have HVX := Lib.hid hvx
      have HLI := Lib.hid hli2
      have HLE := Lib.hid (show ln + (itemD d x).length ≤ 1000000 from by
        have h1 := flatD_take (d := d) HX.out
        have h2 := flatD_under d (l.take (j + 1))
        rw [h1, List.length_append, HLEN.out] at h2
        have h3 := underL_take l (j + 1)
        have h4 := HSZ.out
        omega)
      have hwN : N ≤ wr.heap.size := by have := HBEL.out.size; have := HN.out; omega
      clear hcw hcells hvx2 hx hx2 h7 hvx hli2
      go_upto_region 5 with fail
      have hm1 := World.alloc_heap_new wr (.cells #[.int .i64 k2, .bool neg2, .slice A2 n2 c2, .int .i64 e2, .string t2, .slice LA2 ln2 lc2, .slice KA2 kn2 kc2] 28)
      have hb1 : Below wr.heap.size wr (wr.alloc (.cells #[.int .i64 k2, .bool neg2, .slice A2 n2 c2, .int .i64 e2, .string t2, .slice LA2 ln2 lc2, .slice KA2 kn2 kc2] 28)) := (Below.refl _ wr).alloc (Nat.le_refl _) _
      have hs1 : (wr.alloc (.cells #[.int .i64 k2, .bool neg2, .slice A2 n2 c2, .int .i64 e2, .string t2, .slice LA2 ln2 lc2, .slice KA2 kn2 kc2] 28)).heap.size = wr.heap.size + 1 := World.size_alloc _ _
      have HG1 := Lib.hid (HG.out.keepS (fun b hb => Nat.lt_of_lt_of_le (HS.out b hb) hwN) hb1)
      have HB1 := Lib.hid (HBEL.out.trans (hb1.mono hwN))
      generalize (wr.alloc (.cells #[.int .i64 k2, .bool neg2, .slice A2 n2 c2, .int .i64 e2, .string t2, .slice LA2 ln2 lc2, .slice KA2 kn2 kc2] 28)) = W1 at *
      obtain ⟨x0, x1, x2, x3, x4, x5, x6⟩ := box7_of hm1
      have hN1 : N ≤ W1.heap.size := by omega
      have HVX1 := Lib.hid (HVX.out.keep (w' := W1) fun p hp => HB1.out.cell (p := p) (HS.out _ hp))
      have HLI1 := Lib.hid (HLI.out.keep (w' := W1) fun p hp => HB1.out.cell (p := p) (HS.out _ hp))
      clear d0 d1 d2 d3 d4 d5 d6 hm1 hb1 hs1 HG HLI HVX
      by_cases hk5 : k2 = 5
      · subst hk5
        rcases Nat.eq_zero_or_pos d with hd0 | hd0
        · have hdi : ¬ (0 : Int) < (d : Int) := by omega
          have hit : itemD d x = [x] := by rw [hd0]; rfl
          have HIT := Lib.hid hit
          clear hit hd0
          go_upto_region 7 with fail
          have hb2 : Below W1.heap.size W1 (W1.alloc (.cells #[.int .i64 5, .bool neg2, .slice A2 n2 c2, .int .i64 e2, .string t2, .slice LA2 ln2 lc2, .slice KA2 kn2 kc2] 28)) := (Below.refl _ W1).alloc (Nat.le_refl _) _
          have hz := new7 W1 (.int .i64 5) (.bool neg2) (.slice A2 n2 c2) (.int .i64 e2) (.string t2) (.slice LA2 ln2 lc2) (.slice KA2 kn2 kc2) 28
          have HZ := Lib.hid hz
          have HB2 := Lib.hid (HB1.out.trans (hb2.mono hN1))
          have hgr := HG1.out.keepS (fun b hb => Nat.lt_of_lt_of_le (HS.out b hb) hN1) hb2
          have hvx2 := HVX1.out.keep (w' := W1.alloc (.cells #[.int .i64 5, .bool neg2, .slice A2 n2 c2, .int .i64 e2, .string t2, .slice LA2 ln2 lc2, .slice KA2 kn2 kc2] 28)) fun p hp => hb2.cell (p := p) (by have := HS.out _ hp; have := HB1.out.size; omega)
          obtain ⟨fs, hown, hf7, hft⟩ := hgr
          rw [HLEN.out] at hown hf7
          have HOWN := Lib.hid hown
          have HF7 := Lib.hid hf7
          have HFT := Lib.hid hft
          have HVX2 := Lib.hid hvx2
          have HONE := Lib.hid (show ∀ u ∈ ([.int .i64 5, .bool neg2, .slice A2 n2 c2, .int .i64 e2, .string t2, .slice LA2 ln2 lc2, .slice KA2 kn2 kc2] : List Value), u.oneCell' = true from by simp [Value.oneCell'])
          have HN2 := Lib.hid (show N ≤ (W1.alloc (.cells #[.int .i64 5, .bool neg2, .slice A2 n2 c2, .int .i64 e2, .string t2, .slice LA2 ln2 lc2, .slice KA2 kn2 kc2] 28)).heap.size from by have := HB2.out.size; have := HN.out; omega)
          have HBND := Lib.hid (show ln + 1 ≤ 1000000 from by have := HLE.out; rw [HIT.out] at this; simpa using this)
          have hbnd := HBND.out
          clear hb2 hz hown hf7 hft hvx2
          go_wp2_with (at_builtin; refine wpList_append_own_at _ rfl (.tmp 28) (.tmp 30) _ rfl N 28 i7 (.agg #[.int .i64 0, .bool false, .slice none 0 0, .int .i64 0, .string ⟨#[]⟩, .slice none 0 0, .slice none 0 0]) 7 112 Tryz.underlying25 hi7 hp7 hq7 hr7 rfl (by decide) (.slice LA ln lc) ln (flatC fs id ln) rfl HOWN.out ⟨W1.heap.size, 0, none⟩ 1 1 [.int .i64 5, .bool neg2, .slice A2 n2 c2, .int .i64 e2, .string t2, .slice LA2 ln2 lc2, .slice KA2 kn2 kc2] rfl rfl HZ.out HONE.out (by unfold maxLen; omega) (by omega) HN2.out ?_; intro v' w5 hown5 hg5 _ hat5; obtain ⟨g', cap', rfl⟩ := ownsRow_succ hown5; have HOWN5 := Lib.hid hown5; have HG5 := Lib.hid hg5; clear hown5 hg5 hat5)
          go_roundw
          case rel =>
            first | refine ⟨_, _, _, ⟨j + 1, by omega, ln + 1, cap', some ⟨g', 0, none⟩, rfl, rfl, ?_, ?_, HB2.out.grown HG5.out HN2.out (fun k hk => (ownsRow_lt HOWN.out hk).1)⟩, rfl, rfl, by go_num⟩ | refine ⟨j + 1, by omega, ln + 1, cap', some ⟨g', 0, none⟩, rfl, by go_num, ?_, ?_, HB2.out.grown HG5.out HN2.out (fun k hk => (ownsRow_lt HOWN.out hk).1)⟩ | refine ⟨j + 1, ln + 1, cap', some ⟨g', 0, none⟩, by omega, rfl, by go_num, ?_, ?_, HB2.out.grown HG5.out HN2.out (fun k hk => (ownsRow_lt HOWN.out hk).1)⟩
            · show _ = _
              rw [flatD_take HX.out, List.length_append, HLEN.out, HIT.out]; rfl
            · show GrowS _ _ _ _ _
              rw [flatD_take HX.out, HIT.out]
              exact GrowS.app (m := 1) (gs := fun _ => [.int .i64 5, .bool neg2, .slice A2 n2 c2, .int .i64 e2, .string t2, .slice LA2 ln2 lc2, .slice KA2 kn2 kc2]) HLEN.out rfl HF7.out HFT.out (fun i _ => rfl) (fun i y hy => by
                cases i with
                | zero => rw [List.getElem?_cons_zero] at hy; injection hy with hy; rw [← hy]; exact HVX2.out
                | succ i => simp at hy) (fun b hb => by have := HS.out b hb; have := HN.out; omega) HN2.out HOWN.out HG5.out (by rw [show flatC (fun _ => [.int .i64 5, .bool neg2, .slice A2 n2 c2, .int .i64 e2, .string t2, .slice LA2 ln2 lc2, .slice KA2 kn2 kc2]) id 1 = [.int .i64 5, .bool neg2, .slice A2 n2 c2, .int .i64 e2, .string t2, .slice LA2 ln2 lc2, .slice KA2 kn2 kc2] from rfl]; exact HOWN5.out)
          case measure => simp [RowKit.intOf]; omega
        · obtain ⟨d', hdd⟩ : ∃ d', d = d' + 1 := ⟨d - 1, by omega⟩
          have hdi : (0 : Int) < (d : Int) := by omega
          have hdw : IntKind.i64.wrap ((d : Int) - 1) = (d' : Int) := by rw [IntWalk.i64_in _ (by omega)]; omega
          have hit : itemD d x = flatD d' li2 := by rw [hdd, HX2.out]; rfl
          have hun : underL li2 ≤ 1000000 := by
            have h1 := underL_drop HX.out
            have h2 := underL_append (l.take j) (l.drop j)
            rw [List.take_append_drop] at h2
            have h3 : under x = underL li2 := by rw [HX2.out]; rfl
            have := HSZ.out
            omega
          have hcl := HI.out d' hdd (c := lc2) W1 HLI1.out (fun b hb => Nat.lt_of_lt_of_le (HS.out b hb) hN1) (by omega) hun
          obtain ⟨Y, hY⟩ : ∃ Y, flatD d' li2 = Y := ⟨_, rfl⟩
          rw [hY] at hcl hit
          have HCL := Lib.hid hcl
          have HIT := Lib.hid hit
          clear hcl hit hY hun hdd
          go_wp2_with fail
          refine HCL.out.mono ?_
          rintro e9 w3 ⟨⟨LB, lb, rfl, hrow, hlb, hnone⟩, hb3⟩
          have hB3 := HB1.out.trans (hb3.mono hN1)
          have hN3 : N ≤ w3.heap.size := by have := hb3.size; omega
          obtain ⟨fs, hown, hf7, hft⟩ := HG1.out.keepS (fun b hb => Nat.lt_of_lt_of_le (HS.out b hb) hN1) hb3
          rw [HLEN.out] at hown hf7
          obtain ⟨hym, gs, hgc, hgt⟩ := hrow
          have HB3 := Lib.hid hB3
          have HOWN := Lib.hid hown
          have HF7 := Lib.hid hf7
          have HFT := Lib.hid hft
          have HGT := Lib.hid hgt
          have hg7 : ∀ i, i < Y.length → (gs i).length = 7 := fun i hi => by
            obtain ⟨_, _, _, _, _, h6⟩ := hgc (by omega)
            exact (h6 i hi).1
          have HG7 := Lib.hid hg7
          have HNEW := Lib.hid (show ∀ ad : Addr, LB = some ad → ∀ a u, (flatC gs id Y.length)[a]? = some u → w3.cell? (ad.add a) = some u from fun ad had a u hu => by
            have hal : a < Y.length * 7 := by rw [← flatC_length (cs := gs) (ix := id) hg7]; exact (List.getElem?_eq_some_iff.1 hu).1
            obtain ⟨b', off', e1, _, _, h6⟩ := hgc (by omega)
            rw [e1] at had
            injection had with had
            subst had
            have hq := flatC_get (cs := gs) (ix := id) (j := Y.length) hg7 (a / 7) (a % 7) (by omega) (by omega)
            rw [show a / 7 * 7 + a % 7 = a by omega, hu] at hq
            rw [Addr.add_lit, ← (show a / 7 * 7 + a % 7 = a by omega), (h6 (a / 7) (by omega)).2 (a % 7) (by omega)]
            exact hq.symm)
          have HONE := Lib.hid (oneC_flat hgt Y.length (Nat.le_refl _))
          have hbnd : ln + Y.length ≤ 1000000 := by have := HLE.out; rw [HIT.out] at this; exact this
          have HFL := Lib.hid (flatC_length (cs := gs) (ix := id) (j := Y.length) hg7)
          have HNO := Lib.hid hnone
          clear hlb hnone hb3 hB3 hown hf7 hft hgc hgt hg7 hym
          cases LB with
          | none =>
            obtain ⟨hy0, rfl⟩ := HNO.out rfl
            have hY0 : Y = [] := List.eq_nil_of_length_eq_zero hy0
            subst hY0
            have HSAME := Lib.hid (show GrowS N S (.slice LA ln lc) (flatD d (l.take (j + 1))) w3 from by
              rw [flatD_take HX.out, HIT.out, List.append_nil]
              exact ⟨fs, by rw [HLEN.out]; exact HOWN.out, by rw [HLEN.out]; exact HF7.out, HFT.out⟩)
            have HLEN2 := Lib.hid (show (flatD d (l.take (j + 1))).length = ln from by rw [flatD_take HX.out, HIT.out, List.append_nil]; exact HLEN.out)
            go_wp2_with (at_builtin; refine wpList_append_own_none rfl (.tmp 21) (.tmp 26) _ rfl N 28 i7 7 Tryz.underlying25 hi7 (.slice LA ln lc) ln (flatC fs id ln) rfl HOWN.out rfl ?_)
            go_roundw
            case rel => first | exact ⟨_, _, _, ⟨j + 1, by omega, ln, lc, LA, rfl, rfl, HLEN2.out, HSAME.out, HB3.out⟩, rfl, rfl, by go_num⟩ | exact ⟨j + 1, by omega, ln, lc, LA, rfl, by go_num, HLEN2.out, HSAME.out, HB3.out⟩ | exact ⟨j + 1, ln, lc, LA, by omega, rfl, by go_num, HLEN2.out, HSAME.out, HB3.out⟩
            case measure => simp [RowKit.intOf]; omega
          | some ad =>
            go_wp2_with (at_builtin; refine wpList_append_own_at _ rfl (.tmp 21) (.tmp 26) _ rfl N 28 i7 (.agg #[.int .i64 0, .bool false, .slice none 0 0, .int .i64 0, .string ⟨#[]⟩, .slice none 0 0, .slice none 0 0]) 7 112 Tryz.underlying25 hi7 hp7 hq7 hr7 rfl (by decide) (.slice LA ln lc) ln (flatC fs id ln) rfl HOWN.out ad Y.length lb (flatC gs id Y.length) rfl HFL.out (HNEW.out ad rfl) HONE.out (by unfold maxLen; omega) (by omega) hN3 ?_; intro v' w5 hown5 hg5 _ hat5; obtain ⟨A', cap', rfl⟩ := ownsRow_any hown5; have HOWN5 := Lib.hid hown5; have HG5 := Lib.hid hg5; clear hown5 hg5 hat5)
            go_roundw
            case rel =>
              first | refine ⟨_, _, _, ⟨j + 1, by omega, ln + Y.length, cap', A', rfl, rfl, ?_, ?_, HB3.out.grown HG5.out hN3 (fun k hk => (ownsRow_lt HOWN.out hk).1)⟩, rfl, rfl, by go_num⟩ | refine ⟨j + 1, by omega, ln + Y.length, cap', A', rfl, by go_num, ?_, ?_, HB3.out.grown HG5.out hN3 (fun k hk => (ownsRow_lt HOWN.out hk).1)⟩ | refine ⟨j + 1, ln + Y.length, cap', A', by omega, rfl, by go_num, ?_, ?_, HB3.out.grown HG5.out hN3 (fun k hk => (ownsRow_lt HOWN.out hk).1)⟩
              · show _ = _
                rw [flatD_take HX.out, List.length_append, HLEN.out, HIT.out]
              · show GrowS _ _ _ _ _
                rw [flatD_take HX.out, HIT.out]
                exact GrowS.app (m := Y.length) HLEN.out rfl HF7.out HFT.out HG7.out HGT.out HS.out hN3 HOWN.out HG5.out HOWN5.out
            case measure => simp [RowKit.intOf]; omega
      · have hkb : (k2 == 5) = false := by simpa using hk5
        have hit : itemD d x = [x] := by
          cases d with
          | zero => rfl
          | succ d => rw [HX2.out]; exact if_neg hk5
        have HIT := Lib.hid hit
        clear hit
        go_upto_region 7 with fail
        have hb2 : Below W1.heap.size W1 (W1.alloc (.cells #[.int .i64 k2, .bool neg2, .slice A2 n2 c2, .int .i64 e2, .string t2, .slice LA2 ln2 lc2, .slice KA2 kn2 kc2] 28)) := (Below.refl _ W1).alloc (Nat.le_refl _) _
        have hz := new7 W1 (.int .i64 k2) (.bool neg2) (.slice A2 n2 c2) (.int .i64 e2) (.string t2) (.slice LA2 ln2 lc2) (.slice KA2 kn2 kc2) 28
        have HZ := Lib.hid hz
        have HB2 := Lib.hid (HB1.out.trans (hb2.mono hN1))
        have hgr := HG1.out.keepS (fun b hb => Nat.lt_of_lt_of_le (HS.out b hb) hN1) hb2
        have hvx2 := HVX1.out.keep (w' := W1.alloc (.cells #[.int .i64 k2, .bool neg2, .slice A2 n2 c2, .int .i64 e2, .string t2, .slice LA2 ln2 lc2, .slice KA2 kn2 kc2] 28)) fun p hp => hb2.cell (p := p) (by have := HS.out _ hp; have := HB1.out.size; omega)
        obtain ⟨fs, hown, hf7, hft⟩ := hgr
        rw [HLEN.out] at hown hf7
        have HOWN := Lib.hid hown
        have HF7 := Lib.hid hf7
        have HFT := Lib.hid hft
        have HVX2 := Lib.hid hvx2
        have HONE := Lib.hid (show ∀ u ∈ ([.int .i64 k2, .bool neg2, .slice A2 n2 c2, .int .i64 e2, .string t2, .slice LA2 ln2 lc2, .slice KA2 kn2 kc2] : List Value), u.oneCell' = true from by simp [Value.oneCell'])
        have HN2 := Lib.hid (show N ≤ (W1.alloc (.cells #[.int .i64 k2, .bool neg2, .slice A2 n2 c2, .int .i64 e2, .string t2, .slice LA2 ln2 lc2, .slice KA2 kn2 kc2] 28)).heap.size from by have := HB2.out.size; have := HN.out; omega)
        have HBND := Lib.hid (show ln + 1 ≤ 1000000 from by have := HLE.out; rw [HIT.out] at this; simpa using this)
        have hbnd := HBND.out
        clear hb2 hz hown hf7 hft hvx2
        go_wp2_with (at_builtin; refine wpList_append_own_at _ rfl (.tmp 28) (.tmp 30) _ rfl N 28 i7 (.agg #[.int .i64 0, .bool false, .slice none 0 0, .int .i64 0, .string ⟨#[]⟩, .slice none 0 0, .slice none 0 0]) 7 112 Tryz.underlying25 hi7 hp7 hq7 hr7 rfl (by decide) (.slice LA ln lc) ln (flatC fs id ln) rfl HOWN.out ⟨W1.heap.size, 0, none⟩ 1 1 [.int .i64 k2, .bool neg2, .slice A2 n2 c2, .int .i64 e2, .string t2, .slice LA2 ln2 lc2, .slice KA2 kn2 kc2] rfl rfl HZ.out HONE.out (by unfold maxLen; omega) (by omega) HN2.out ?_; intro v' w5 hown5 hg5 _ hat5; obtain ⟨g', cap', rfl⟩ := ownsRow_succ hown5; have HOWN5 := Lib.hid hown5; have HG5 := Lib.hid hg5; clear hown5 hg5 hat5)
        go_roundw
        case rel =>
          first | refine ⟨_, _, _, ⟨j + 1, by omega, ln + 1, cap', some ⟨g', 0, none⟩, rfl, rfl, ?_, ?_, HB2.out.grown HG5.out HN2.out (fun k hk => (ownsRow_lt HOWN.out hk).1)⟩, rfl, rfl, by go_num⟩ | refine ⟨j + 1, by omega, ln + 1, cap', some ⟨g', 0, none⟩, rfl, by go_num, ?_, ?_, HB2.out.grown HG5.out HN2.out (fun k hk => (ownsRow_lt HOWN.out hk).1)⟩ | refine ⟨j + 1, ln + 1, cap', some ⟨g', 0, none⟩, by omega, rfl, by go_num, ?_, ?_, HB2.out.grown HG5.out HN2.out (fun k hk => (ownsRow_lt HOWN.out hk).1)⟩
          · show _ = _
            rw [flatD_take HX.out, List.length_append, HLEN.out, HIT.out]; rfl
          · show GrowS _ _ _ _ _
            rw [flatD_take HX.out, HIT.out]
            exact GrowS.app (m := 1) (gs := fun _ => [.int .i64 k2, .bool neg2, .slice A2 n2 c2, .int .i64 e2, .string t2, .slice LA2 ln2 lc2, .slice KA2 kn2 kc2]) HLEN.out rfl HF7.out HFT.out (fun i _ => rfl) (fun i y hy => by
              cases i with
              | zero => rw [List.getElem?_cons_zero] at hy; injection hy with hy; rw [← hy]; exact HVX2.out
              | succ i => simp at hy) (fun b hb => by have := HS.out b hb; have := HN.out; omega) HN2.out HOWN.out HG5.out (by rw [show flatC (fun _ => [.int .i64 k2, .bool neg2, .slice A2 n2 c2, .int .i64 e2, .string t2, .slice LA2 ln2 lc2, .slice KA2 kn2 kc2]) id 1 = [.int .i64 k2, .bool neg2, .slice A2 n2 c2, .int .i64 e2, .string t2, .slice LA2 ln2 lc2, .slice KA2 kn2 kc2] from rfl]; exact HOWN5.out)
        case measure => simp [RowKit.intOf]; omega
    · have hnj : ¬ (j : Int) < (n : Int) := by omega
      have htk : l.take j = l := by rw [show j = l.length by rw [HXL.out]; omega, List.take_length]
      have hl2 := HLEN.out
      have hg2 := HG.out
      rw [htk] at hl2 hg2
      have HF := Lib.hid (HFIN.out ln lc LA wr hl2 hg2 HBEL.out)
      clear hl2 hg2 htk
      go_wp2_with fail
      go_ret
      exact HF.out
set_option maxRecDepth 1000000 in
set_option maxHeartbeats 8000000 in
theorem flat_c : ∀ (d : Nat) {S : Nat → Prop} {A : Option Addr} {n c : Nat} {l : List VT} (w : World) (hl : RdL w S A n l) (hS : ∀ b, S b → b < w.heap.size) (hd : d ≤ 1000) (hsz : underL l ≤ 1000000),
    Calls Tryz.prog 17 #[.slice A n c, .int .i64 (d : Int)] w fun e w' => FlatP (flatD d l) w.heap.size S e w' ∧ Below w.heap.size w w' := by
  intro d
  induction d with
  | zero =>
    intro S A n c l w hl hS hd hsz
    have IH : ∀ (d' : Nat), (0 : Nat) = d' + 1 → ∀ {S : Nat → Prop} {A : Option Addr} {n c : Nat} {l : List VT} (w : World) (hl : RdL w S A n l) (hS : ∀ b, S b → b < w.heap.size) (hd : d' ≤ 1000) (hsz : underL l ≤ 1000000),
      Calls Tryz.prog 17 #[.slice A n c, .int .i64 (d' : Int)] w fun e w' => FlatP (flatD d' l) w.heap.size S e w' ∧ Below w.heap.size w w' := fun d' h => absurd h (by omega)
    exact flatStep_c 0 IH w hl hS hd hsz
  | succ d ih =>
    intro S A n c l w hl hS hd hsz
    exact flatStep_c (d + 1) (fun d' h => by obtain rfl : d' = d := by omega
                                             exact ih) w hl hS hd hsz
end Go.Proofs.YtobfeneeehmpcaaGreatDoor
