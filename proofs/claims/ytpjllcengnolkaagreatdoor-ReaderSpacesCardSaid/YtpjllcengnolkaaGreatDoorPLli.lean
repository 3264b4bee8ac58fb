/-
  Contract of the closure that reads the values of a list.
-/
import Derived.Test.YtpjllcengnolkaaGreatDoorPLit
set_option linter.unusedVariables false
set_option linter.unusedSimpArgs false
namespace Go.Proofs.YtpjllcengnolkaaGreatDoor
open Go.RowKit Go.Lib
variable {B : Nat} {L : List UInt8} {A : Option Addr} {c sb : Nat}

/-- A row of the call's own that holds trees; they lie in memory of its own, too, but not in the row. -/
def Grow (N : Nat) (v : Value) (l : List VT) (W : World) : Prop := ∃ cs : Nat → List Value, W.ownsRow N 34 7 v l.length (flatC cs id l.length) ∧ (∀ i, i < l.length → (cs i).length = 7) ∧
  (∀ i x, l[i]? = some x → VIn W (fun b => N ≤ b ∧ b < W.heap.size ∧ v.ownBlock ≠ some b) x (cs i))
theorem ownsRow_keepB {w w' : World} {base : Nat} {e : TypeId} {size : Nat} {v : Value} {n : Nat} {xs : List Value} {C : Nat → Prop} (h : w.ownsRow base e size v n xs) (hb : But C w w') (hC : ∀ k, v.ownBlock = some k → ¬ C k) : w'.ownsRow base e size v n xs := by
  obtain ⟨h1, h2⟩ := h
  refine ⟨h1, ?_⟩
  rcases h2 with h2 | ⟨g, cap, cur, e1, e2, e3, e4⟩
  · exact .inl h2
  · exact .inr ⟨g, cap, cur, e1, e2, (hb.block g (Array.getElem?_eq_some_iff.1 e3).1 (hC g (by rw [e1]; rfl))).trans e3, e4⟩
theorem ownsRow_lt {w : World} {base : Nat} {e : TypeId} {size : Nat} {v : Value} {n : Nat} {xs : List Value} (h : w.ownsRow base e size v n xs) {k : Nat} (hk : v.ownBlock = some k) : base ≤ k ∧ k < w.heap.size := by
  rcases h.2 with ⟨h2, -⟩ | ⟨g, cap, cur, e1, e2, e3, e4⟩
  · rw [h2] at hk; exact absurd hk (by simp [Value.ownBlock])
  · rw [e1] at hk
    injection hk with hk
    have hk : g = k := hk
    subst hk
    exact ⟨e2, (Array.getElem?_eq_some_iff.1 e3).1⟩
theorem ownsRow_set {w : World} {base : Nat} {e : TypeId} {size : Nat} {v : Value} {n : Nat} {xs : List Value} (h : w.ownsRow base e size v n xs) {g : Nat} (hg : v.ownBlock = some g) (i : Nat) (u : Value) : (w.setCell ⟨g, i, none⟩ u).ownsRow base e size v n (xs.set i u) := by
  obtain ⟨h1, h2⟩ := h
  refine ⟨by rw [List.length_set]; exact h1, ?_⟩
  rcases h2 with ⟨h2, h3⟩ | ⟨g', cap, cur, e1, e2, e3, e4, e5, e6, e7⟩
  · rw [h2] at hg; exact absurd hg (by simp [Value.ownBlock])
  · rw [e1] at hg
    injection hg with hg
    have hg : g' = g := hg
    subst hg
    exact .inr ⟨g', cap, cur.setIfInBounds i u, e1, e2, set_heap e3, e4, e5, by rw [Array.size_setIfInBounds]; exact e6, by rw [Array.toList_setIfInBounds, List.take_set, e7]⟩
theorem Grow.keep {N : Nat} {v : Value} {l : List VT} {W W' : World} {C : Nat → Prop} (h : Grow N v l W) (hb : But C W W') (hC : ∀ k, C k → k < N) : Grow N v l W' := by
  obtain ⟨cs, h1, h2, h3⟩ := h
  refine ⟨cs, ownsRow_keepB h1 hb (fun k hk hc => by have := (ownsRow_lt h1 hk).1; have := hC k hc; omega), h2, fun i x hx => ?_⟩
  exact ((h3 i x hx).keep fun p hp => hb.cell hp.2.1 (fun hc => by have := hC _ hc; have := hp.1; omega)).more fun b hb' => ⟨hb'.1, Nat.lt_of_lt_of_le hb'.2.1 hb.size, hb'.2.2⟩
theorem set7 {xs : List Value} {z0 z1 z2 z3 z4 z5 z6 a0 a1 a2 a3 a4 a5 a6 : Value} {n : Nat} (hn : xs.length = n) :
    ((((((((xs ++ [z0, z1, z2, z3, z4, z5, z6]).set n a0).set (n + 1) a1).set (n + 2) a2).set (n + 3) a3).set (n + 4) a4).set (n + 5) a5).set (n + 6) a6) = xs ++ [a0, a1, a2, a3, a4, a5, a6] := by
  subst hn
  simp [List.set_append]
theorem ownsRow_cell {w : World} {base : Nat} {e : TypeId} {size n g cap : Nat} {xs : List Value} (h : w.ownsRow base e size (.slice (some ⟨g, 0, none⟩) n cap) n xs) {j : Nat} {u : Value} (hj : xs[j]? = some u) : w.cell? ⟨g, j, none⟩ = some u ∧ w.frozen? ⟨g, j, none⟩ = false := by
  rcases h.2 with ⟨h2, -⟩ | ⟨g', cap', cur, e1, e2, e3, e4, e5, e6, e7⟩
  · exact absurd h2 (by simp)
  · injection e1 with e1
    injection e1 with e1
    have e8 : g = g' := congrArg Addr.block e1
    subst e8
    have h3 : cur[j]? = some u := by
      rw [← e7, List.getElem?_take] at hj
      by_cases hjn : j < n * size
      · rw [if_pos hjn] at hj
        rw [← Array.getElem?_toList]; exact hj
      · rw [if_neg hjn] at hj; exact absurd hj (by simp)
    exact ⟨by simp [World.cell?, e3, h3], by simp [World.frozen?, e3]⟩
theorem Grow.push {N ln M g' cap' ob : Nat} {v : Value} {acc : List VT} {a : VT} {w2 W1 w5 w6 : World} {fs : Nat → List Value} {csa : List Value} (hln : acc.length = ln)
    (hfl : ∀ i, i < ln → (fs i).length = 7) (hft : ∀ i x, acc[i]? = some x → VIn W1 (fun b => N ≤ b ∧ b < W1.heap.size ∧ v.ownBlock ≠ some b) x (fs i))
    (hvl : ∀ k, v.ownBlock = some k → k < M) (hNM : N ≤ M) (h21 : Below w2.heap.size w2 W1)
    (hva : VIn w2 (fun b => M ≤ b ∧ b < w2.heap.size) a csa) (hc7 : csa.length = 7)
    (hg : W1.grownBy w5 v.ownBlock) (hat : (Value.slice (some ⟨g', 0, none⟩) (ln + 1) cap').ownBlock = v.ownBlock ∨ (Value.slice (some ⟨g', 0, none⟩) (ln + 1) cap').ownBlock = some W1.heap.size)
    (hb6 : But (fun j => j = g' ∨ j = ob) w5 w6) (hobN : ob < N)
    (hown6 : w6.ownsRow N 34 7 (.slice (some ⟨g', 0, none⟩) (ln + 1) cap') (ln + 1) (flatC fs id ln ++ csa)) : Grow N (.slice (some ⟨g', 0, none⟩) (ln + 1) cap') (acc ++ [a]) w6 := by
  have hg1 : ∀ b, v.ownBlock ≠ some b → b < W1.heap.size → b ≠ g' := fun b h1 h2 h3 => by
    subst h3
    rcases hat with h | h
    · exact h1 h.symm
    · injection h with h
      have h : b = W1.heap.size := h
      omega
  have hkeep : ∀ b, N ≤ b → b < W1.heap.size → v.ownBlock ≠ some b → w6.heap[b]? = W1.heap[b]? := fun b h0 h1 h2 => by
    rw [hb6.block b (Nat.lt_of_lt_of_le h1 hg.size) (by have := hg1 b h2 h1; omega)]
    exact hg.block b h1 (fun e => h2 e.symm)
  have hgo : ∀ b, v.ownBlock ≠ some b → b < W1.heap.size → (Value.slice (some ⟨g', 0, none⟩) (ln + 1) cap').ownBlock ≠ some b := fun b h1 h2 h3 => by
    injection h3 with h3
    exact hg1 b h1 h2 h3.symm
  have hsz : W1.heap.size ≤ w6.heap.size := Nat.le_trans hg.size hb6.size
  refine ⟨fun i => if i < ln then fs i else csa, ?_, fun i hi => ?_, fun i x hx => ?_⟩
  · rw [List.length_append, hln]
    show w6.ownsRow N _ 7 _ (ln + 1) (flatC _ id (ln + 1))
    rw [flatC_succ]
    have h1 : flatC (fun i => if i < ln then fs i else csa) id ln = flatC fs id ln := by
      unfold flatC
      congr 1
      refine List.map_congr_left fun q hq => ?_
      have := List.mem_range.1 hq
      simp [this]
    rw [h1]
    simpa using hown6
  · by_cases h : i < ln
    · simp only [h, if_true]; exact hfl i h
    · simp only [h, if_false]; exact hc7
  · by_cases h : i < ln
    · simp only [h, if_true]
      have hx2 : acc[i]? = some x := by rwa [List.getElem?_append_left (by omega)] at hx
      exact ((hft i x hx2).keep fun p hp => World.cell?_of_block (hkeep _ hp.1 hp.2.1 hp.2.2)).more fun b hb => ⟨hb.1, Nat.lt_of_lt_of_le hb.2.1 hsz, hgo b hb.2.2 hb.2.1⟩
    · simp only [h, if_false]
      have hxa : x = a := by
        rw [List.getElem?_append_right (by omega)] at hx
        rw [hln] at hx
        have h0 : i - ln = 0 := by
          rcases Nat.eq_zero_or_pos (i - ln) with h0 | h0
          · exact h0
          · rw [List.getElem?_eq_none (by first | (simp; done) | (simp; omega))] at hx; exact absurd hx (by simp)
        rw [h0] at hx
        injection hx with hx
        exact hx.symm
      subst hxa
      have hvo : ∀ b, M ≤ b → v.ownBlock ≠ some b := fun b hb e => by have := hvl b e; omega
      refine (hva.keep fun p hp => ?_).more fun b hb => ⟨by have := hb.1; omega, by have := hb.2; have := h21.size; omega, hgo b (hvo b hb.1) (by have := hb.2; have := h21.size; omega)⟩
      exact (World.cell?_of_block (hkeep _ (by have := hp.1; omega) (by have := hp.2; have := h21.size; omega) (hvo _ hp.1))).trans (h21.cell hp.2)
theorem row_put7 {w : World} {base g cap m n : Nat} {xs : List Value} {z0 z1 z2 z3 z4 z5 z6 a0 a1 a2 a3 a4 a5 a6 : Value} (h : w.ownsRow base 34 7 (.slice (some ⟨g, 0, none⟩) m cap) m (xs ++ [z0, z1, z2, z3, z4, z5, z6])) (hn : xs.length = n) :
    (((((((w.setCell ⟨g, n, none⟩ a0).setCell ⟨g, n + 1, none⟩ a1).setCell ⟨g, n + 2, none⟩ a2).setCell ⟨g, n + 3, none⟩ a3).setCell ⟨g, n + 4, none⟩ a4).setCell ⟨g, n + 5, none⟩ a5).setCell ⟨g, n + 6, none⟩ a6).ownsRow base 34 7 (.slice (some ⟨g, 0, none⟩) m cap) m (xs ++ [a0, a1, a2, a3, a4, a5, a6]) ∧
    But (fun j => j = g) w (((((((w.setCell ⟨g, n, none⟩ a0).setCell ⟨g, n + 1, none⟩ a1).setCell ⟨g, n + 2, none⟩ a2).setCell ⟨g, n + 3, none⟩ a3).setCell ⟨g, n + 4, none⟩ a4).setCell ⟨g, n + 5, none⟩ a5).setCell ⟨g, n + 6, none⟩ a6) := by
  refine ⟨?_, But.setCell (C := fun k => k = g) (But.setCell (C := fun k => k = g) (But.setCell (C := fun k => k = g) (But.setCell (C := fun k => k = g) (But.setCell (C := fun k => k = g) (But.setCell (C := fun k => k = g) (But.setCell (C := fun k => k = g) (But.refl _ _) (p := ⟨g, n, none⟩) (.inl rfl) _) (p := ⟨g, n + 1, none⟩) (.inl rfl) _) (p := ⟨g, n + 2, none⟩) (.inl rfl) _) (p := ⟨g, n + 3, none⟩) (.inl rfl) _) (p := ⟨g, n + 4, none⟩) (.inl rfl) _) (p := ⟨g, n + 5, none⟩) (.inl rfl) _) (p := ⟨g, n + 6, none⟩) (.inl rfl) _⟩
  have h7 := ownsRow_set (ownsRow_set (ownsRow_set (ownsRow_set (ownsRow_set (ownsRow_set (ownsRow_set h rfl n a0) rfl (n + 1) a1) rfl (n + 2) a2) rfl (n + 3) a3) rfl (n + 4) a4) rfl (n + 5) a5) rfl (n + 6) a6
  rw [set7 hn] at h7
  exact h7
/-- What the closure of a list keeps: where the scan is told, the list as it is so far. -/
def IL (ob pb sb N : Nat) (acc : List VT) (W : World) : Prop := ∃ (LA : Option Addr) (lc : Nat), W.heap[pb]? = some (.cells #[ptr sb] 66) ∧
  W.heap[ob]? = some (.cells #[.int .i64 5, .bool false, .slice none 0 0, .int .i64 0, .string ⟨#[]⟩, .slice LA acc.length lc, .slice none 0 0] 34) ∧ Grow N (.slice LA acc.length lc) acc W
theorem IL.keep {ob pb N : Nat} {acc : List VT} {W W' : World} (h : IL ob pb sb N acc W) (hb : But (fun k => k = sb) W W') (h1 : pb ≠ sb) (h2 : ob ≠ sb) (h3 : sb < N) : IL ob pb sb N acc W' := by
  obtain ⟨LA, lc, a1, a2, a3⟩ := h
  exact ⟨LA, lc, (hb.block pb (Array.getElem?_eq_some_iff.1 a1).1 h1).trans a1, (hb.block ob (Array.getElem?_eq_some_iff.1 a2).1 h2).trans a2, a3.keep hb (fun k hk => by omega)⟩
/-- The reading of values with so many levels left does what the page's does. -/
def ValC (k : Nat) : Prop := ∀ {B : Nat} {L : List UInt8} {A : Option Addr} {c sb : Nat} {w : World} {p o : Nat} (nth : Nat), Env B L A c sb w p o → L.length ≤ c → k + o = 64 → nth ≤ 100000 →
  Calls Tryz.prog 29 #[ptr sb, .int .i64 (nth : Int)] w (Po B L A c sb (fun k => k = sb) o (rV w.heap.size) w (rValue mkObj k nth L p))

set_option maxRecDepth 100000 in
set_option maxHeartbeats 4000000 in
theorem list1_c {k : Nat} (ih : ValC k) {ob pb N o : Nat} (hko : k + (o + 1) = 64) (hcap : L.length ≤ c) (hps : pb ≠ sb) (hos : ob ≠ sb) (hop : ob ≠ pb) (hsN : sb < N) (hBo : B ≤ ob) (hoN : ob < N) (hpN : pb < N) (W : World) (p nth : Nat) (acc : List VT)
    (E : Env B L A c sb W p (o + 1)) (hI : IL ob pb sb N acc W) (hal : acc.length + 1 = nth) (hn : nth ≤ 70000) (hNW : N ≤ W.heap.size) :
    Calls Tryz.prog 49 #[.int .i64 (nth : Int), ptr ob, ptr pb] W (PoI B L A c sb (fun j => j = sb ∨ (j = ob ∨ N ≤ j)) (o + 1) (fun a W' => IL ob pb sb N (acc ++ [a]) W') W (rValue mkObj k nth L p)) := by
  obtain ⟨i7, hi7, hp7, hq7, hr7⟩ := info_parts infoV7
  obtain ⟨R, hR⟩ : ∃ R, rValue mkObj k nth L p = R := ⟨_, rfl⟩
  rw [hR]
  obtain ⟨LA, lc, hb1, hb2, hG⟩ := hI
  obtain ⟨ln, hln⟩ : ∃ ln, acc.length = ln := ⟨_, rfl⟩
  rw [hln] at hb2 hG
  have hv := fun V (E' : Env B L A c sb V p (o + 1)) => ih nth E' hcap hko (by omega)
  rw [hR] at hv
  have HV := Lib.hid hv
  have HG := Lib.hid hG
  have HE := Lib.hid E
  have HB1 := Lib.hid hb1
  have HB2 := Lib.hid hb2
  have HLN := Lib.hid hln
  have hc5 : W.cell? ⟨ob, 5, none⟩ = some (.slice LA ln lc) := cell_at3 hb2 rfl
  have hc0 : W.cell? ⟨pb, 0, none⟩ = some (ptr sb) := cell_at3 hb1 rfl
  have hS : ∀ V, But (fun k => k = sb) W V → V.cell? ⟨pb, 0, none⟩ = some (ptr sb) := fun V hV => hV.cell_some hc0 hps
  have HS := Lib.hid hS
  have HC5 := Lib.hid (show ∀ V, But (fun k => k = sb) W V → V.cell? ⟨ob, 5, none⟩ = some (.slice LA ln lc) from fun V hV => hV.cell_some hc5 hos)
  clear hv hG E hb1 hb2 hR hS hc5 hc0
  go_enter Tryz.func49, Tryz.ntmps49
  go_wp2_with fail
  refine wp_region_held_drew (S := fun V => V.cell? ⟨pb, 0, none⟩ = some (ptr sb)) (by kernel_rfl) (HS.out W.drew ((But.refl _ _).drew)) (fun hHeld => ?_)
  (try simp only [List.size_toArray, List.length_cons, List.length_nil, Nat.reduceAdd, Array.replicate_succ, Array.replicate_zero, List.push_toArray, List.append_toArray, List.nil_append, List.cons_append])
  refine wpAnyH_take (i := 0) (oi := ⟨_, _, _, _, _, _⟩) (v := ?_) rfl (by kernel_rfl) (by kernel_rfl) (by kernel_rfl) (fun _ _ _ h => h) (Or.inl ⟨by rfl, ?_⟩) (by assumption) ?_
  rotate_left
  · intro w hSw
    (try dsimp only at hSw)
    go_split_ands
    go_simp
    try with_reducible rfl
  try simp only [Act.put, List.setIfInBounds_toArray, List.set_cons_zero, List.set_cons_succ]
  refine wpAnyH_take (i := 2) (oi := ⟨_, _, _, _, _, _⟩) (v := ?_) rfl (by kernel_rfl) (by kernel_rfl) (by kernel_rfl) (fun _ _ _ h => h) (Or.inl ⟨by rfl, ?_⟩) (by assumption) ?_
  rotate_left
  · intro w hSw
    (try dsimp only at hSw)
    go_split_ands
    go_simp
    try with_reducible rfl
  try simp only [Act.put, List.setIfInBounds_toArray, List.set_cons_zero, List.set_cons_succ]
  refine wpAnyH_take (i := 3) (oi := ⟨_, _, _, _, _, _⟩) (v := ?_) rfl (by kernel_rfl) (by kernel_rfl) (by kernel_rfl) (fun _ _ _ h => h) (Or.inl ⟨by rfl, ?_⟩) (by assumption) ?_
  rotate_left
  · intro w hSw
    (try dsimp only at hSw)
    go_split_ands
    go_simp
    try with_reducible rfl
  try simp only [Act.put, List.setIfInBounds_toArray, List.set_cons_zero, List.set_cons_succ]
  have hbw : But (fun k => k = sb) W W.drew := (But.refl _ _).drew
  refine wpAnyH_ready (rs := [1, 4, 6]) (by kernel_rfl) (by simp) (AllReadyH.cons (o := ⟨_, _, _, _, _, _⟩) rfl (fun K hK => ?_) (AllReadyH.cons (o := ⟨_, _, _, _, _, _⟩) rfl (fun K hK => ?_) (AllReadyH.cons (o := ⟨_, _, _, _, _, _⟩) rfl (fun K hK => ?_) AllReadyH.nil)))
  · have c5 : W.drew.cell? ⟨ob, 5, none⟩ = some (.slice LA ln lc) := HC5.out _ (hbw)
    go_simp
    refine hK.out _ _ (HS.out _ (hbw)) (fun hHeldL => ?_)
    clear hK K hHeld c5
    try simp only [Act.put, List.setIfInBounds_toArray, List.set_cons_zero, List.set_cons_succ]
    refine wpAnyH_take (i := 5) (oi := ⟨_, _, _, _, _, _⟩) (v := ?_) rfl (by kernel_rfl) (by kernel_rfl) (by kernel_rfl) (fun _ _ _ h => h) (Or.inl ⟨by rfl, ?_⟩) (by assumption) ?_
    rotate_left
    · intro w hSw
      (try dsimp only at hSw)
      go_split_ands
      go_simp
      try with_reducible rfl
    try simp only [Act.put, List.setIfInBounds_toArray, List.set_cons_zero, List.set_cons_succ]
    refine wpAnyH_ready (rs := [4, 6]) (by kernel_rfl) (by simp) (AllReadyH.cons (o := ⟨_, _, _, _, _, _⟩) rfl (fun K hK => ?_) (AllReadyH.cons (o := ⟨_, _, _, _, _, _⟩) rfl (fun K hK => ?_) AllReadyH.nil))
    · go_simp
      refine (HV.out W.drew (HE.out.stay (C := fun _ => False) ((But.refl _ _).drew) (fun _ _ h => h) (fun h => h))).mono ?_
      intro e w2 hp
      cases R with
      | bad q x =>
        obtain ⟨rfl, hb⟩ := hp
        exact ⟨rfl, rfl, ((hbw).trans hb).mono (fun _ _ h => .inl h)⟩
      | ok a q =>
        obtain ⟨⟨v, rfl, cs, rfl, hva⟩, hE2, hbc⟩ := hp
        obtain ⟨k1, neg1, xs1, e1, t1, li1, ks1, hak⟩ : ∃ k neg xs e t li ks, a = VT.mk k neg xs e t li ks := by cases a; exact ⟨_, _, _, _, _, _, _, rfl⟩
        have hvb := hva
        rw [hak] at hvb
        obtain ⟨A1, n1, c1, LA1, ln1, lc1, KA1, kn1, kc1, rfl, -⟩ := hvb.parts
        have hb2 : But (fun k => k = sb) W w2 := (hbw).trans hbc
        have HVA := Lib.hid (show VIn w2 (fun b => W.heap.size ≤ b ∧ b < w2.heap.size) a _ from hva.more (fun b hb => ⟨by have h9 := hb.1; simp at h9; omega, hb.2⟩))
        have HE2 := Lib.hid hE2
        clear hvb hak hva hE2
        (try dsimp only)
        refine hK.out _ _ (HS.out _ hb2) (fun hHeldC => ?_)
        clear hK K hHeldL
        try simp only [Act.put, List.setIfInBounds_toArray, List.set_cons_zero, List.set_cons_succ]
        refine wpAnyH_ready (rs := [6]) (by kernel_rfl) (by simp) (AllReadyH.cons (o := ⟨_, _, _, _, _, _⟩) rfl (fun K hK => ?_) AllReadyH.nil)
        · go_simp
          refine hK.out _ _ (HS.out _ ((hb2).alloc (.cells #[.int .i64 0, .bool false, .slice none 0 0, .int .i64 0, .string ⟨#[]⟩, .slice none 0 0, .slice none 0 0] 34))) (fun hHeldB => ?_)
          clear hK K hHeldC
          try simp only [Act.put, List.setIfInBounds_toArray, List.set_cons_zero, List.set_cons_succ]
          have HZ := Lib.hid (new7 w2 (.int .i64 0) (.bool false) (.slice none 0 0) (.int .i64 0) (.string ⟨#[]⟩) (.slice none 0 0) (.slice none 0 0) 34)
          have HBA := Lib.hid ((hb2).alloc (.cells #[.int .i64 0, .bool false, .slice none 0 0, .int .i64 0, .string ⟨#[]⟩, .slice none 0 0, .slice none 0 0] 34))
          have H21 := Lib.hid (show Below w2.heap.size w2 (w2.alloc (.cells #[.int .i64 0, .bool false, .slice none 0 0, .int .i64 0, .string ⟨#[]⟩, .slice none 0 0, .slice none 0 0] 34)) from (Below.refl _ _).alloc (Nat.le_refl _) _)
          try simp only [Act.put, List.setIfInBounds_toArray, List.set_cons_zero, List.set_cons_succ]
          have hgr : Grow N (.slice LA ln lc) acc (w2.alloc (.cells #[.int .i64 0, .bool false, .slice none 0 0, .int .i64 0, .string ⟨#[]⟩, .slice none 0 0, .slice none 0 0] 34)) := HG.out.keep HBA.out (fun k hk => by omega)
          obtain ⟨fs, hown, hf7, hft⟩ := hgr
          rw [HLN.out] at hown
          have hfl : (flatC fs id ln).length = ln * 7 := flatC_length (fun q hq => hf7 q (by have := HLN.out; omega))
          have HOWN := Lib.hid hown
          have HF7 := Lib.hid (show ∀ i, i < ln → (fs i).length = 7 from fun i hi => hf7 i (by have := HLN.out; omega))
          have HFT := Lib.hid hft
          have HNA := Lib.hid (show N ≤ (w2.alloc (.cells #[.int .i64 0, .bool false, .slice none 0 0, .int .i64 0, .string ⟨#[]⟩, .slice none 0 0, .slice none 0 0] 34)).heap.size from Nat.le_trans hNW HBA.out.size)
          clear hown hf7 hft
          refine wpAnyH_ready (rs := [7]) (by kernel_rfl) (by simp) (AllReadyH.cons (o := ⟨_, _, _, _, _, _⟩) rfl (fun K hK => ?_) AllReadyH.nil)
          refine step_append_at (base := N) (e := 34) (v := .slice LA ln lc) (n := ln) (xs := flatC fs id ln) (news := [.int .i64 0, .bool false, .slice none 0 0, .int .i64 0, .string ⟨#[]⟩, .slice none 0 0, .slice none 0 0]) (m := 1) (c := 1) (ad := ⟨w2.heap.size, 0, none⟩) rfl (.tmp 5) (.tmp 10) 24 rfl Tryz.underlying24 hi7 hp7 hq7 hr7 rfl (by decide) rfl HOWN.out rfl rfl HZ.out (by simp [Value.oneCell']) (by unfold maxLen; omega) (by omega) HNA.out ?_
          intro v' w5 hown5 hg5 _ hat5
          obtain ⟨g', cap', rfl⟩ := ownsRow_succ hown5
          have hbl5 : Below N (w2.alloc (.cells #[.int .i64 0, .bool false, .slice none 0 0, .int .i64 0, .string ⟨#[]⟩, .slice none 0 0, .slice none 0 0] 34)) w5 := (Below.refl N _).grown hg5 HNA.out (fun q e => (ownsRow_lt HOWN.out e).1)
          have hob5 : w5.heap[ob]? = _ := (hbl5.block ob hoN).trans ((HBA.out.block ob (Array.getElem?_eq_some_iff.1 HB2.out).1 hos).trans HB2.out)
          have hpb5 : w5.heap[pb]? = _ := (hbl5.block pb hpN).trans ((HBA.out.block pb (Array.getElem?_eq_some_iff.1 HB1.out).1 hps).trans HB1.out)
          have hc0 : w5.cell? ⟨pb, 0, none⟩ = some (ptr sb) := cell_at3 hpb5 rfl
          have hgN : N ≤ g' := (ownsRow_lt hown5 rfl).1
          have HFL := Lib.hid hfl
          have hz : ∀ j u, [.int .i64 0, .bool false, .slice none 0 0, .int .i64 0, .string ⟨#[]⟩, .slice none 0 0, .slice none 0 0][j]? = some u → w5.cell? ⟨g', ln * 7 + j, none⟩ = some u ∧ w5.frozen? ⟨g', ln * 7 + j, none⟩ = false := fun j u hj => ownsRow_cell hown5 (by rw [List.getElem?_append_right (by rw [HFL.out]; omega), HFL.out, Nat.add_sub_cancel_left]; exact hj)
          obtain ⟨z0, r0⟩ := hz 0 (.int .i64 0) rfl
          obtain ⟨z1, r1⟩ := hz 1 (.bool false) rfl
          obtain ⟨z2, r2⟩ := hz 2 (.slice none 0 0) rfl
          obtain ⟨z3, r3⟩ := hz 3 (.int .i64 0) rfl
          obtain ⟨z4, r4⟩ := hz 4 (.string ⟨#[]⟩) rfl
          obtain ⟨z5, r5⟩ := hz 5 (.slice none 0 0) rfl
          obtain ⟨z6, r6⟩ := hz 6 (.slice none 0 0) rfl
          rw [Nat.add_zero] at z0 r0
          have o5 : w5.cell? ⟨ob, 5, none⟩ = some (.slice LA ln lc) := cell_at3 hob5 rfl
          have p5 : w5.frozen? ⟨ob, 5, none⟩ = false := by simp [World.frozen?, hob5]
          have hgo : ¬ g' = ob := by omega
          have hog : ¬ ob = g' := by omega
          have hpg : ¬ pb = g' := by omega
          have hl1 : (ln : Int) < (ln : Int) + 1 := by omega
          have hl0 : (0 : Int) ≤ (ln : Int) := by omega
          have hlt : ((ln : Int)).toNat = ln := by omega
          (try dsimp only)
          refine hK.out _ _ hc0 (fun hHeld4 => ?_)
          clear hK K hHeldB hz hfl
          have HOWN5 := Lib.hid hown5
          have HG5 := Lib.hid hg5
          have HAT5 := Lib.hid hat5
          have HBL5 := Lib.hid hbl5
          have HOB5 := Lib.hid hob5
          have HPB5 := Lib.hid hpb5
          clear hown5 hg5 hat5 hbl5 hob5 hpb5
          try simp only [Act.put, List.setIfInBounds_toArray, List.set_cons_zero, List.set_cons_succ]
          refine wpAnyH_take (i := 8) (oi := ⟨_, _, _, _, _, _⟩) (v := ?_) rfl (by kernel_rfl) (by kernel_rfl) (by kernel_rfl) (fun _ _ _ h => h) (Or.inl ⟨by rfl, ?_⟩) (by assumption) ?_
          rotate_left
          · intro w hSw
            (try dsimp only at hSw)
            go_split_ands
            go_simp
            try with_reducible rfl
          try simp only [Act.put, List.setIfInBounds_toArray, List.set_cons_zero, List.set_cons_succ]
          refine wpAnyH_take (i := 10) (oi := ⟨_, _, _, _, _, _⟩) (v := ?_) rfl (by kernel_rfl) (by kernel_rfl) (by kernel_rfl) (fun _ _ _ h => h) (Or.inl ⟨by rfl, ?_⟩) (by assumption) ?_
          rotate_left
          · intro w hSw
            (try dsimp only at hSw)
            go_split_ands
            go_simp
            try with_reducible rfl
          try simp only [Act.put, List.setIfInBounds_toArray, List.set_cons_zero, List.set_cons_succ]
          refine wpAnyH_ready (rs := [9, 11]) (by kernel_rfl) (by simp) (AllReadyH.cons (o := ⟨_, _, _, _, _, _⟩) rfl (fun K hK => ?_) (AllReadyH.cons (o := ⟨_, _, _, _, _, _⟩) rfl (fun K hK => ?_) AllReadyH.nil))
          · go_simp
            obtain ⟨hrp, hbp⟩ := row_put7 (a0 := (.int .i64 k1)) (a1 := (.bool neg1)) (a2 := (.slice A1 n1 c1)) (a3 := (.int .i64 e1)) (a4 := (.string t1)) (a5 := (.slice LA1 ln1 lc1)) (a6 := (.slice KA1 kn1 kc1)) HOWN5.out HFL.out
            have hob1 := (hbp.block ob (Array.getElem?_eq_some_iff.1 HOB5.out).1 hog).trans HOB5.out
            have hpc := hbp.cell_some hc0 hpg
            refine hK.out _ _ hpc (fun hHeld5 => ?_)
            clear hK K hHeld4
            try simp only [Act.put, List.setIfInBounds_toArray, List.set_cons_zero, List.set_cons_succ]
            have hob6 := set_heap (i := 5) (u := (.slice (some ⟨g', 0, none⟩) (ln + 1) cap')) hob1
            have hown6 := ownsRow_setCell_other (a := ⟨ob, 5, none⟩) hrp (by show some g' ≠ some ob; intro h; injection h with h; exact hgo h) (.slice (some ⟨g', 0, none⟩) (ln + 1) cap')
            have hb56 : But (fun j => j = g' ∨ j = ob) w5 ((((((((w5.setCell ⟨g', ln * 7, none⟩ (.int .i64 k1)).setCell ⟨g', ln * 7 + 1, none⟩ (.bool neg1)).setCell ⟨g', ln * 7 + 2, none⟩ (.slice A1 n1 c1)).setCell ⟨g', ln * 7 + 3, none⟩ (.int .i64 e1)).setCell ⟨g', ln * 7 + 4, none⟩ (.string t1)).setCell ⟨g', ln * 7 + 5, none⟩ (.slice LA1 ln1 lc1)).setCell ⟨g', ln * 7 + 6, none⟩ (.slice KA1 kn1 kc1)).setCell ⟨ob, 5, none⟩ (.slice (some ⟨g', 0, none⟩) (ln + 1) cap')) := But.setCell (C := fun j => j = g' ∨ j = ob) (p := ⟨ob, 5, none⟩) (hbp.mono (fun _ _ h => .inl h)) (.inl (.inr rfl)) _
            refine wpAnyH_ready (rs := [11]) (by kernel_rfl) (by simp) (AllReadyH.cons (o := ⟨_, _, _, _, _, _⟩) rfl (fun K hK => ?_) AllReadyH.nil)
            go_simp
            refine hK.out _ _ ((World.cell?_setCell_other _ _ _ _ (by first | (simp; done) | (simp; omega))).trans hpc) (fun hHeld6 => ?_)
            clear hK K hHeld5 hob1 hpc hrp hbp
            try simp only [Act.put, List.setIfInBounds_toArray, List.set_cons_zero, List.set_cons_succ]
            have hgo9 : W.ownsRow N 34 7 (.slice LA ln lc) acc.length _ := HG.out.choose_spec.1
            refine wpAnyH_done (by kernel_rfl) ?_ _
            clear z0 z1 z2 z3 z4 z5 z6 r0 r1 r2 r3 r4 r5 r6 o5 p5 hc0
            generalize ((((((((w5.setCell ⟨g', ln * 7, none⟩ (.int .i64 k1)).setCell ⟨g', ln * 7 + 1, none⟩ (.bool neg1)).setCell ⟨g', ln * 7 + 2, none⟩ (.slice A1 n1 c1)).setCell ⟨g', ln * 7 + 3, none⟩ (.int .i64 e1)).setCell ⟨g', ln * 7 + 4, none⟩ (.string t1)).setCell ⟨g', ln * 7 + 5, none⟩ (.slice LA1 ln1 lc1)).setCell ⟨g', ln * 7 + 6, none⟩ (.slice KA1 kn1 kc1)).setCell ⟨ob, 5, none⟩ (.slice (some ⟨g', 0, none⟩) (ln + 1) cap')) = w6 at *
            go_wp2
            first | go_end0 | refine bodyPost_ret (results_none rfl _ _ _) rfl ?_
            have hb26 : But (fun j => j = ob ∨ N ≤ j) w2 w6 := (But.of (C := fun j => j = ob ∨ N ≤ j) H21.out).trans (((⟨HBL5.out.os, HBL5.out.tape, HBL5.out.output, HBL5.out.size, fun j hj hc => HBL5.out.block j (by omega)⟩ : But (fun j => j = ob ∨ N ≤ j) (w2.alloc (.cells #[.int .i64 0, .bool false, .slice none 0 0, .int .i64 0, .string ⟨#[]⟩, .slice none 0 0, .slice none 0 0] 34)) w5)).trans (hb56.mono (fun j _ h => by rcases h with h | h <;> omega)))
            have hbW6 : But (fun j => j = sb ∨ (j = ob ∨ N ≤ j)) W w6 := (hb2.mono (fun _ _ h => .inl h)).trans (hb26.mono (fun _ _ h => .inr h))
            refine ⟨rfl, HE2.out.stay hb26 (fun j hj h => by have := HE.out.base; omega) (fun h => by omega), ⟨some ⟨g', 0, none⟩, cap', ?_, ?_, ?_⟩, hbW6⟩
            · exact (hb56.block pb (Array.getElem?_eq_some_iff.1 HPB5.out).1 (by omega)).trans HPB5.out
            · rw [List.length_append, HLN.out]; exact hob6
            · rw [List.length_append, HLN.out]; exact Grow.push (ob := ob) HLN.out HF7.out HFT.out (fun j hj => (ownsRow_lt hgo9 hj).2) hNW H21.out HVA.out rfl HG5.out HAT5.out hb56 hoN hown6
          · go_simp
            have hob6' := set_heap (i := 5) (u := (.slice (some ⟨g', 0, none⟩) (ln + 1) cap')) HOB5.out
            have hpc := (World.cell?_setCell_other w5 ⟨ob, 5, none⟩ ⟨pb, 0, none⟩ (.slice (some ⟨g', 0, none⟩) (ln + 1) cap') (by first | (simp; done) | (simp; omega))).trans hc0
            refine hK.out _ _ hpc (fun hHeld5 => ?_)
            clear hK K hHeld4
            try simp only [Act.put, List.setIfInBounds_toArray, List.set_cons_zero, List.set_cons_succ]
            have y0 := (World.cell?_setCell_other w5 ⟨ob, 5, none⟩ ⟨g', ln * 7, none⟩ (.slice (some ⟨g', 0, none⟩) (ln + 1) cap') (by first | (simp; done) | (simp; omega))).trans z0
            have y1 := (World.cell?_setCell_other w5 ⟨ob, 5, none⟩ ⟨g', ln * 7 + 1, none⟩ (.slice (some ⟨g', 0, none⟩) (ln + 1) cap') (by first | (simp; done) | (simp; omega))).trans z1
            have y2 := (World.cell?_setCell_other w5 ⟨ob, 5, none⟩ ⟨g', ln * 7 + 2, none⟩ (.slice (some ⟨g', 0, none⟩) (ln + 1) cap') (by first | (simp; done) | (simp; omega))).trans z2
            have y3 := (World.cell?_setCell_other w5 ⟨ob, 5, none⟩ ⟨g', ln * 7 + 3, none⟩ (.slice (some ⟨g', 0, none⟩) (ln + 1) cap') (by first | (simp; done) | (simp; omega))).trans z3
            have y4 := (World.cell?_setCell_other w5 ⟨ob, 5, none⟩ ⟨g', ln * 7 + 4, none⟩ (.slice (some ⟨g', 0, none⟩) (ln + 1) cap') (by first | (simp; done) | (simp; omega))).trans z4
            have y5 := (World.cell?_setCell_other w5 ⟨ob, 5, none⟩ ⟨g', ln * 7 + 5, none⟩ (.slice (some ⟨g', 0, none⟩) (ln + 1) cap') (by first | (simp; done) | (simp; omega))).trans z5
            have y6 := (World.cell?_setCell_other w5 ⟨ob, 5, none⟩ ⟨g', ln * 7 + 6, none⟩ (.slice (some ⟨g', 0, none⟩) (ln + 1) cap') (by first | (simp; done) | (simp; omega))).trans z6
            have hown5' := ownsRow_setCell_other (a := ⟨ob, 5, none⟩) HOWN5.out (by show some g' ≠ some ob; intro h; injection h with h; exact hgo h) (.slice (some ⟨g', 0, none⟩) (ln + 1) cap')
            obtain ⟨hown6, hbp⟩ := row_put7 (a0 := (.int .i64 k1)) (a1 := (.bool neg1)) (a2 := (.slice A1 n1 c1)) (a3 := (.int .i64 e1)) (a4 := (.string t1)) (a5 := (.slice LA1 ln1 lc1)) (a6 := (.slice KA1 kn1 kc1)) hown5' HFL.out
            have hob6 := (hbp.block ob (by simp [World.setCell]; exact (Array.getElem?_eq_some_iff.1 HOB5.out).1) hog).trans hob6'
            have hb56 : But (fun j => j = g' ∨ j = ob) w5 ((((((((w5.setCell ⟨ob, 5, none⟩ (.slice (some ⟨g', 0, none⟩) (ln + 1) cap')).setCell ⟨g', ln * 7, none⟩ (.int .i64 k1)).setCell ⟨g', ln * 7 + 1, none⟩ (.bool neg1)).setCell ⟨g', ln * 7 + 2, none⟩ (.slice A1 n1 c1)).setCell ⟨g', ln * 7 + 3, none⟩ (.int .i64 e1)).setCell ⟨g', ln * 7 + 4, none⟩ (.string t1)).setCell ⟨g', ln * 7 + 5, none⟩ (.slice LA1 ln1 lc1)).setCell ⟨g', ln * 7 + 6, none⟩ (.slice KA1 kn1 kc1)) := (But.setCell (C := fun j => j = g' ∨ j = ob) (p := ⟨ob, 5, none⟩) (But.refl _ _) (.inl (.inr rfl)) _).trans (hbp.mono (fun _ _ h => .inl h))
            refine wpAnyH_ready (rs := [9]) (by kernel_rfl) (by simp) (AllReadyH.cons (o := ⟨_, _, _, _, _, _⟩) rfl (fun K hK => ?_) AllReadyH.nil)
            go_simp
            refine hK.out _ _ (hbp.cell_some hpc hpg) (fun hHeld6 => ?_)
            clear hK K hHeld5 hob6' hpc hown5' hbp y0 y1 y2 y3 y4 y5 y6
            try simp only [Act.put, List.setIfInBounds_toArray, List.set_cons_zero, List.set_cons_succ]
            have hgo9 : W.ownsRow N 34 7 (.slice LA ln lc) acc.length _ := HG.out.choose_spec.1
            refine wpAnyH_done (by kernel_rfl) ?_ _
            clear z0 z1 z2 z3 z4 z5 z6 r0 r1 r2 r3 r4 r5 r6 o5 p5 hc0
            generalize ((((((((w5.setCell ⟨ob, 5, none⟩ (.slice (some ⟨g', 0, none⟩) (ln + 1) cap')).setCell ⟨g', ln * 7, none⟩ (.int .i64 k1)).setCell ⟨g', ln * 7 + 1, none⟩ (.bool neg1)).setCell ⟨g', ln * 7 + 2, none⟩ (.slice A1 n1 c1)).setCell ⟨g', ln * 7 + 3, none⟩ (.int .i64 e1)).setCell ⟨g', ln * 7 + 4, none⟩ (.string t1)).setCell ⟨g', ln * 7 + 5, none⟩ (.slice LA1 ln1 lc1)).setCell ⟨g', ln * 7 + 6, none⟩ (.slice KA1 kn1 kc1)) = w6 at *
            go_wp2
            first | go_end0 | refine bodyPost_ret (results_none rfl _ _ _) rfl ?_
            have hb26 : But (fun j => j = ob ∨ N ≤ j) w2 w6 := (But.of (C := fun j => j = ob ∨ N ≤ j) H21.out).trans (((⟨HBL5.out.os, HBL5.out.tape, HBL5.out.output, HBL5.out.size, fun j hj hc => HBL5.out.block j (by omega)⟩ : But (fun j => j = ob ∨ N ≤ j) (w2.alloc (.cells #[.int .i64 0, .bool false, .slice none 0 0, .int .i64 0, .string ⟨#[]⟩, .slice none 0 0, .slice none 0 0] 34)) w5)).trans (hb56.mono (fun j _ h => by rcases h with h | h <;> omega)))
            have hbW6 : But (fun j => j = sb ∨ (j = ob ∨ N ≤ j)) W w6 := (hb2.mono (fun _ _ h => .inl h)).trans (hb26.mono (fun _ _ h => .inr h))
            refine ⟨rfl, HE2.out.stay hb26 (fun j hj h => by have := HE.out.base; omega) (fun h => by omega), ⟨some ⟨g', 0, none⟩, cap', ?_, ?_, ?_⟩, hbW6⟩
            · exact (hb56.block pb (Array.getElem?_eq_some_iff.1 HPB5.out).1 (by omega)).trans HPB5.out
            · rw [List.length_append, HLN.out]; exact hob6
            · rw [List.length_append, HLN.out]; exact Grow.push (ob := ob) HLN.out HF7.out HFT.out (fun j hj => (ownsRow_lt hgo9 hj).2) hNW H21.out HVA.out rfl HG5.out HAT5.out hb56 hoN hown6
    · go_simp
      refine hK.out _ _ (HS.out _ (((But.refl (fun k => k = sb) W).alloc (.cells #[.int .i64 0, .bool false, .slice none 0 0, .int .i64 0, .string ⟨#[]⟩, .slice none 0 0, .slice none 0 0] 34)).drew)) (fun hHeldB => ?_)
      clear hK K hHeldL
      try simp only [Act.put, List.setIfInBounds_toArray, List.set_cons_zero, List.set_cons_succ]
      refine wpAnyH_ready (rs := [4]) (by kernel_rfl) (by simp) (AllReadyH.cons (o := ⟨_, _, _, _, _, _⟩) rfl (fun K hK => ?_) AllReadyH.nil)
      · go_simp
        refine (HV.out ((W.alloc (.cells #[.int .i64 0, .bool false, .slice none 0 0, .int .i64 0, .string ⟨#[]⟩, .slice none 0 0, .slice none 0 0] 34)).drew) (HE.out.stay (C := fun _ => False) (((But.refl _ _).alloc _).drew) (fun _ _ h => h) (fun h => h))).mono ?_
        intro e w2 hp
        cases R with
        | bad q x =>
          obtain ⟨rfl, hb⟩ := hp
          exact ⟨rfl, rfl, ((((But.refl (fun k => k = sb) W).alloc (.cells #[.int .i64 0, .bool false, .slice none 0 0, .int .i64 0, .string ⟨#[]⟩, .slice none 0 0, .slice none 0 0] 34)).drew).trans hb).mono (fun _ _ h => .inl h)⟩
        | ok a q =>
          obtain ⟨⟨v, rfl, cs, rfl, hva⟩, hE2, hbc⟩ := hp
          obtain ⟨k1, neg1, xs1, e1, t1, li1, ks1, hak⟩ : ∃ k neg xs e t li ks, a = VT.mk k neg xs e t li ks := by cases a; exact ⟨_, _, _, _, _, _, _, rfl⟩
          have hvb := hva
          rw [hak] at hvb
          obtain ⟨A1, n1, c1, LA1, ln1, lc1, KA1, kn1, kc1, rfl, -⟩ := hvb.parts
          have hb2 : But (fun k => k = sb) W w2 := (((But.refl (fun k => k = sb) W).alloc (.cells #[.int .i64 0, .bool false, .slice none 0 0, .int .i64 0, .string ⟨#[]⟩, .slice none 0 0, .slice none 0 0] 34)).drew).trans hbc
          have HVA := Lib.hid (show VIn w2 (fun b => W.heap.size ≤ b ∧ b < w2.heap.size) a _ from hva.more (fun b hb => ⟨by have h9 := hb.1; simp at h9; omega, hb.2⟩))
          have HE2 := Lib.hid hE2
          clear hvb hak hva hE2
          (try dsimp only)
          refine hK.out _ _ (HS.out _ hb2) (fun hHeldC => ?_)
          clear hK K hHeldB
          try simp only [Act.put, List.setIfInBounds_toArray, List.set_cons_zero, List.set_cons_succ]
          have HZ := Lib.hid (show ∀ j u, [.int .i64 0, .bool false, .slice none 0 0, .int .i64 0, .string ⟨#[]⟩, .slice none 0 0, .slice none 0 0][j]? = some u → w2.cell? ((⟨W.heap.size, 0, none⟩ : Addr).add j) = some u from fun j u hj => by
            have h9 := new7 W (.int .i64 0) (.bool false) (.slice none 0 0) (.int .i64 0) (.string ⟨#[]⟩) (.slice none 0 0) (.slice none 0 0) 34 j u hj
            exact hbc.cell_some h9 (fun h => by rw [Addr.add_lit] at h; have h8 : W.heap.size = sb := h; have := HE.out.lt; omega))
          have HBA := Lib.hid (hb2)
          have H21 := Lib.hid (show Below w2.heap.size w2 w2 from Below.refl _ _)
          clear hbc
          try simp only [Act.put, List.setIfInBounds_toArray, List.set_cons_zero, List.set_cons_succ]
          have hgr : Grow N (.slice LA ln lc) acc w2 := HG.out.keep HBA.out (fun k hk => by omega)
          obtain ⟨fs, hown, hf7, hft⟩ := hgr
          rw [HLN.out] at hown
          have hfl : (flatC fs id ln).length = ln * 7 := flatC_length (fun q hq => hf7 q (by have := HLN.out; omega))
          have HOWN := Lib.hid hown
          have HF7 := Lib.hid (show ∀ i, i < ln → (fs i).length = 7 from fun i hi => hf7 i (by have := HLN.out; omega))
          have HFT := Lib.hid hft
          have HNA := Lib.hid (show N ≤ w2.heap.size from Nat.le_trans hNW HBA.out.size)
          clear hown hf7 hft
          refine wpAnyH_ready (rs := [7]) (by kernel_rfl) (by simp) (AllReadyH.cons (o := ⟨_, _, _, _, _, _⟩) rfl (fun K hK => ?_) AllReadyH.nil)
          refine step_append_at (base := N) (e := 34) (v := .slice LA ln lc) (n := ln) (xs := flatC fs id ln) (news := [.int .i64 0, .bool false, .slice none 0 0, .int .i64 0, .string ⟨#[]⟩, .slice none 0 0, .slice none 0 0]) (m := 1) (c := 1) (ad := ⟨W.heap.size, 0, none⟩) rfl (.tmp 5) (.tmp 10) 24 rfl Tryz.underlying24 hi7 hp7 hq7 hr7 rfl (by decide) rfl HOWN.out rfl rfl HZ.out (by simp [Value.oneCell']) (by unfold maxLen; omega) (by omega) HNA.out ?_
          intro v' w5 hown5 hg5 _ hat5
          obtain ⟨g', cap', rfl⟩ := ownsRow_succ hown5
          have hbl5 : Below N w2 w5 := (Below.refl N _).grown hg5 HNA.out (fun q e => (ownsRow_lt HOWN.out e).1)
          have hob5 : w5.heap[ob]? = _ := (hbl5.block ob hoN).trans ((HBA.out.block ob (Array.getElem?_eq_some_iff.1 HB2.out).1 hos).trans HB2.out)
          have hpb5 : w5.heap[pb]? = _ := (hbl5.block pb hpN).trans ((HBA.out.block pb (Array.getElem?_eq_some_iff.1 HB1.out).1 hps).trans HB1.out)
          have hc0 : w5.cell? ⟨pb, 0, none⟩ = some (ptr sb) := cell_at3 hpb5 rfl
          have hgN : N ≤ g' := (ownsRow_lt hown5 rfl).1
          have HFL := Lib.hid hfl
          have hz : ∀ j u, [.int .i64 0, .bool false, .slice none 0 0, .int .i64 0, .string ⟨#[]⟩, .slice none 0 0, .slice none 0 0][j]? = some u → w5.cell? ⟨g', ln * 7 + j, none⟩ = some u ∧ w5.frozen? ⟨g', ln * 7 + j, none⟩ = false := fun j u hj => ownsRow_cell hown5 (by rw [List.getElem?_append_right (by rw [HFL.out]; omega), HFL.out, Nat.add_sub_cancel_left]; exact hj)
          obtain ⟨z0, r0⟩ := hz 0 (.int .i64 0) rfl
          obtain ⟨z1, r1⟩ := hz 1 (.bool false) rfl
          obtain ⟨z2, r2⟩ := hz 2 (.slice none 0 0) rfl
          obtain ⟨z3, r3⟩ := hz 3 (.int .i64 0) rfl
          obtain ⟨z4, r4⟩ := hz 4 (.string ⟨#[]⟩) rfl
          obtain ⟨z5, r5⟩ := hz 5 (.slice none 0 0) rfl
          obtain ⟨z6, r6⟩ := hz 6 (.slice none 0 0) rfl
          rw [Nat.add_zero] at z0 r0
          have o5 : w5.cell? ⟨ob, 5, none⟩ = some (.slice LA ln lc) := cell_at3 hob5 rfl
          have p5 : w5.frozen? ⟨ob, 5, none⟩ = false := by simp [World.frozen?, hob5]
          have hgo : ¬ g' = ob := by omega
          have hog : ¬ ob = g' := by omega
          have hpg : ¬ pb = g' := by omega
          have hl1 : (ln : Int) < (ln : Int) + 1 := by omega
          have hl0 : (0 : Int) ≤ (ln : Int) := by omega
          have hlt : ((ln : Int)).toNat = ln := by omega
          (try dsimp only)
          refine hK.out _ _ hc0 (fun hHeld4 => ?_)
          clear hK K hHeldC hz hfl
          have HOWN5 := Lib.hid hown5
          have HG5 := Lib.hid hg5
          have HAT5 := Lib.hid hat5
          have HBL5 := Lib.hid hbl5
          have HOB5 := Lib.hid hob5
          have HPB5 := Lib.hid hpb5
          clear hown5 hg5 hat5 hbl5 hob5 hpb5
          try simp only [Act.put, List.setIfInBounds_toArray, List.set_cons_zero, List.set_cons_succ]
          refine wpAnyH_take (i := 8) (oi := ⟨_, _, _, _, _, _⟩) (v := ?_) rfl (by kernel_rfl) (by kernel_rfl) (by kernel_rfl) (fun _ _ _ h => h) (Or.inl ⟨by rfl, ?_⟩) (by assumption) ?_
          rotate_left
          · intro w hSw
            (try dsimp only at hSw)
            go_split_ands
            go_simp
            try with_reducible rfl
          try simp only [Act.put, List.setIfInBounds_toArray, List.set_cons_zero, List.set_cons_succ]
          refine wpAnyH_take (i := 10) (oi := ⟨_, _, _, _, _, _⟩) (v := ?_) rfl (by kernel_rfl) (by kernel_rfl) (by kernel_rfl) (fun _ _ _ h => h) (Or.inl ⟨by rfl, ?_⟩) (by assumption) ?_
          rotate_left
          · intro w hSw
            (try dsimp only at hSw)
            go_split_ands
            go_simp
            try with_reducible rfl
          try simp only [Act.put, List.setIfInBounds_toArray, List.set_cons_zero, List.set_cons_succ]
          refine wpAnyH_ready (rs := [9, 11]) (by kernel_rfl) (by simp) (AllReadyH.cons (o := ⟨_, _, _, _, _, _⟩) rfl (fun K hK => ?_) (AllReadyH.cons (o := ⟨_, _, _, _, _, _⟩) rfl (fun K hK => ?_) AllReadyH.nil))
          · go_simp
            obtain ⟨hrp, hbp⟩ := row_put7 (a0 := (.int .i64 k1)) (a1 := (.bool neg1)) (a2 := (.slice A1 n1 c1)) (a3 := (.int .i64 e1)) (a4 := (.string t1)) (a5 := (.slice LA1 ln1 lc1)) (a6 := (.slice KA1 kn1 kc1)) HOWN5.out HFL.out
            have hob1 := (hbp.block ob (Array.getElem?_eq_some_iff.1 HOB5.out).1 hog).trans HOB5.out
            have hpc := hbp.cell_some hc0 hpg
            refine hK.out _ _ hpc (fun hHeld5 => ?_)
            clear hK K hHeld4
            try simp only [Act.put, List.setIfInBounds_toArray, List.set_cons_zero, List.set_cons_succ]
            have hob6 := set_heap (i := 5) (u := (.slice (some ⟨g', 0, none⟩) (ln + 1) cap')) hob1
            have hown6 := ownsRow_setCell_other (a := ⟨ob, 5, none⟩) hrp (by show some g' ≠ some ob; intro h; injection h with h; exact hgo h) (.slice (some ⟨g', 0, none⟩) (ln + 1) cap')
            have hb56 : But (fun j => j = g' ∨ j = ob) w5 ((((((((w5.setCell ⟨g', ln * 7, none⟩ (.int .i64 k1)).setCell ⟨g', ln * 7 + 1, none⟩ (.bool neg1)).setCell ⟨g', ln * 7 + 2, none⟩ (.slice A1 n1 c1)).setCell ⟨g', ln * 7 + 3, none⟩ (.int .i64 e1)).setCell ⟨g', ln * 7 + 4, none⟩ (.string t1)).setCell ⟨g', ln * 7 + 5, none⟩ (.slice LA1 ln1 lc1)).setCell ⟨g', ln * 7 + 6, none⟩ (.slice KA1 kn1 kc1)).setCell ⟨ob, 5, none⟩ (.slice (some ⟨g', 0, none⟩) (ln + 1) cap')) := But.setCell (C := fun j => j = g' ∨ j = ob) (p := ⟨ob, 5, none⟩) (hbp.mono (fun _ _ h => .inl h)) (.inl (.inr rfl)) _
            refine wpAnyH_ready (rs := [11]) (by kernel_rfl) (by simp) (AllReadyH.cons (o := ⟨_, _, _, _, _, _⟩) rfl (fun K hK => ?_) AllReadyH.nil)
            go_simp
            refine hK.out _ _ ((World.cell?_setCell_other _ _ _ _ (by first | (simp; done) | (simp; omega))).trans hpc) (fun hHeld6 => ?_)
            clear hK K hHeld5 hob1 hpc hrp hbp
            try simp only [Act.put, List.setIfInBounds_toArray, List.set_cons_zero, List.set_cons_succ]
            have hgo9 : W.ownsRow N 34 7 (.slice LA ln lc) acc.length _ := HG.out.choose_spec.1
            refine wpAnyH_done (by kernel_rfl) ?_ _
            clear z0 z1 z2 z3 z4 z5 z6 r0 r1 r2 r3 r4 r5 r6 o5 p5 hc0
            generalize ((((((((w5.setCell ⟨g', ln * 7, none⟩ (.int .i64 k1)).setCell ⟨g', ln * 7 + 1, none⟩ (.bool neg1)).setCell ⟨g', ln * 7 + 2, none⟩ (.slice A1 n1 c1)).setCell ⟨g', ln * 7 + 3, none⟩ (.int .i64 e1)).setCell ⟨g', ln * 7 + 4, none⟩ (.string t1)).setCell ⟨g', ln * 7 + 5, none⟩ (.slice LA1 ln1 lc1)).setCell ⟨g', ln * 7 + 6, none⟩ (.slice KA1 kn1 kc1)).setCell ⟨ob, 5, none⟩ (.slice (some ⟨g', 0, none⟩) (ln + 1) cap')) = w6 at *
            go_wp2
            first | go_end0 | refine bodyPost_ret (results_none rfl _ _ _) rfl ?_
            have hb26 : But (fun j => j = ob ∨ N ≤ j) w2 w6 := (But.of (C := fun j => j = ob ∨ N ≤ j) H21.out).trans (((⟨HBL5.out.os, HBL5.out.tape, HBL5.out.output, HBL5.out.size, fun j hj hc => HBL5.out.block j (by omega)⟩ : But (fun j => j = ob ∨ N ≤ j) w2 w5)).trans (hb56.mono (fun j _ h => by rcases h with h | h <;> omega)))
            have hbW6 : But (fun j => j = sb ∨ (j = ob ∨ N ≤ j)) W w6 := (hb2.mono (fun _ _ h => .inl h)).trans (hb26.mono (fun _ _ h => .inr h))
            refine ⟨rfl, HE2.out.stay hb26 (fun j hj h => by have := HE.out.base; omega) (fun h => by omega), ⟨some ⟨g', 0, none⟩, cap', ?_, ?_, ?_⟩, hbW6⟩
            · exact (hb56.block pb (Array.getElem?_eq_some_iff.1 HPB5.out).1 (by omega)).trans HPB5.out
            · rw [List.length_append, HLN.out]; exact hob6
            · rw [List.length_append, HLN.out]; exact Grow.push (ob := ob) HLN.out HF7.out HFT.out (fun j hj => (ownsRow_lt hgo9 hj).2) hNW H21.out HVA.out rfl HG5.out HAT5.out hb56 hoN hown6
          · go_simp
            have hob6' := set_heap (i := 5) (u := (.slice (some ⟨g', 0, none⟩) (ln + 1) cap')) HOB5.out
            have hpc := (World.cell?_setCell_other w5 ⟨ob, 5, none⟩ ⟨pb, 0, none⟩ (.slice (some ⟨g', 0, none⟩) (ln + 1) cap') (by first | (simp; done) | (simp; omega))).trans hc0
            refine hK.out _ _ hpc (fun hHeld5 => ?_)
            clear hK K hHeld4
            try simp only [Act.put, List.setIfInBounds_toArray, List.set_cons_zero, List.set_cons_succ]
            have y0 := (World.cell?_setCell_other w5 ⟨ob, 5, none⟩ ⟨g', ln * 7, none⟩ (.slice (some ⟨g', 0, none⟩) (ln + 1) cap') (by first | (simp; done) | (simp; omega))).trans z0
            have y1 := (World.cell?_setCell_other w5 ⟨ob, 5, none⟩ ⟨g', ln * 7 + 1, none⟩ (.slice (some ⟨g', 0, none⟩) (ln + 1) cap') (by first | (simp; done) | (simp; omega))).trans z1
            have y2 := (World.cell?_setCell_other w5 ⟨ob, 5, none⟩ ⟨g', ln * 7 + 2, none⟩ (.slice (some ⟨g', 0, none⟩) (ln + 1) cap') (by first | (simp; done) | (simp; omega))).trans z2
            have y3 := (World.cell?_setCell_other w5 ⟨ob, 5, none⟩ ⟨g', ln * 7 + 3, none⟩ (.slice (some ⟨g', 0, none⟩) (ln + 1) cap') (by first | (simp; done) | (simp; omega))).trans z3
            have y4 := (World.cell?_setCell_other w5 ⟨ob, 5, none⟩ ⟨g', ln * 7 + 4, none⟩ (.slice (some ⟨g', 0, none⟩) (ln + 1) cap') (by first | (simp; done) | (simp; omega))).trans z4
            have y5 := (World.cell?_setCell_other w5 ⟨ob, 5, none⟩ ⟨g', ln * 7 + 5, none⟩ (.slice (some ⟨g', 0, none⟩) (ln + 1) cap') (by first | (simp; done) | (simp; omega))).trans z5
            have y6 := (World.cell?_setCell_other w5 ⟨ob, 5, none⟩ ⟨g', ln * 7 + 6, none⟩ (.slice (some ⟨g', 0, none⟩) (ln + 1) cap') (by first | (simp; done) | (simp; omega))).trans z6
            have hown5' := ownsRow_setCell_other (a := ⟨ob, 5, none⟩) HOWN5.out (by show some g' ≠ some ob; intro h; injection h with h; exact hgo h) (.slice (some ⟨g', 0, none⟩) (ln + 1) cap')
            obtain ⟨hown6, hbp⟩ := row_put7 (a0 := (.int .i64 k1)) (a1 := (.bool neg1)) (a2 := (.slice A1 n1 c1)) (a3 := (.int .i64 e1)) (a4 := (.string t1)) (a5 := (.slice LA1 ln1 lc1)) (a6 := (.slice KA1 kn1 kc1)) hown5' HFL.out
            have hob6 := (hbp.block ob (by simp [World.setCell]; exact (Array.getElem?_eq_some_iff.1 HOB5.out).1) hog).trans hob6'
            have hb56 : But (fun j => j = g' ∨ j = ob) w5 ((((((((w5.setCell ⟨ob, 5, none⟩ (.slice (some ⟨g', 0, none⟩) (ln + 1) cap')).setCell ⟨g', ln * 7, none⟩ (.int .i64 k1)).setCell ⟨g', ln * 7 + 1, none⟩ (.bool neg1)).setCell ⟨g', ln * 7 + 2, none⟩ (.slice A1 n1 c1)).setCell ⟨g', ln * 7 + 3, none⟩ (.int .i64 e1)).setCell ⟨g', ln * 7 + 4, none⟩ (.string t1)).setCell ⟨g', ln * 7 + 5, none⟩ (.slice LA1 ln1 lc1)).setCell ⟨g', ln * 7 + 6, none⟩ (.slice KA1 kn1 kc1)) := (But.setCell (C := fun j => j = g' ∨ j = ob) (p := ⟨ob, 5, none⟩) (But.refl _ _) (.inl (.inr rfl)) _).trans (hbp.mono (fun _ _ h => .inl h))
            refine wpAnyH_ready (rs := [9]) (by kernel_rfl) (by simp) (AllReadyH.cons (o := ⟨_, _, _, _, _, _⟩) rfl (fun K hK => ?_) AllReadyH.nil)
            go_simp
            refine hK.out _ _ (hbp.cell_some hpc hpg) (fun hHeld6 => ?_)
            clear hK K hHeld5 hob6' hpc hown5' hbp y0 y1 y2 y3 y4 y5 y6
            try simp only [Act.put, List.setIfInBounds_toArray, List.set_cons_zero, List.set_cons_succ]
            have hgo9 : W.ownsRow N 34 7 (.slice LA ln lc) acc.length _ := HG.out.choose_spec.1
            refine wpAnyH_done (by kernel_rfl) ?_ _
            clear z0 z1 z2 z3 z4 z5 z6 r0 r1 r2 r3 r4 r5 r6 o5 p5 hc0
            generalize ((((((((w5.setCell ⟨ob, 5, none⟩ (.slice (some ⟨g', 0, none⟩) (ln + 1) cap')).setCell ⟨g', ln * 7, none⟩ (.int .i64 k1)).setCell ⟨g', ln * 7 + 1, none⟩ (.bool neg1)).setCell ⟨g', ln * 7 + 2, none⟩ (.slice A1 n1 c1)).setCell ⟨g', ln * 7 + 3, none⟩ (.int .i64 e1)).setCell ⟨g', ln * 7 + 4, none⟩ (.string t1)).setCell ⟨g', ln * 7 + 5, none⟩ (.slice LA1 ln1 lc1)).setCell ⟨g', ln * 7 + 6, none⟩ (.slice KA1 kn1 kc1)) = w6 at *
            go_wp2
            first | go_end0 | refine bodyPost_ret (results_none rfl _ _ _) rfl ?_
            have hb26 : But (fun j => j = ob ∨ N ≤ j) w2 w6 := (But.of (C := fun j => j = ob ∨ N ≤ j) H21.out).trans (((⟨HBL5.out.os, HBL5.out.tape, HBL5.out.output, HBL5.out.size, fun j hj hc => HBL5.out.block j (by omega)⟩ : But (fun j => j = ob ∨ N ≤ j) w2 w5)).trans (hb56.mono (fun j _ h => by rcases h with h | h <;> omega)))
            have hbW6 : But (fun j => j = sb ∨ (j = ob ∨ N ≤ j)) W w6 := (hb2.mono (fun _ _ h => .inl h)).trans (hb26.mono (fun _ _ h => .inr h))
            refine ⟨rfl, HE2.out.stay hb26 (fun j hj h => by have := HE.out.base; omega) (fun h => by omega), ⟨some ⟨g', 0, none⟩, cap', ?_, ?_, ?_⟩, hbW6⟩
            · exact (hb56.block pb (Array.getElem?_eq_some_iff.1 HPB5.out).1 (by omega)).trans HPB5.out
            · rw [List.length_append, HLN.out]; exact hob6
            · rw [List.length_append, HLN.out]; exact Grow.push (ob := ob) HLN.out HF7.out HFT.out (fun j hj => (ownsRow_lt hgo9 hj).2) hNW H21.out HVA.out rfl HG5.out HAT5.out hb56 hoN hown6
  · go_simp
    refine (HV.out W.drew (HE.out.stay (C := fun _ => False) ((But.refl _ _).drew) (fun _ _ h => h) (fun h => h))).mono ?_
    intro e w2 hp
    cases R with
    | bad q x =>
      obtain ⟨rfl, hb⟩ := hp
      exact ⟨rfl, rfl, ((hbw).trans hb).mono (fun _ _ h => .inl h)⟩
    | ok a q =>
      obtain ⟨⟨v, rfl, cs, rfl, hva⟩, hE2, hbc⟩ := hp
      obtain ⟨k1, neg1, xs1, e1, t1, li1, ks1, hak⟩ : ∃ k neg xs e t li ks, a = VT.mk k neg xs e t li ks := by cases a; exact ⟨_, _, _, _, _, _, _, rfl⟩
      have hvb := hva
      rw [hak] at hvb
      obtain ⟨A1, n1, c1, LA1, ln1, lc1, KA1, kn1, kc1, rfl, -⟩ := hvb.parts
      have hb2 : But (fun k => k = sb) W w2 := (hbw).trans hbc
      have HVA := Lib.hid (show VIn w2 (fun b => W.heap.size ≤ b ∧ b < w2.heap.size) a _ from hva.more (fun b hb => ⟨by have h9 := hb.1; simp at h9; omega, hb.2⟩))
      have HE2 := Lib.hid hE2
      clear hvb hak hva hE2
      (try dsimp only)
      refine hK.out _ _ (HS.out _ hb2) (fun hHeldC => ?_)
      clear hK K hHeld
      try simp only [Act.put, List.setIfInBounds_toArray, List.set_cons_zero, List.set_cons_succ]
      refine wpAnyH_ready (rs := [1, 6]) (by kernel_rfl) (by simp) (AllReadyH.cons (o := ⟨_, _, _, _, _, _⟩) rfl (fun K hK => ?_) (AllReadyH.cons (o := ⟨_, _, _, _, _, _⟩) rfl (fun K hK => ?_) AllReadyH.nil))
      · have c5 : w2.cell? ⟨ob, 5, none⟩ = some (.slice LA ln lc) := HC5.out _ (hb2)
        go_simp
        refine hK.out _ _ (HS.out _ (hb2)) (fun hHeldL => ?_)
        clear hK K hHeldC c5
        try simp only [Act.put, List.setIfInBounds_toArray, List.set_cons_zero, List.set_cons_succ]
        refine wpAnyH_take (i := 5) (oi := ⟨_, _, _, _, _, _⟩) (v := ?_) rfl (by kernel_rfl) (by kernel_rfl) (by kernel_rfl) (fun _ _ _ h => h) (Or.inl ⟨by rfl, ?_⟩) (by assumption) ?_
        rotate_left
        · intro w hSw
          (try dsimp only at hSw)
          go_split_ands
          go_simp
          try with_reducible rfl
        try simp only [Act.put, List.setIfInBounds_toArray, List.set_cons_zero, List.set_cons_succ]
        refine wpAnyH_ready (rs := [6]) (by kernel_rfl) (by simp) (AllReadyH.cons (o := ⟨_, _, _, _, _, _⟩) rfl (fun K hK => ?_) AllReadyH.nil)
        · go_simp
          refine hK.out _ _ (HS.out _ ((hb2).alloc (.cells #[.int .i64 0, .bool false, .slice none 0 0, .int .i64 0, .string ⟨#[]⟩, .slice none 0 0, .slice none 0 0] 34))) (fun hHeldB => ?_)
          clear hK K hHeldL
          try simp only [Act.put, List.setIfInBounds_toArray, List.set_cons_zero, List.set_cons_succ]
          have HZ := Lib.hid (new7 w2 (.int .i64 0) (.bool false) (.slice none 0 0) (.int .i64 0) (.string ⟨#[]⟩) (.slice none 0 0) (.slice none 0 0) 34)
          have HBA := Lib.hid ((hb2).alloc (.cells #[.int .i64 0, .bool false, .slice none 0 0, .int .i64 0, .string ⟨#[]⟩, .slice none 0 0, .slice none 0 0] 34))
          have H21 := Lib.hid (show Below w2.heap.size w2 (w2.alloc (.cells #[.int .i64 0, .bool false, .slice none 0 0, .int .i64 0, .string ⟨#[]⟩, .slice none 0 0, .slice none 0 0] 34)) from (Below.refl _ _).alloc (Nat.le_refl _) _)
          try simp only [Act.put, List.setIfInBounds_toArray, List.set_cons_zero, List.set_cons_succ]
          have hgr : Grow N (.slice LA ln lc) acc (w2.alloc (.cells #[.int .i64 0, .bool false, .slice none 0 0, .int .i64 0, .string ⟨#[]⟩, .slice none 0 0, .slice none 0 0] 34)) := HG.out.keep HBA.out (fun k hk => by omega)
          obtain ⟨fs, hown, hf7, hft⟩ := hgr
          rw [HLN.out] at hown
          have hfl : (flatC fs id ln).length = ln * 7 := flatC_length (fun q hq => hf7 q (by have := HLN.out; omega))
          have HOWN := Lib.hid hown
          have HF7 := Lib.hid (show ∀ i, i < ln → (fs i).length = 7 from fun i hi => hf7 i (by have := HLN.out; omega))
          have HFT := Lib.hid hft
          have HNA := Lib.hid (show N ≤ (w2.alloc (.cells #[.int .i64 0, .bool false, .slice none 0 0, .int .i64 0, .string ⟨#[]⟩, .slice none 0 0, .slice none 0 0] 34)).heap.size from Nat.le_trans hNW HBA.out.size)
          clear hown hf7 hft
          refine wpAnyH_ready (rs := [7]) (by kernel_rfl) (by simp) (AllReadyH.cons (o := ⟨_, _, _, _, _, _⟩) rfl (fun K hK => ?_) AllReadyH.nil)
          refine step_append_at (base := N) (e := 34) (v := .slice LA ln lc) (n := ln) (xs := flatC fs id ln) (news := [.int .i64 0, .bool false, .slice none 0 0, .int .i64 0, .string ⟨#[]⟩, .slice none 0 0, .slice none 0 0]) (m := 1) (c := 1) (ad := ⟨w2.heap.size, 0, none⟩) rfl (.tmp 5) (.tmp 10) 24 rfl Tryz.underlying24 hi7 hp7 hq7 hr7 rfl (by decide) rfl HOWN.out rfl rfl HZ.out (by simp [Value.oneCell']) (by unfold maxLen; omega) (by omega) HNA.out ?_
          intro v' w5 hown5 hg5 _ hat5
          obtain ⟨g', cap', rfl⟩ := ownsRow_succ hown5
          have hbl5 : Below N (w2.alloc (.cells #[.int .i64 0, .bool false, .slice none 0 0, .int .i64 0, .string ⟨#[]⟩, .slice none 0 0, .slice none 0 0] 34)) w5 := (Below.refl N _).grown hg5 HNA.out (fun q e => (ownsRow_lt HOWN.out e).1)
          have hob5 : w5.heap[ob]? = _ := (hbl5.block ob hoN).trans ((HBA.out.block ob (Array.getElem?_eq_some_iff.1 HB2.out).1 hos).trans HB2.out)
          have hpb5 : w5.heap[pb]? = _ := (hbl5.block pb hpN).trans ((HBA.out.block pb (Array.getElem?_eq_some_iff.1 HB1.out).1 hps).trans HB1.out)
          have hc0 : w5.cell? ⟨pb, 0, none⟩ = some (ptr sb) := cell_at3 hpb5 rfl
          have hgN : N ≤ g' := (ownsRow_lt hown5 rfl).1
          have HFL := Lib.hid hfl
          have hz : ∀ j u, [.int .i64 0, .bool false, .slice none 0 0, .int .i64 0, .string ⟨#[]⟩, .slice none 0 0, .slice none 0 0][j]? = some u → w5.cell? ⟨g', ln * 7 + j, none⟩ = some u ∧ w5.frozen? ⟨g', ln * 7 + j, none⟩ = false := fun j u hj => ownsRow_cell hown5 (by rw [List.getElem?_append_right (by rw [HFL.out]; omega), HFL.out, Nat.add_sub_cancel_left]; exact hj)
          obtain ⟨z0, r0⟩ := hz 0 (.int .i64 0) rfl
          obtain ⟨z1, r1⟩ := hz 1 (.bool false) rfl
          obtain ⟨z2, r2⟩ := hz 2 (.slice none 0 0) rfl
          obtain ⟨z3, r3⟩ := hz 3 (.int .i64 0) rfl
          obtain ⟨z4, r4⟩ := hz 4 (.string ⟨#[]⟩) rfl
          obtain ⟨z5, r5⟩ := hz 5 (.slice none 0 0) rfl
          obtain ⟨z6, r6⟩ := hz 6 (.slice none 0 0) rfl
          rw [Nat.add_zero] at z0 r0
          have o5 : w5.cell? ⟨ob, 5, none⟩ = some (.slice LA ln lc) := cell_at3 hob5 rfl
          have p5 : w5.frozen? ⟨ob, 5, none⟩ = false := by simp [World.frozen?, hob5]
          have hgo : ¬ g' = ob := by omega
          have hog : ¬ ob = g' := by omega
          have hpg : ¬ pb = g' := by omega
          have hl1 : (ln : Int) < (ln : Int) + 1 := by omega
          have hl0 : (0 : Int) ≤ (ln : Int) := by omega
          have hlt : ((ln : Int)).toNat = ln := by omega
          (try dsimp only)
          refine hK.out _ _ hc0 (fun hHeld4 => ?_)
          clear hK K hHeldB hz hfl
          have HOWN5 := Lib.hid hown5
          have HG5 := Lib.hid hg5
          have HAT5 := Lib.hid hat5
          have HBL5 := Lib.hid hbl5
          have HOB5 := Lib.hid hob5
          have HPB5 := Lib.hid hpb5
          clear hown5 hg5 hat5 hbl5 hob5 hpb5
          try simp only [Act.put, List.setIfInBounds_toArray, List.set_cons_zero, List.set_cons_succ]
          refine wpAnyH_take (i := 8) (oi := ⟨_, _, _, _, _, _⟩) (v := ?_) rfl (by kernel_rfl) (by kernel_rfl) (by kernel_rfl) (fun _ _ _ h => h) (Or.inl ⟨by rfl, ?_⟩) (by assumption) ?_
          rotate_left
          · intro w hSw
            (try dsimp only at hSw)
            go_split_ands
            go_simp
            try with_reducible rfl
          try simp only [Act.put, List.setIfInBounds_toArray, List.set_cons_zero, List.set_cons_succ]
          refine wpAnyH_take (i := 10) (oi := ⟨_, _, _, _, _, _⟩) (v := ?_) rfl (by kernel_rfl) (by kernel_rfl) (by kernel_rfl) (fun _ _ _ h => h) (Or.inl ⟨by rfl, ?_⟩) (by assumption) ?_
          rotate_left
          · intro w hSw
            (try dsimp only at hSw)
            go_split_ands
            go_simp
            try with_reducible rfl
          try simp only [Act.put, List.setIfInBounds_toArray, List.set_cons_zero, List.set_cons_succ]
          refine wpAnyH_ready (rs := [9, 11]) (by kernel_rfl) (by simp) (AllReadyH.cons (o := ⟨_, _, _, _, _, _⟩) rfl (fun K hK => ?_) (AllReadyH.cons (o := ⟨_, _, _, _, _, _⟩) rfl (fun K hK => ?_) AllReadyH.nil))
          · go_simp
            obtain ⟨hrp, hbp⟩ := row_put7 (a0 := (.int .i64 k1)) (a1 := (.bool neg1)) (a2 := (.slice A1 n1 c1)) (a3 := (.int .i64 e1)) (a4 := (.string t1)) (a5 := (.slice LA1 ln1 lc1)) (a6 := (.slice KA1 kn1 kc1)) HOWN5.out HFL.out
            have hob1 := (hbp.block ob (Array.getElem?_eq_some_iff.1 HOB5.out).1 hog).trans HOB5.out
            have hpc := hbp.cell_some hc0 hpg
            refine hK.out _ _ hpc (fun hHeld5 => ?_)
            clear hK K hHeld4
            try simp only [Act.put, List.setIfInBounds_toArray, List.set_cons_zero, List.set_cons_succ]
            have hob6 := set_heap (i := 5) (u := (.slice (some ⟨g', 0, none⟩) (ln + 1) cap')) hob1
            have hown6 := ownsRow_setCell_other (a := ⟨ob, 5, none⟩) hrp (by show some g' ≠ some ob; intro h; injection h with h; exact hgo h) (.slice (some ⟨g', 0, none⟩) (ln + 1) cap')
            have hb56 : But (fun j => j = g' ∨ j = ob) w5 ((((((((w5.setCell ⟨g', ln * 7, none⟩ (.int .i64 k1)).setCell ⟨g', ln * 7 + 1, none⟩ (.bool neg1)).setCell ⟨g', ln * 7 + 2, none⟩ (.slice A1 n1 c1)).setCell ⟨g', ln * 7 + 3, none⟩ (.int .i64 e1)).setCell ⟨g', ln * 7 + 4, none⟩ (.string t1)).setCell ⟨g', ln * 7 + 5, none⟩ (.slice LA1 ln1 lc1)).setCell ⟨g', ln * 7 + 6, none⟩ (.slice KA1 kn1 kc1)).setCell ⟨ob, 5, none⟩ (.slice (some ⟨g', 0, none⟩) (ln + 1) cap')) := But.setCell (C := fun j => j = g' ∨ j = ob) (p := ⟨ob, 5, none⟩) (hbp.mono (fun _ _ h => .inl h)) (.inl (.inr rfl)) _
            refine wpAnyH_ready (rs := [11]) (by kernel_rfl) (by simp) (AllReadyH.cons (o := ⟨_, _, _, _, _, _⟩) rfl (fun K hK => ?_) AllReadyH.nil)
            go_simp
            refine hK.out _ _ ((World.cell?_setCell_other _ _ _ _ (by first | (simp; done) | (simp; omega))).trans hpc) (fun hHeld6 => ?_)
            clear hK K hHeld5 hob1 hpc hrp hbp
            try simp only [Act.put, List.setIfInBounds_toArray, List.set_cons_zero, List.set_cons_succ]
            have hgo9 : W.ownsRow N 34 7 (.slice LA ln lc) acc.length _ := HG.out.choose_spec.1
            refine wpAnyH_done (by kernel_rfl) ?_ _
            clear z0 z1 z2 z3 z4 z5 z6 r0 r1 r2 r3 r4 r5 r6 o5 p5 hc0
            generalize ((((((((w5.setCell ⟨g', ln * 7, none⟩ (.int .i64 k1)).setCell ⟨g', ln * 7 + 1, none⟩ (.bool neg1)).setCell ⟨g', ln * 7 + 2, none⟩ (.slice A1 n1 c1)).setCell ⟨g', ln * 7 + 3, none⟩ (.int .i64 e1)).setCell ⟨g', ln * 7 + 4, none⟩ (.string t1)).setCell ⟨g', ln * 7 + 5, none⟩ (.slice LA1 ln1 lc1)).setCell ⟨g', ln * 7 + 6, none⟩ (.slice KA1 kn1 kc1)).setCell ⟨ob, 5, none⟩ (.slice (some ⟨g', 0, none⟩) (ln + 1) cap')) = w6 at *
            go_wp2
            first | go_end0 | refine bodyPost_ret (results_none rfl _ _ _) rfl ?_
            have hb26 : But (fun j => j = ob ∨ N ≤ j) w2 w6 := (But.of (C := fun j => j = ob ∨ N ≤ j) H21.out).trans (((⟨HBL5.out.os, HBL5.out.tape, HBL5.out.output, HBL5.out.size, fun j hj hc => HBL5.out.block j (by omega)⟩ : But (fun j => j = ob ∨ N ≤ j) (w2.alloc (.cells #[.int .i64 0, .bool false, .slice none 0 0, .int .i64 0, .string ⟨#[]⟩, .slice none 0 0, .slice none 0 0] 34)) w5)).trans (hb56.mono (fun j _ h => by rcases h with h | h <;> omega)))
            have hbW6 : But (fun j => j = sb ∨ (j = ob ∨ N ≤ j)) W w6 := (hb2.mono (fun _ _ h => .inl h)).trans (hb26.mono (fun _ _ h => .inr h))
            refine ⟨rfl, HE2.out.stay hb26 (fun j hj h => by have := HE.out.base; omega) (fun h => by omega), ⟨some ⟨g', 0, none⟩, cap', ?_, ?_, ?_⟩, hbW6⟩
            · exact (hb56.block pb (Array.getElem?_eq_some_iff.1 HPB5.out).1 (by omega)).trans HPB5.out
            · rw [List.length_append, HLN.out]; exact hob6
            · rw [List.length_append, HLN.out]; exact Grow.push (ob := ob) HLN.out HF7.out HFT.out (fun j hj => (ownsRow_lt hgo9 hj).2) hNW H21.out HVA.out rfl HG5.out HAT5.out hb56 hoN hown6
          · go_simp
            have hob6' := set_heap (i := 5) (u := (.slice (some ⟨g', 0, none⟩) (ln + 1) cap')) HOB5.out
            have hpc := (World.cell?_setCell_other w5 ⟨ob, 5, none⟩ ⟨pb, 0, none⟩ (.slice (some ⟨g', 0, none⟩) (ln + 1) cap') (by first | (simp; done) | (simp; omega))).trans hc0
            refine hK.out _ _ hpc (fun hHeld5 => ?_)
            clear hK K hHeld4
            try simp only [Act.put, List.setIfInBounds_toArray, List.set_cons_zero, List.set_cons_succ]
            have y0 := (World.cell?_setCell_other w5 ⟨ob, 5, none⟩ ⟨g', ln * 7, none⟩ (.slice (some ⟨g', 0, none⟩) (ln + 1) cap') (by first | (simp; done) | (simp; omega))).trans z0
            have y1 := (World.cell?_setCell_other w5 ⟨ob, 5, none⟩ ⟨g', ln * 7 + 1, none⟩ (.slice (some ⟨g', 0, none⟩) (ln + 1) cap') (by first | (simp; done) | (simp; omega))).trans z1
            have y2 := (World.cell?_setCell_other w5 ⟨ob, 5, none⟩ ⟨g', ln * 7 + 2, none⟩ (.slice (some ⟨g', 0, none⟩) (ln + 1) cap') (by first | (simp; done) | (simp; omega))).trans z2
            have y3 := (World.cell?_setCell_other w5 ⟨ob, 5, none⟩ ⟨g', ln * 7 + 3, none⟩ (.slice (some ⟨g', 0, none⟩) (ln + 1) cap') (by first | (simp; done) | (simp; omega))).trans z3
            have y4 := (World.cell?_setCell_other w5 ⟨ob, 5, none⟩ ⟨g', ln * 7 + 4, none⟩ (.slice (some ⟨g', 0, none⟩) (ln + 1) cap') (by first | (simp; done) | (simp; omega))).trans z4
            have y5 := (World.cell?_setCell_other w5 ⟨ob, 5, none⟩ ⟨g', ln * 7 + 5, none⟩ (.slice (some ⟨g', 0, none⟩) (ln + 1) cap') (by first | (simp; done) | (simp; omega))).trans z5
            have y6 := (World.cell?_setCell_other w5 ⟨ob, 5, none⟩ ⟨g', ln * 7 + 6, none⟩ (.slice (some ⟨g', 0, none⟩) (ln + 1) cap') (by first | (simp; done) | (simp; omega))).trans z6
            have hown5' := ownsRow_setCell_other (a := ⟨ob, 5, none⟩) HOWN5.out (by show some g' ≠ some ob; intro h; injection h with h; exact hgo h) (.slice (some ⟨g', 0, none⟩) (ln + 1) cap')
            obtain ⟨hown6, hbp⟩ := row_put7 (a0 := (.int .i64 k1)) (a1 := (.bool neg1)) (a2 := (.slice A1 n1 c1)) (a3 := (.int .i64 e1)) (a4 := (.string t1)) (a5 := (.slice LA1 ln1 lc1)) (a6 := (.slice KA1 kn1 kc1)) hown5' HFL.out
            have hob6 := (hbp.block ob (by simp [World.setCell]; exact (Array.getElem?_eq_some_iff.1 HOB5.out).1) hog).trans hob6'
            have hb56 : But (fun j => j = g' ∨ j = ob) w5 ((((((((w5.setCell ⟨ob, 5, none⟩ (.slice (some ⟨g', 0, none⟩) (ln + 1) cap')).setCell ⟨g', ln * 7, none⟩ (.int .i64 k1)).setCell ⟨g', ln * 7 + 1, none⟩ (.bool neg1)).setCell ⟨g', ln * 7 + 2, none⟩ (.slice A1 n1 c1)).setCell ⟨g', ln * 7 + 3, none⟩ (.int .i64 e1)).setCell ⟨g', ln * 7 + 4, none⟩ (.string t1)).setCell ⟨g', ln * 7 + 5, none⟩ (.slice LA1 ln1 lc1)).setCell ⟨g', ln * 7 + 6, none⟩ (.slice KA1 kn1 kc1)) := (But.setCell (C := fun j => j = g' ∨ j = ob) (p := ⟨ob, 5, none⟩) (But.refl _ _) (.inl (.inr rfl)) _).trans (hbp.mono (fun _ _ h => .inl h))
            refine wpAnyH_ready (rs := [9]) (by kernel_rfl) (by simp) (AllReadyH.cons (o := ⟨_, _, _, _, _, _⟩) rfl (fun K hK => ?_) AllReadyH.nil)
            go_simp
            refine hK.out _ _ (hbp.cell_some hpc hpg) (fun hHeld6 => ?_)
            clear hK K hHeld5 hob6' hpc hown5' hbp y0 y1 y2 y3 y4 y5 y6
            try simp only [Act.put, List.setIfInBounds_toArray, List.set_cons_zero, List.set_cons_succ]
            have hgo9 : W.ownsRow N 34 7 (.slice LA ln lc) acc.length _ := HG.out.choose_spec.1
            refine wpAnyH_done (by kernel_rfl) ?_ _
            clear z0 z1 z2 z3 z4 z5 z6 r0 r1 r2 r3 r4 r5 r6 o5 p5 hc0
            generalize ((((((((w5.setCell ⟨ob, 5, none⟩ (.slice (some ⟨g', 0, none⟩) (ln + 1) cap')).setCell ⟨g', ln * 7, none⟩ (.int .i64 k1)).setCell ⟨g', ln * 7 + 1, none⟩ (.bool neg1)).setCell ⟨g', ln * 7 + 2, none⟩ (.slice A1 n1 c1)).setCell ⟨g', ln * 7 + 3, none⟩ (.int .i64 e1)).setCell ⟨g', ln * 7 + 4, none⟩ (.string t1)).setCell ⟨g', ln * 7 + 5, none⟩ (.slice LA1 ln1 lc1)).setCell ⟨g', ln * 7 + 6, none⟩ (.slice KA1 kn1 kc1)) = w6 at *
            go_wp2
            first | go_end0 | refine bodyPost_ret (results_none rfl _ _ _) rfl ?_
            have hb26 : But (fun j => j = ob ∨ N ≤ j) w2 w6 := (But.of (C := fun j => j = ob ∨ N ≤ j) H21.out).trans (((⟨HBL5.out.os, HBL5.out.tape, HBL5.out.output, HBL5.out.size, fun j hj hc => HBL5.out.block j (by omega)⟩ : But (fun j => j = ob ∨ N ≤ j) (w2.alloc (.cells #[.int .i64 0, .bool false, .slice none 0 0, .int .i64 0, .string ⟨#[]⟩, .slice none 0 0, .slice none 0 0] 34)) w5)).trans (hb56.mono (fun j _ h => by rcases h with h | h <;> omega)))
            have hbW6 : But (fun j => j = sb ∨ (j = ob ∨ N ≤ j)) W w6 := (hb2.mono (fun _ _ h => .inl h)).trans (hb26.mono (fun _ _ h => .inr h))
            refine ⟨rfl, HE2.out.stay hb26 (fun j hj h => by have := HE.out.base; omega) (fun h => by omega), ⟨some ⟨g', 0, none⟩, cap', ?_, ?_, ?_⟩, hbW6⟩
            · exact (hb56.block pb (Array.getElem?_eq_some_iff.1 HPB5.out).1 (by omega)).trans HPB5.out
            · rw [List.length_append, HLN.out]; exact hob6
            · rw [List.length_append, HLN.out]; exact Grow.push (ob := ob) HLN.out HF7.out HFT.out (fun j hj => (ownsRow_lt hgo9 hj).2) hNW H21.out HVA.out rfl HG5.out HAT5.out hb56 hoN hown6
      · go_simp
        refine hK.out _ _ (HS.out _ ((hb2).alloc (.cells #[.int .i64 0, .bool false, .slice none 0 0, .int .i64 0, .string ⟨#[]⟩, .slice none 0 0, .slice none 0 0] 34))) (fun hHeldB => ?_)
        clear hK K hHeldC
        try simp only [Act.put, List.setIfInBounds_toArray, List.set_cons_zero, List.set_cons_succ]
        refine wpAnyH_ready (rs := [1]) (by kernel_rfl) (by simp) (AllReadyH.cons (o := ⟨_, _, _, _, _, _⟩) rfl (fun K hK => ?_) AllReadyH.nil)
        · have c5 : (w2.alloc (.cells #[.int .i64 0, .bool false, .slice none 0 0, .int .i64 0, .string ⟨#[]⟩, .slice none 0 0, .slice none 0 0] 34)).cell? ⟨ob, 5, none⟩ = some (.slice LA ln lc) := HC5.out _ ((hb2).alloc (.cells #[.int .i64 0, .bool false, .slice none 0 0, .int .i64 0, .string ⟨#[]⟩, .slice none 0 0, .slice none 0 0] 34))
          go_simp
          refine hK.out _ _ (HS.out _ ((hb2).alloc (.cells #[.int .i64 0, .bool false, .slice none 0 0, .int .i64 0, .string ⟨#[]⟩, .slice none 0 0, .slice none 0 0] 34))) (fun hHeldL => ?_)
          clear hK K hHeldB c5
          try simp only [Act.put, List.setIfInBounds_toArray, List.set_cons_zero, List.set_cons_succ]
          refine wpAnyH_take (i := 5) (oi := ⟨_, _, _, _, _, _⟩) (v := ?_) rfl (by kernel_rfl) (by kernel_rfl) (by kernel_rfl) (fun _ _ _ h => h) (Or.inl ⟨by rfl, ?_⟩) (by assumption) ?_
          rotate_left
          · intro w hSw
            (try dsimp only at hSw)
            go_split_ands
            go_simp
            try with_reducible rfl
          try simp only [Act.put, List.setIfInBounds_toArray, List.set_cons_zero, List.set_cons_succ]
          have HZ := Lib.hid (new7 w2 (.int .i64 0) (.bool false) (.slice none 0 0) (.int .i64 0) (.string ⟨#[]⟩) (.slice none 0 0) (.slice none 0 0) 34)
          have HBA := Lib.hid ((hb2).alloc (.cells #[.int .i64 0, .bool false, .slice none 0 0, .int .i64 0, .string ⟨#[]⟩, .slice none 0 0, .slice none 0 0] 34))
          have H21 := Lib.hid (show Below w2.heap.size w2 (w2.alloc (.cells #[.int .i64 0, .bool false, .slice none 0 0, .int .i64 0, .string ⟨#[]⟩, .slice none 0 0, .slice none 0 0] 34)) from (Below.refl _ _).alloc (Nat.le_refl _) _)
          try simp only [Act.put, List.setIfInBounds_toArray, List.set_cons_zero, List.set_cons_succ]
          have hgr : Grow N (.slice LA ln lc) acc (w2.alloc (.cells #[.int .i64 0, .bool false, .slice none 0 0, .int .i64 0, .string ⟨#[]⟩, .slice none 0 0, .slice none 0 0] 34)) := HG.out.keep HBA.out (fun k hk => by omega)
          obtain ⟨fs, hown, hf7, hft⟩ := hgr
          rw [HLN.out] at hown
          have hfl : (flatC fs id ln).length = ln * 7 := flatC_length (fun q hq => hf7 q (by have := HLN.out; omega))
          have HOWN := Lib.hid hown
          have HF7 := Lib.hid (show ∀ i, i < ln → (fs i).length = 7 from fun i hi => hf7 i (by have := HLN.out; omega))
          have HFT := Lib.hid hft
          have HNA := Lib.hid (show N ≤ (w2.alloc (.cells #[.int .i64 0, .bool false, .slice none 0 0, .int .i64 0, .string ⟨#[]⟩, .slice none 0 0, .slice none 0 0] 34)).heap.size from Nat.le_trans hNW HBA.out.size)
          clear hown hf7 hft
          refine wpAnyH_ready (rs := [7]) (by kernel_rfl) (by simp) (AllReadyH.cons (o := ⟨_, _, _, _, _, _⟩) rfl (fun K hK => ?_) AllReadyH.nil)
          refine step_append_at (base := N) (e := 34) (v := .slice LA ln lc) (n := ln) (xs := flatC fs id ln) (news := [.int .i64 0, .bool false, .slice none 0 0, .int .i64 0, .string ⟨#[]⟩, .slice none 0 0, .slice none 0 0]) (m := 1) (c := 1) (ad := ⟨w2.heap.size, 0, none⟩) rfl (.tmp 5) (.tmp 10) 24 rfl Tryz.underlying24 hi7 hp7 hq7 hr7 rfl (by decide) rfl HOWN.out rfl rfl HZ.out (by simp [Value.oneCell']) (by unfold maxLen; omega) (by omega) HNA.out ?_
          intro v' w5 hown5 hg5 _ hat5
          obtain ⟨g', cap', rfl⟩ := ownsRow_succ hown5
          have hbl5 : Below N (w2.alloc (.cells #[.int .i64 0, .bool false, .slice none 0 0, .int .i64 0, .string ⟨#[]⟩, .slice none 0 0, .slice none 0 0] 34)) w5 := (Below.refl N _).grown hg5 HNA.out (fun q e => (ownsRow_lt HOWN.out e).1)
          have hob5 : w5.heap[ob]? = _ := (hbl5.block ob hoN).trans ((HBA.out.block ob (Array.getElem?_eq_some_iff.1 HB2.out).1 hos).trans HB2.out)
          have hpb5 : w5.heap[pb]? = _ := (hbl5.block pb hpN).trans ((HBA.out.block pb (Array.getElem?_eq_some_iff.1 HB1.out).1 hps).trans HB1.out)
          have hc0 : w5.cell? ⟨pb, 0, none⟩ = some (ptr sb) := cell_at3 hpb5 rfl
          have hgN : N ≤ g' := (ownsRow_lt hown5 rfl).1
          have HFL := Lib.hid hfl
          have hz : ∀ j u, [.int .i64 0, .bool false, .slice none 0 0, .int .i64 0, .string ⟨#[]⟩, .slice none 0 0, .slice none 0 0][j]? = some u → w5.cell? ⟨g', ln * 7 + j, none⟩ = some u ∧ w5.frozen? ⟨g', ln * 7 + j, none⟩ = false := fun j u hj => ownsRow_cell hown5 (by rw [List.getElem?_append_right (by rw [HFL.out]; omega), HFL.out, Nat.add_sub_cancel_left]; exact hj)
          obtain ⟨z0, r0⟩ := hz 0 (.int .i64 0) rfl
          obtain ⟨z1, r1⟩ := hz 1 (.bool false) rfl
          obtain ⟨z2, r2⟩ := hz 2 (.slice none 0 0) rfl
          obtain ⟨z3, r3⟩ := hz 3 (.int .i64 0) rfl
          obtain ⟨z4, r4⟩ := hz 4 (.string ⟨#[]⟩) rfl
          obtain ⟨z5, r5⟩ := hz 5 (.slice none 0 0) rfl
          obtain ⟨z6, r6⟩ := hz 6 (.slice none 0 0) rfl
          rw [Nat.add_zero] at z0 r0
          have o5 : w5.cell? ⟨ob, 5, none⟩ = some (.slice LA ln lc) := cell_at3 hob5 rfl
          have p5 : w5.frozen? ⟨ob, 5, none⟩ = false := by simp [World.frozen?, hob5]
          have hgo : ¬ g' = ob := by omega
          have hog : ¬ ob = g' := by omega
          have hpg : ¬ pb = g' := by omega
          have hl1 : (ln : Int) < (ln : Int) + 1 := by omega
          have hl0 : (0 : Int) ≤ (ln : Int) := by omega
          have hlt : ((ln : Int)).toNat = ln := by omega
          (try dsimp only)
          refine hK.out _ _ hc0 (fun hHeld4 => ?_)
          clear hK K hHeldL hz hfl
          have HOWN5 := Lib.hid hown5
          have HG5 := Lib.hid hg5
          have HAT5 := Lib.hid hat5
          have HBL5 := Lib.hid hbl5
          have HOB5 := Lib.hid hob5
          have HPB5 := Lib.hid hpb5
          clear hown5 hg5 hat5 hbl5 hob5 hpb5
          try simp only [Act.put, List.setIfInBounds_toArray, List.set_cons_zero, List.set_cons_succ]
          refine wpAnyH_take (i := 8) (oi := ⟨_, _, _, _, _, _⟩) (v := ?_) rfl (by kernel_rfl) (by kernel_rfl) (by kernel_rfl) (fun _ _ _ h => h) (Or.inl ⟨by rfl, ?_⟩) (by assumption) ?_
          rotate_left
          · intro w hSw
            (try dsimp only at hSw)
            go_split_ands
            go_simp
            try with_reducible rfl
          try simp only [Act.put, List.setIfInBounds_toArray, List.set_cons_zero, List.set_cons_succ]
          refine wpAnyH_take (i := 10) (oi := ⟨_, _, _, _, _, _⟩) (v := ?_) rfl (by kernel_rfl) (by kernel_rfl) (by kernel_rfl) (fun _ _ _ h => h) (Or.inl ⟨by rfl, ?_⟩) (by assumption) ?_
          rotate_left
          · intro w hSw
            (try dsimp only at hSw)
            go_split_ands
            go_simp
            try with_reducible rfl
          try simp only [Act.put, List.setIfInBounds_toArray, List.set_cons_zero, List.set_cons_succ]
          refine wpAnyH_ready (rs := [9, 11]) (by kernel_rfl) (by simp) (AllReadyH.cons (o := ⟨_, _, _, _, _, _⟩) rfl (fun K hK => ?_) (AllReadyH.cons (o := ⟨_, _, _, _, _, _⟩) rfl (fun K hK => ?_) AllReadyH.nil))
          · go_simp
            obtain ⟨hrp, hbp⟩ := row_put7 (a0 := (.int .i64 k1)) (a1 := (.bool neg1)) (a2 := (.slice A1 n1 c1)) (a3 := (.int .i64 e1)) (a4 := (.string t1)) (a5 := (.slice LA1 ln1 lc1)) (a6 := (.slice KA1 kn1 kc1)) HOWN5.out HFL.out
            have hob1 := (hbp.block ob (Array.getElem?_eq_some_iff.1 HOB5.out).1 hog).trans HOB5.out
            have hpc := hbp.cell_some hc0 hpg
            refine hK.out _ _ hpc (fun hHeld5 => ?_)
            clear hK K hHeld4
            try simp only [Act.put, List.setIfInBounds_toArray, List.set_cons_zero, List.set_cons_succ]
            have hob6 := set_heap (i := 5) (u := (.slice (some ⟨g', 0, none⟩) (ln + 1) cap')) hob1
            have hown6 := ownsRow_setCell_other (a := ⟨ob, 5, none⟩) hrp (by show some g' ≠ some ob; intro h; injection h with h; exact hgo h) (.slice (some ⟨g', 0, none⟩) (ln + 1) cap')
            have hb56 : But (fun j => j = g' ∨ j = ob) w5 ((((((((w5.setCell ⟨g', ln * 7, none⟩ (.int .i64 k1)).setCell ⟨g', ln * 7 + 1, none⟩ (.bool neg1)).setCell ⟨g', ln * 7 + 2, none⟩ (.slice A1 n1 c1)).setCell ⟨g', ln * 7 + 3, none⟩ (.int .i64 e1)).setCell ⟨g', ln * 7 + 4, none⟩ (.string t1)).setCell ⟨g', ln * 7 + 5, none⟩ (.slice LA1 ln1 lc1)).setCell ⟨g', ln * 7 + 6, none⟩ (.slice KA1 kn1 kc1)).setCell ⟨ob, 5, none⟩ (.slice (some ⟨g', 0, none⟩) (ln + 1) cap')) := But.setCell (C := fun j => j = g' ∨ j = ob) (p := ⟨ob, 5, none⟩) (hbp.mono (fun _ _ h => .inl h)) (.inl (.inr rfl)) _
            refine wpAnyH_ready (rs := [11]) (by kernel_rfl) (by simp) (AllReadyH.cons (o := ⟨_, _, _, _, _, _⟩) rfl (fun K hK => ?_) AllReadyH.nil)
            go_simp
            refine hK.out _ _ ((World.cell?_setCell_other _ _ _ _ (by first | (simp; done) | (simp; omega))).trans hpc) (fun hHeld6 => ?_)
            clear hK K hHeld5 hob1 hpc hrp hbp
            try simp only [Act.put, List.setIfInBounds_toArray, List.set_cons_zero, List.set_cons_succ]
            have hgo9 : W.ownsRow N 34 7 (.slice LA ln lc) acc.length _ := HG.out.choose_spec.1
            refine wpAnyH_done (by kernel_rfl) ?_ _
            clear z0 z1 z2 z3 z4 z5 z6 r0 r1 r2 r3 r4 r5 r6 o5 p5 hc0
            generalize ((((((((w5.setCell ⟨g', ln * 7, none⟩ (.int .i64 k1)).setCell ⟨g', ln * 7 + 1, none⟩ (.bool neg1)).setCell ⟨g', ln * 7 + 2, none⟩ (.slice A1 n1 c1)).setCell ⟨g', ln * 7 + 3, none⟩ (.int .i64 e1)).setCell ⟨g', ln * 7 + 4, none⟩ (.string t1)).setCell ⟨g', ln * 7 + 5, none⟩ (.slice LA1 ln1 lc1)).setCell ⟨g', ln * 7 + 6, none⟩ (.slice KA1 kn1 kc1)).setCell ⟨ob, 5, none⟩ (.slice (some ⟨g', 0, none⟩) (ln + 1) cap')) = w6 at *
            go_wp2
            first | go_end0 | refine bodyPost_ret (results_none rfl _ _ _) rfl ?_
            have hb26 : But (fun j => j = ob ∨ N ≤ j) w2 w6 := (But.of (C := fun j => j = ob ∨ N ≤ j) H21.out).trans (((⟨HBL5.out.os, HBL5.out.tape, HBL5.out.output, HBL5.out.size, fun j hj hc => HBL5.out.block j (by omega)⟩ : But (fun j => j = ob ∨ N ≤ j) (w2.alloc (.cells #[.int .i64 0, .bool false, .slice none 0 0, .int .i64 0, .string ⟨#[]⟩, .slice none 0 0, .slice none 0 0] 34)) w5)).trans (hb56.mono (fun j _ h => by rcases h with h | h <;> omega)))
            have hbW6 : But (fun j => j = sb ∨ (j = ob ∨ N ≤ j)) W w6 := (hb2.mono (fun _ _ h => .inl h)).trans (hb26.mono (fun _ _ h => .inr h))
            refine ⟨rfl, HE2.out.stay hb26 (fun j hj h => by have := HE.out.base; omega) (fun h => by omega), ⟨some ⟨g', 0, none⟩, cap', ?_, ?_, ?_⟩, hbW6⟩
            · exact (hb56.block pb (Array.getElem?_eq_some_iff.1 HPB5.out).1 (by omega)).trans HPB5.out
            · rw [List.length_append, HLN.out]; exact hob6
            · rw [List.length_append, HLN.out]; exact Grow.push (ob := ob) HLN.out HF7.out HFT.out (fun j hj => (ownsRow_lt hgo9 hj).2) hNW H21.out HVA.out rfl HG5.out HAT5.out hb56 hoN hown6
          · go_simp
            have hob6' := set_heap (i := 5) (u := (.slice (some ⟨g', 0, none⟩) (ln + 1) cap')) HOB5.out
            have hpc := (World.cell?_setCell_other w5 ⟨ob, 5, none⟩ ⟨pb, 0, none⟩ (.slice (some ⟨g', 0, none⟩) (ln + 1) cap') (by first | (simp; done) | (simp; omega))).trans hc0
            refine hK.out _ _ hpc (fun hHeld5 => ?_)
            clear hK K hHeld4
            try simp only [Act.put, List.setIfInBounds_toArray, List.set_cons_zero, List.set_cons_succ]
            have y0 := (World.cell?_setCell_other w5 ⟨ob, 5, none⟩ ⟨g', ln * 7, none⟩ (.slice (some ⟨g', 0, none⟩) (ln + 1) cap') (by first | (simp; done) | (simp; omega))).trans z0
            have y1 := (World.cell?_setCell_other w5 ⟨ob, 5, none⟩ ⟨g', ln * 7 + 1, none⟩ (.slice (some ⟨g', 0, none⟩) (ln + 1) cap') (by first | (simp; done) | (simp; omega))).trans z1
            have y2 := (World.cell?_setCell_other w5 ⟨ob, 5, none⟩ ⟨g', ln * 7 + 2, none⟩ (.slice (some ⟨g', 0, none⟩) (ln + 1) cap') (by first | (simp; done) | (simp; omega))).trans z2
            have y3 := (World.cell?_setCell_other w5 ⟨ob, 5, none⟩ ⟨g', ln * 7 + 3, none⟩ (.slice (some ⟨g', 0, none⟩) (ln + 1) cap') (by first | (simp; done) | (simp; omega))).trans z3
            have y4 := (World.cell?_setCell_other w5 ⟨ob, 5, none⟩ ⟨g', ln * 7 + 4, none⟩ (.slice (some ⟨g', 0, none⟩) (ln + 1) cap') (by first | (simp; done) | (simp; omega))).trans z4
            have y5 := (World.cell?_setCell_other w5 ⟨ob, 5, none⟩ ⟨g', ln * 7 + 5, none⟩ (.slice (some ⟨g', 0, none⟩) (ln + 1) cap') (by first | (simp; done) | (simp; omega))).trans z5
            have y6 := (World.cell?_setCell_other w5 ⟨ob, 5, none⟩ ⟨g', ln * 7 + 6, none⟩ (.slice (some ⟨g', 0, none⟩) (ln + 1) cap') (by first | (simp; done) | (simp; omega))).trans z6
            have hown5' := ownsRow_setCell_other (a := ⟨ob, 5, none⟩) HOWN5.out (by show some g' ≠ some ob; intro h; injection h with h; exact hgo h) (.slice (some ⟨g', 0, none⟩) (ln + 1) cap')
            obtain ⟨hown6, hbp⟩ := row_put7 (a0 := (.int .i64 k1)) (a1 := (.bool neg1)) (a2 := (.slice A1 n1 c1)) (a3 := (.int .i64 e1)) (a4 := (.string t1)) (a5 := (.slice LA1 ln1 lc1)) (a6 := (.slice KA1 kn1 kc1)) hown5' HFL.out
            have hob6 := (hbp.block ob (by simp [World.setCell]; exact (Array.getElem?_eq_some_iff.1 HOB5.out).1) hog).trans hob6'
            have hb56 : But (fun j => j = g' ∨ j = ob) w5 ((((((((w5.setCell ⟨ob, 5, none⟩ (.slice (some ⟨g', 0, none⟩) (ln + 1) cap')).setCell ⟨g', ln * 7, none⟩ (.int .i64 k1)).setCell ⟨g', ln * 7 + 1, none⟩ (.bool neg1)).setCell ⟨g', ln * 7 + 2, none⟩ (.slice A1 n1 c1)).setCell ⟨g', ln * 7 + 3, none⟩ (.int .i64 e1)).setCell ⟨g', ln * 7 + 4, none⟩ (.string t1)).setCell ⟨g', ln * 7 + 5, none⟩ (.slice LA1 ln1 lc1)).setCell ⟨g', ln * 7 + 6, none⟩ (.slice KA1 kn1 kc1)) := (But.setCell (C := fun j => j = g' ∨ j = ob) (p := ⟨ob, 5, none⟩) (But.refl _ _) (.inl (.inr rfl)) _).trans (hbp.mono (fun _ _ h => .inl h))
            refine wpAnyH_ready (rs := [9]) (by kernel_rfl) (by simp) (AllReadyH.cons (o := ⟨_, _, _, _, _, _⟩) rfl (fun K hK => ?_) AllReadyH.nil)
            go_simp
            refine hK.out _ _ (hbp.cell_some hpc hpg) (fun hHeld6 => ?_)
            clear hK K hHeld5 hob6' hpc hown5' hbp y0 y1 y2 y3 y4 y5 y6
            try simp only [Act.put, List.setIfInBounds_toArray, List.set_cons_zero, List.set_cons_succ]
            have hgo9 : W.ownsRow N 34 7 (.slice LA ln lc) acc.length _ := HG.out.choose_spec.1
            refine wpAnyH_done (by kernel_rfl) ?_ _
            clear z0 z1 z2 z3 z4 z5 z6 r0 r1 r2 r3 r4 r5 r6 o5 p5 hc0
            generalize ((((((((w5.setCell ⟨ob, 5, none⟩ (.slice (some ⟨g', 0, none⟩) (ln + 1) cap')).setCell ⟨g', ln * 7, none⟩ (.int .i64 k1)).setCell ⟨g', ln * 7 + 1, none⟩ (.bool neg1)).setCell ⟨g', ln * 7 + 2, none⟩ (.slice A1 n1 c1)).setCell ⟨g', ln * 7 + 3, none⟩ (.int .i64 e1)).setCell ⟨g', ln * 7 + 4, none⟩ (.string t1)).setCell ⟨g', ln * 7 + 5, none⟩ (.slice LA1 ln1 lc1)).setCell ⟨g', ln * 7 + 6, none⟩ (.slice KA1 kn1 kc1)) = w6 at *
            go_wp2
            first | go_end0 | refine bodyPost_ret (results_none rfl _ _ _) rfl ?_
            have hb26 : But (fun j => j = ob ∨ N ≤ j) w2 w6 := (But.of (C := fun j => j = ob ∨ N ≤ j) H21.out).trans (((⟨HBL5.out.os, HBL5.out.tape, HBL5.out.output, HBL5.out.size, fun j hj hc => HBL5.out.block j (by omega)⟩ : But (fun j => j = ob ∨ N ≤ j) (w2.alloc (.cells #[.int .i64 0, .bool false, .slice none 0 0, .int .i64 0, .string ⟨#[]⟩, .slice none 0 0, .slice none 0 0] 34)) w5)).trans (hb56.mono (fun j _ h => by rcases h with h | h <;> omega)))
            have hbW6 : But (fun j => j = sb ∨ (j = ob ∨ N ≤ j)) W w6 := (hb2.mono (fun _ _ h => .inl h)).trans (hb26.mono (fun _ _ h => .inr h))
            refine ⟨rfl, HE2.out.stay hb26 (fun j hj h => by have := HE.out.base; omega) (fun h => by omega), ⟨some ⟨g', 0, none⟩, cap', ?_, ?_, ?_⟩, hbW6⟩
            · exact (hb56.block pb (Array.getElem?_eq_some_iff.1 HPB5.out).1 (by omega)).trans HPB5.out
            · rw [List.length_append, HLN.out]; exact hob6
            · rw [List.length_append, HLN.out]; exact Grow.push (ob := ob) HLN.out HF7.out HFT.out (fun j hj => (ownsRow_lt hgo9 hj).2) hNW H21.out HVA.out rfl HG5.out HAT5.out hb56 hoN hown6
  · go_simp
    refine hK.out _ _ (HS.out _ (((But.refl (fun k => k = sb) W).alloc (.cells #[.int .i64 0, .bool false, .slice none 0 0, .int .i64 0, .string ⟨#[]⟩, .slice none 0 0, .slice none 0 0] 34)).drew)) (fun hHeldB => ?_)
    clear hK K hHeld
    try simp only [Act.put, List.setIfInBounds_toArray, List.set_cons_zero, List.set_cons_succ]
    refine wpAnyH_ready (rs := [1, 4]) (by kernel_rfl) (by simp) (AllReadyH.cons (o := ⟨_, _, _, _, _, _⟩) rfl (fun K hK => ?_) (AllReadyH.cons (o := ⟨_, _, _, _, _, _⟩) rfl (fun K hK => ?_) AllReadyH.nil))
    · have c5 : ((W.alloc (.cells #[.int .i64 0, .bool false, .slice none 0 0, .int .i64 0, .string ⟨#[]⟩, .slice none 0 0, .slice none 0 0] 34)).drew).cell? ⟨ob, 5, none⟩ = some (.slice LA ln lc) := HC5.out _ (((But.refl (fun k => k = sb) W).alloc (.cells #[.int .i64 0, .bool false, .slice none 0 0, .int .i64 0, .string ⟨#[]⟩, .slice none 0 0, .slice none 0 0] 34)).drew)
      go_simp
      refine hK.out _ _ (HS.out _ (((But.refl (fun k => k = sb) W).alloc (.cells #[.int .i64 0, .bool false, .slice none 0 0, .int .i64 0, .string ⟨#[]⟩, .slice none 0 0, .slice none 0 0] 34)).drew)) (fun hHeldL => ?_)
      clear hK K hHeldB c5
      try simp only [Act.put, List.setIfInBounds_toArray, List.set_cons_zero, List.set_cons_succ]
      refine wpAnyH_take (i := 5) (oi := ⟨_, _, _, _, _, _⟩) (v := ?_) rfl (by kernel_rfl) (by kernel_rfl) (by kernel_rfl) (fun _ _ _ h => h) (Or.inl ⟨by rfl, ?_⟩) (by assumption) ?_
      rotate_left
      · intro w hSw
        (try dsimp only at hSw)
        go_split_ands
        go_simp
        try with_reducible rfl
      try simp only [Act.put, List.setIfInBounds_toArray, List.set_cons_zero, List.set_cons_succ]
      refine wpAnyH_ready (rs := [4]) (by kernel_rfl) (by simp) (AllReadyH.cons (o := ⟨_, _, _, _, _, _⟩) rfl (fun K hK => ?_) AllReadyH.nil)
      · go_simp
        refine (HV.out ((W.alloc (.cells #[.int .i64 0, .bool false, .slice none 0 0, .int .i64 0, .string ⟨#[]⟩, .slice none 0 0, .slice none 0 0] 34)).drew) (HE.out.stay (C := fun _ => False) (((But.refl _ _).alloc _).drew) (fun _ _ h => h) (fun h => h))).mono ?_
        intro e w2 hp
        cases R with
        | bad q x =>
          obtain ⟨rfl, hb⟩ := hp
          exact ⟨rfl, rfl, ((((But.refl (fun k => k = sb) W).alloc (.cells #[.int .i64 0, .bool false, .slice none 0 0, .int .i64 0, .string ⟨#[]⟩, .slice none 0 0, .slice none 0 0] 34)).drew).trans hb).mono (fun _ _ h => .inl h)⟩
        | ok a q =>
          obtain ⟨⟨v, rfl, cs, rfl, hva⟩, hE2, hbc⟩ := hp
          obtain ⟨k1, neg1, xs1, e1, t1, li1, ks1, hak⟩ : ∃ k neg xs e t li ks, a = VT.mk k neg xs e t li ks := by cases a; exact ⟨_, _, _, _, _, _, _, rfl⟩
          have hvb := hva
          rw [hak] at hvb
          obtain ⟨A1, n1, c1, LA1, ln1, lc1, KA1, kn1, kc1, rfl, -⟩ := hvb.parts
          have hb2 : But (fun k => k = sb) W w2 := (((But.refl (fun k => k = sb) W).alloc (.cells #[.int .i64 0, .bool false, .slice none 0 0, .int .i64 0, .string ⟨#[]⟩, .slice none 0 0, .slice none 0 0] 34)).drew).trans hbc
          have HVA := Lib.hid (show VIn w2 (fun b => W.heap.size ≤ b ∧ b < w2.heap.size) a _ from hva.more (fun b hb => ⟨by have h9 := hb.1; simp at h9; omega, hb.2⟩))
          have HE2 := Lib.hid hE2
          clear hvb hak hva hE2
          (try dsimp only)
          refine hK.out _ _ (HS.out _ hb2) (fun hHeldC => ?_)
          clear hK K hHeldL
          try simp only [Act.put, List.setIfInBounds_toArray, List.set_cons_zero, List.set_cons_succ]
          have HZ := Lib.hid (show ∀ j u, [.int .i64 0, .bool false, .slice none 0 0, .int .i64 0, .string ⟨#[]⟩, .slice none 0 0, .slice none 0 0][j]? = some u → w2.cell? ((⟨W.heap.size, 0, none⟩ : Addr).add j) = some u from fun j u hj => by
            have h9 := new7 W (.int .i64 0) (.bool false) (.slice none 0 0) (.int .i64 0) (.string ⟨#[]⟩) (.slice none 0 0) (.slice none 0 0) 34 j u hj
            exact hbc.cell_some h9 (fun h => by rw [Addr.add_lit] at h; have h8 : W.heap.size = sb := h; have := HE.out.lt; omega))
          have HBA := Lib.hid (hb2)
          have H21 := Lib.hid (show Below w2.heap.size w2 w2 from Below.refl _ _)
          clear hbc
          try simp only [Act.put, List.setIfInBounds_toArray, List.set_cons_zero, List.set_cons_succ]
          have hgr : Grow N (.slice LA ln lc) acc w2 := HG.out.keep HBA.out (fun k hk => by omega)
          obtain ⟨fs, hown, hf7, hft⟩ := hgr
          rw [HLN.out] at hown
          have hfl : (flatC fs id ln).length = ln * 7 := flatC_length (fun q hq => hf7 q (by have := HLN.out; omega))
          have HOWN := Lib.hid hown
          have HF7 := Lib.hid (show ∀ i, i < ln → (fs i).length = 7 from fun i hi => hf7 i (by have := HLN.out; omega))
          have HFT := Lib.hid hft
          have HNA := Lib.hid (show N ≤ w2.heap.size from Nat.le_trans hNW HBA.out.size)
          clear hown hf7 hft
          refine wpAnyH_ready (rs := [7]) (by kernel_rfl) (by simp) (AllReadyH.cons (o := ⟨_, _, _, _, _, _⟩) rfl (fun K hK => ?_) AllReadyH.nil)
          refine step_append_at (base := N) (e := 34) (v := .slice LA ln lc) (n := ln) (xs := flatC fs id ln) (news := [.int .i64 0, .bool false, .slice none 0 0, .int .i64 0, .string ⟨#[]⟩, .slice none 0 0, .slice none 0 0]) (m := 1) (c := 1) (ad := ⟨W.heap.size, 0, none⟩) rfl (.tmp 5) (.tmp 10) 24 rfl Tryz.underlying24 hi7 hp7 hq7 hr7 rfl (by decide) rfl HOWN.out rfl rfl HZ.out (by simp [Value.oneCell']) (by unfold maxLen; omega) (by omega) HNA.out ?_
          intro v' w5 hown5 hg5 _ hat5
          obtain ⟨g', cap', rfl⟩ := ownsRow_succ hown5
          have hbl5 : Below N w2 w5 := (Below.refl N _).grown hg5 HNA.out (fun q e => (ownsRow_lt HOWN.out e).1)
          have hob5 : w5.heap[ob]? = _ := (hbl5.block ob hoN).trans ((HBA.out.block ob (Array.getElem?_eq_some_iff.1 HB2.out).1 hos).trans HB2.out)
          have hpb5 : w5.heap[pb]? = _ := (hbl5.block pb hpN).trans ((HBA.out.block pb (Array.getElem?_eq_some_iff.1 HB1.out).1 hps).trans HB1.out)
          have hc0 : w5.cell? ⟨pb, 0, none⟩ = some (ptr sb) := cell_at3 hpb5 rfl
          have hgN : N ≤ g' := (ownsRow_lt hown5 rfl).1
          have HFL := Lib.hid hfl
          have hz : ∀ j u, [.int .i64 0, .bool false, .slice none 0 0, .int .i64 0, .string ⟨#[]⟩, .slice none 0 0, .slice none 0 0][j]? = some u → w5.cell? ⟨g', ln * 7 + j, none⟩ = some u ∧ w5.frozen? ⟨g', ln * 7 + j, none⟩ = false := fun j u hj => ownsRow_cell hown5 (by rw [List.getElem?_append_right (by rw [HFL.out]; omega), HFL.out, Nat.add_sub_cancel_left]; exact hj)
          obtain ⟨z0, r0⟩ := hz 0 (.int .i64 0) rfl
          obtain ⟨z1, r1⟩ := hz 1 (.bool false) rfl
          obtain ⟨z2, r2⟩ := hz 2 (.slice none 0 0) rfl
          obtain ⟨z3, r3⟩ := hz 3 (.int .i64 0) rfl
          obtain ⟨z4, r4⟩ := hz 4 (.string ⟨#[]⟩) rfl
          obtain ⟨z5, r5⟩ := hz 5 (.slice none 0 0) rfl
          obtain ⟨z6, r6⟩ := hz 6 (.slice none 0 0) rfl
          rw [Nat.add_zero] at z0 r0
          have o5 : w5.cell? ⟨ob, 5, none⟩ = some (.slice LA ln lc) := cell_at3 hob5 rfl
          have p5 : w5.frozen? ⟨ob, 5, none⟩ = false := by simp [World.frozen?, hob5]
          have hgo : ¬ g' = ob := by omega
          have hog : ¬ ob = g' := by omega
          have hpg : ¬ pb = g' := by omega
          have hl1 : (ln : Int) < (ln : Int) + 1 := by omega
          have hl0 : (0 : Int) ≤ (ln : Int) := by omega
          have hlt : ((ln : Int)).toNat = ln := by omega
          (try dsimp only)
          refine hK.out _ _ hc0 (fun hHeld4 => ?_)
          clear hK K hHeldC hz hfl
          have HOWN5 := Lib.hid hown5
          have HG5 := Lib.hid hg5
          have HAT5 := Lib.hid hat5
          have HBL5 := Lib.hid hbl5
          have HOB5 := Lib.hid hob5
          have HPB5 := Lib.hid hpb5
          clear hown5 hg5 hat5 hbl5 hob5 hpb5
          try simp only [Act.put, List.setIfInBounds_toArray, List.set_cons_zero, List.set_cons_succ]
          refine wpAnyH_take (i := 8) (oi := ⟨_, _, _, _, _, _⟩) (v := ?_) rfl (by kernel_rfl) (by kernel_rfl) (by kernel_rfl) (fun _ _ _ h => h) (Or.inl ⟨by rfl, ?_⟩) (by assumption) ?_
          rotate_left
          · intro w hSw
            (try dsimp only at hSw)
            go_split_ands
            go_simp
            try with_reducible rfl
          try simp only [Act.put, List.setIfInBounds_toArray, List.set_cons_zero, List.set_cons_succ]
          refine wpAnyH_take (i := 10) (oi := ⟨_, _, _, _, _, _⟩) (v := ?_) rfl (by kernel_rfl) (by kernel_rfl) (by kernel_rfl) (fun _ _ _ h => h) (Or.inl ⟨by rfl, ?_⟩) (by assumption) ?_
          rotate_left
          · intro w hSw
            (try dsimp only at hSw)
            go_split_ands
            go_simp
            try with_reducible rfl
          try simp only [Act.put, List.setIfInBounds_toArray, List.set_cons_zero, List.set_cons_succ]
          refine wpAnyH_ready (rs := [9, 11]) (by kernel_rfl) (by simp) (AllReadyH.cons (o := ⟨_, _, _, _, _, _⟩) rfl (fun K hK => ?_) (AllReadyH.cons (o := ⟨_, _, _, _, _, _⟩) rfl (fun K hK => ?_) AllReadyH.nil))
          · go_simp
            obtain ⟨hrp, hbp⟩ := row_put7 (a0 := (.int .i64 k1)) (a1 := (.bool neg1)) (a2 := (.slice A1 n1 c1)) (a3 := (.int .i64 e1)) (a4 := (.string t1)) (a5 := (.slice LA1 ln1 lc1)) (a6 := (.slice KA1 kn1 kc1)) HOWN5.out HFL.out
            have hob1 := (hbp.block ob (Array.getElem?_eq_some_iff.1 HOB5.out).1 hog).trans HOB5.out
            have hpc := hbp.cell_some hc0 hpg
            refine hK.out _ _ hpc (fun hHeld5 => ?_)
            clear hK K hHeld4
            try simp only [Act.put, List.setIfInBounds_toArray, List.set_cons_zero, List.set_cons_succ]
            have hob6 := set_heap (i := 5) (u := (.slice (some ⟨g', 0, none⟩) (ln + 1) cap')) hob1
            have hown6 := ownsRow_setCell_other (a := ⟨ob, 5, none⟩) hrp (by show some g' ≠ some ob; intro h; injection h with h; exact hgo h) (.slice (some ⟨g', 0, none⟩) (ln + 1) cap')
            have hb56 : But (fun j => j = g' ∨ j = ob) w5 ((((((((w5.setCell ⟨g', ln * 7, none⟩ (.int .i64 k1)).setCell ⟨g', ln * 7 + 1, none⟩ (.bool neg1)).setCell ⟨g', ln * 7 + 2, none⟩ (.slice A1 n1 c1)).setCell ⟨g', ln * 7 + 3, none⟩ (.int .i64 e1)).setCell ⟨g', ln * 7 + 4, none⟩ (.string t1)).setCell ⟨g', ln * 7 + 5, none⟩ (.slice LA1 ln1 lc1)).setCell ⟨g', ln * 7 + 6, none⟩ (.slice KA1 kn1 kc1)).setCell ⟨ob, 5, none⟩ (.slice (some ⟨g', 0, none⟩) (ln + 1) cap')) := But.setCell (C := fun j => j = g' ∨ j = ob) (p := ⟨ob, 5, none⟩) (hbp.mono (fun _ _ h => .inl h)) (.inl (.inr rfl)) _
            refine wpAnyH_ready (rs := [11]) (by kernel_rfl) (by simp) (AllReadyH.cons (o := ⟨_, _, _, _, _, _⟩) rfl (fun K hK => ?_) AllReadyH.nil)
            go_simp
            refine hK.out _ _ ((World.cell?_setCell_other _ _ _ _ (by first | (simp; done) | (simp; omega))).trans hpc) (fun hHeld6 => ?_)
            clear hK K hHeld5 hob1 hpc hrp hbp
            try simp only [Act.put, List.setIfInBounds_toArray, List.set_cons_zero, List.set_cons_succ]
            have hgo9 : W.ownsRow N 34 7 (.slice LA ln lc) acc.length _ := HG.out.choose_spec.1
            refine wpAnyH_done (by kernel_rfl) ?_ _
            clear z0 z1 z2 z3 z4 z5 z6 r0 r1 r2 r3 r4 r5 r6 o5 p5 hc0
            generalize ((((((((w5.setCell ⟨g', ln * 7, none⟩ (.int .i64 k1)).setCell ⟨g', ln * 7 + 1, none⟩ (.bool neg1)).setCell ⟨g', ln * 7 + 2, none⟩ (.slice A1 n1 c1)).setCell ⟨g', ln * 7 + 3, none⟩ (.int .i64 e1)).setCell ⟨g', ln * 7 + 4, none⟩ (.string t1)).setCell ⟨g', ln * 7 + 5, none⟩ (.slice LA1 ln1 lc1)).setCell ⟨g', ln * 7 + 6, none⟩ (.slice KA1 kn1 kc1)).setCell ⟨ob, 5, none⟩ (.slice (some ⟨g', 0, none⟩) (ln + 1) cap')) = w6 at *
            go_wp2
            first | go_end0 | refine bodyPost_ret (results_none rfl _ _ _) rfl ?_
            have hb26 : But (fun j => j = ob ∨ N ≤ j) w2 w6 := (But.of (C := fun j => j = ob ∨ N ≤ j) H21.out).trans (((⟨HBL5.out.os, HBL5.out.tape, HBL5.out.output, HBL5.out.size, fun j hj hc => HBL5.out.block j (by omega)⟩ : But (fun j => j = ob ∨ N ≤ j) w2 w5)).trans (hb56.mono (fun j _ h => by rcases h with h | h <;> omega)))
            have hbW6 : But (fun j => j = sb ∨ (j = ob ∨ N ≤ j)) W w6 := (hb2.mono (fun _ _ h => .inl h)).trans (hb26.mono (fun _ _ h => .inr h))
            refine ⟨rfl, HE2.out.stay hb26 (fun j hj h => by have := HE.out.base; omega) (fun h => by omega), ⟨some ⟨g', 0, none⟩, cap', ?_, ?_, ?_⟩, hbW6⟩
            · exact (hb56.block pb (Array.getElem?_eq_some_iff.1 HPB5.out).1 (by omega)).trans HPB5.out
            · rw [List.length_append, HLN.out]; exact hob6
            · rw [List.length_append, HLN.out]; exact Grow.push (ob := ob) HLN.out HF7.out HFT.out (fun j hj => (ownsRow_lt hgo9 hj).2) hNW H21.out HVA.out rfl HG5.out HAT5.out hb56 hoN hown6
          · go_simp
            have hob6' := set_heap (i := 5) (u := (.slice (some ⟨g', 0, none⟩) (ln + 1) cap')) HOB5.out
            have hpc := (World.cell?_setCell_other w5 ⟨ob, 5, none⟩ ⟨pb, 0, none⟩ (.slice (some ⟨g', 0, none⟩) (ln + 1) cap') (by first | (simp; done) | (simp; omega))).trans hc0
            refine hK.out _ _ hpc (fun hHeld5 => ?_)
            clear hK K hHeld4
            try simp only [Act.put, List.setIfInBounds_toArray, List.set_cons_zero, List.set_cons_succ]
            have y0 := (World.cell?_setCell_other w5 ⟨ob, 5, none⟩ ⟨g', ln * 7, none⟩ (.slice (some ⟨g', 0, none⟩) (ln + 1) cap') (by first | (simp; done) | (simp; omega))).trans z0
            have y1 := (World.cell?_setCell_other w5 ⟨ob, 5, none⟩ ⟨g', ln * 7 + 1, none⟩ (.slice (some ⟨g', 0, none⟩) (ln + 1) cap') (by first | (simp; done) | (simp; omega))).trans z1
            have y2 := (World.cell?_setCell_other w5 ⟨ob, 5, none⟩ ⟨g', ln * 7 + 2, none⟩ (.slice (some ⟨g', 0, none⟩) (ln + 1) cap') (by first | (simp; done) | (simp; omega))).trans z2
            have y3 := (World.cell?_setCell_other w5 ⟨ob, 5, none⟩ ⟨g', ln * 7 + 3, none⟩ (.slice (some ⟨g', 0, none⟩) (ln + 1) cap') (by first | (simp; done) | (simp; omega))).trans z3
            have y4 := (World.cell?_setCell_other w5 ⟨ob, 5, none⟩ ⟨g', ln * 7 + 4, none⟩ (.slice (some ⟨g', 0, none⟩) (ln + 1) cap') (by first | (simp; done) | (simp; omega))).trans z4
            have y5 := (World.cell?_setCell_other w5 ⟨ob, 5, none⟩ ⟨g', ln * 7 + 5, none⟩ (.slice (some ⟨g', 0, none⟩) (ln + 1) cap') (by first | (simp; done) | (simp; omega))).trans z5
            have y6 := (World.cell?_setCell_other w5 ⟨ob, 5, none⟩ ⟨g', ln * 7 + 6, none⟩ (.slice (some ⟨g', 0, none⟩) (ln + 1) cap') (by first | (simp; done) | (simp; omega))).trans z6
            have hown5' := ownsRow_setCell_other (a := ⟨ob, 5, none⟩) HOWN5.out (by show some g' ≠ some ob; intro h; injection h with h; exact hgo h) (.slice (some ⟨g', 0, none⟩) (ln + 1) cap')
            obtain ⟨hown6, hbp⟩ := row_put7 (a0 := (.int .i64 k1)) (a1 := (.bool neg1)) (a2 := (.slice A1 n1 c1)) (a3 := (.int .i64 e1)) (a4 := (.string t1)) (a5 := (.slice LA1 ln1 lc1)) (a6 := (.slice KA1 kn1 kc1)) hown5' HFL.out
            have hob6 := (hbp.block ob (by simp [World.setCell]; exact (Array.getElem?_eq_some_iff.1 HOB5.out).1) hog).trans hob6'
            have hb56 : But (fun j => j = g' ∨ j = ob) w5 ((((((((w5.setCell ⟨ob, 5, none⟩ (.slice (some ⟨g', 0, none⟩) (ln + 1) cap')).setCell ⟨g', ln * 7, none⟩ (.int .i64 k1)).setCell ⟨g', ln * 7 + 1, none⟩ (.bool neg1)).setCell ⟨g', ln * 7 + 2, none⟩ (.slice A1 n1 c1)).setCell ⟨g', ln * 7 + 3, none⟩ (.int .i64 e1)).setCell ⟨g', ln * 7 + 4, none⟩ (.string t1)).setCell ⟨g', ln * 7 + 5, none⟩ (.slice LA1 ln1 lc1)).setCell ⟨g', ln * 7 + 6, none⟩ (.slice KA1 kn1 kc1)) := (But.setCell (C := fun j => j = g' ∨ j = ob) (p := ⟨ob, 5, none⟩) (But.refl _ _) (.inl (.inr rfl)) _).trans (hbp.mono (fun _ _ h => .inl h))
            refine wpAnyH_ready (rs := [9]) (by kernel_rfl) (by simp) (AllReadyH.cons (o := ⟨_, _, _, _, _, _⟩) rfl (fun K hK => ?_) AllReadyH.nil)
            go_simp
            refine hK.out _ _ (hbp.cell_some hpc hpg) (fun hHeld6 => ?_)
            clear hK K hHeld5 hob6' hpc hown5' hbp y0 y1 y2 y3 y4 y5 y6
            try simp only [Act.put, List.setIfInBounds_toArray, List.set_cons_zero, List.set_cons_succ]
            have hgo9 : W.ownsRow N 34 7 (.slice LA ln lc) acc.length _ := HG.out.choose_spec.1
            refine wpAnyH_done (by kernel_rfl) ?_ _
            clear z0 z1 z2 z3 z4 z5 z6 r0 r1 r2 r3 r4 r5 r6 o5 p5 hc0
            generalize ((((((((w5.setCell ⟨ob, 5, none⟩ (.slice (some ⟨g', 0, none⟩) (ln + 1) cap')).setCell ⟨g', ln * 7, none⟩ (.int .i64 k1)).setCell ⟨g', ln * 7 + 1, none⟩ (.bool neg1)).setCell ⟨g', ln * 7 + 2, none⟩ (.slice A1 n1 c1)).setCell ⟨g', ln * 7 + 3, none⟩ (.int .i64 e1)).setCell ⟨g', ln * 7 + 4, none⟩ (.string t1)).setCell ⟨g', ln * 7 + 5, none⟩ (.slice LA1 ln1 lc1)).setCell ⟨g', ln * 7 + 6, none⟩ (.slice KA1 kn1 kc1)) = w6 at *
            go_wp2
            first | go_end0 | refine bodyPost_ret (results_none rfl _ _ _) rfl ?_
            have hb26 : But (fun j => j = ob ∨ N ≤ j) w2 w6 := (But.of (C := fun j => j = ob ∨ N ≤ j) H21.out).trans (((⟨HBL5.out.os, HBL5.out.tape, HBL5.out.output, HBL5.out.size, fun j hj hc => HBL5.out.block j (by omega)⟩ : But (fun j => j = ob ∨ N ≤ j) w2 w5)).trans (hb56.mono (fun j _ h => by rcases h with h | h <;> omega)))
            have hbW6 : But (fun j => j = sb ∨ (j = ob ∨ N ≤ j)) W w6 := (hb2.mono (fun _ _ h => .inl h)).trans (hb26.mono (fun _ _ h => .inr h))
            refine ⟨rfl, HE2.out.stay hb26 (fun j hj h => by have := HE.out.base; omega) (fun h => by omega), ⟨some ⟨g', 0, none⟩, cap', ?_, ?_, ?_⟩, hbW6⟩
            · exact (hb56.block pb (Array.getElem?_eq_some_iff.1 HPB5.out).1 (by omega)).trans HPB5.out
            · rw [List.length_append, HLN.out]; exact hob6
            · rw [List.length_append, HLN.out]; exact Grow.push (ob := ob) HLN.out HF7.out HFT.out (fun j hj => (ownsRow_lt hgo9 hj).2) hNW H21.out HVA.out rfl HG5.out HAT5.out hb56 hoN hown6
    · go_simp
      refine (HV.out ((W.alloc (.cells #[.int .i64 0, .bool false, .slice none 0 0, .int .i64 0, .string ⟨#[]⟩, .slice none 0 0, .slice none 0 0] 34)).drew) (HE.out.stay (C := fun _ => False) (((But.refl _ _).alloc _).drew) (fun _ _ h => h) (fun h => h))).mono ?_
      intro e w2 hp
      cases R with
      | bad q x =>
        obtain ⟨rfl, hb⟩ := hp
        exact ⟨rfl, rfl, ((((But.refl (fun k => k = sb) W).alloc (.cells #[.int .i64 0, .bool false, .slice none 0 0, .int .i64 0, .string ⟨#[]⟩, .slice none 0 0, .slice none 0 0] 34)).drew).trans hb).mono (fun _ _ h => .inl h)⟩
      | ok a q =>
        obtain ⟨⟨v, rfl, cs, rfl, hva⟩, hE2, hbc⟩ := hp
        obtain ⟨k1, neg1, xs1, e1, t1, li1, ks1, hak⟩ : ∃ k neg xs e t li ks, a = VT.mk k neg xs e t li ks := by cases a; exact ⟨_, _, _, _, _, _, _, rfl⟩
        have hvb := hva
        rw [hak] at hvb
        obtain ⟨A1, n1, c1, LA1, ln1, lc1, KA1, kn1, kc1, rfl, -⟩ := hvb.parts
        have hb2 : But (fun k => k = sb) W w2 := (((But.refl (fun k => k = sb) W).alloc (.cells #[.int .i64 0, .bool false, .slice none 0 0, .int .i64 0, .string ⟨#[]⟩, .slice none 0 0, .slice none 0 0] 34)).drew).trans hbc
        have HVA := Lib.hid (show VIn w2 (fun b => W.heap.size ≤ b ∧ b < w2.heap.size) a _ from hva.more (fun b hb => ⟨by have h9 := hb.1; simp at h9; omega, hb.2⟩))
        have HE2 := Lib.hid hE2
        clear hvb hak hva hE2
        (try dsimp only)
        refine hK.out _ _ (HS.out _ hb2) (fun hHeldC => ?_)
        clear hK K hHeldB
        try simp only [Act.put, List.setIfInBounds_toArray, List.set_cons_zero, List.set_cons_succ]
        refine wpAnyH_ready (rs := [1]) (by kernel_rfl) (by simp) (AllReadyH.cons (o := ⟨_, _, _, _, _, _⟩) rfl (fun K hK => ?_) AllReadyH.nil)
        · have c5 : w2.cell? ⟨ob, 5, none⟩ = some (.slice LA ln lc) := HC5.out _ (hb2)
          go_simp
          refine hK.out _ _ (HS.out _ (hb2)) (fun hHeldL => ?_)
          clear hK K hHeldC c5
          try simp only [Act.put, List.setIfInBounds_toArray, List.set_cons_zero, List.set_cons_succ]
          refine wpAnyH_take (i := 5) (oi := ⟨_, _, _, _, _, _⟩) (v := ?_) rfl (by kernel_rfl) (by kernel_rfl) (by kernel_rfl) (fun _ _ _ h => h) (Or.inl ⟨by rfl, ?_⟩) (by assumption) ?_
          rotate_left
          · intro w hSw
            (try dsimp only at hSw)
            go_split_ands
            go_simp
            try with_reducible rfl
          try simp only [Act.put, List.setIfInBounds_toArray, List.set_cons_zero, List.set_cons_succ]
          have HZ := Lib.hid (show ∀ j u, [.int .i64 0, .bool false, .slice none 0 0, .int .i64 0, .string ⟨#[]⟩, .slice none 0 0, .slice none 0 0][j]? = some u → w2.cell? ((⟨W.heap.size, 0, none⟩ : Addr).add j) = some u from fun j u hj => by
            have h9 := new7 W (.int .i64 0) (.bool false) (.slice none 0 0) (.int .i64 0) (.string ⟨#[]⟩) (.slice none 0 0) (.slice none 0 0) 34 j u hj
            exact hbc.cell_some h9 (fun h => by rw [Addr.add_lit] at h; have h8 : W.heap.size = sb := h; have := HE.out.lt; omega))
          have HBA := Lib.hid (hb2)
          have H21 := Lib.hid (show Below w2.heap.size w2 w2 from Below.refl _ _)
          clear hbc
          try simp only [Act.put, List.setIfInBounds_toArray, List.set_cons_zero, List.set_cons_succ]
          have hgr : Grow N (.slice LA ln lc) acc w2 := HG.out.keep HBA.out (fun k hk => by omega)
          obtain ⟨fs, hown, hf7, hft⟩ := hgr
          rw [HLN.out] at hown
          have hfl : (flatC fs id ln).length = ln * 7 := flatC_length (fun q hq => hf7 q (by have := HLN.out; omega))
          have HOWN := Lib.hid hown
          have HF7 := Lib.hid (show ∀ i, i < ln → (fs i).length = 7 from fun i hi => hf7 i (by have := HLN.out; omega))
          have HFT := Lib.hid hft
          have HNA := Lib.hid (show N ≤ w2.heap.size from Nat.le_trans hNW HBA.out.size)
          clear hown hf7 hft
          refine wpAnyH_ready (rs := [7]) (by kernel_rfl) (by simp) (AllReadyH.cons (o := ⟨_, _, _, _, _, _⟩) rfl (fun K hK => ?_) AllReadyH.nil)
          refine step_append_at (base := N) (e := 34) (v := .slice LA ln lc) (n := ln) (xs := flatC fs id ln) (news := [.int .i64 0, .bool false, .slice none 0 0, .int .i64 0, .string ⟨#[]⟩, .slice none 0 0, .slice none 0 0]) (m := 1) (c := 1) (ad := ⟨W.heap.size, 0, none⟩) rfl (.tmp 5) (.tmp 10) 24 rfl Tryz.underlying24 hi7 hp7 hq7 hr7 rfl (by decide) rfl HOWN.out rfl rfl HZ.out (by simp [Value.oneCell']) (by unfold maxLen; omega) (by omega) HNA.out ?_
          intro v' w5 hown5 hg5 _ hat5
          obtain ⟨g', cap', rfl⟩ := ownsRow_succ hown5
          have hbl5 : Below N w2 w5 := (Below.refl N _).grown hg5 HNA.out (fun q e => (ownsRow_lt HOWN.out e).1)
          have hob5 : w5.heap[ob]? = _ := (hbl5.block ob hoN).trans ((HBA.out.block ob (Array.getElem?_eq_some_iff.1 HB2.out).1 hos).trans HB2.out)
          have hpb5 : w5.heap[pb]? = _ := (hbl5.block pb hpN).trans ((HBA.out.block pb (Array.getElem?_eq_some_iff.1 HB1.out).1 hps).trans HB1.out)
          have hc0 : w5.cell? ⟨pb, 0, none⟩ = some (ptr sb) := cell_at3 hpb5 rfl
          have hgN : N ≤ g' := (ownsRow_lt hown5 rfl).1
          have HFL := Lib.hid hfl
          have hz : ∀ j u, [.int .i64 0, .bool false, .slice none 0 0, .int .i64 0, .string ⟨#[]⟩, .slice none 0 0, .slice none 0 0][j]? = some u → w5.cell? ⟨g', ln * 7 + j, none⟩ = some u ∧ w5.frozen? ⟨g', ln * 7 + j, none⟩ = false := fun j u hj => ownsRow_cell hown5 (by rw [List.getElem?_append_right (by rw [HFL.out]; omega), HFL.out, Nat.add_sub_cancel_left]; exact hj)
          obtain ⟨z0, r0⟩ := hz 0 (.int .i64 0) rfl
          obtain ⟨z1, r1⟩ := hz 1 (.bool false) rfl
          obtain ⟨z2, r2⟩ := hz 2 (.slice none 0 0) rfl
          obtain ⟨z3, r3⟩ := hz 3 (.int .i64 0) rfl
          obtain ⟨z4, r4⟩ := hz 4 (.string ⟨#[]⟩) rfl
          obtain ⟨z5, r5⟩ := hz 5 (.slice none 0 0) rfl
          obtain ⟨z6, r6⟩ := hz 6 (.slice none 0 0) rfl
          rw [Nat.add_zero] at z0 r0
          have o5 : w5.cell? ⟨ob, 5, none⟩ = some (.slice LA ln lc) := cell_at3 hob5 rfl
          have p5 : w5.frozen? ⟨ob, 5, none⟩ = false := by simp [World.frozen?, hob5]
          have hgo : ¬ g' = ob := by omega
          have hog : ¬ ob = g' := by omega
          have hpg : ¬ pb = g' := by omega
          have hl1 : (ln : Int) < (ln : Int) + 1 := by omega
          have hl0 : (0 : Int) ≤ (ln : Int) := by omega
          have hlt : ((ln : Int)).toNat = ln := by omega
          (try dsimp only)
          refine hK.out _ _ hc0 (fun hHeld4 => ?_)
          clear hK K hHeldL hz hfl
          have HOWN5 := Lib.hid hown5
          have HG5 := Lib.hid hg5
          have HAT5 := Lib.hid hat5
          have HBL5 := Lib.hid hbl5
          have HOB5 := Lib.hid hob5
          have HPB5 := Lib.hid hpb5
          clear hown5 hg5 hat5 hbl5 hob5 hpb5
          try simp only [Act.put, List.setIfInBounds_toArray, List.set_cons_zero, List.set_cons_succ]
          refine wpAnyH_take (i := 8) (oi := ⟨_, _, _, _, _, _⟩) (v := ?_) rfl (by kernel_rfl) (by kernel_rfl) (by kernel_rfl) (fun _ _ _ h => h) (Or.inl ⟨by rfl, ?_⟩) (by assumption) ?_
          rotate_left
          · intro w hSw
            (try dsimp only at hSw)
            go_split_ands
            go_simp
            try with_reducible rfl
          try simp only [Act.put, List.setIfInBounds_toArray, List.set_cons_zero, List.set_cons_succ]
          refine wpAnyH_take (i := 10) (oi := ⟨_, _, _, _, _, _⟩) (v := ?_) rfl (by kernel_rfl) (by kernel_rfl) (by kernel_rfl) (fun _ _ _ h => h) (Or.inl ⟨by rfl, ?_⟩) (by assumption) ?_
          rotate_left
          · intro w hSw
            (try dsimp only at hSw)
            go_split_ands
            go_simp
            try with_reducible rfl
          try simp only [Act.put, List.setIfInBounds_toArray, List.set_cons_zero, List.set_cons_succ]
          refine wpAnyH_ready (rs := [9, 11]) (by kernel_rfl) (by simp) (AllReadyH.cons (o := ⟨_, _, _, _, _, _⟩) rfl (fun K hK => ?_) (AllReadyH.cons (o := ⟨_, _, _, _, _, _⟩) rfl (fun K hK => ?_) AllReadyH.nil))
          · go_simp
            obtain ⟨hrp, hbp⟩ := row_put7 (a0 := (.int .i64 k1)) (a1 := (.bool neg1)) (a2 := (.slice A1 n1 c1)) (a3 := (.int .i64 e1)) (a4 := (.string t1)) (a5 := (.slice LA1 ln1 lc1)) (a6 := (.slice KA1 kn1 kc1)) HOWN5.out HFL.out
            have hob1 := (hbp.block ob (Array.getElem?_eq_some_iff.1 HOB5.out).1 hog).trans HOB5.out
            have hpc := hbp.cell_some hc0 hpg
            refine hK.out _ _ hpc (fun hHeld5 => ?_)
            clear hK K hHeld4
            try simp only [Act.put, List.setIfInBounds_toArray, List.set_cons_zero, List.set_cons_succ]
            have hob6 := set_heap (i := 5) (u := (.slice (some ⟨g', 0, none⟩) (ln + 1) cap')) hob1
            have hown6 := ownsRow_setCell_other (a := ⟨ob, 5, none⟩) hrp (by show some g' ≠ some ob; intro h; injection h with h; exact hgo h) (.slice (some ⟨g', 0, none⟩) (ln + 1) cap')
            have hb56 : But (fun j => j = g' ∨ j = ob) w5 ((((((((w5.setCell ⟨g', ln * 7, none⟩ (.int .i64 k1)).setCell ⟨g', ln * 7 + 1, none⟩ (.bool neg1)).setCell ⟨g', ln * 7 + 2, none⟩ (.slice A1 n1 c1)).setCell ⟨g', ln * 7 + 3, none⟩ (.int .i64 e1)).setCell ⟨g', ln * 7 + 4, none⟩ (.string t1)).setCell ⟨g', ln * 7 + 5, none⟩ (.slice LA1 ln1 lc1)).setCell ⟨g', ln * 7 + 6, none⟩ (.slice KA1 kn1 kc1)).setCell ⟨ob, 5, none⟩ (.slice (some ⟨g', 0, none⟩) (ln + 1) cap')) := But.setCell (C := fun j => j = g' ∨ j = ob) (p := ⟨ob, 5, none⟩) (hbp.mono (fun _ _ h => .inl h)) (.inl (.inr rfl)) _
            refine wpAnyH_ready (rs := [11]) (by kernel_rfl) (by simp) (AllReadyH.cons (o := ⟨_, _, _, _, _, _⟩) rfl (fun K hK => ?_) AllReadyH.nil)
            go_simp
            refine hK.out _ _ ((World.cell?_setCell_other _ _ _ _ (by first | (simp; done) | (simp; omega))).trans hpc) (fun hHeld6 => ?_)
            clear hK K hHeld5 hob1 hpc hrp hbp
            try simp only [Act.put, List.setIfInBounds_toArray, List.set_cons_zero, List.set_cons_succ]
            have hgo9 : W.ownsRow N 34 7 (.slice LA ln lc) acc.length _ := HG.out.choose_spec.1
            refine wpAnyH_done (by kernel_rfl) ?_ _
            clear z0 z1 z2 z3 z4 z5 z6 r0 r1 r2 r3 r4 r5 r6 o5 p5 hc0
            generalize ((((((((w5.setCell ⟨g', ln * 7, none⟩ (.int .i64 k1)).setCell ⟨g', ln * 7 + 1, none⟩ (.bool neg1)).setCell ⟨g', ln * 7 + 2, none⟩ (.slice A1 n1 c1)).setCell ⟨g', ln * 7 + 3, none⟩ (.int .i64 e1)).setCell ⟨g', ln * 7 + 4, none⟩ (.string t1)).setCell ⟨g', ln * 7 + 5, none⟩ (.slice LA1 ln1 lc1)).setCell ⟨g', ln * 7 + 6, none⟩ (.slice KA1 kn1 kc1)).setCell ⟨ob, 5, none⟩ (.slice (some ⟨g', 0, none⟩) (ln + 1) cap')) = w6 at *
            go_wp2
            first | go_end0 | refine bodyPost_ret (results_none rfl _ _ _) rfl ?_
            have hb26 : But (fun j => j = ob ∨ N ≤ j) w2 w6 := (But.of (C := fun j => j = ob ∨ N ≤ j) H21.out).trans (((⟨HBL5.out.os, HBL5.out.tape, HBL5.out.output, HBL5.out.size, fun j hj hc => HBL5.out.block j (by omega)⟩ : But (fun j => j = ob ∨ N ≤ j) w2 w5)).trans (hb56.mono (fun j _ h => by rcases h with h | h <;> omega)))
            have hbW6 : But (fun j => j = sb ∨ (j = ob ∨ N ≤ j)) W w6 := (hb2.mono (fun _ _ h => .inl h)).trans (hb26.mono (fun _ _ h => .inr h))
            refine ⟨rfl, HE2.out.stay hb26 (fun j hj h => by have := HE.out.base; omega) (fun h => by omega), ⟨some ⟨g', 0, none⟩, cap', ?_, ?_, ?_⟩, hbW6⟩
            · exact (hb56.block pb (Array.getElem?_eq_some_iff.1 HPB5.out).1 (by omega)).trans HPB5.out
            · rw [List.length_append, HLN.out]; exact hob6
            · rw [List.length_append, HLN.out]; exact Grow.push (ob := ob) HLN.out HF7.out HFT.out (fun j hj => (ownsRow_lt hgo9 hj).2) hNW H21.out HVA.out rfl HG5.out HAT5.out hb56 hoN hown6
          · go_simp
            have hob6' := set_heap (i := 5) (u := (.slice (some ⟨g', 0, none⟩) (ln + 1) cap')) HOB5.out
            have hpc := (World.cell?_setCell_other w5 ⟨ob, 5, none⟩ ⟨pb, 0, none⟩ (.slice (some ⟨g', 0, none⟩) (ln + 1) cap') (by first | (simp; done) | (simp; omega))).trans hc0
            refine hK.out _ _ hpc (fun hHeld5 => ?_)
            clear hK K hHeld4
            try simp only [Act.put, List.setIfInBounds_toArray, List.set_cons_zero, List.set_cons_succ]
            have y0 := (World.cell?_setCell_other w5 ⟨ob, 5, none⟩ ⟨g', ln * 7, none⟩ (.slice (some ⟨g', 0, none⟩) (ln + 1) cap') (by first | (simp; done) | (simp; omega))).trans z0
            have y1 := (World.cell?_setCell_other w5 ⟨ob, 5, none⟩ ⟨g', ln * 7 + 1, none⟩ (.slice (some ⟨g', 0, none⟩) (ln + 1) cap') (by first | (simp; done) | (simp; omega))).trans z1
            have y2 := (World.cell?_setCell_other w5 ⟨ob, 5, none⟩ ⟨g', ln * 7 + 2, none⟩ (.slice (some ⟨g', 0, none⟩) (ln + 1) cap') (by first | (simp; done) | (simp; omega))).trans z2
            have y3 := (World.cell?_setCell_other w5 ⟨ob, 5, none⟩ ⟨g', ln * 7 + 3, none⟩ (.slice (some ⟨g', 0, none⟩) (ln + 1) cap') (by first | (simp; done) | (simp; omega))).trans z3
            have y4 := (World.cell?_setCell_other w5 ⟨ob, 5, none⟩ ⟨g', ln * 7 + 4, none⟩ (.slice (some ⟨g', 0, none⟩) (ln + 1) cap') (by first | (simp; done) | (simp; omega))).trans z4
            have y5 := (World.cell?_setCell_other w5 ⟨ob, 5, none⟩ ⟨g', ln * 7 + 5, none⟩ (.slice (some ⟨g', 0, none⟩) (ln + 1) cap') (by first | (simp; done) | (simp; omega))).trans z5
            have y6 := (World.cell?_setCell_other w5 ⟨ob, 5, none⟩ ⟨g', ln * 7 + 6, none⟩ (.slice (some ⟨g', 0, none⟩) (ln + 1) cap') (by first | (simp; done) | (simp; omega))).trans z6
            have hown5' := ownsRow_setCell_other (a := ⟨ob, 5, none⟩) HOWN5.out (by show some g' ≠ some ob; intro h; injection h with h; exact hgo h) (.slice (some ⟨g', 0, none⟩) (ln + 1) cap')
            obtain ⟨hown6, hbp⟩ := row_put7 (a0 := (.int .i64 k1)) (a1 := (.bool neg1)) (a2 := (.slice A1 n1 c1)) (a3 := (.int .i64 e1)) (a4 := (.string t1)) (a5 := (.slice LA1 ln1 lc1)) (a6 := (.slice KA1 kn1 kc1)) hown5' HFL.out
            have hob6 := (hbp.block ob (by simp [World.setCell]; exact (Array.getElem?_eq_some_iff.1 HOB5.out).1) hog).trans hob6'
            have hb56 : But (fun j => j = g' ∨ j = ob) w5 ((((((((w5.setCell ⟨ob, 5, none⟩ (.slice (some ⟨g', 0, none⟩) (ln + 1) cap')).setCell ⟨g', ln * 7, none⟩ (.int .i64 k1)).setCell ⟨g', ln * 7 + 1, none⟩ (.bool neg1)).setCell ⟨g', ln * 7 + 2, none⟩ (.slice A1 n1 c1)).setCell ⟨g', ln * 7 + 3, none⟩ (.int .i64 e1)).setCell ⟨g', ln * 7 + 4, none⟩ (.string t1)).setCell ⟨g', ln * 7 + 5, none⟩ (.slice LA1 ln1 lc1)).setCell ⟨g', ln * 7 + 6, none⟩ (.slice KA1 kn1 kc1)) := (But.setCell (C := fun j => j = g' ∨ j = ob) (p := ⟨ob, 5, none⟩) (But.refl _ _) (.inl (.inr rfl)) _).trans (hbp.mono (fun _ _ h => .inl h))
            refine wpAnyH_ready (rs := [9]) (by kernel_rfl) (by simp) (AllReadyH.cons (o := ⟨_, _, _, _, _, _⟩) rfl (fun K hK => ?_) AllReadyH.nil)
            go_simp
            refine hK.out _ _ (hbp.cell_some hpc hpg) (fun hHeld6 => ?_)
            clear hK K hHeld5 hob6' hpc hown5' hbp y0 y1 y2 y3 y4 y5 y6
            try simp only [Act.put, List.setIfInBounds_toArray, List.set_cons_zero, List.set_cons_succ]
            have hgo9 : W.ownsRow N 34 7 (.slice LA ln lc) acc.length _ := HG.out.choose_spec.1
            refine wpAnyH_done (by kernel_rfl) ?_ _
            clear z0 z1 z2 z3 z4 z5 z6 r0 r1 r2 r3 r4 r5 r6 o5 p5 hc0
            generalize ((((((((w5.setCell ⟨ob, 5, none⟩ (.slice (some ⟨g', 0, none⟩) (ln + 1) cap')).setCell ⟨g', ln * 7, none⟩ (.int .i64 k1)).setCell ⟨g', ln * 7 + 1, none⟩ (.bool neg1)).setCell ⟨g', ln * 7 + 2, none⟩ (.slice A1 n1 c1)).setCell ⟨g', ln * 7 + 3, none⟩ (.int .i64 e1)).setCell ⟨g', ln * 7 + 4, none⟩ (.string t1)).setCell ⟨g', ln * 7 + 5, none⟩ (.slice LA1 ln1 lc1)).setCell ⟨g', ln * 7 + 6, none⟩ (.slice KA1 kn1 kc1)) = w6 at *
            go_wp2
            first | go_end0 | refine bodyPost_ret (results_none rfl _ _ _) rfl ?_
            have hb26 : But (fun j => j = ob ∨ N ≤ j) w2 w6 := (But.of (C := fun j => j = ob ∨ N ≤ j) H21.out).trans (((⟨HBL5.out.os, HBL5.out.tape, HBL5.out.output, HBL5.out.size, fun j hj hc => HBL5.out.block j (by omega)⟩ : But (fun j => j = ob ∨ N ≤ j) w2 w5)).trans (hb56.mono (fun j _ h => by rcases h with h | h <;> omega)))
            have hbW6 : But (fun j => j = sb ∨ (j = ob ∨ N ≤ j)) W w6 := (hb2.mono (fun _ _ h => .inl h)).trans (hb26.mono (fun _ _ h => .inr h))
            refine ⟨rfl, HE2.out.stay hb26 (fun j hj h => by have := HE.out.base; omega) (fun h => by omega), ⟨some ⟨g', 0, none⟩, cap', ?_, ?_, ?_⟩, hbW6⟩
            · exact (hb56.block pb (Array.getElem?_eq_some_iff.1 HPB5.out).1 (by omega)).trans HPB5.out
            · rw [List.length_append, HLN.out]; exact hob6
            · rw [List.length_append, HLN.out]; exact Grow.push (ob := ob) HLN.out HF7.out HFT.out (fun j hj => (ownsRow_lt hgo9 hj).2) hNW H21.out HVA.out rfl HG5.out HAT5.out hb56 hoN hown6
end Go.Proofs.YtpjllcengnolkaaGreatDoor
