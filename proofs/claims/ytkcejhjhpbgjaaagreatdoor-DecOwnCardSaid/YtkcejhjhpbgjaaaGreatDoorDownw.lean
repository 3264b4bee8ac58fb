/-
  The walk of the law DecOwn: it returns true, whatever the two decimals read as.
-/
import Derived.Test.YtkcejhjhpbgjaaaGreatDoorDneg
import Derived.Test.YtkcejhjhpbgjaaaGreatDoorDr
set_option linter.unusedVariables false
set_option linter.unusedSimpArgs false
namespace Go.Proofs.YtkcejhjhpbgjaaaGreatDoor
open Go.RowKit

theorem Res.ne_box {w : World} {base n c b : Nat} {A : Option Addr} {zs : List Nat} {vs : Array Value} {t : TypeId} (h : Res w base A n c zs) (hb : w.heap[b]? = some (.cells vs t)) (ht : t ≠ 78) : ∀ g, A = some ⟨g, 0, none⟩ → g ≠ b := by
  intro g e hgb
  rcases h.own.2 with ⟨h1, _⟩ | ⟨g2, cap, cur, h1, h2, hh, _⟩
  · injection h1 with h1; rw [h1] at e; cases e
  · injection h1 with h1
    rw [h1] at e
    injection e with e
    injection e with e
    rw [e, hgb, hb] at hh
    injection hh with hh
    injection hh with _ hh
    exact ht hh
theorem Res.setNe {w : World} {base n c : Nat} {A : Option Addr} {zs : List Nat} (h : Res w base A n c zs) {p : Addr} (hne : ∀ g, A = some ⟨g, 0, none⟩ → g ≠ p.block) (u : Value) : Res (w.setCell p u) base A n c zs :=
  h.keep fun g e => Below.heap_setCell _ _ _ _ (hne g e)
theorem Res.ownB {w : World} {base n c n' c' g : Nat} {A : Option Addr} {zs : List Nat} (h : Res w base A n c zs) (q : some g = (Value.slice A n' c').ownBlock) : A = some ⟨g, 0, none⟩ := by
  rcases h.form with ⟨z, _⟩ | ⟨g3, z, _⟩
  · rw [z] at q; simp [Value.ownBlock] at q
  · rw [z] at q ⊢
    simp [Value.ownBlock] at q
    rw [q]
theorem Res.base_le {w : World} {base n c g : Nat} {A : Option Addr} {zs : List Nat} (h : Res w base A n c zs) (q : A = some ⟨g, 0, none⟩) : base ≤ g := by
  rcases h.form with ⟨z, _⟩ | ⟨g3, z, z2, _⟩
  · rw [z] at q; cases q
  · rw [z] at q; injection q with q; injection q with q; omega
theorem heldG {w w' : World} {A : Option Addr} {n c b : Nat} {vs : Array Value} {t : TypeId} (hg : w.grownBy w' (Value.slice A n c).ownBlock) (hob : ∀ g, some g = (Value.slice A n c).ownBlock → A = some ⟨g, 0, none⟩) (hne : ∀ g, A = some ⟨g, 0, none⟩ → g ≠ b) (h : w.heap[b]? = some (.cells vs t)) : w'.heap[b]? = some (.cells vs t) :=
  (hg.block b (Array.getElem?_eq_some_iff.1 h).1 (fun e => hne b (hob b e) rfl)).trans h
theorem ty_ne : (24 : Nat) ≠ 78 := by decide

set_option maxRecDepth 100000 in
set_option maxHeartbeats 4000000 in
theorem DecOwn_c {S : Nat → Prop} {n m c d : Nat} {A B : Option Addr} {xs ys : List Nat} (na nb : Bool) (e1 e2 : Int) (w : World) (ha : Rd w S A n xs) (hb : Rd w S B m ys)
    (hS : ∀ b, S b → b < w.heap.size) (hn : n ≤ 35184372088832) (hm : m ≤ 35184372088832) :
    Calls Tryz.prog 9 #[dv na A n c e1, dv nb B m d e2] w fun e w' => e = .returned (.bool true) ∧ Below w.heap.size w w' := by
  obtain ⟨N1, hN1⟩ : ∃ N, opN (okE2 na xs e1 nb ys e2) (addS na (val xs) e1 nb (val ys) e2) (addZ na (val xs) e1 nb (val ys) e2) (lo2 e1 e2) = N := ⟨_, rfl⟩
  obtain ⟨X1, hX1⟩ : ∃ N, opX (okE2 na xs e1 nb ys e2) (addZ na (val xs) e1 nb (val ys) e2) (lo2 e1 e2) = N := ⟨_, rfl⟩
  obtain ⟨Z1, hZ1⟩ : ∃ N, opZ (okE2 na xs e1 nb ys e2) (addZ na (val xs) e1 nb (val ys) e2) (lo2 e1 e2) = N := ⟨_, rfl⟩
  obtain ⟨E1, hE1⟩ : ∃ N, opE (okE2 na xs e1 nb ys e2) (addZ na (val xs) e1 nb (val ys) e2) (lo2 e1 e2) = N := ⟨_, rfl⟩
  obtain ⟨N2, hN2⟩ : ∃ N, ngN na xs e1 = N := ⟨_, rfl⟩
  obtain ⟨X2, hX2⟩ : ∃ N, ngX na xs e1 = N := ⟨_, rfl⟩
  obtain ⟨Z2, hZ2⟩ : ∃ N, ngZ na xs e1 = N := ⟨_, rfl⟩
  obtain ⟨E2, hE2⟩ : ∃ N, okE na xs e1 = N := ⟨_, rfl⟩
  have hadd := fun V (S' : Nat → Prop) A' c' B' d' (h1 : Rd V S' A' n xs) (h2 : Rd V S' B' m ys) hs => (DAdd_v (c := c') (d := d') na nb e1 e2 V h1 h2 hs (by omega) (by omega)).mono fun e w' ⟨h, hb⟩ => (⟨h.answ hN1 hX1 hZ1 hE1, hb⟩ : Answ e w' V.heap.size N1 X1 Z1 E1 ∧ Below V.heap.size V w')
  have hradd := fun V (h1 : Rd V S A n xs) (h2 : Rd V S B m ys) hs => (RAdd_v (c := c) (d := d) na nb e1 e2 V h1 h2 hs (by omega) (by omega)).mono fun e w' ⟨h, hb⟩ => (⟨h.answ hN1 hX1 hZ1 hE1, hb⟩ : Answ e w' V.heap.size N1 X1 Z1 E1 ∧ Below V.heap.size V w')
  have hneg := fun V (S' : Nat → Prop) A' c' (h1 : Rd V S' A' n xs) hs => DNeg_v (c := c') na e1 V h1 hs (by omega)
  have hrneg := fun V (h1 : Rd V S A n xs) hs => RNeg_v (c := c) na e1 V h1 hs (by omega)
  rw [hN2, hX2, hZ2, hE2] at hneg hrneg
  have hs1 := fun V (S1 S2 : Nat → Prop) A1 n1 c1 A2 n2 c2 (h1 : Rd V S1 A1 n1 Z1) (h2 : Rd V S2 A2 n2 Z1) hS1 hS2 hn1 hn2 => DSame_eq (c := c1) (d := c2) N1 X1 V h1 h2 hS1 hS2 hn1 hn2
  have hs2 := fun V (S1 S2 : Nat → Prop) A1 n1 c1 A2 n2 c2 (h1 : Rd V S1 A1 n1 Z2) (h2 : Rd V S2 A2 n2 Z2) hS1 hS2 hn1 hn2 => DSame_eq (c := c1) (d := c2) N2 X2 V h1 h2 hS1 hS2 hn1 hn2
  have hoa := fun V (h1 : Rd V S A n xs) hs => own2_c (c := c) na e1 V h1 hs hn
  have hob := fun V (h1 : Rd V S B m ys) hs => own2_c (c := d) nb e2 V h1 hs hm
  unfold Answ at hadd hradd hneg hrneg
  unfold dv at hadd hradd hneg hrneg hs1 hs2 hoa hob ⊢
  have ADD := Lib.hid hadd
  have RADD := Lib.hid hradd
  have NEG := Lib.hid hneg
  have RNEG := Lib.hid hrneg
  have S1 := Lib.hid hs1
  have S2 := Lib.hid hs2
  have OA := Lib.hid hoa
  have OB := Lib.hid hob
  clear hadd hradd hneg hrneg hs1 hs2 hoa hob hN1 hX1 hZ1 hE1 hN2 hX2 hZ2 hE2
  obtain ⟨ma, mb⟩ := two_new w (.cells #[.bool na, .slice A n c, .int .i64 e1] 24) (.cells #[.bool nb, .slice B m d, .int .i64 e2] 24)
  have hw : Below w.heap.size w ((w.alloc (.cells #[.bool na, .slice A n c, .int .i64 e1] 24)).alloc (.cells #[.bool nb, .slice B m d, .int .i64 e2] 24)) := ((Below.refl _ w).alloc (Nat.le_refl _) _).alloc (by simp) _
  have HMA := Lib.hid ma
  have HMB := Lib.hid mb
  clear ma mb
  go_enter Tryz.func9, Tryz.ntmps9
  go_wp2_with fail
  have ma := HMA.out
  have mb := HMB.out
  clear HMA HMB
  generalize ((w.alloc (.cells #[.bool na, .slice A n c, .int .i64 e1] 24)).alloc (.cells #[.bool nb, .slice B m d, .int .i64 e2] 24)) = W at ma mb hw ⊢
  have up : ∀ {W' : World}, Below w.heap.size w W' → ∀ b, S b → b < W'.heap.size := fun hW b h => by have := hS b h; have := hW.size; omega
  refine (alive2_c W).mono ?_
  rintro e w1 ⟨rfl, hb1⟩
  have ma := heldz hb1 ma
  have mb := heldz hb1 mb
  have hw := hw.trans (hb1.mono hw.size)
  obtain ⟨p0, p1, p2⟩ := box3_of ma
  obtain ⟨p3, p4, p5⟩ := box3_of mb
  go_wp2_with fail
  go_cut [5, 6] from 17 to 20 (fun s5 s6 wc => ∃ gx gy A1 c1 A2 c2, s5 = .pointer (some ⟨gx, 0, none⟩) ∧ s6 = .pointer (some ⟨gy, 0, none⟩) ∧ gx ≠ gy ∧ wc.heap[gx]? = some (.cells #[.bool na, .slice A1 n c1, .int .i64 e1] 24) ∧ wc.heap[gy]? = some (.cells #[.bool nb, .slice A2 m c2, .int .i64 e2] 24) ∧ w1.heap.size ≤ gx ∧ w1.heap.size ≤ gy ∧ Res wc w1.heap.size A1 n c1 xs ∧ Res wc w1.heap.size A2 m c2 ys ∧ (∀ g, A1 = some ⟨g, 0, none⟩ → A2 = some ⟨g, 0, none⟩ → False) ∧ Below w1.heap.size w1 wc)
  case first =>
    go_wp2_with fail
    refine wp_region_held_drew (S := fun w' => w'.cell? ⟨w.heap.size, 0, none⟩ = some (.bool na) ∧ w'.cell? ⟨w.heap.size, 1, none⟩ = some (.slice A n c) ∧ w'.cell? ⟨w.heap.size, 2, none⟩ = some (.int .i64 e1) ∧ w'.cell? ⟨w.heap.size + 1, 0, none⟩ = some (.bool nb) ∧ w'.cell? ⟨w.heap.size + 1, 1, none⟩ = some (.slice B m d) ∧ w'.cell? ⟨w.heap.size + 1, 2, none⟩ = some (.int .i64 e2)) (by kernel_rfl) ⟨p0, p1, p2, p3, p4, p5⟩ (fun hHeld => ?_)
    (try simp only [List.size_toArray, List.length_cons, List.length_nil, Nat.reduceAdd, Array.replicate_succ, Array.replicate_zero, List.push_toArray, List.append_toArray, List.nil_append, List.cons_append])
    refine wpAnyH_take (i := 0) (oi := ⟨_, _, _, _, _, _⟩) (v := ?_) rfl (by kernel_rfl) (by kernel_rfl) (by kernel_rfl) (fun _ _ _ h => h) (Or.inl ⟨by rfl, ?_⟩) (by assumption) ?_
    rotate_left
    · intro w hSw
      (try dsimp only at hSw)
      go_split_ands
      go_simp
      try with_reducible rfl
    try simp only [Act.put, List.setIfInBounds_toArray, List.set_cons_zero, List.set_cons_succ]
    refine wpAnyH_take (i := 2) (oi := ⟨_, _, _, _, _, _⟩) (v := ?_) rfl (by kernel_rfl) (by kernel_rfl) (by kernel_rfl) (fun _ _ _ h => h) (Or.inl ⟨by rfl, ?_⟩) (by assumption) ?_
    rotate_left
    · intro w hSw
      (try dsimp only at hSw)
      go_split_ands
      go_simp
      try with_reducible rfl
    try simp only [Act.put, List.setIfInBounds_toArray, List.set_cons_zero, List.set_cons_succ]
    clear p0 p1 p2 p3 p4 p5
    have mb1 := mb
    have ma : w1.drew.heap[w.heap.size]? = _ := ma
    have mb : w1.drew.heap[w.heap.size + 1]? = _ := mb
    have hB : Below w1.heap.size w1 w1.drew := only_drewB (Below.refl _ _)
    have hW : Below w.heap.size w w1.drew := only_drewB hw
    have hBs0 : w1.heap.size ≤ w1.drew.heap.size := Nat.le_refl _
    have HMB1 := Lib.hid mb1
    clear mb1
    generalize hV0 : w1.drew = V0 at *
    have mb1 := HMB1.out
    clear hV0 hHeld
    refine wpAnyH_ready (rs := [1, 4, 5]) (by kernel_rfl) (by simp) ?_
    refine (AllReadyH.cons (o := ⟨_, _, _, _, _, _⟩) rfl (fun K hK => ?_) (AllReadyH.cons (o := ⟨_, _, _, _, _, _⟩) rfl (fun K hK => ?_) (AllReadyH.cons (o := ⟨_, _, _, _, _, _⟩) rfl (fun K hK => ?_) AllReadyH.nil)))
    · go_simp
      refine (OA.out V0 (ha.below hW hS) (fun b h => up hW b h)).mono ?_
      rintro e V1 ⟨A1, c1, rfl, rx, hb0⟩
      have ma := heldz hb0 ma
      have mb := heldz hb0 mb
      have hB := hB.trans (hb0.mono hB.size)
      have hW := hW.trans (hb0.mono hW.size)
      have hlx : ∀ g, A1 = some ⟨g, 0, none⟩ → g < V1.heap.size := by
        intro g q1
        rcases rx.form with ⟨z, _⟩ | ⟨g3, z, _, z3⟩
        · rw [z] at q1; cases q1
        · rw [z] at q1; injection q1 with q1; injection q1 with q1; omega
      have rx := rx.more (base' := w1.heap.size) hBs0
      (try dsimp only)
      obtain ⟨x0, x1, x2⟩ := box3_of ma
      obtain ⟨x3, x4, x5⟩ := box3_of mb
      refine hK.out _ _ ⟨x0, x1, x2, x3, x4, x5⟩ (fun _ => ?_)
      clear hK K x0 x1 x2 x3 x4 x5
      try simp only [Act.put, List.setIfInBounds_toArray, List.set_cons_zero, List.set_cons_succ]
      have hBs0 : w1.heap.size ≤ V1.heap.size := hB.size
      refine wpAnyH_ready (rs := [3, 4, 5]) (by kernel_rfl) (by simp) ?_
      refine (AllReadyH.cons (o := ⟨_, _, _, _, _, _⟩) rfl (fun K hK => ?_) (AllReadyH.cons (o := ⟨_, _, _, _, _, _⟩) rfl (fun K hK => ?_) (AllReadyH.cons (o := ⟨_, _, _, _, _, _⟩) rfl (fun K hK => ?_) AllReadyH.nil)))
      · go_simp
        refine (OB.out V1 (hb.below hW hS) (fun b h => up hW b h)).mono ?_
        rintro e V2 ⟨A2, c2, rfl, ry, hb0⟩
        have ma := heldz hb0 ma
        have mb := heldz hb0 mb
        have rx := rx.below hb0 (Nat.le_refl _)
        have hdis : ∀ g, A1 = some ⟨g, 0, none⟩ → A2 = some ⟨g, 0, none⟩ → False := by
          intro g q1 q2
          subst q1 q2
          rcases ry.form with ⟨z, _⟩ | ⟨g3, z, z2, _⟩
          · cases z
          · injection z with z; injection z with z
            have := hlx g rfl; omega
        have hB := hB.trans (hb0.mono hB.size)
        have hW := hW.trans (hb0.mono hW.size)
        have ry := ry.more (base' := w1.heap.size) hBs0
        have hlx : ∀ g, A1 = some ⟨g, 0, none⟩ → g < V2.heap.size := fun g q => Nat.lt_of_lt_of_le (hlx g q) hb0.size
        (try dsimp only)
        obtain ⟨x0, x1, x2⟩ := box3_of ma
        obtain ⟨x3, x4, x5⟩ := box3_of mb
        refine hK.out _ _ ⟨x0, x1, x2, x3, x4, x5⟩ (fun _ => ?_)
        clear hK K x0 x1 x2 x3 x4 x5
        try simp only [Act.put, List.setIfInBounds_toArray, List.set_cons_zero, List.set_cons_succ]
        have hBs0 : w1.heap.size ≤ V2.heap.size := hB.size
        refine wpAnyH_ready (rs := [4, 5]) (by kernel_rfl) (by simp) ?_
        refine (AllReadyH.cons (o := ⟨_, _, _, _, _, _⟩) rfl (fun K hK => ?_) (AllReadyH.cons (o := ⟨_, _, _, _, _, _⟩) rfl (fun K hK => ?_) AllReadyH.nil))
        · go_simp
          obtain ⟨gx, hg⟩ : ∃ g, g = V2.heap.size := ⟨_, rfl⟩
          have ma := heldA (.cells #[.bool false, .slice none 0 0, .int .i64 0] 24) ma
          have mb := heldA (.cells #[.bool false, .slice none 0 0, .int .i64 0] 24) mb
          have mx := World.alloc_heap_new V2 (.cells #[.bool false, .slice none 0 0, .int .i64 0] 24)
          rw [← hg] at mx
          have rx := rx.below ((Below.refl V2.heap.size V2).alloc (Nat.le_refl _) (.cells #[.bool false, .slice none 0 0, .int .i64 0] 24)) (Nat.le_refl _)
          have ry := ry.below ((Below.refl V2.heap.size V2).alloc (Nat.le_refl _) (.cells #[.bool false, .slice none 0 0, .int .i64 0] 24)) (Nat.le_refl _)
          have hsz : (V2.alloc (.cells #[.bool false, .slice none 0 0, .int .i64 0] 24)).heap.size = V2.heap.size + 1 := by simp
          have hlx : ∀ g, A1 = some ⟨g, 0, none⟩ → g < (V2.alloc (.cells #[.bool false, .slice none 0 0, .int .i64 0] 24)).heap.size := fun g q => by have := hlx g q; omega
          have hkgx : w1.heap.size ≤ gx := by have := hB.size; omega
          have hB := hB.alloc hB.size (.cells #[.bool false, .slice none 0 0, .int .i64 0] 24)
          have hW := hW.alloc hW.size (.cells #[.bool false, .slice none 0 0, .int .i64 0] 24)
          obtain ⟨x0, x1, x2⟩ := box3_of ma
          obtain ⟨x3, x4, x5⟩ := box3_of mb
          refine hK.out _ _ ⟨x0, x1, x2, x3, x4, x5⟩ (fun _ => ?_)
          clear hK K x0 x1 x2 x3 x4 x5
          try simp only [Act.put, List.setIfInBounds_toArray, List.set_cons_zero, List.set_cons_succ]
          try rw [← hg]
          generalize hU : V2.alloc (.cells #[.bool false, .slice none 0 0, .int .i64 0] 24) = V3 at *
          clear hU
          have hlgx : gx < V3.heap.size := by omega
          clear hg hsz
          have hBs0 : w1.heap.size ≤ V3.heap.size := hB.size
          refine wpAnyH_ready (rs := [5]) (by kernel_rfl) (by simp) ?_
          refine (AllReadyH.cons (o := ⟨_, _, _, _, _, _⟩) rfl (fun K hK => ?_) AllReadyH.nil)
          · go_simp
            obtain ⟨gy, hg⟩ : ∃ g, g = V3.heap.size := ⟨_, rfl⟩
            have ma := heldA (.cells #[.bool false, .slice none 0 0, .int .i64 0] 24) ma
            have mb := heldA (.cells #[.bool false, .slice none 0 0, .int .i64 0] 24) mb
            have mx := heldA (.cells #[.bool false, .slice none 0 0, .int .i64 0] 24) mx
            have my := World.alloc_heap_new V3 (.cells #[.bool false, .slice none 0 0, .int .i64 0] 24)
            rw [← hg] at my
            have rx := rx.below ((Below.refl V3.heap.size V3).alloc (Nat.le_refl _) (.cells #[.bool false, .slice none 0 0, .int .i64 0] 24)) (Nat.le_refl _)
            have ry := ry.below ((Below.refl V3.heap.size V3).alloc (Nat.le_refl _) (.cells #[.bool false, .slice none 0 0, .int .i64 0] 24)) (Nat.le_refl _)
            have hsz : (V3.alloc (.cells #[.bool false, .slice none 0 0, .int .i64 0] 24)).heap.size = V3.heap.size + 1 := by simp
            have hlx : ∀ g, A1 = some ⟨g, 0, none⟩ → g < (V3.alloc (.cells #[.bool false, .slice none 0 0, .int .i64 0] 24)).heap.size := fun g q => by have := hlx g q; omega
            have hkgy : w1.heap.size ≤ gy := by have := hB.size; omega
            have hB := hB.alloc hB.size (.cells #[.bool false, .slice none 0 0, .int .i64 0] 24)
            have hW := hW.alloc hW.size (.cells #[.bool false, .slice none 0 0, .int .i64 0] 24)
            obtain ⟨x0, x1, x2⟩ := box3_of ma
            obtain ⟨x3, x4, x5⟩ := box3_of mb
            refine hK.out _ _ ⟨x0, x1, x2, x3, x4, x5⟩ (fun _ => ?_)
            clear hK K x0 x1 x2 x3 x4 x5
            try simp only [Act.put, List.setIfInBounds_toArray, List.set_cons_zero, List.set_cons_succ]
            try rw [← hg]
            generalize hU : V3.alloc (.cells #[.bool false, .slice none 0 0, .int .i64 0] 24) = V4 at *
            clear hU
            have hlgy : gy < V4.heap.size := by omega
            have hne : gx ≠ gy := by omega
            have hlgx : gx < V4.heap.size := by omega
            clear hg hsz
            have hBs0 : w1.heap.size ≤ V4.heap.size := hB.size
            have hnxx := rx.ne_box mx ty_ne
            have hnxy := rx.ne_box my ty_ne
            have hnyx := ry.ne_box mx ty_ne
            have hnyy := ry.ne_box my ty_ne
            have hsw1 : w.heap.size + 1 < w1.heap.size := (Array.getElem?_eq_some_iff.1 mb1).1
            refine wpAnyH_ready (rs := [6]) (by kernel_rfl) (by simp) (AllReadyH.cons (o := ⟨_, _, _, _, _, _⟩) rfl (fun K hK => ?_) AllReadyH.nil)
            obtain ⟨t0, t1, t2⟩ := box3_of mx
            have f0 := frozen_of 0 mx
            have f1 := frozen_of 1 mx
            have f2 := frozen_of 2 mx
            go_simp
            clear t0 t1 t2 f0 f1 f2
            have mx := set_blk (v := .bool na) (i := 0) mx rfl
            have ma := set_other (i := 0) ma (show w.heap.size ≠ gx by omega) (.bool na)
            have mb := set_other (i := 0) mb (show w.heap.size + 1 ≠ gx by omega) (.bool na)
            have my := set_other (i := 0) my (show gy ≠ gx by omega) (.bool na)
            have rx := rx.setNe (p := ⟨gx, 0, none⟩) hnxx (.bool na)
            have ry := ry.setNe (p := ⟨gx, 0, none⟩) hnyx (.bool na)
            have hB := hB.setCell (p := ⟨gx, 0, none⟩) hkgx (.bool na)
            have mx := set_blk (v := .slice A1 n c1) (i := 1) mx rfl
            have ma := set_other (i := 1) ma (show w.heap.size ≠ gx by omega) (.slice A1 n c1)
            have mb := set_other (i := 1) mb (show w.heap.size + 1 ≠ gx by omega) (.slice A1 n c1)
            have my := set_other (i := 1) my (show gy ≠ gx by omega) (.slice A1 n c1)
            have rx := rx.setNe (p := ⟨gx, 1, none⟩) hnxx (.slice A1 n c1)
            have ry := ry.setNe (p := ⟨gx, 1, none⟩) hnyx (.slice A1 n c1)
            have hB := hB.setCell (p := ⟨gx, 1, none⟩) hkgx (.slice A1 n c1)
            have mx := set_blk (v := .int .i64 e1) (i := 2) mx rfl
            have ma := set_other (i := 2) ma (show w.heap.size ≠ gx by omega) (.int .i64 e1)
            have mb := set_other (i := 2) mb (show w.heap.size + 1 ≠ gx by omega) (.int .i64 e1)
            have my := set_other (i := 2) my (show gy ≠ gx by omega) (.int .i64 e1)
            have rx := rx.setNe (p := ⟨gx, 2, none⟩) hnxx (.int .i64 e1)
            have ry := ry.setNe (p := ⟨gx, 2, none⟩) hnyx (.int .i64 e1)
            have hB := hB.setCell (p := ⟨gx, 2, none⟩) hkgx (.int .i64 e1)
            obtain ⟨x0, x1, x2⟩ := box3_of ma
            obtain ⟨x3, x4, x5⟩ := box3_of mb
            refine hK.out _ _ ⟨x0, x1, x2, x3, x4, x5⟩ (fun _ => ?_)
            clear hK K x0 x1 x2 x3 x4 x5
            try simp only [Act.put, List.setIfInBounds_toArray, List.set_cons_zero, List.set_cons_succ]
            refine wpAnyH_ready (rs := [7]) (by kernel_rfl) (by simp) (AllReadyH.cons (o := ⟨_, _, _, _, _, _⟩) rfl (fun K hK => ?_) AllReadyH.nil)
            obtain ⟨t0, t1, t2⟩ := box3_of my
            have f0 := frozen_of 0 my
            have f1 := frozen_of 1 my
            have f2 := frozen_of 2 my
            go_simp
            clear t0 t1 t2 f0 f1 f2
            have my := set_blk (v := .bool nb) (i := 0) my rfl
            have ma := set_other (i := 0) ma (show w.heap.size ≠ gy by omega) (.bool nb)
            have mb := set_other (i := 0) mb (show w.heap.size + 1 ≠ gy by omega) (.bool nb)
            have mx := set_other (i := 0) mx (show gx ≠ gy by omega) (.bool nb)
            have rx := rx.setNe (p := ⟨gy, 0, none⟩) hnxy (.bool nb)
            have ry := ry.setNe (p := ⟨gy, 0, none⟩) hnyy (.bool nb)
            have hB := hB.setCell (p := ⟨gy, 0, none⟩) hkgy (.bool nb)
            have my := set_blk (v := .slice A2 m c2) (i := 1) my rfl
            have ma := set_other (i := 1) ma (show w.heap.size ≠ gy by omega) (.slice A2 m c2)
            have mb := set_other (i := 1) mb (show w.heap.size + 1 ≠ gy by omega) (.slice A2 m c2)
            have mx := set_other (i := 1) mx (show gx ≠ gy by omega) (.slice A2 m c2)
            have rx := rx.setNe (p := ⟨gy, 1, none⟩) hnxy (.slice A2 m c2)
            have ry := ry.setNe (p := ⟨gy, 1, none⟩) hnyy (.slice A2 m c2)
            have hB := hB.setCell (p := ⟨gy, 1, none⟩) hkgy (.slice A2 m c2)
            have my := set_blk (v := .int .i64 e2) (i := 2) my rfl
            have ma := set_other (i := 2) ma (show w.heap.size ≠ gy by omega) (.int .i64 e2)
            have mb := set_other (i := 2) mb (show w.heap.size + 1 ≠ gy by omega) (.int .i64 e2)
            have mx := set_other (i := 2) mx (show gx ≠ gy by omega) (.int .i64 e2)
            have rx := rx.setNe (p := ⟨gy, 2, none⟩) hnxy (.int .i64 e2)
            have ry := ry.setNe (p := ⟨gy, 2, none⟩) hnyy (.int .i64 e2)
            have hB := hB.setCell (p := ⟨gy, 2, none⟩) hkgy (.int .i64 e2)
            obtain ⟨x0, x1, x2⟩ := box3_of ma
            obtain ⟨x3, x4, x5⟩ := box3_of mb
            refine hK.out _ _ ⟨x0, x1, x2, x3, x4, x5⟩ (fun _ => ?_)
            clear hK K x0 x1 x2 x3 x4 x5
            try simp only [Act.put, List.setIfInBounds_toArray, List.set_cons_zero, List.set_cons_succ]
            refine wpAnyH_done (by kernel_rfl) ?_ _
            go_wp2
            go_meet
            exact ⟨gx, gy, A1, c1, A2, c2, rfl, rfl, hne, mx, my, hkgx, hkgy, rx, ry, hdis, hB⟩
        · go_simp
          obtain ⟨gy, hg⟩ : ∃ g, g = V2.heap.size := ⟨_, rfl⟩
          have ma := heldA (.cells #[.bool false, .slice none 0 0, .int .i64 0] 24) ma
          have mb := heldA (.cells #[.bool false, .slice none 0 0, .int .i64 0] 24) mb
          have my := World.alloc_heap_new V2 (.cells #[.bool false, .slice none 0 0, .int .i64 0] 24)
          rw [← hg] at my
          have rx := rx.below ((Below.refl V2.heap.size V2).alloc (Nat.le_refl _) (.cells #[.bool false, .slice none 0 0, .int .i64 0] 24)) (Nat.le_refl _)
          have ry := ry.below ((Below.refl V2.heap.size V2).alloc (Nat.le_refl _) (.cells #[.bool false, .slice none 0 0, .int .i64 0] 24)) (Nat.le_refl _)
          have hsz : (V2.alloc (.cells #[.bool false, .slice none 0 0, .int .i64 0] 24)).heap.size = V2.heap.size + 1 := by simp
          have hlx : ∀ g, A1 = some ⟨g, 0, none⟩ → g < (V2.alloc (.cells #[.bool false, .slice none 0 0, .int .i64 0] 24)).heap.size := fun g q => by have := hlx g q; omega
          have hkgy : w1.heap.size ≤ gy := by have := hB.size; omega
          have hB := hB.alloc hB.size (.cells #[.bool false, .slice none 0 0, .int .i64 0] 24)
          have hW := hW.alloc hW.size (.cells #[.bool false, .slice none 0 0, .int .i64 0] 24)
          obtain ⟨x0, x1, x2⟩ := box3_of ma
          obtain ⟨x3, x4, x5⟩ := box3_of mb
          refine hK.out _ _ ⟨x0, x1, x2, x3, x4, x5⟩ (fun _ => ?_)
          clear hK K x0 x1 x2 x3 x4 x5
          try simp only [Act.put, List.setIfInBounds_toArray, List.set_cons_zero, List.set_cons_succ]
          try rw [← hg]
          generalize hU : V2.alloc (.cells #[.bool false, .slice none 0 0, .int .i64 0] 24) = V5 at *
          clear hU
          have hlgy : gy < V5.heap.size := by omega
          clear hg hsz
          have hBs0 : w1.heap.size ≤ V5.heap.size := hB.size
          refine wpAnyH_ready (rs := [4]) (by kernel_rfl) (by simp) ?_
          refine (AllReadyH.cons (o := ⟨_, _, _, _, _, _⟩) rfl (fun K hK => ?_) AllReadyH.nil)
          · go_simp
            obtain ⟨gx, hg⟩ : ∃ g, g = V5.heap.size := ⟨_, rfl⟩
            have ma := heldA (.cells #[.bool false, .slice none 0 0, .int .i64 0] 24) ma
            have mb := heldA (.cells #[.bool false, .slice none 0 0, .int .i64 0] 24) mb
            have my := heldA (.cells #[.bool false, .slice none 0 0, .int .i64 0] 24) my
            have mx := World.alloc_heap_new V5 (.cells #[.bool false, .slice none 0 0, .int .i64 0] 24)
            rw [← hg] at mx
            have rx := rx.below ((Below.refl V5.heap.size V5).alloc (Nat.le_refl _) (.cells #[.bool false, .slice none 0 0, .int .i64 0] 24)) (Nat.le_refl _)
            have ry := ry.below ((Below.refl V5.heap.size V5).alloc (Nat.le_refl _) (.cells #[.bool false, .slice none 0 0, .int .i64 0] 24)) (Nat.le_refl _)
            have hsz : (V5.alloc (.cells #[.bool false, .slice none 0 0, .int .i64 0] 24)).heap.size = V5.heap.size + 1 := by simp
            have hlx : ∀ g, A1 = some ⟨g, 0, none⟩ → g < (V5.alloc (.cells #[.bool false, .slice none 0 0, .int .i64 0] 24)).heap.size := fun g q => by have := hlx g q; omega
            have hkgx : w1.heap.size ≤ gx := by have := hB.size; omega
            have hB := hB.alloc hB.size (.cells #[.bool false, .slice none 0 0, .int .i64 0] 24)
            have hW := hW.alloc hW.size (.cells #[.bool false, .slice none 0 0, .int .i64 0] 24)
            obtain ⟨x0, x1, x2⟩ := box3_of ma
            obtain ⟨x3, x4, x5⟩ := box3_of mb
            refine hK.out _ _ ⟨x0, x1, x2, x3, x4, x5⟩ (fun _ => ?_)
            clear hK K x0 x1 x2 x3 x4 x5
            try simp only [Act.put, List.setIfInBounds_toArray, List.set_cons_zero, List.set_cons_succ]
            try rw [← hg]
            generalize hU : V5.alloc (.cells #[.bool false, .slice none 0 0, .int .i64 0] 24) = V6 at *
            clear hU
            have hlgx : gx < V6.heap.size := by omega
            have hne : gx ≠ gy := by omega
            have hlgy : gy < V6.heap.size := by omega
            clear hg hsz
            have hBs0 : w1.heap.size ≤ V6.heap.size := hB.size
            have hnxx := rx.ne_box mx ty_ne
            have hnxy := rx.ne_box my ty_ne
            have hnyx := ry.ne_box mx ty_ne
            have hnyy := ry.ne_box my ty_ne
            have hsw1 : w.heap.size + 1 < w1.heap.size := (Array.getElem?_eq_some_iff.1 mb1).1
            refine wpAnyH_ready (rs := [6]) (by kernel_rfl) (by simp) (AllReadyH.cons (o := ⟨_, _, _, _, _, _⟩) rfl (fun K hK => ?_) AllReadyH.nil)
            obtain ⟨t0, t1, t2⟩ := box3_of mx
            have f0 := frozen_of 0 mx
            have f1 := frozen_of 1 mx
            have f2 := frozen_of 2 mx
            go_simp
            clear t0 t1 t2 f0 f1 f2
            have mx := set_blk (v := .bool na) (i := 0) mx rfl
            have ma := set_other (i := 0) ma (show w.heap.size ≠ gx by omega) (.bool na)
            have mb := set_other (i := 0) mb (show w.heap.size + 1 ≠ gx by omega) (.bool na)
            have my := set_other (i := 0) my (show gy ≠ gx by omega) (.bool na)
            have rx := rx.setNe (p := ⟨gx, 0, none⟩) hnxx (.bool na)
            have ry := ry.setNe (p := ⟨gx, 0, none⟩) hnyx (.bool na)
            have hB := hB.setCell (p := ⟨gx, 0, none⟩) hkgx (.bool na)
            have mx := set_blk (v := .slice A1 n c1) (i := 1) mx rfl
            have ma := set_other (i := 1) ma (show w.heap.size ≠ gx by omega) (.slice A1 n c1)
            have mb := set_other (i := 1) mb (show w.heap.size + 1 ≠ gx by omega) (.slice A1 n c1)
            have my := set_other (i := 1) my (show gy ≠ gx by omega) (.slice A1 n c1)
            have rx := rx.setNe (p := ⟨gx, 1, none⟩) hnxx (.slice A1 n c1)
            have ry := ry.setNe (p := ⟨gx, 1, none⟩) hnyx (.slice A1 n c1)
            have hB := hB.setCell (p := ⟨gx, 1, none⟩) hkgx (.slice A1 n c1)
            have mx := set_blk (v := .int .i64 e1) (i := 2) mx rfl
            have ma := set_other (i := 2) ma (show w.heap.size ≠ gx by omega) (.int .i64 e1)
            have mb := set_other (i := 2) mb (show w.heap.size + 1 ≠ gx by omega) (.int .i64 e1)
            have my := set_other (i := 2) my (show gy ≠ gx by omega) (.int .i64 e1)
            have rx := rx.setNe (p := ⟨gx, 2, none⟩) hnxx (.int .i64 e1)
            have ry := ry.setNe (p := ⟨gx, 2, none⟩) hnyx (.int .i64 e1)
            have hB := hB.setCell (p := ⟨gx, 2, none⟩) hkgx (.int .i64 e1)
            obtain ⟨x0, x1, x2⟩ := box3_of ma
            obtain ⟨x3, x4, x5⟩ := box3_of mb
            refine hK.out _ _ ⟨x0, x1, x2, x3, x4, x5⟩ (fun _ => ?_)
            clear hK K x0 x1 x2 x3 x4 x5
            try simp only [Act.put, List.setIfInBounds_toArray, List.set_cons_zero, List.set_cons_succ]
            refine wpAnyH_ready (rs := [7]) (by kernel_rfl) (by simp) (AllReadyH.cons (o := ⟨_, _, _, _, _, _⟩) rfl (fun K hK => ?_) AllReadyH.nil)
            obtain ⟨t0, t1, t2⟩ := box3_of my
            have f0 := frozen_of 0 my
            have f1 := frozen_of 1 my
            have f2 := frozen_of 2 my
            go_simp
            clear t0 t1 t2 f0 f1 f2
            have my := set_blk (v := .bool nb) (i := 0) my rfl
            have ma := set_other (i := 0) ma (show w.heap.size ≠ gy by omega) (.bool nb)
            have mb := set_other (i := 0) mb (show w.heap.size + 1 ≠ gy by omega) (.bool nb)
            have mx := set_other (i := 0) mx (show gx ≠ gy by omega) (.bool nb)
            have rx := rx.setNe (p := ⟨gy, 0, none⟩) hnxy (.bool nb)
            have ry := ry.setNe (p := ⟨gy, 0, none⟩) hnyy (.bool nb)
            have hB := hB.setCell (p := ⟨gy, 0, none⟩) hkgy (.bool nb)
            have my := set_blk (v := .slice A2 m c2) (i := 1) my rfl
            have ma := set_other (i := 1) ma (show w.heap.size ≠ gy by omega) (.slice A2 m c2)
            have mb := set_other (i := 1) mb (show w.heap.size + 1 ≠ gy by omega) (.slice A2 m c2)
            have mx := set_other (i := 1) mx (show gx ≠ gy by omega) (.slice A2 m c2)
            have rx := rx.setNe (p := ⟨gy, 1, none⟩) hnxy (.slice A2 m c2)
            have ry := ry.setNe (p := ⟨gy, 1, none⟩) hnyy (.slice A2 m c2)
            have hB := hB.setCell (p := ⟨gy, 1, none⟩) hkgy (.slice A2 m c2)
            have my := set_blk (v := .int .i64 e2) (i := 2) my rfl
            have ma := set_other (i := 2) ma (show w.heap.size ≠ gy by omega) (.int .i64 e2)
            have mb := set_other (i := 2) mb (show w.heap.size + 1 ≠ gy by omega) (.int .i64 e2)
            have mx := set_other (i := 2) mx (show gx ≠ gy by omega) (.int .i64 e2)
            have rx := rx.setNe (p := ⟨gy, 2, none⟩) hnxy (.int .i64 e2)
            have ry := ry.setNe (p := ⟨gy, 2, none⟩) hnyy (.int .i64 e2)
            have hB := hB.setCell (p := ⟨gy, 2, none⟩) hkgy (.int .i64 e2)
            obtain ⟨x0, x1, x2⟩ := box3_of ma
            obtain ⟨x3, x4, x5⟩ := box3_of mb
            refine hK.out _ _ ⟨x0, x1, x2, x3, x4, x5⟩ (fun _ => ?_)
            clear hK K x0 x1 x2 x3 x4 x5
            try simp only [Act.put, List.setIfInBounds_toArray, List.set_cons_zero, List.set_cons_succ]
            refine wpAnyH_done (by kernel_rfl) ?_ _
            go_wp2
            go_meet
            exact ⟨gx, gy, A1, c1, A2, c2, rfl, rfl, hne, mx, my, hkgx, hkgy, rx, ry, hdis, hB⟩
      · go_simp
        obtain ⟨gx, hg⟩ : ∃ g, g = V1.heap.size := ⟨_, rfl⟩
        have ma := heldA (.cells #[.bool false, .slice none 0 0, .int .i64 0] 24) ma
        have mb := heldA (.cells #[.bool false, .slice none 0 0, .int .i64 0] 24) mb
        have mx := World.alloc_heap_new V1 (.cells #[.bool false, .slice none 0 0, .int .i64 0] 24)
        rw [← hg] at mx
        have rx := rx.below ((Below.refl V1.heap.size V1).alloc (Nat.le_refl _) (.cells #[.bool false, .slice none 0 0, .int .i64 0] 24)) (Nat.le_refl _)
        have hsz : (V1.alloc (.cells #[.bool false, .slice none 0 0, .int .i64 0] 24)).heap.size = V1.heap.size + 1 := by simp
        have hlx : ∀ g, A1 = some ⟨g, 0, none⟩ → g < (V1.alloc (.cells #[.bool false, .slice none 0 0, .int .i64 0] 24)).heap.size := fun g q => by have := hlx g q; omega
        have hkgx : w1.heap.size ≤ gx := by have := hB.size; omega
        have hB := hB.alloc hB.size (.cells #[.bool false, .slice none 0 0, .int .i64 0] 24)
        have hW := hW.alloc hW.size (.cells #[.bool false, .slice none 0 0, .int .i64 0] 24)
        obtain ⟨x0, x1, x2⟩ := box3_of ma
        obtain ⟨x3, x4, x5⟩ := box3_of mb
        refine hK.out _ _ ⟨x0, x1, x2, x3, x4, x5⟩ (fun _ => ?_)
        clear hK K x0 x1 x2 x3 x4 x5
        try simp only [Act.put, List.setIfInBounds_toArray, List.set_cons_zero, List.set_cons_succ]
        try rw [← hg]
        generalize hU : V1.alloc (.cells #[.bool false, .slice none 0 0, .int .i64 0] 24) = V7 at *
        clear hU
        have hlgx : gx < V7.heap.size := by omega
        clear hg hsz
        have hBs0 : w1.heap.size ≤ V7.heap.size := hB.size
        refine wpAnyH_ready (rs := [3, 5]) (by kernel_rfl) (by simp) ?_
        refine (AllReadyH.cons (o := ⟨_, _, _, _, _, _⟩) rfl (fun K hK => ?_) (AllReadyH.cons (o := ⟨_, _, _, _, _, _⟩) rfl (fun K hK => ?_) AllReadyH.nil))
        · go_simp
          refine (OB.out V7 (hb.below hW hS) (fun b h => up hW b h)).mono ?_
          rintro e V8 ⟨A2, c2, rfl, ry, hb0⟩
          have ma := heldz hb0 ma
          have mb := heldz hb0 mb
          have mx := heldz hb0 mx
          have rx := rx.below hb0 (Nat.le_refl _)
          have hdis : ∀ g, A1 = some ⟨g, 0, none⟩ → A2 = some ⟨g, 0, none⟩ → False := by
            intro g q1 q2
            subst q1 q2
            rcases ry.form with ⟨z, _⟩ | ⟨g3, z, z2, _⟩
            · cases z
            · injection z with z; injection z with z
              have := hlx g rfl; omega
          have hB := hB.trans (hb0.mono hB.size)
          have hW := hW.trans (hb0.mono hW.size)
          have ry := ry.more (base' := w1.heap.size) hBs0
          have hlx : ∀ g, A1 = some ⟨g, 0, none⟩ → g < V8.heap.size := fun g q => Nat.lt_of_lt_of_le (hlx g q) hb0.size
          (try dsimp only)
          obtain ⟨x0, x1, x2⟩ := box3_of ma
          obtain ⟨x3, x4, x5⟩ := box3_of mb
          refine hK.out _ _ ⟨x0, x1, x2, x3, x4, x5⟩ (fun _ => ?_)
          clear hK K x0 x1 x2 x3 x4 x5
          try simp only [Act.put, List.setIfInBounds_toArray, List.set_cons_zero, List.set_cons_succ]
          have hlgx : gx < V8.heap.size := Nat.lt_of_lt_of_le hlgx hb0.size
          have hBs0 : w1.heap.size ≤ V8.heap.size := hB.size
          refine wpAnyH_ready (rs := [5]) (by kernel_rfl) (by simp) ?_
          refine (AllReadyH.cons (o := ⟨_, _, _, _, _, _⟩) rfl (fun K hK => ?_) AllReadyH.nil)
          · go_simp
            obtain ⟨gy, hg⟩ : ∃ g, g = V8.heap.size := ⟨_, rfl⟩
            have ma := heldA (.cells #[.bool false, .slice none 0 0, .int .i64 0] 24) ma
            have mb := heldA (.cells #[.bool false, .slice none 0 0, .int .i64 0] 24) mb
            have mx := heldA (.cells #[.bool false, .slice none 0 0, .int .i64 0] 24) mx
            have my := World.alloc_heap_new V8 (.cells #[.bool false, .slice none 0 0, .int .i64 0] 24)
            rw [← hg] at my
            have rx := rx.below ((Below.refl V8.heap.size V8).alloc (Nat.le_refl _) (.cells #[.bool false, .slice none 0 0, .int .i64 0] 24)) (Nat.le_refl _)
            have ry := ry.below ((Below.refl V8.heap.size V8).alloc (Nat.le_refl _) (.cells #[.bool false, .slice none 0 0, .int .i64 0] 24)) (Nat.le_refl _)
            have hsz : (V8.alloc (.cells #[.bool false, .slice none 0 0, .int .i64 0] 24)).heap.size = V8.heap.size + 1 := by simp
            have hlx : ∀ g, A1 = some ⟨g, 0, none⟩ → g < (V8.alloc (.cells #[.bool false, .slice none 0 0, .int .i64 0] 24)).heap.size := fun g q => by have := hlx g q; omega
            have hkgy : w1.heap.size ≤ gy := by have := hB.size; omega
            have hB := hB.alloc hB.size (.cells #[.bool false, .slice none 0 0, .int .i64 0] 24)
            have hW := hW.alloc hW.size (.cells #[.bool false, .slice none 0 0, .int .i64 0] 24)
            obtain ⟨x0, x1, x2⟩ := box3_of ma
            obtain ⟨x3, x4, x5⟩ := box3_of mb
            refine hK.out _ _ ⟨x0, x1, x2, x3, x4, x5⟩ (fun _ => ?_)
            clear hK K x0 x1 x2 x3 x4 x5
            try simp only [Act.put, List.setIfInBounds_toArray, List.set_cons_zero, List.set_cons_succ]
            try rw [← hg]
            generalize hU : V8.alloc (.cells #[.bool false, .slice none 0 0, .int .i64 0] 24) = V9 at *
            clear hU
            have hlgy : gy < V9.heap.size := by omega
            have hne : gx ≠ gy := by omega
            have hlgx : gx < V9.heap.size := by omega
            clear hg hsz
            have hBs0 : w1.heap.size ≤ V9.heap.size := hB.size
            have hnxx := rx.ne_box mx ty_ne
            have hnxy := rx.ne_box my ty_ne
            have hnyx := ry.ne_box mx ty_ne
            have hnyy := ry.ne_box my ty_ne
            have hsw1 : w.heap.size + 1 < w1.heap.size := (Array.getElem?_eq_some_iff.1 mb1).1
            refine wpAnyH_ready (rs := [6]) (by kernel_rfl) (by simp) (AllReadyH.cons (o := ⟨_, _, _, _, _, _⟩) rfl (fun K hK => ?_) AllReadyH.nil)
            obtain ⟨t0, t1, t2⟩ := box3_of mx
            have f0 := frozen_of 0 mx
            have f1 := frozen_of 1 mx
            have f2 := frozen_of 2 mx
            go_simp
            clear t0 t1 t2 f0 f1 f2
            have mx := set_blk (v := .bool na) (i := 0) mx rfl
            have ma := set_other (i := 0) ma (show w.heap.size ≠ gx by omega) (.bool na)
            have mb := set_other (i := 0) mb (show w.heap.size + 1 ≠ gx by omega) (.bool na)
            have my := set_other (i := 0) my (show gy ≠ gx by omega) (.bool na)
            have rx := rx.setNe (p := ⟨gx, 0, none⟩) hnxx (.bool na)
            have ry := ry.setNe (p := ⟨gx, 0, none⟩) hnyx (.bool na)
            have hB := hB.setCell (p := ⟨gx, 0, none⟩) hkgx (.bool na)
            have mx := set_blk (v := .slice A1 n c1) (i := 1) mx rfl
            have ma := set_other (i := 1) ma (show w.heap.size ≠ gx by omega) (.slice A1 n c1)
            have mb := set_other (i := 1) mb (show w.heap.size + 1 ≠ gx by omega) (.slice A1 n c1)
            have my := set_other (i := 1) my (show gy ≠ gx by omega) (.slice A1 n c1)
            have rx := rx.setNe (p := ⟨gx, 1, none⟩) hnxx (.slice A1 n c1)
            have ry := ry.setNe (p := ⟨gx, 1, none⟩) hnyx (.slice A1 n c1)
            have hB := hB.setCell (p := ⟨gx, 1, none⟩) hkgx (.slice A1 n c1)
            have mx := set_blk (v := .int .i64 e1) (i := 2) mx rfl
            have ma := set_other (i := 2) ma (show w.heap.size ≠ gx by omega) (.int .i64 e1)
            have mb := set_other (i := 2) mb (show w.heap.size + 1 ≠ gx by omega) (.int .i64 e1)
            have my := set_other (i := 2) my (show gy ≠ gx by omega) (.int .i64 e1)
            have rx := rx.setNe (p := ⟨gx, 2, none⟩) hnxx (.int .i64 e1)
            have ry := ry.setNe (p := ⟨gx, 2, none⟩) hnyx (.int .i64 e1)
            have hB := hB.setCell (p := ⟨gx, 2, none⟩) hkgx (.int .i64 e1)
            obtain ⟨x0, x1, x2⟩ := box3_of ma
            obtain ⟨x3, x4, x5⟩ := box3_of mb
            refine hK.out _ _ ⟨x0, x1, x2, x3, x4, x5⟩ (fun _ => ?_)
            clear hK K x0 x1 x2 x3 x4 x5
            try simp only [Act.put, List.setIfInBounds_toArray, List.set_cons_zero, List.set_cons_succ]
            refine wpAnyH_ready (rs := [7]) (by kernel_rfl) (by simp) (AllReadyH.cons (o := ⟨_, _, _, _, _, _⟩) rfl (fun K hK => ?_) AllReadyH.nil)
            obtain ⟨t0, t1, t2⟩ := box3_of my
            have f0 := frozen_of 0 my
            have f1 := frozen_of 1 my
            have f2 := frozen_of 2 my
            go_simp
            clear t0 t1 t2 f0 f1 f2
            have my := set_blk (v := .bool nb) (i := 0) my rfl
            have ma := set_other (i := 0) ma (show w.heap.size ≠ gy by omega) (.bool nb)
            have mb := set_other (i := 0) mb (show w.heap.size + 1 ≠ gy by omega) (.bool nb)
            have mx := set_other (i := 0) mx (show gx ≠ gy by omega) (.bool nb)
            have rx := rx.setNe (p := ⟨gy, 0, none⟩) hnxy (.bool nb)
            have ry := ry.setNe (p := ⟨gy, 0, none⟩) hnyy (.bool nb)
            have hB := hB.setCell (p := ⟨gy, 0, none⟩) hkgy (.bool nb)
            have my := set_blk (v := .slice A2 m c2) (i := 1) my rfl
            have ma := set_other (i := 1) ma (show w.heap.size ≠ gy by omega) (.slice A2 m c2)
            have mb := set_other (i := 1) mb (show w.heap.size + 1 ≠ gy by omega) (.slice A2 m c2)
            have mx := set_other (i := 1) mx (show gx ≠ gy by omega) (.slice A2 m c2)
            have rx := rx.setNe (p := ⟨gy, 1, none⟩) hnxy (.slice A2 m c2)
            have ry := ry.setNe (p := ⟨gy, 1, none⟩) hnyy (.slice A2 m c2)
            have hB := hB.setCell (p := ⟨gy, 1, none⟩) hkgy (.slice A2 m c2)
            have my := set_blk (v := .int .i64 e2) (i := 2) my rfl
            have ma := set_other (i := 2) ma (show w.heap.size ≠ gy by omega) (.int .i64 e2)
            have mb := set_other (i := 2) mb (show w.heap.size + 1 ≠ gy by omega) (.int .i64 e2)
            have mx := set_other (i := 2) mx (show gx ≠ gy by omega) (.int .i64 e2)
            have rx := rx.setNe (p := ⟨gy, 2, none⟩) hnxy (.int .i64 e2)
            have ry := ry.setNe (p := ⟨gy, 2, none⟩) hnyy (.int .i64 e2)
            have hB := hB.setCell (p := ⟨gy, 2, none⟩) hkgy (.int .i64 e2)
            obtain ⟨x0, x1, x2⟩ := box3_of ma
            obtain ⟨x3, x4, x5⟩ := box3_of mb
            refine hK.out _ _ ⟨x0, x1, x2, x3, x4, x5⟩ (fun _ => ?_)
            clear hK K x0 x1 x2 x3 x4 x5
            try simp only [Act.put, List.setIfInBounds_toArray, List.set_cons_zero, List.set_cons_succ]
            refine wpAnyH_done (by kernel_rfl) ?_ _
            go_wp2
            go_meet
            exact ⟨gx, gy, A1, c1, A2, c2, rfl, rfl, hne, mx, my, hkgx, hkgy, rx, ry, hdis, hB⟩
        · go_simp
          obtain ⟨gy, hg⟩ : ∃ g, g = V7.heap.size := ⟨_, rfl⟩
          have ma := heldA (.cells #[.bool false, .slice none 0 0, .int .i64 0] 24) ma
          have mb := heldA (.cells #[.bool false, .slice none 0 0, .int .i64 0] 24) mb
          have mx := heldA (.cells #[.bool false, .slice none 0 0, .int .i64 0] 24) mx
          have my := World.alloc_heap_new V7 (.cells #[.bool false, .slice none 0 0, .int .i64 0] 24)
          rw [← hg] at my
          have rx := rx.below ((Below.refl V7.heap.size V7).alloc (Nat.le_refl _) (.cells #[.bool false, .slice none 0 0, .int .i64 0] 24)) (Nat.le_refl _)
          have hsz : (V7.alloc (.cells #[.bool false, .slice none 0 0, .int .i64 0] 24)).heap.size = V7.heap.size + 1 := by simp
          have hlx : ∀ g, A1 = some ⟨g, 0, none⟩ → g < (V7.alloc (.cells #[.bool false, .slice none 0 0, .int .i64 0] 24)).heap.size := fun g q => by have := hlx g q; omega
          have hkgy : w1.heap.size ≤ gy := by have := hB.size; omega
          have hB := hB.alloc hB.size (.cells #[.bool false, .slice none 0 0, .int .i64 0] 24)
          have hW := hW.alloc hW.size (.cells #[.bool false, .slice none 0 0, .int .i64 0] 24)
          obtain ⟨x0, x1, x2⟩ := box3_of ma
          obtain ⟨x3, x4, x5⟩ := box3_of mb
          refine hK.out _ _ ⟨x0, x1, x2, x3, x4, x5⟩ (fun _ => ?_)
          clear hK K x0 x1 x2 x3 x4 x5
          try simp only [Act.put, List.setIfInBounds_toArray, List.set_cons_zero, List.set_cons_succ]
          try rw [← hg]
          generalize hU : V7.alloc (.cells #[.bool false, .slice none 0 0, .int .i64 0] 24) = V10 at *
          clear hU
          have hlgy : gy < V10.heap.size := by omega
          have hne : gx ≠ gy := by omega
          have hlgx : gx < V10.heap.size := by omega
          clear hg hsz
          have hBs0 : w1.heap.size ≤ V10.heap.size := hB.size
          refine wpAnyH_ready (rs := [3]) (by kernel_rfl) (by simp) ?_
          refine (AllReadyH.cons (o := ⟨_, _, _, _, _, _⟩) rfl (fun K hK => ?_) AllReadyH.nil)
          · go_simp
            refine (OB.out V10 (hb.below hW hS) (fun b h => up hW b h)).mono ?_
            rintro e V11 ⟨A2, c2, rfl, ry, hb0⟩
            have ma := heldz hb0 ma
            have mb := heldz hb0 mb
            have mx := heldz hb0 mx
            have my := heldz hb0 my
            have rx := rx.below hb0 (Nat.le_refl _)
            have hdis : ∀ g, A1 = some ⟨g, 0, none⟩ → A2 = some ⟨g, 0, none⟩ → False := by
              intro g q1 q2
              subst q1 q2
              rcases ry.form with ⟨z, _⟩ | ⟨g3, z, z2, _⟩
              · cases z
              · injection z with z; injection z with z
                have := hlx g rfl; omega
            have hB := hB.trans (hb0.mono hB.size)
            have hW := hW.trans (hb0.mono hW.size)
            have ry := ry.more (base' := w1.heap.size) hBs0
            have hlx : ∀ g, A1 = some ⟨g, 0, none⟩ → g < V11.heap.size := fun g q => Nat.lt_of_lt_of_le (hlx g q) hb0.size
            (try dsimp only)
            obtain ⟨x0, x1, x2⟩ := box3_of ma
            obtain ⟨x3, x4, x5⟩ := box3_of mb
            refine hK.out _ _ ⟨x0, x1, x2, x3, x4, x5⟩ (fun _ => ?_)
            clear hK K x0 x1 x2 x3 x4 x5
            try simp only [Act.put, List.setIfInBounds_toArray, List.set_cons_zero, List.set_cons_succ]
            have hlgx : gx < V11.heap.size := Nat.lt_of_lt_of_le hlgx hb0.size
            have hlgy : gy < V11.heap.size := Nat.lt_of_lt_of_le hlgy hb0.size
            have hBs0 : w1.heap.size ≤ V11.heap.size := hB.size
            have hnxx := rx.ne_box mx ty_ne
            have hnxy := rx.ne_box my ty_ne
            have hnyx := ry.ne_box mx ty_ne
            have hnyy := ry.ne_box my ty_ne
            have hsw1 : w.heap.size + 1 < w1.heap.size := (Array.getElem?_eq_some_iff.1 mb1).1
            refine wpAnyH_ready (rs := [6]) (by kernel_rfl) (by simp) (AllReadyH.cons (o := ⟨_, _, _, _, _, _⟩) rfl (fun K hK => ?_) AllReadyH.nil)
            obtain ⟨t0, t1, t2⟩ := box3_of mx
            have f0 := frozen_of 0 mx
            have f1 := frozen_of 1 mx
            have f2 := frozen_of 2 mx
            go_simp
            clear t0 t1 t2 f0 f1 f2
            have mx := set_blk (v := .bool na) (i := 0) mx rfl
            have ma := set_other (i := 0) ma (show w.heap.size ≠ gx by omega) (.bool na)
            have mb := set_other (i := 0) mb (show w.heap.size + 1 ≠ gx by omega) (.bool na)
            have my := set_other (i := 0) my (show gy ≠ gx by omega) (.bool na)
            have rx := rx.setNe (p := ⟨gx, 0, none⟩) hnxx (.bool na)
            have ry := ry.setNe (p := ⟨gx, 0, none⟩) hnyx (.bool na)
            have hB := hB.setCell (p := ⟨gx, 0, none⟩) hkgx (.bool na)
            have mx := set_blk (v := .slice A1 n c1) (i := 1) mx rfl
            have ma := set_other (i := 1) ma (show w.heap.size ≠ gx by omega) (.slice A1 n c1)
            have mb := set_other (i := 1) mb (show w.heap.size + 1 ≠ gx by omega) (.slice A1 n c1)
            have my := set_other (i := 1) my (show gy ≠ gx by omega) (.slice A1 n c1)
            have rx := rx.setNe (p := ⟨gx, 1, none⟩) hnxx (.slice A1 n c1)
            have ry := ry.setNe (p := ⟨gx, 1, none⟩) hnyx (.slice A1 n c1)
            have hB := hB.setCell (p := ⟨gx, 1, none⟩) hkgx (.slice A1 n c1)
            have mx := set_blk (v := .int .i64 e1) (i := 2) mx rfl
            have ma := set_other (i := 2) ma (show w.heap.size ≠ gx by omega) (.int .i64 e1)
            have mb := set_other (i := 2) mb (show w.heap.size + 1 ≠ gx by omega) (.int .i64 e1)
            have my := set_other (i := 2) my (show gy ≠ gx by omega) (.int .i64 e1)
            have rx := rx.setNe (p := ⟨gx, 2, none⟩) hnxx (.int .i64 e1)
            have ry := ry.setNe (p := ⟨gx, 2, none⟩) hnyx (.int .i64 e1)
            have hB := hB.setCell (p := ⟨gx, 2, none⟩) hkgx (.int .i64 e1)
            obtain ⟨x0, x1, x2⟩ := box3_of ma
            obtain ⟨x3, x4, x5⟩ := box3_of mb
            refine hK.out _ _ ⟨x0, x1, x2, x3, x4, x5⟩ (fun _ => ?_)
            clear hK K x0 x1 x2 x3 x4 x5
            try simp only [Act.put, List.setIfInBounds_toArray, List.set_cons_zero, List.set_cons_succ]
            refine wpAnyH_ready (rs := [7]) (by kernel_rfl) (by simp) (AllReadyH.cons (o := ⟨_, _, _, _, _, _⟩) rfl (fun K hK => ?_) AllReadyH.nil)
            obtain ⟨t0, t1, t2⟩ := box3_of my
            have f0 := frozen_of 0 my
            have f1 := frozen_of 1 my
            have f2 := frozen_of 2 my
            go_simp
            clear t0 t1 t2 f0 f1 f2
            have my := set_blk (v := .bool nb) (i := 0) my rfl
            have ma := set_other (i := 0) ma (show w.heap.size ≠ gy by omega) (.bool nb)
            have mb := set_other (i := 0) mb (show w.heap.size + 1 ≠ gy by omega) (.bool nb)
            have mx := set_other (i := 0) mx (show gx ≠ gy by omega) (.bool nb)
            have rx := rx.setNe (p := ⟨gy, 0, none⟩) hnxy (.bool nb)
            have ry := ry.setNe (p := ⟨gy, 0, none⟩) hnyy (.bool nb)
            have hB := hB.setCell (p := ⟨gy, 0, none⟩) hkgy (.bool nb)
            have my := set_blk (v := .slice A2 m c2) (i := 1) my rfl
            have ma := set_other (i := 1) ma (show w.heap.size ≠ gy by omega) (.slice A2 m c2)
            have mb := set_other (i := 1) mb (show w.heap.size + 1 ≠ gy by omega) (.slice A2 m c2)
            have mx := set_other (i := 1) mx (show gx ≠ gy by omega) (.slice A2 m c2)
            have rx := rx.setNe (p := ⟨gy, 1, none⟩) hnxy (.slice A2 m c2)
            have ry := ry.setNe (p := ⟨gy, 1, none⟩) hnyy (.slice A2 m c2)
            have hB := hB.setCell (p := ⟨gy, 1, none⟩) hkgy (.slice A2 m c2)
            have my := set_blk (v := .int .i64 e2) (i := 2) my rfl
            have ma := set_other (i := 2) ma (show w.heap.size ≠ gy by omega) (.int .i64 e2)
            have mb := set_other (i := 2) mb (show w.heap.size + 1 ≠ gy by omega) (.int .i64 e2)
            have mx := set_other (i := 2) mx (show gx ≠ gy by omega) (.int .i64 e2)
            have rx := rx.setNe (p := ⟨gy, 2, none⟩) hnxy (.int .i64 e2)
            have ry := ry.setNe (p := ⟨gy, 2, none⟩) hnyy (.int .i64 e2)
            have hB := hB.setCell (p := ⟨gy, 2, none⟩) hkgy (.int .i64 e2)
            obtain ⟨x0, x1, x2⟩ := box3_of ma
            obtain ⟨x3, x4, x5⟩ := box3_of mb
            refine hK.out _ _ ⟨x0, x1, x2, x3, x4, x5⟩ (fun _ => ?_)
            clear hK K x0 x1 x2 x3 x4 x5
            try simp only [Act.put, List.setIfInBounds_toArray, List.set_cons_zero, List.set_cons_succ]
            refine wpAnyH_done (by kernel_rfl) ?_ _
            go_wp2
            go_meet
            exact ⟨gx, gy, A1, c1, A2, c2, rfl, rfl, hne, mx, my, hkgx, hkgy, rx, ry, hdis, hB⟩
      · go_simp
        obtain ⟨gy, hg⟩ : ∃ g, g = V1.heap.size := ⟨_, rfl⟩
        have ma := heldA (.cells #[.bool false, .slice none 0 0, .int .i64 0] 24) ma
        have mb := heldA (.cells #[.bool false, .slice none 0 0, .int .i64 0] 24) mb
        have my := World.alloc_heap_new V1 (.cells #[.bool false, .slice none 0 0, .int .i64 0] 24)
        rw [← hg] at my
        have rx := rx.below ((Below.refl V1.heap.size V1).alloc (Nat.le_refl _) (.cells #[.bool false, .slice none 0 0, .int .i64 0] 24)) (Nat.le_refl _)
        have hsz : (V1.alloc (.cells #[.bool false, .slice none 0 0, .int .i64 0] 24)).heap.size = V1.heap.size + 1 := by simp
        have hlx : ∀ g, A1 = some ⟨g, 0, none⟩ → g < (V1.alloc (.cells #[.bool false, .slice none 0 0, .int .i64 0] 24)).heap.size := fun g q => by have := hlx g q; omega
        have hkgy : w1.heap.size ≤ gy := by have := hB.size; omega
        have hB := hB.alloc hB.size (.cells #[.bool false, .slice none 0 0, .int .i64 0] 24)
        have hW := hW.alloc hW.size (.cells #[.bool false, .slice none 0 0, .int .i64 0] 24)
        obtain ⟨x0, x1, x2⟩ := box3_of ma
        obtain ⟨x3, x4, x5⟩ := box3_of mb
        refine hK.out _ _ ⟨x0, x1, x2, x3, x4, x5⟩ (fun _ => ?_)
        clear hK K x0 x1 x2 x3 x4 x5
        try simp only [Act.put, List.setIfInBounds_toArray, List.set_cons_zero, List.set_cons_succ]
        try rw [← hg]
        generalize hU : V1.alloc (.cells #[.bool false, .slice none 0 0, .int .i64 0] 24) = V12 at *
        clear hU
        have hlgy : gy < V12.heap.size := by omega
        clear hg hsz
        have hBs0 : w1.heap.size ≤ V12.heap.size := hB.size
        refine wpAnyH_ready (rs := [3, 4]) (by kernel_rfl) (by simp) ?_
        refine (AllReadyH.cons (o := ⟨_, _, _, _, _, _⟩) rfl (fun K hK => ?_) (AllReadyH.cons (o := ⟨_, _, _, _, _, _⟩) rfl (fun K hK => ?_) AllReadyH.nil))
        · go_simp
          refine (OB.out V12 (hb.below hW hS) (fun b h => up hW b h)).mono ?_
          rintro e V13 ⟨A2, c2, rfl, ry, hb0⟩
          have ma := heldz hb0 ma
          have mb := heldz hb0 mb
          have my := heldz hb0 my
          have rx := rx.below hb0 (Nat.le_refl _)
          have hdis : ∀ g, A1 = some ⟨g, 0, none⟩ → A2 = some ⟨g, 0, none⟩ → False := by
            intro g q1 q2
            subst q1 q2
            rcases ry.form with ⟨z, _⟩ | ⟨g3, z, z2, _⟩
            · cases z
            · injection z with z; injection z with z
              have := hlx g rfl; omega
          have hB := hB.trans (hb0.mono hB.size)
          have hW := hW.trans (hb0.mono hW.size)
          have ry := ry.more (base' := w1.heap.size) hBs0
          have hlx : ∀ g, A1 = some ⟨g, 0, none⟩ → g < V13.heap.size := fun g q => Nat.lt_of_lt_of_le (hlx g q) hb0.size
          (try dsimp only)
          obtain ⟨x0, x1, x2⟩ := box3_of ma
          obtain ⟨x3, x4, x5⟩ := box3_of mb
          refine hK.out _ _ ⟨x0, x1, x2, x3, x4, x5⟩ (fun _ => ?_)
          clear hK K x0 x1 x2 x3 x4 x5
          try simp only [Act.put, List.setIfInBounds_toArray, List.set_cons_zero, List.set_cons_succ]
          have hlgy : gy < V13.heap.size := Nat.lt_of_lt_of_le hlgy hb0.size
          have hBs0 : w1.heap.size ≤ V13.heap.size := hB.size
          refine wpAnyH_ready (rs := [4]) (by kernel_rfl) (by simp) ?_
          refine (AllReadyH.cons (o := ⟨_, _, _, _, _, _⟩) rfl (fun K hK => ?_) AllReadyH.nil)
          · go_simp
            obtain ⟨gx, hg⟩ : ∃ g, g = V13.heap.size := ⟨_, rfl⟩
            have ma := heldA (.cells #[.bool false, .slice none 0 0, .int .i64 0] 24) ma
            have mb := heldA (.cells #[.bool false, .slice none 0 0, .int .i64 0] 24) mb
            have my := heldA (.cells #[.bool false, .slice none 0 0, .int .i64 0] 24) my
            have mx := World.alloc_heap_new V13 (.cells #[.bool false, .slice none 0 0, .int .i64 0] 24)
            rw [← hg] at mx
            have rx := rx.below ((Below.refl V13.heap.size V13).alloc (Nat.le_refl _) (.cells #[.bool false, .slice none 0 0, .int .i64 0] 24)) (Nat.le_refl _)
            have ry := ry.below ((Below.refl V13.heap.size V13).alloc (Nat.le_refl _) (.cells #[.bool false, .slice none 0 0, .int .i64 0] 24)) (Nat.le_refl _)
            have hsz : (V13.alloc (.cells #[.bool false, .slice none 0 0, .int .i64 0] 24)).heap.size = V13.heap.size + 1 := by simp
            have hlx : ∀ g, A1 = some ⟨g, 0, none⟩ → g < (V13.alloc (.cells #[.bool false, .slice none 0 0, .int .i64 0] 24)).heap.size := fun g q => by have := hlx g q; omega
            have hkgx : w1.heap.size ≤ gx := by have := hB.size; omega
            have hB := hB.alloc hB.size (.cells #[.bool false, .slice none 0 0, .int .i64 0] 24)
            have hW := hW.alloc hW.size (.cells #[.bool false, .slice none 0 0, .int .i64 0] 24)
            obtain ⟨x0, x1, x2⟩ := box3_of ma
            obtain ⟨x3, x4, x5⟩ := box3_of mb
            refine hK.out _ _ ⟨x0, x1, x2, x3, x4, x5⟩ (fun _ => ?_)
            clear hK K x0 x1 x2 x3 x4 x5
            try simp only [Act.put, List.setIfInBounds_toArray, List.set_cons_zero, List.set_cons_succ]
            try rw [← hg]
            generalize hU : V13.alloc (.cells #[.bool false, .slice none 0 0, .int .i64 0] 24) = V14 at *
            clear hU
            have hlgx : gx < V14.heap.size := by omega
            have hne : gx ≠ gy := by omega
            have hlgy : gy < V14.heap.size := by omega
            clear hg hsz
            have hBs0 : w1.heap.size ≤ V14.heap.size := hB.size
            have hnxx := rx.ne_box mx ty_ne
            have hnxy := rx.ne_box my ty_ne
            have hnyx := ry.ne_box mx ty_ne
            have hnyy := ry.ne_box my ty_ne
            have hsw1 : w.heap.size + 1 < w1.heap.size := (Array.getElem?_eq_some_iff.1 mb1).1
            refine wpAnyH_ready (rs := [6]) (by kernel_rfl) (by simp) (AllReadyH.cons (o := ⟨_, _, _, _, _, _⟩) rfl (fun K hK => ?_) AllReadyH.nil)
            obtain ⟨t0, t1, t2⟩ := box3_of mx
            have f0 := frozen_of 0 mx
            have f1 := frozen_of 1 mx
            have f2 := frozen_of 2 mx
            go_simp
            clear t0 t1 t2 f0 f1 f2
            have mx := set_blk (v := .bool na) (i := 0) mx rfl
            have ma := set_other (i := 0) ma (show w.heap.size ≠ gx by omega) (.bool na)
            have mb := set_other (i := 0) mb (show w.heap.size + 1 ≠ gx by omega) (.bool na)
            have my := set_other (i := 0) my (show gy ≠ gx by omega) (.bool na)
            have rx := rx.setNe (p := ⟨gx, 0, none⟩) hnxx (.bool na)
            have ry := ry.setNe (p := ⟨gx, 0, none⟩) hnyx (.bool na)
            have hB := hB.setCell (p := ⟨gx, 0, none⟩) hkgx (.bool na)
            have mx := set_blk (v := .slice A1 n c1) (i := 1) mx rfl
            have ma := set_other (i := 1) ma (show w.heap.size ≠ gx by omega) (.slice A1 n c1)
            have mb := set_other (i := 1) mb (show w.heap.size + 1 ≠ gx by omega) (.slice A1 n c1)
            have my := set_other (i := 1) my (show gy ≠ gx by omega) (.slice A1 n c1)
            have rx := rx.setNe (p := ⟨gx, 1, none⟩) hnxx (.slice A1 n c1)
            have ry := ry.setNe (p := ⟨gx, 1, none⟩) hnyx (.slice A1 n c1)
            have hB := hB.setCell (p := ⟨gx, 1, none⟩) hkgx (.slice A1 n c1)
            have mx := set_blk (v := .int .i64 e1) (i := 2) mx rfl
            have ma := set_other (i := 2) ma (show w.heap.size ≠ gx by omega) (.int .i64 e1)
            have mb := set_other (i := 2) mb (show w.heap.size + 1 ≠ gx by omega) (.int .i64 e1)
            have my := set_other (i := 2) my (show gy ≠ gx by omega) (.int .i64 e1)
            have rx := rx.setNe (p := ⟨gx, 2, none⟩) hnxx (.int .i64 e1)
            have ry := ry.setNe (p := ⟨gx, 2, none⟩) hnyx (.int .i64 e1)
            have hB := hB.setCell (p := ⟨gx, 2, none⟩) hkgx (.int .i64 e1)
            obtain ⟨x0, x1, x2⟩ := box3_of ma
            obtain ⟨x3, x4, x5⟩ := box3_of mb
            refine hK.out _ _ ⟨x0, x1, x2, x3, x4, x5⟩ (fun _ => ?_)
            clear hK K x0 x1 x2 x3 x4 x5
            try simp only [Act.put, List.setIfInBounds_toArray, List.set_cons_zero, List.set_cons_succ]
            refine wpAnyH_ready (rs := [7]) (by kernel_rfl) (by simp) (AllReadyH.cons (o := ⟨_, _, _, _, _, _⟩) rfl (fun K hK => ?_) AllReadyH.nil)
            obtain ⟨t0, t1, t2⟩ := box3_of my
            have f0 := frozen_of 0 my
            have f1 := frozen_of 1 my
            have f2 := frozen_of 2 my
            go_simp
            clear t0 t1 t2 f0 f1 f2
            have my := set_blk (v := .bool nb) (i := 0) my rfl
            have ma := set_other (i := 0) ma (show w.heap.size ≠ gy by omega) (.bool nb)
            have mb := set_other (i := 0) mb (show w.heap.size + 1 ≠ gy by omega) (.bool nb)
            have mx := set_other (i := 0) mx (show gx ≠ gy by omega) (.bool nb)
            have rx := rx.setNe (p := ⟨gy, 0, none⟩) hnxy (.bool nb)
            have ry := ry.setNe (p := ⟨gy, 0, none⟩) hnyy (.bool nb)
            have hB := hB.setCell (p := ⟨gy, 0, none⟩) hkgy (.bool nb)
            have my := set_blk (v := .slice A2 m c2) (i := 1) my rfl
            have ma := set_other (i := 1) ma (show w.heap.size ≠ gy by omega) (.slice A2 m c2)
            have mb := set_other (i := 1) mb (show w.heap.size + 1 ≠ gy by omega) (.slice A2 m c2)
            have mx := set_other (i := 1) mx (show gx ≠ gy by omega) (.slice A2 m c2)
            have rx := rx.setNe (p := ⟨gy, 1, none⟩) hnxy (.slice A2 m c2)
            have ry := ry.setNe (p := ⟨gy, 1, none⟩) hnyy (.slice A2 m c2)
            have hB := hB.setCell (p := ⟨gy, 1, none⟩) hkgy (.slice A2 m c2)
            have my := set_blk (v := .int .i64 e2) (i := 2) my rfl
            have ma := set_other (i := 2) ma (show w.heap.size ≠ gy by omega) (.int .i64 e2)
            have mb := set_other (i := 2) mb (show w.heap.size + 1 ≠ gy by omega) (.int .i64 e2)
            have mx := set_other (i := 2) mx (show gx ≠ gy by omega) (.int .i64 e2)
            have rx := rx.setNe (p := ⟨gy, 2, none⟩) hnxy (.int .i64 e2)
            have ry := ry.setNe (p := ⟨gy, 2, none⟩) hnyy (.int .i64 e2)
            have hB := hB.setCell (p := ⟨gy, 2, none⟩) hkgy (.int .i64 e2)
            obtain ⟨x0, x1, x2⟩ := box3_of ma
            obtain ⟨x3, x4, x5⟩ := box3_of mb
            refine hK.out _ _ ⟨x0, x1, x2, x3, x4, x5⟩ (fun _ => ?_)
            clear hK K x0 x1 x2 x3 x4 x5
            try simp only [Act.put, List.setIfInBounds_toArray, List.set_cons_zero, List.set_cons_succ]
            refine wpAnyH_done (by kernel_rfl) ?_ _
            go_wp2
            go_meet
            exact ⟨gx, gy, A1, c1, A2, c2, rfl, rfl, hne, mx, my, hkgx, hkgy, rx, ry, hdis, hB⟩
        · go_simp
          obtain ⟨gx, hg⟩ : ∃ g, g = V12.heap.size := ⟨_, rfl⟩
          have ma := heldA (.cells #[.bool false, .slice none 0 0, .int .i64 0] 24) ma
          have mb := heldA (.cells #[.bool false, .slice none 0 0, .int .i64 0] 24) mb
          have my := heldA (.cells #[.bool false, .slice none 0 0, .int .i64 0] 24) my
          have mx := World.alloc_heap_new V12 (.cells #[.bool false, .slice none 0 0, .int .i64 0] 24)
          rw [← hg] at mx
          have rx := rx.below ((Below.refl V12.heap.size V12).alloc (Nat.le_refl _) (.cells #[.bool false, .slice none 0 0, .int .i64 0] 24)) (Nat.le_refl _)
          have hsz : (V12.alloc (.cells #[.bool false, .slice none 0 0, .int .i64 0] 24)).heap.size = V12.heap.size + 1 := by simp
          have hlx : ∀ g, A1 = some ⟨g, 0, none⟩ → g < (V12.alloc (.cells #[.bool false, .slice none 0 0, .int .i64 0] 24)).heap.size := fun g q => by have := hlx g q; omega
          have hkgx : w1.heap.size ≤ gx := by have := hB.size; omega
          have hB := hB.alloc hB.size (.cells #[.bool false, .slice none 0 0, .int .i64 0] 24)
          have hW := hW.alloc hW.size (.cells #[.bool false, .slice none 0 0, .int .i64 0] 24)
          obtain ⟨x0, x1, x2⟩ := box3_of ma
          obtain ⟨x3, x4, x5⟩ := box3_of mb
          refine hK.out _ _ ⟨x0, x1, x2, x3, x4, x5⟩ (fun _ => ?_)
          clear hK K x0 x1 x2 x3 x4 x5
          try simp only [Act.put, List.setIfInBounds_toArray, List.set_cons_zero, List.set_cons_succ]
          try rw [← hg]
          generalize hU : V12.alloc (.cells #[.bool false, .slice none 0 0, .int .i64 0] 24) = V15 at *
          clear hU
          have hlgx : gx < V15.heap.size := by omega
          have hne : gx ≠ gy := by omega
          have hlgy : gy < V15.heap.size := by omega
          clear hg hsz
          have hBs0 : w1.heap.size ≤ V15.heap.size := hB.size
          refine wpAnyH_ready (rs := [3]) (by kernel_rfl) (by simp) ?_
          refine (AllReadyH.cons (o := ⟨_, _, _, _, _, _⟩) rfl (fun K hK => ?_) AllReadyH.nil)
          · go_simp
            refine (OB.out V15 (hb.below hW hS) (fun b h => up hW b h)).mono ?_
            rintro e V16 ⟨A2, c2, rfl, ry, hb0⟩
            have ma := heldz hb0 ma
            have mb := heldz hb0 mb
            have mx := heldz hb0 mx
            have my := heldz hb0 my
            have rx := rx.below hb0 (Nat.le_refl _)
            have hdis : ∀ g, A1 = some ⟨g, 0, none⟩ → A2 = some ⟨g, 0, none⟩ → False := by
              intro g q1 q2
              subst q1 q2
              rcases ry.form with ⟨z, _⟩ | ⟨g3, z, z2, _⟩
              · cases z
              · injection z with z; injection z with z
                have := hlx g rfl; omega
            have hB := hB.trans (hb0.mono hB.size)
            have hW := hW.trans (hb0.mono hW.size)
            have ry := ry.more (base' := w1.heap.size) hBs0
            have hlx : ∀ g, A1 = some ⟨g, 0, none⟩ → g < V16.heap.size := fun g q => Nat.lt_of_lt_of_le (hlx g q) hb0.size
            (try dsimp only)
            obtain ⟨x0, x1, x2⟩ := box3_of ma
            obtain ⟨x3, x4, x5⟩ := box3_of mb
            refine hK.out _ _ ⟨x0, x1, x2, x3, x4, x5⟩ (fun _ => ?_)
            clear hK K x0 x1 x2 x3 x4 x5
            try simp only [Act.put, List.setIfInBounds_toArray, List.set_cons_zero, List.set_cons_succ]
            have hlgx : gx < V16.heap.size := Nat.lt_of_lt_of_le hlgx hb0.size
            have hlgy : gy < V16.heap.size := Nat.lt_of_lt_of_le hlgy hb0.size
            have hBs0 : w1.heap.size ≤ V16.heap.size := hB.size
            have hnxx := rx.ne_box mx ty_ne
            have hnxy := rx.ne_box my ty_ne
            have hnyx := ry.ne_box mx ty_ne
            have hnyy := ry.ne_box my ty_ne
            have hsw1 : w.heap.size + 1 < w1.heap.size := (Array.getElem?_eq_some_iff.1 mb1).1
            refine wpAnyH_ready (rs := [6]) (by kernel_rfl) (by simp) (AllReadyH.cons (o := ⟨_, _, _, _, _, _⟩) rfl (fun K hK => ?_) AllReadyH.nil)
            obtain ⟨t0, t1, t2⟩ := box3_of mx
            have f0 := frozen_of 0 mx
            have f1 := frozen_of 1 mx
            have f2 := frozen_of 2 mx
            go_simp
            clear t0 t1 t2 f0 f1 f2
            have mx := set_blk (v := .bool na) (i := 0) mx rfl
            have ma := set_other (i := 0) ma (show w.heap.size ≠ gx by omega) (.bool na)
            have mb := set_other (i := 0) mb (show w.heap.size + 1 ≠ gx by omega) (.bool na)
            have my := set_other (i := 0) my (show gy ≠ gx by omega) (.bool na)
            have rx := rx.setNe (p := ⟨gx, 0, none⟩) hnxx (.bool na)
            have ry := ry.setNe (p := ⟨gx, 0, none⟩) hnyx (.bool na)
            have hB := hB.setCell (p := ⟨gx, 0, none⟩) hkgx (.bool na)
            have mx := set_blk (v := .slice A1 n c1) (i := 1) mx rfl
            have ma := set_other (i := 1) ma (show w.heap.size ≠ gx by omega) (.slice A1 n c1)
            have mb := set_other (i := 1) mb (show w.heap.size + 1 ≠ gx by omega) (.slice A1 n c1)
            have my := set_other (i := 1) my (show gy ≠ gx by omega) (.slice A1 n c1)
            have rx := rx.setNe (p := ⟨gx, 1, none⟩) hnxx (.slice A1 n c1)
            have ry := ry.setNe (p := ⟨gx, 1, none⟩) hnyx (.slice A1 n c1)
            have hB := hB.setCell (p := ⟨gx, 1, none⟩) hkgx (.slice A1 n c1)
            have mx := set_blk (v := .int .i64 e1) (i := 2) mx rfl
            have ma := set_other (i := 2) ma (show w.heap.size ≠ gx by omega) (.int .i64 e1)
            have mb := set_other (i := 2) mb (show w.heap.size + 1 ≠ gx by omega) (.int .i64 e1)
            have my := set_other (i := 2) my (show gy ≠ gx by omega) (.int .i64 e1)
            have rx := rx.setNe (p := ⟨gx, 2, none⟩) hnxx (.int .i64 e1)
            have ry := ry.setNe (p := ⟨gx, 2, none⟩) hnyx (.int .i64 e1)
            have hB := hB.setCell (p := ⟨gx, 2, none⟩) hkgx (.int .i64 e1)
            obtain ⟨x0, x1, x2⟩ := box3_of ma
            obtain ⟨x3, x4, x5⟩ := box3_of mb
            refine hK.out _ _ ⟨x0, x1, x2, x3, x4, x5⟩ (fun _ => ?_)
            clear hK K x0 x1 x2 x3 x4 x5
            try simp only [Act.put, List.setIfInBounds_toArray, List.set_cons_zero, List.set_cons_succ]
            refine wpAnyH_ready (rs := [7]) (by kernel_rfl) (by simp) (AllReadyH.cons (o := ⟨_, _, _, _, _, _⟩) rfl (fun K hK => ?_) AllReadyH.nil)
            obtain ⟨t0, t1, t2⟩ := box3_of my
            have f0 := frozen_of 0 my
            have f1 := frozen_of 1 my
            have f2 := frozen_of 2 my
            go_simp
            clear t0 t1 t2 f0 f1 f2
            have my := set_blk (v := .bool nb) (i := 0) my rfl
            have ma := set_other (i := 0) ma (show w.heap.size ≠ gy by omega) (.bool nb)
            have mb := set_other (i := 0) mb (show w.heap.size + 1 ≠ gy by omega) (.bool nb)
            have mx := set_other (i := 0) mx (show gx ≠ gy by omega) (.bool nb)
            have rx := rx.setNe (p := ⟨gy, 0, none⟩) hnxy (.bool nb)
            have ry := ry.setNe (p := ⟨gy, 0, none⟩) hnyy (.bool nb)
            have hB := hB.setCell (p := ⟨gy, 0, none⟩) hkgy (.bool nb)
            have my := set_blk (v := .slice A2 m c2) (i := 1) my rfl
            have ma := set_other (i := 1) ma (show w.heap.size ≠ gy by omega) (.slice A2 m c2)
            have mb := set_other (i := 1) mb (show w.heap.size + 1 ≠ gy by omega) (.slice A2 m c2)
            have mx := set_other (i := 1) mx (show gx ≠ gy by omega) (.slice A2 m c2)
            have rx := rx.setNe (p := ⟨gy, 1, none⟩) hnxy (.slice A2 m c2)
            have ry := ry.setNe (p := ⟨gy, 1, none⟩) hnyy (.slice A2 m c2)
            have hB := hB.setCell (p := ⟨gy, 1, none⟩) hkgy (.slice A2 m c2)
            have my := set_blk (v := .int .i64 e2) (i := 2) my rfl
            have ma := set_other (i := 2) ma (show w.heap.size ≠ gy by omega) (.int .i64 e2)
            have mb := set_other (i := 2) mb (show w.heap.size + 1 ≠ gy by omega) (.int .i64 e2)
            have mx := set_other (i := 2) mx (show gx ≠ gy by omega) (.int .i64 e2)
            have rx := rx.setNe (p := ⟨gy, 2, none⟩) hnxy (.int .i64 e2)
            have ry := ry.setNe (p := ⟨gy, 2, none⟩) hnyy (.int .i64 e2)
            have hB := hB.setCell (p := ⟨gy, 2, none⟩) hkgy (.int .i64 e2)
            obtain ⟨x0, x1, x2⟩ := box3_of ma
            obtain ⟨x3, x4, x5⟩ := box3_of mb
            refine hK.out _ _ ⟨x0, x1, x2, x3, x4, x5⟩ (fun _ => ?_)
            clear hK K x0 x1 x2 x3 x4 x5
            try simp only [Act.put, List.setIfInBounds_toArray, List.set_cons_zero, List.set_cons_succ]
            refine wpAnyH_done (by kernel_rfl) ?_ _
            go_wp2
            go_meet
            exact ⟨gx, gy, A1, c1, A2, c2, rfl, rfl, hne, mx, my, hkgx, hkgy, rx, ry, hdis, hB⟩
    · go_simp
      obtain ⟨gx, hg⟩ : ∃ g, g = V0.heap.size := ⟨_, rfl⟩
      have ma := heldA (.cells #[.bool false, .slice none 0 0, .int .i64 0] 24) ma
      have mb := heldA (.cells #[.bool false, .slice none 0 0, .int .i64 0] 24) mb
      have mx := World.alloc_heap_new V0 (.cells #[.bool false, .slice none 0 0, .int .i64 0] 24)
      rw [← hg] at mx
      have hsz : (V0.alloc (.cells #[.bool false, .slice none 0 0, .int .i64 0] 24)).heap.size = V0.heap.size + 1 := by simp
      have hkgx : w1.heap.size ≤ gx := by have := hB.size; omega
      have hB := hB.alloc hB.size (.cells #[.bool false, .slice none 0 0, .int .i64 0] 24)
      have hW := hW.alloc hW.size (.cells #[.bool false, .slice none 0 0, .int .i64 0] 24)
      obtain ⟨x0, x1, x2⟩ := box3_of ma
      obtain ⟨x3, x4, x5⟩ := box3_of mb
      refine hK.out _ _ ⟨x0, x1, x2, x3, x4, x5⟩ (fun _ => ?_)
      clear hK K x0 x1 x2 x3 x4 x5
      try simp only [Act.put, List.setIfInBounds_toArray, List.set_cons_zero, List.set_cons_succ]
      try rw [← hg]
      generalize hU : V0.alloc (.cells #[.bool false, .slice none 0 0, .int .i64 0] 24) = V17 at *
      clear hU
      have hlgx : gx < V17.heap.size := by omega
      clear hg hsz
      have hBs0 : w1.heap.size ≤ V17.heap.size := hB.size
      refine wpAnyH_ready (rs := [1, 5]) (by kernel_rfl) (by simp) ?_
      refine (AllReadyH.cons (o := ⟨_, _, _, _, _, _⟩) rfl (fun K hK => ?_) (AllReadyH.cons (o := ⟨_, _, _, _, _, _⟩) rfl (fun K hK => ?_) AllReadyH.nil))
      · go_simp
        refine (OA.out V17 (ha.below hW hS) (fun b h => up hW b h)).mono ?_
        rintro e V18 ⟨A1, c1, rfl, rx, hb0⟩
        have ma := heldz hb0 ma
        have mb := heldz hb0 mb
        have mx := heldz hb0 mx
        have hB := hB.trans (hb0.mono hB.size)
        have hW := hW.trans (hb0.mono hW.size)
        have hlx : ∀ g, A1 = some ⟨g, 0, none⟩ → g < V18.heap.size := by
          intro g q1
          rcases rx.form with ⟨z, _⟩ | ⟨g3, z, _, z3⟩
          · rw [z] at q1; cases q1
          · rw [z] at q1; injection q1 with q1; injection q1 with q1; omega
        have rx := rx.more (base' := w1.heap.size) hBs0
        (try dsimp only)
        obtain ⟨x0, x1, x2⟩ := box3_of ma
        obtain ⟨x3, x4, x5⟩ := box3_of mb
        refine hK.out _ _ ⟨x0, x1, x2, x3, x4, x5⟩ (fun _ => ?_)
        clear hK K x0 x1 x2 x3 x4 x5
        try simp only [Act.put, List.setIfInBounds_toArray, List.set_cons_zero, List.set_cons_succ]
        have hlgx : gx < V18.heap.size := Nat.lt_of_lt_of_le hlgx hb0.size
        have hBs0 : w1.heap.size ≤ V18.heap.size := hB.size
        refine wpAnyH_ready (rs := [3, 5]) (by kernel_rfl) (by simp) ?_
        refine (AllReadyH.cons (o := ⟨_, _, _, _, _, _⟩) rfl (fun K hK => ?_) (AllReadyH.cons (o := ⟨_, _, _, _, _, _⟩) rfl (fun K hK => ?_) AllReadyH.nil))
        · go_simp
          refine (OB.out V18 (hb.below hW hS) (fun b h => up hW b h)).mono ?_
          rintro e V19 ⟨A2, c2, rfl, ry, hb0⟩
          have ma := heldz hb0 ma
          have mb := heldz hb0 mb
          have mx := heldz hb0 mx
          have rx := rx.below hb0 (Nat.le_refl _)
          have hdis : ∀ g, A1 = some ⟨g, 0, none⟩ → A2 = some ⟨g, 0, none⟩ → False := by
            intro g q1 q2
            subst q1 q2
            rcases ry.form with ⟨z, _⟩ | ⟨g3, z, z2, _⟩
            · cases z
            · injection z with z; injection z with z
              have := hlx g rfl; omega
          have hB := hB.trans (hb0.mono hB.size)
          have hW := hW.trans (hb0.mono hW.size)
          have ry := ry.more (base' := w1.heap.size) hBs0
          have hlx : ∀ g, A1 = some ⟨g, 0, none⟩ → g < V19.heap.size := fun g q => Nat.lt_of_lt_of_le (hlx g q) hb0.size
          (try dsimp only)
          obtain ⟨x0, x1, x2⟩ := box3_of ma
          obtain ⟨x3, x4, x5⟩ := box3_of mb
          refine hK.out _ _ ⟨x0, x1, x2, x3, x4, x5⟩ (fun _ => ?_)
          clear hK K x0 x1 x2 x3 x4 x5
          try simp only [Act.put, List.setIfInBounds_toArray, List.set_cons_zero, List.set_cons_succ]
          have hlgx : gx < V19.heap.size := Nat.lt_of_lt_of_le hlgx hb0.size
          have hBs0 : w1.heap.size ≤ V19.heap.size := hB.size
          refine wpAnyH_ready (rs := [5]) (by kernel_rfl) (by simp) ?_
          refine (AllReadyH.cons (o := ⟨_, _, _, _, _, _⟩) rfl (fun K hK => ?_) AllReadyH.nil)
          · go_simp
            obtain ⟨gy, hg⟩ : ∃ g, g = V19.heap.size := ⟨_, rfl⟩
            have ma := heldA (.cells #[.bool false, .slice none 0 0, .int .i64 0] 24) ma
            have mb := heldA (.cells #[.bool false, .slice none 0 0, .int .i64 0] 24) mb
            have mx := heldA (.cells #[.bool false, .slice none 0 0, .int .i64 0] 24) mx
            have my := World.alloc_heap_new V19 (.cells #[.bool false, .slice none 0 0, .int .i64 0] 24)
            rw [← hg] at my
            have rx := rx.below ((Below.refl V19.heap.size V19).alloc (Nat.le_refl _) (.cells #[.bool false, .slice none 0 0, .int .i64 0] 24)) (Nat.le_refl _)
            have ry := ry.below ((Below.refl V19.heap.size V19).alloc (Nat.le_refl _) (.cells #[.bool false, .slice none 0 0, .int .i64 0] 24)) (Nat.le_refl _)
            have hsz : (V19.alloc (.cells #[.bool false, .slice none 0 0, .int .i64 0] 24)).heap.size = V19.heap.size + 1 := by simp
            have hlx : ∀ g, A1 = some ⟨g, 0, none⟩ → g < (V19.alloc (.cells #[.bool false, .slice none 0 0, .int .i64 0] 24)).heap.size := fun g q => by have := hlx g q; omega
            have hkgy : w1.heap.size ≤ gy := by have := hB.size; omega
            have hB := hB.alloc hB.size (.cells #[.bool false, .slice none 0 0, .int .i64 0] 24)
            have hW := hW.alloc hW.size (.cells #[.bool false, .slice none 0 0, .int .i64 0] 24)
            obtain ⟨x0, x1, x2⟩ := box3_of ma
            obtain ⟨x3, x4, x5⟩ := box3_of mb
            refine hK.out _ _ ⟨x0, x1, x2, x3, x4, x5⟩ (fun _ => ?_)
            clear hK K x0 x1 x2 x3 x4 x5
            try simp only [Act.put, List.setIfInBounds_toArray, List.set_cons_zero, List.set_cons_succ]
            try rw [← hg]
            generalize hU : V19.alloc (.cells #[.bool false, .slice none 0 0, .int .i64 0] 24) = V20 at *
            clear hU
            have hlgy : gy < V20.heap.size := by omega
            have hne : gx ≠ gy := by omega
            have hlgx : gx < V20.heap.size := by omega
            clear hg hsz
            have hBs0 : w1.heap.size ≤ V20.heap.size := hB.size
            have hnxx := rx.ne_box mx ty_ne
            have hnxy := rx.ne_box my ty_ne
            have hnyx := ry.ne_box mx ty_ne
            have hnyy := ry.ne_box my ty_ne
            have hsw1 : w.heap.size + 1 < w1.heap.size := (Array.getElem?_eq_some_iff.1 mb1).1
            refine wpAnyH_ready (rs := [6]) (by kernel_rfl) (by simp) (AllReadyH.cons (o := ⟨_, _, _, _, _, _⟩) rfl (fun K hK => ?_) AllReadyH.nil)
            obtain ⟨t0, t1, t2⟩ := box3_of mx
            have f0 := frozen_of 0 mx
            have f1 := frozen_of 1 mx
            have f2 := frozen_of 2 mx
            go_simp
            clear t0 t1 t2 f0 f1 f2
            have mx := set_blk (v := .bool na) (i := 0) mx rfl
            have ma := set_other (i := 0) ma (show w.heap.size ≠ gx by omega) (.bool na)
            have mb := set_other (i := 0) mb (show w.heap.size + 1 ≠ gx by omega) (.bool na)
            have my := set_other (i := 0) my (show gy ≠ gx by omega) (.bool na)
            have rx := rx.setNe (p := ⟨gx, 0, none⟩) hnxx (.bool na)
            have ry := ry.setNe (p := ⟨gx, 0, none⟩) hnyx (.bool na)
            have hB := hB.setCell (p := ⟨gx, 0, none⟩) hkgx (.bool na)
            have mx := set_blk (v := .slice A1 n c1) (i := 1) mx rfl
            have ma := set_other (i := 1) ma (show w.heap.size ≠ gx by omega) (.slice A1 n c1)
            have mb := set_other (i := 1) mb (show w.heap.size + 1 ≠ gx by omega) (.slice A1 n c1)
            have my := set_other (i := 1) my (show gy ≠ gx by omega) (.slice A1 n c1)
            have rx := rx.setNe (p := ⟨gx, 1, none⟩) hnxx (.slice A1 n c1)
            have ry := ry.setNe (p := ⟨gx, 1, none⟩) hnyx (.slice A1 n c1)
            have hB := hB.setCell (p := ⟨gx, 1, none⟩) hkgx (.slice A1 n c1)
            have mx := set_blk (v := .int .i64 e1) (i := 2) mx rfl
            have ma := set_other (i := 2) ma (show w.heap.size ≠ gx by omega) (.int .i64 e1)
            have mb := set_other (i := 2) mb (show w.heap.size + 1 ≠ gx by omega) (.int .i64 e1)
            have my := set_other (i := 2) my (show gy ≠ gx by omega) (.int .i64 e1)
            have rx := rx.setNe (p := ⟨gx, 2, none⟩) hnxx (.int .i64 e1)
            have ry := ry.setNe (p := ⟨gx, 2, none⟩) hnyx (.int .i64 e1)
            have hB := hB.setCell (p := ⟨gx, 2, none⟩) hkgx (.int .i64 e1)
            obtain ⟨x0, x1, x2⟩ := box3_of ma
            obtain ⟨x3, x4, x5⟩ := box3_of mb
            refine hK.out _ _ ⟨x0, x1, x2, x3, x4, x5⟩ (fun _ => ?_)
            clear hK K x0 x1 x2 x3 x4 x5
            try simp only [Act.put, List.setIfInBounds_toArray, List.set_cons_zero, List.set_cons_succ]
            refine wpAnyH_ready (rs := [7]) (by kernel_rfl) (by simp) (AllReadyH.cons (o := ⟨_, _, _, _, _, _⟩) rfl (fun K hK => ?_) AllReadyH.nil)
            obtain ⟨t0, t1, t2⟩ := box3_of my
            have f0 := frozen_of 0 my
            have f1 := frozen_of 1 my
            have f2 := frozen_of 2 my
            go_simp
            clear t0 t1 t2 f0 f1 f2
            have my := set_blk (v := .bool nb) (i := 0) my rfl
            have ma := set_other (i := 0) ma (show w.heap.size ≠ gy by omega) (.bool nb)
            have mb := set_other (i := 0) mb (show w.heap.size + 1 ≠ gy by omega) (.bool nb)
            have mx := set_other (i := 0) mx (show gx ≠ gy by omega) (.bool nb)
            have rx := rx.setNe (p := ⟨gy, 0, none⟩) hnxy (.bool nb)
            have ry := ry.setNe (p := ⟨gy, 0, none⟩) hnyy (.bool nb)
            have hB := hB.setCell (p := ⟨gy, 0, none⟩) hkgy (.bool nb)
            have my := set_blk (v := .slice A2 m c2) (i := 1) my rfl
            have ma := set_other (i := 1) ma (show w.heap.size ≠ gy by omega) (.slice A2 m c2)
            have mb := set_other (i := 1) mb (show w.heap.size + 1 ≠ gy by omega) (.slice A2 m c2)
            have mx := set_other (i := 1) mx (show gx ≠ gy by omega) (.slice A2 m c2)
            have rx := rx.setNe (p := ⟨gy, 1, none⟩) hnxy (.slice A2 m c2)
            have ry := ry.setNe (p := ⟨gy, 1, none⟩) hnyy (.slice A2 m c2)
            have hB := hB.setCell (p := ⟨gy, 1, none⟩) hkgy (.slice A2 m c2)
            have my := set_blk (v := .int .i64 e2) (i := 2) my rfl
            have ma := set_other (i := 2) ma (show w.heap.size ≠ gy by omega) (.int .i64 e2)
            have mb := set_other (i := 2) mb (show w.heap.size + 1 ≠ gy by omega) (.int .i64 e2)
            have mx := set_other (i := 2) mx (show gx ≠ gy by omega) (.int .i64 e2)
            have rx := rx.setNe (p := ⟨gy, 2, none⟩) hnxy (.int .i64 e2)
            have ry := ry.setNe (p := ⟨gy, 2, none⟩) hnyy (.int .i64 e2)
            have hB := hB.setCell (p := ⟨gy, 2, none⟩) hkgy (.int .i64 e2)
            obtain ⟨x0, x1, x2⟩ := box3_of ma
            obtain ⟨x3, x4, x5⟩ := box3_of mb
            refine hK.out _ _ ⟨x0, x1, x2, x3, x4, x5⟩ (fun _ => ?_)
            clear hK K x0 x1 x2 x3 x4 x5
            try simp only [Act.put, List.setIfInBounds_toArray, List.set_cons_zero, List.set_cons_succ]
            refine wpAnyH_done (by kernel_rfl) ?_ _
            go_wp2
            go_meet
            exact ⟨gx, gy, A1, c1, A2, c2, rfl, rfl, hne, mx, my, hkgx, hkgy, rx, ry, hdis, hB⟩
        · go_simp
          obtain ⟨gy, hg⟩ : ∃ g, g = V18.heap.size := ⟨_, rfl⟩
          have ma := heldA (.cells #[.bool false, .slice none 0 0, .int .i64 0] 24) ma
          have mb := heldA (.cells #[.bool false, .slice none 0 0, .int .i64 0] 24) mb
          have mx := heldA (.cells #[.bool false, .slice none 0 0, .int .i64 0] 24) mx
          have my := World.alloc_heap_new V18 (.cells #[.bool false, .slice none 0 0, .int .i64 0] 24)
          rw [← hg] at my
          have rx := rx.below ((Below.refl V18.heap.size V18).alloc (Nat.le_refl _) (.cells #[.bool false, .slice none 0 0, .int .i64 0] 24)) (Nat.le_refl _)
          have hsz : (V18.alloc (.cells #[.bool false, .slice none 0 0, .int .i64 0] 24)).heap.size = V18.heap.size + 1 := by simp
          have hlx : ∀ g, A1 = some ⟨g, 0, none⟩ → g < (V18.alloc (.cells #[.bool false, .slice none 0 0, .int .i64 0] 24)).heap.size := fun g q => by have := hlx g q; omega
          have hkgy : w1.heap.size ≤ gy := by have := hB.size; omega
          have hB := hB.alloc hB.size (.cells #[.bool false, .slice none 0 0, .int .i64 0] 24)
          have hW := hW.alloc hW.size (.cells #[.bool false, .slice none 0 0, .int .i64 0] 24)
          obtain ⟨x0, x1, x2⟩ := box3_of ma
          obtain ⟨x3, x4, x5⟩ := box3_of mb
          refine hK.out _ _ ⟨x0, x1, x2, x3, x4, x5⟩ (fun _ => ?_)
          clear hK K x0 x1 x2 x3 x4 x5
          try simp only [Act.put, List.setIfInBounds_toArray, List.set_cons_zero, List.set_cons_succ]
          try rw [← hg]
          generalize hU : V18.alloc (.cells #[.bool false, .slice none 0 0, .int .i64 0] 24) = V21 at *
          clear hU
          have hlgy : gy < V21.heap.size := by omega
          have hne : gx ≠ gy := by omega
          have hlgx : gx < V21.heap.size := by omega
          clear hg hsz
          have hBs0 : w1.heap.size ≤ V21.heap.size := hB.size
          refine wpAnyH_ready (rs := [3]) (by kernel_rfl) (by simp) ?_
          refine (AllReadyH.cons (o := ⟨_, _, _, _, _, _⟩) rfl (fun K hK => ?_) AllReadyH.nil)
          · go_simp
            refine (OB.out V21 (hb.below hW hS) (fun b h => up hW b h)).mono ?_
            rintro e V22 ⟨A2, c2, rfl, ry, hb0⟩
            have ma := heldz hb0 ma
            have mb := heldz hb0 mb
            have mx := heldz hb0 mx
            have my := heldz hb0 my
            have rx := rx.below hb0 (Nat.le_refl _)
            have hdis : ∀ g, A1 = some ⟨g, 0, none⟩ → A2 = some ⟨g, 0, none⟩ → False := by
              intro g q1 q2
              subst q1 q2
              rcases ry.form with ⟨z, _⟩ | ⟨g3, z, z2, _⟩
              · cases z
              · injection z with z; injection z with z
                have := hlx g rfl; omega
            have hB := hB.trans (hb0.mono hB.size)
            have hW := hW.trans (hb0.mono hW.size)
            have ry := ry.more (base' := w1.heap.size) hBs0
            have hlx : ∀ g, A1 = some ⟨g, 0, none⟩ → g < V22.heap.size := fun g q => Nat.lt_of_lt_of_le (hlx g q) hb0.size
            (try dsimp only)
            obtain ⟨x0, x1, x2⟩ := box3_of ma
            obtain ⟨x3, x4, x5⟩ := box3_of mb
            refine hK.out _ _ ⟨x0, x1, x2, x3, x4, x5⟩ (fun _ => ?_)
            clear hK K x0 x1 x2 x3 x4 x5
            try simp only [Act.put, List.setIfInBounds_toArray, List.set_cons_zero, List.set_cons_succ]
            have hlgx : gx < V22.heap.size := Nat.lt_of_lt_of_le hlgx hb0.size
            have hlgy : gy < V22.heap.size := Nat.lt_of_lt_of_le hlgy hb0.size
            have hBs0 : w1.heap.size ≤ V22.heap.size := hB.size
            have hnxx := rx.ne_box mx ty_ne
            have hnxy := rx.ne_box my ty_ne
            have hnyx := ry.ne_box mx ty_ne
            have hnyy := ry.ne_box my ty_ne
            have hsw1 : w.heap.size + 1 < w1.heap.size := (Array.getElem?_eq_some_iff.1 mb1).1
            refine wpAnyH_ready (rs := [6]) (by kernel_rfl) (by simp) (AllReadyH.cons (o := ⟨_, _, _, _, _, _⟩) rfl (fun K hK => ?_) AllReadyH.nil)
            obtain ⟨t0, t1, t2⟩ := box3_of mx
            have f0 := frozen_of 0 mx
            have f1 := frozen_of 1 mx
            have f2 := frozen_of 2 mx
            go_simp
            clear t0 t1 t2 f0 f1 f2
            have mx := set_blk (v := .bool na) (i := 0) mx rfl
            have ma := set_other (i := 0) ma (show w.heap.size ≠ gx by omega) (.bool na)
            have mb := set_other (i := 0) mb (show w.heap.size + 1 ≠ gx by omega) (.bool na)
            have my := set_other (i := 0) my (show gy ≠ gx by omega) (.bool na)
            have rx := rx.setNe (p := ⟨gx, 0, none⟩) hnxx (.bool na)
            have ry := ry.setNe (p := ⟨gx, 0, none⟩) hnyx (.bool na)
            have hB := hB.setCell (p := ⟨gx, 0, none⟩) hkgx (.bool na)
            have mx := set_blk (v := .slice A1 n c1) (i := 1) mx rfl
            have ma := set_other (i := 1) ma (show w.heap.size ≠ gx by omega) (.slice A1 n c1)
            have mb := set_other (i := 1) mb (show w.heap.size + 1 ≠ gx by omega) (.slice A1 n c1)
            have my := set_other (i := 1) my (show gy ≠ gx by omega) (.slice A1 n c1)
            have rx := rx.setNe (p := ⟨gx, 1, none⟩) hnxx (.slice A1 n c1)
            have ry := ry.setNe (p := ⟨gx, 1, none⟩) hnyx (.slice A1 n c1)
            have hB := hB.setCell (p := ⟨gx, 1, none⟩) hkgx (.slice A1 n c1)
            have mx := set_blk (v := .int .i64 e1) (i := 2) mx rfl
            have ma := set_other (i := 2) ma (show w.heap.size ≠ gx by omega) (.int .i64 e1)
            have mb := set_other (i := 2) mb (show w.heap.size + 1 ≠ gx by omega) (.int .i64 e1)
            have my := set_other (i := 2) my (show gy ≠ gx by omega) (.int .i64 e1)
            have rx := rx.setNe (p := ⟨gx, 2, none⟩) hnxx (.int .i64 e1)
            have ry := ry.setNe (p := ⟨gx, 2, none⟩) hnyx (.int .i64 e1)
            have hB := hB.setCell (p := ⟨gx, 2, none⟩) hkgx (.int .i64 e1)
            obtain ⟨x0, x1, x2⟩ := box3_of ma
            obtain ⟨x3, x4, x5⟩ := box3_of mb
            refine hK.out _ _ ⟨x0, x1, x2, x3, x4, x5⟩ (fun _ => ?_)
            clear hK K x0 x1 x2 x3 x4 x5
            try simp only [Act.put, List.setIfInBounds_toArray, List.set_cons_zero, List.set_cons_succ]
            refine wpAnyH_ready (rs := [7]) (by kernel_rfl) (by simp) (AllReadyH.cons (o := ⟨_, _, _, _, _, _⟩) rfl (fun K hK => ?_) AllReadyH.nil)
            obtain ⟨t0, t1, t2⟩ := box3_of my
            have f0 := frozen_of 0 my
            have f1 := frozen_of 1 my
            have f2 := frozen_of 2 my
            go_simp
            clear t0 t1 t2 f0 f1 f2
            have my := set_blk (v := .bool nb) (i := 0) my rfl
            have ma := set_other (i := 0) ma (show w.heap.size ≠ gy by omega) (.bool nb)
            have mb := set_other (i := 0) mb (show w.heap.size + 1 ≠ gy by omega) (.bool nb)
            have mx := set_other (i := 0) mx (show gx ≠ gy by omega) (.bool nb)
            have rx := rx.setNe (p := ⟨gy, 0, none⟩) hnxy (.bool nb)
            have ry := ry.setNe (p := ⟨gy, 0, none⟩) hnyy (.bool nb)
            have hB := hB.setCell (p := ⟨gy, 0, none⟩) hkgy (.bool nb)
            have my := set_blk (v := .slice A2 m c2) (i := 1) my rfl
            have ma := set_other (i := 1) ma (show w.heap.size ≠ gy by omega) (.slice A2 m c2)
            have mb := set_other (i := 1) mb (show w.heap.size + 1 ≠ gy by omega) (.slice A2 m c2)
            have mx := set_other (i := 1) mx (show gx ≠ gy by omega) (.slice A2 m c2)
            have rx := rx.setNe (p := ⟨gy, 1, none⟩) hnxy (.slice A2 m c2)
            have ry := ry.setNe (p := ⟨gy, 1, none⟩) hnyy (.slice A2 m c2)
            have hB := hB.setCell (p := ⟨gy, 1, none⟩) hkgy (.slice A2 m c2)
            have my := set_blk (v := .int .i64 e2) (i := 2) my rfl
            have ma := set_other (i := 2) ma (show w.heap.size ≠ gy by omega) (.int .i64 e2)
            have mb := set_other (i := 2) mb (show w.heap.size + 1 ≠ gy by omega) (.int .i64 e2)
            have mx := set_other (i := 2) mx (show gx ≠ gy by omega) (.int .i64 e2)
            have rx := rx.setNe (p := ⟨gy, 2, none⟩) hnxy (.int .i64 e2)
            have ry := ry.setNe (p := ⟨gy, 2, none⟩) hnyy (.int .i64 e2)
            have hB := hB.setCell (p := ⟨gy, 2, none⟩) hkgy (.int .i64 e2)
            obtain ⟨x0, x1, x2⟩ := box3_of ma
            obtain ⟨x3, x4, x5⟩ := box3_of mb
            refine hK.out _ _ ⟨x0, x1, x2, x3, x4, x5⟩ (fun _ => ?_)
            clear hK K x0 x1 x2 x3 x4 x5
            try simp only [Act.put, List.setIfInBounds_toArray, List.set_cons_zero, List.set_cons_succ]
            refine wpAnyH_done (by kernel_rfl) ?_ _
            go_wp2
            go_meet
            exact ⟨gx, gy, A1, c1, A2, c2, rfl, rfl, hne, mx, my, hkgx, hkgy, rx, ry, hdis, hB⟩
      · go_simp
        obtain ⟨gy, hg⟩ : ∃ g, g = V17.heap.size := ⟨_, rfl⟩
        have ma := heldA (.cells #[.bool false, .slice none 0 0, .int .i64 0] 24) ma
        have mb := heldA (.cells #[.bool false, .slice none 0 0, .int .i64 0] 24) mb
        have mx := heldA (.cells #[.bool false, .slice none 0 0, .int .i64 0] 24) mx
        have my := World.alloc_heap_new V17 (.cells #[.bool false, .slice none 0 0, .int .i64 0] 24)
        rw [← hg] at my
        have hsz : (V17.alloc (.cells #[.bool false, .slice none 0 0, .int .i64 0] 24)).heap.size = V17.heap.size + 1 := by simp
        have hkgy : w1.heap.size ≤ gy := by have := hB.size; omega
        have hB := hB.alloc hB.size (.cells #[.bool false, .slice none 0 0, .int .i64 0] 24)
        have hW := hW.alloc hW.size (.cells #[.bool false, .slice none 0 0, .int .i64 0] 24)
        obtain ⟨x0, x1, x2⟩ := box3_of ma
        obtain ⟨x3, x4, x5⟩ := box3_of mb
        refine hK.out _ _ ⟨x0, x1, x2, x3, x4, x5⟩ (fun _ => ?_)
        clear hK K x0 x1 x2 x3 x4 x5
        try simp only [Act.put, List.setIfInBounds_toArray, List.set_cons_zero, List.set_cons_succ]
        try rw [← hg]
        generalize hU : V17.alloc (.cells #[.bool false, .slice none 0 0, .int .i64 0] 24) = V23 at *
        clear hU
        have hlgy : gy < V23.heap.size := by omega
        have hne : gx ≠ gy := by omega
        have hlgx : gx < V23.heap.size := by omega
        clear hg hsz
        have hBs0 : w1.heap.size ≤ V23.heap.size := hB.size
        refine wpAnyH_ready (rs := [1]) (by kernel_rfl) (by simp) ?_
        refine (AllReadyH.cons (o := ⟨_, _, _, _, _, _⟩) rfl (fun K hK => ?_) AllReadyH.nil)
        · go_simp
          refine (OA.out V23 (ha.below hW hS) (fun b h => up hW b h)).mono ?_
          rintro e V24 ⟨A1, c1, rfl, rx, hb0⟩
          have ma := heldz hb0 ma
          have mb := heldz hb0 mb
          have mx := heldz hb0 mx
          have my := heldz hb0 my
          have hB := hB.trans (hb0.mono hB.size)
          have hW := hW.trans (hb0.mono hW.size)
          have hlx : ∀ g, A1 = some ⟨g, 0, none⟩ → g < V24.heap.size := by
            intro g q1
            rcases rx.form with ⟨z, _⟩ | ⟨g3, z, _, z3⟩
            · rw [z] at q1; cases q1
            · rw [z] at q1; injection q1 with q1; injection q1 with q1; omega
          have rx := rx.more (base' := w1.heap.size) hBs0
          (try dsimp only)
          obtain ⟨x0, x1, x2⟩ := box3_of ma
          obtain ⟨x3, x4, x5⟩ := box3_of mb
          refine hK.out _ _ ⟨x0, x1, x2, x3, x4, x5⟩ (fun _ => ?_)
          clear hK K x0 x1 x2 x3 x4 x5
          try simp only [Act.put, List.setIfInBounds_toArray, List.set_cons_zero, List.set_cons_succ]
          have hlgx : gx < V24.heap.size := Nat.lt_of_lt_of_le hlgx hb0.size
          have hlgy : gy < V24.heap.size := Nat.lt_of_lt_of_le hlgy hb0.size
          have hBs0 : w1.heap.size ≤ V24.heap.size := hB.size
          refine wpAnyH_ready (rs := [3]) (by kernel_rfl) (by simp) ?_
          refine (AllReadyH.cons (o := ⟨_, _, _, _, _, _⟩) rfl (fun K hK => ?_) AllReadyH.nil)
          · go_simp
            refine (OB.out V24 (hb.below hW hS) (fun b h => up hW b h)).mono ?_
            rintro e V25 ⟨A2, c2, rfl, ry, hb0⟩
            have ma := heldz hb0 ma
            have mb := heldz hb0 mb
            have mx := heldz hb0 mx
            have my := heldz hb0 my
            have rx := rx.below hb0 (Nat.le_refl _)
            have hdis : ∀ g, A1 = some ⟨g, 0, none⟩ → A2 = some ⟨g, 0, none⟩ → False := by
              intro g q1 q2
              subst q1 q2
              rcases ry.form with ⟨z, _⟩ | ⟨g3, z, z2, _⟩
              · cases z
              · injection z with z; injection z with z
                have := hlx g rfl; omega
            have hB := hB.trans (hb0.mono hB.size)
            have hW := hW.trans (hb0.mono hW.size)
            have ry := ry.more (base' := w1.heap.size) hBs0
            have hlx : ∀ g, A1 = some ⟨g, 0, none⟩ → g < V25.heap.size := fun g q => Nat.lt_of_lt_of_le (hlx g q) hb0.size
            (try dsimp only)
            obtain ⟨x0, x1, x2⟩ := box3_of ma
            obtain ⟨x3, x4, x5⟩ := box3_of mb
            refine hK.out _ _ ⟨x0, x1, x2, x3, x4, x5⟩ (fun _ => ?_)
            clear hK K x0 x1 x2 x3 x4 x5
            try simp only [Act.put, List.setIfInBounds_toArray, List.set_cons_zero, List.set_cons_succ]
            have hlgx : gx < V25.heap.size := Nat.lt_of_lt_of_le hlgx hb0.size
            have hlgy : gy < V25.heap.size := Nat.lt_of_lt_of_le hlgy hb0.size
            have hBs0 : w1.heap.size ≤ V25.heap.size := hB.size
            have hnxx := rx.ne_box mx ty_ne
            have hnxy := rx.ne_box my ty_ne
            have hnyx := ry.ne_box mx ty_ne
            have hnyy := ry.ne_box my ty_ne
            have hsw1 : w.heap.size + 1 < w1.heap.size := (Array.getElem?_eq_some_iff.1 mb1).1
            refine wpAnyH_ready (rs := [6]) (by kernel_rfl) (by simp) (AllReadyH.cons (o := ⟨_, _, _, _, _, _⟩) rfl (fun K hK => ?_) AllReadyH.nil)
            obtain ⟨t0, t1, t2⟩ := box3_of mx
            have f0 := frozen_of 0 mx
            have f1 := frozen_of 1 mx
            have f2 := frozen_of 2 mx
            go_simp
            clear t0 t1 t2 f0 f1 f2
            have mx := set_blk (v := .bool na) (i := 0) mx rfl
            have ma := set_other (i := 0) ma (show w.heap.size ≠ gx by omega) (.bool na)
            have mb := set_other (i := 0) mb (show w.heap.size + 1 ≠ gx by omega) (.bool na)
            have my := set_other (i := 0) my (show gy ≠ gx by omega) (.bool na)
            have rx := rx.setNe (p := ⟨gx, 0, none⟩) hnxx (.bool na)
            have ry := ry.setNe (p := ⟨gx, 0, none⟩) hnyx (.bool na)
            have hB := hB.setCell (p := ⟨gx, 0, none⟩) hkgx (.bool na)
            have mx := set_blk (v := .slice A1 n c1) (i := 1) mx rfl
            have ma := set_other (i := 1) ma (show w.heap.size ≠ gx by omega) (.slice A1 n c1)
            have mb := set_other (i := 1) mb (show w.heap.size + 1 ≠ gx by omega) (.slice A1 n c1)
            have my := set_other (i := 1) my (show gy ≠ gx by omega) (.slice A1 n c1)
            have rx := rx.setNe (p := ⟨gx, 1, none⟩) hnxx (.slice A1 n c1)
            have ry := ry.setNe (p := ⟨gx, 1, none⟩) hnyx (.slice A1 n c1)
            have hB := hB.setCell (p := ⟨gx, 1, none⟩) hkgx (.slice A1 n c1)
            have mx := set_blk (v := .int .i64 e1) (i := 2) mx rfl
            have ma := set_other (i := 2) ma (show w.heap.size ≠ gx by omega) (.int .i64 e1)
            have mb := set_other (i := 2) mb (show w.heap.size + 1 ≠ gx by omega) (.int .i64 e1)
            have my := set_other (i := 2) my (show gy ≠ gx by omega) (.int .i64 e1)
            have rx := rx.setNe (p := ⟨gx, 2, none⟩) hnxx (.int .i64 e1)
            have ry := ry.setNe (p := ⟨gx, 2, none⟩) hnyx (.int .i64 e1)
            have hB := hB.setCell (p := ⟨gx, 2, none⟩) hkgx (.int .i64 e1)
            obtain ⟨x0, x1, x2⟩ := box3_of ma
            obtain ⟨x3, x4, x5⟩ := box3_of mb
            refine hK.out _ _ ⟨x0, x1, x2, x3, x4, x5⟩ (fun _ => ?_)
            clear hK K x0 x1 x2 x3 x4 x5
            try simp only [Act.put, List.setIfInBounds_toArray, List.set_cons_zero, List.set_cons_succ]
            refine wpAnyH_ready (rs := [7]) (by kernel_rfl) (by simp) (AllReadyH.cons (o := ⟨_, _, _, _, _, _⟩) rfl (fun K hK => ?_) AllReadyH.nil)
            obtain ⟨t0, t1, t2⟩ := box3_of my
            have f0 := frozen_of 0 my
            have f1 := frozen_of 1 my
            have f2 := frozen_of 2 my
            go_simp
            clear t0 t1 t2 f0 f1 f2
            have my := set_blk (v := .bool nb) (i := 0) my rfl
            have ma := set_other (i := 0) ma (show w.heap.size ≠ gy by omega) (.bool nb)
            have mb := set_other (i := 0) mb (show w.heap.size + 1 ≠ gy by omega) (.bool nb)
            have mx := set_other (i := 0) mx (show gx ≠ gy by omega) (.bool nb)
            have rx := rx.setNe (p := ⟨gy, 0, none⟩) hnxy (.bool nb)
            have ry := ry.setNe (p := ⟨gy, 0, none⟩) hnyy (.bool nb)
            have hB := hB.setCell (p := ⟨gy, 0, none⟩) hkgy (.bool nb)
            have my := set_blk (v := .slice A2 m c2) (i := 1) my rfl
            have ma := set_other (i := 1) ma (show w.heap.size ≠ gy by omega) (.slice A2 m c2)
            have mb := set_other (i := 1) mb (show w.heap.size + 1 ≠ gy by omega) (.slice A2 m c2)
            have mx := set_other (i := 1) mx (show gx ≠ gy by omega) (.slice A2 m c2)
            have rx := rx.setNe (p := ⟨gy, 1, none⟩) hnxy (.slice A2 m c2)
            have ry := ry.setNe (p := ⟨gy, 1, none⟩) hnyy (.slice A2 m c2)
            have hB := hB.setCell (p := ⟨gy, 1, none⟩) hkgy (.slice A2 m c2)
            have my := set_blk (v := .int .i64 e2) (i := 2) my rfl
            have ma := set_other (i := 2) ma (show w.heap.size ≠ gy by omega) (.int .i64 e2)
            have mb := set_other (i := 2) mb (show w.heap.size + 1 ≠ gy by omega) (.int .i64 e2)
            have mx := set_other (i := 2) mx (show gx ≠ gy by omega) (.int .i64 e2)
            have rx := rx.setNe (p := ⟨gy, 2, none⟩) hnxy (.int .i64 e2)
            have ry := ry.setNe (p := ⟨gy, 2, none⟩) hnyy (.int .i64 e2)
            have hB := hB.setCell (p := ⟨gy, 2, none⟩) hkgy (.int .i64 e2)
            obtain ⟨x0, x1, x2⟩ := box3_of ma
            obtain ⟨x3, x4, x5⟩ := box3_of mb
            refine hK.out _ _ ⟨x0, x1, x2, x3, x4, x5⟩ (fun _ => ?_)
            clear hK K x0 x1 x2 x3 x4 x5
            try simp only [Act.put, List.setIfInBounds_toArray, List.set_cons_zero, List.set_cons_succ]
            refine wpAnyH_done (by kernel_rfl) ?_ _
            go_wp2
            go_meet
            exact ⟨gx, gy, A1, c1, A2, c2, rfl, rfl, hne, mx, my, hkgx, hkgy, rx, ry, hdis, hB⟩
    · go_simp
      obtain ⟨gy, hg⟩ : ∃ g, g = V0.heap.size := ⟨_, rfl⟩
      have ma := heldA (.cells #[.bool false, .slice none 0 0, .int .i64 0] 24) ma
      have mb := heldA (.cells #[.bool false, .slice none 0 0, .int .i64 0] 24) mb
      have my := World.alloc_heap_new V0 (.cells #[.bool false, .slice none 0 0, .int .i64 0] 24)
      rw [← hg] at my
      have hsz : (V0.alloc (.cells #[.bool false, .slice none 0 0, .int .i64 0] 24)).heap.size = V0.heap.size + 1 := by simp
      have hkgy : w1.heap.size ≤ gy := by have := hB.size; omega
      have hB := hB.alloc hB.size (.cells #[.bool false, .slice none 0 0, .int .i64 0] 24)
      have hW := hW.alloc hW.size (.cells #[.bool false, .slice none 0 0, .int .i64 0] 24)
      obtain ⟨x0, x1, x2⟩ := box3_of ma
      obtain ⟨x3, x4, x5⟩ := box3_of mb
      refine hK.out _ _ ⟨x0, x1, x2, x3, x4, x5⟩ (fun _ => ?_)
      clear hK K x0 x1 x2 x3 x4 x5
      try simp only [Act.put, List.setIfInBounds_toArray, List.set_cons_zero, List.set_cons_succ]
      try rw [← hg]
      generalize hU : V0.alloc (.cells #[.bool false, .slice none 0 0, .int .i64 0] 24) = V26 at *
      clear hU
      have hlgy : gy < V26.heap.size := by omega
      clear hg hsz
      have hBs0 : w1.heap.size ≤ V26.heap.size := hB.size
      refine wpAnyH_ready (rs := [1, 4]) (by kernel_rfl) (by simp) ?_
      refine (AllReadyH.cons (o := ⟨_, _, _, _, _, _⟩) rfl (fun K hK => ?_) (AllReadyH.cons (o := ⟨_, _, _, _, _, _⟩) rfl (fun K hK => ?_) AllReadyH.nil))
      · go_simp
        refine (OA.out V26 (ha.below hW hS) (fun b h => up hW b h)).mono ?_
        rintro e V27 ⟨A1, c1, rfl, rx, hb0⟩
        have ma := heldz hb0 ma
        have mb := heldz hb0 mb
        have my := heldz hb0 my
        have hB := hB.trans (hb0.mono hB.size)
        have hW := hW.trans (hb0.mono hW.size)
        have hlx : ∀ g, A1 = some ⟨g, 0, none⟩ → g < V27.heap.size := by
          intro g q1
          rcases rx.form with ⟨z, _⟩ | ⟨g3, z, _, z3⟩
          · rw [z] at q1; cases q1
          · rw [z] at q1; injection q1 with q1; injection q1 with q1; omega
        have rx := rx.more (base' := w1.heap.size) hBs0
        (try dsimp only)
        obtain ⟨x0, x1, x2⟩ := box3_of ma
        obtain ⟨x3, x4, x5⟩ := box3_of mb
        refine hK.out _ _ ⟨x0, x1, x2, x3, x4, x5⟩ (fun _ => ?_)
        clear hK K x0 x1 x2 x3 x4 x5
        try simp only [Act.put, List.setIfInBounds_toArray, List.set_cons_zero, List.set_cons_succ]
        have hlgy : gy < V27.heap.size := Nat.lt_of_lt_of_le hlgy hb0.size
        have hBs0 : w1.heap.size ≤ V27.heap.size := hB.size
        refine wpAnyH_ready (rs := [3, 4]) (by kernel_rfl) (by simp) ?_
        refine (AllReadyH.cons (o := ⟨_, _, _, _, _, _⟩) rfl (fun K hK => ?_) (AllReadyH.cons (o := ⟨_, _, _, _, _, _⟩) rfl (fun K hK => ?_) AllReadyH.nil))
        · go_simp
          refine (OB.out V27 (hb.below hW hS) (fun b h => up hW b h)).mono ?_
          rintro e V28 ⟨A2, c2, rfl, ry, hb0⟩
          have ma := heldz hb0 ma
          have mb := heldz hb0 mb
          have my := heldz hb0 my
          have rx := rx.below hb0 (Nat.le_refl _)
          have hdis : ∀ g, A1 = some ⟨g, 0, none⟩ → A2 = some ⟨g, 0, none⟩ → False := by
            intro g q1 q2
            subst q1 q2
            rcases ry.form with ⟨z, _⟩ | ⟨g3, z, z2, _⟩
            · cases z
            · injection z with z; injection z with z
              have := hlx g rfl; omega
          have hB := hB.trans (hb0.mono hB.size)
          have hW := hW.trans (hb0.mono hW.size)
          have ry := ry.more (base' := w1.heap.size) hBs0
          have hlx : ∀ g, A1 = some ⟨g, 0, none⟩ → g < V28.heap.size := fun g q => Nat.lt_of_lt_of_le (hlx g q) hb0.size
          (try dsimp only)
          obtain ⟨x0, x1, x2⟩ := box3_of ma
          obtain ⟨x3, x4, x5⟩ := box3_of mb
          refine hK.out _ _ ⟨x0, x1, x2, x3, x4, x5⟩ (fun _ => ?_)
          clear hK K x0 x1 x2 x3 x4 x5
          try simp only [Act.put, List.setIfInBounds_toArray, List.set_cons_zero, List.set_cons_succ]
          have hlgy : gy < V28.heap.size := Nat.lt_of_lt_of_le hlgy hb0.size
          have hBs0 : w1.heap.size ≤ V28.heap.size := hB.size
          refine wpAnyH_ready (rs := [4]) (by kernel_rfl) (by simp) ?_
          refine (AllReadyH.cons (o := ⟨_, _, _, _, _, _⟩) rfl (fun K hK => ?_) AllReadyH.nil)
          · go_simp
            obtain ⟨gx, hg⟩ : ∃ g, g = V28.heap.size := ⟨_, rfl⟩
            have ma := heldA (.cells #[.bool false, .slice none 0 0, .int .i64 0] 24) ma
            have mb := heldA (.cells #[.bool false, .slice none 0 0, .int .i64 0] 24) mb
            have my := heldA (.cells #[.bool false, .slice none 0 0, .int .i64 0] 24) my
            have mx := World.alloc_heap_new V28 (.cells #[.bool false, .slice none 0 0, .int .i64 0] 24)
            rw [← hg] at mx
            have rx := rx.below ((Below.refl V28.heap.size V28).alloc (Nat.le_refl _) (.cells #[.bool false, .slice none 0 0, .int .i64 0] 24)) (Nat.le_refl _)
            have ry := ry.below ((Below.refl V28.heap.size V28).alloc (Nat.le_refl _) (.cells #[.bool false, .slice none 0 0, .int .i64 0] 24)) (Nat.le_refl _)
            have hsz : (V28.alloc (.cells #[.bool false, .slice none 0 0, .int .i64 0] 24)).heap.size = V28.heap.size + 1 := by simp
            have hlx : ∀ g, A1 = some ⟨g, 0, none⟩ → g < (V28.alloc (.cells #[.bool false, .slice none 0 0, .int .i64 0] 24)).heap.size := fun g q => by have := hlx g q; omega
            have hkgx : w1.heap.size ≤ gx := by have := hB.size; omega
            have hB := hB.alloc hB.size (.cells #[.bool false, .slice none 0 0, .int .i64 0] 24)
            have hW := hW.alloc hW.size (.cells #[.bool false, .slice none 0 0, .int .i64 0] 24)
            obtain ⟨x0, x1, x2⟩ := box3_of ma
            obtain ⟨x3, x4, x5⟩ := box3_of mb
            refine hK.out _ _ ⟨x0, x1, x2, x3, x4, x5⟩ (fun _ => ?_)
            clear hK K x0 x1 x2 x3 x4 x5
            try simp only [Act.put, List.setIfInBounds_toArray, List.set_cons_zero, List.set_cons_succ]
            try rw [← hg]
            generalize hU : V28.alloc (.cells #[.bool false, .slice none 0 0, .int .i64 0] 24) = V29 at *
            clear hU
            have hlgx : gx < V29.heap.size := by omega
            have hne : gx ≠ gy := by omega
            have hlgy : gy < V29.heap.size := by omega
            clear hg hsz
            have hBs0 : w1.heap.size ≤ V29.heap.size := hB.size
            have hnxx := rx.ne_box mx ty_ne
            have hnxy := rx.ne_box my ty_ne
            have hnyx := ry.ne_box mx ty_ne
            have hnyy := ry.ne_box my ty_ne
            have hsw1 : w.heap.size + 1 < w1.heap.size := (Array.getElem?_eq_some_iff.1 mb1).1
            refine wpAnyH_ready (rs := [6]) (by kernel_rfl) (by simp) (AllReadyH.cons (o := ⟨_, _, _, _, _, _⟩) rfl (fun K hK => ?_) AllReadyH.nil)
            obtain ⟨t0, t1, t2⟩ := box3_of mx
            have f0 := frozen_of 0 mx
            have f1 := frozen_of 1 mx
            have f2 := frozen_of 2 mx
            go_simp
            clear t0 t1 t2 f0 f1 f2
            have mx := set_blk (v := .bool na) (i := 0) mx rfl
            have ma := set_other (i := 0) ma (show w.heap.size ≠ gx by omega) (.bool na)
            have mb := set_other (i := 0) mb (show w.heap.size + 1 ≠ gx by omega) (.bool na)
            have my := set_other (i := 0) my (show gy ≠ gx by omega) (.bool na)
            have rx := rx.setNe (p := ⟨gx, 0, none⟩) hnxx (.bool na)
            have ry := ry.setNe (p := ⟨gx, 0, none⟩) hnyx (.bool na)
            have hB := hB.setCell (p := ⟨gx, 0, none⟩) hkgx (.bool na)
            have mx := set_blk (v := .slice A1 n c1) (i := 1) mx rfl
            have ma := set_other (i := 1) ma (show w.heap.size ≠ gx by omega) (.slice A1 n c1)
            have mb := set_other (i := 1) mb (show w.heap.size + 1 ≠ gx by omega) (.slice A1 n c1)
            have my := set_other (i := 1) my (show gy ≠ gx by omega) (.slice A1 n c1)
            have rx := rx.setNe (p := ⟨gx, 1, none⟩) hnxx (.slice A1 n c1)
            have ry := ry.setNe (p := ⟨gx, 1, none⟩) hnyx (.slice A1 n c1)
            have hB := hB.setCell (p := ⟨gx, 1, none⟩) hkgx (.slice A1 n c1)
            have mx := set_blk (v := .int .i64 e1) (i := 2) mx rfl
            have ma := set_other (i := 2) ma (show w.heap.size ≠ gx by omega) (.int .i64 e1)
            have mb := set_other (i := 2) mb (show w.heap.size + 1 ≠ gx by omega) (.int .i64 e1)
            have my := set_other (i := 2) my (show gy ≠ gx by omega) (.int .i64 e1)
            have rx := rx.setNe (p := ⟨gx, 2, none⟩) hnxx (.int .i64 e1)
            have ry := ry.setNe (p := ⟨gx, 2, none⟩) hnyx (.int .i64 e1)
            have hB := hB.setCell (p := ⟨gx, 2, none⟩) hkgx (.int .i64 e1)
            obtain ⟨x0, x1, x2⟩ := box3_of ma
            obtain ⟨x3, x4, x5⟩ := box3_of mb
            refine hK.out _ _ ⟨x0, x1, x2, x3, x4, x5⟩ (fun _ => ?_)
            clear hK K x0 x1 x2 x3 x4 x5
            try simp only [Act.put, List.setIfInBounds_toArray, List.set_cons_zero, List.set_cons_succ]
            refine wpAnyH_ready (rs := [7]) (by kernel_rfl) (by simp) (AllReadyH.cons (o := ⟨_, _, _, _, _, _⟩) rfl (fun K hK => ?_) AllReadyH.nil)
            obtain ⟨t0, t1, t2⟩ := box3_of my
            have f0 := frozen_of 0 my
            have f1 := frozen_of 1 my
            have f2 := frozen_of 2 my
            go_simp
            clear t0 t1 t2 f0 f1 f2
            have my := set_blk (v := .bool nb) (i := 0) my rfl
            have ma := set_other (i := 0) ma (show w.heap.size ≠ gy by omega) (.bool nb)
            have mb := set_other (i := 0) mb (show w.heap.size + 1 ≠ gy by omega) (.bool nb)
            have mx := set_other (i := 0) mx (show gx ≠ gy by omega) (.bool nb)
            have rx := rx.setNe (p := ⟨gy, 0, none⟩) hnxy (.bool nb)
            have ry := ry.setNe (p := ⟨gy, 0, none⟩) hnyy (.bool nb)
            have hB := hB.setCell (p := ⟨gy, 0, none⟩) hkgy (.bool nb)
            have my := set_blk (v := .slice A2 m c2) (i := 1) my rfl
            have ma := set_other (i := 1) ma (show w.heap.size ≠ gy by omega) (.slice A2 m c2)
            have mb := set_other (i := 1) mb (show w.heap.size + 1 ≠ gy by omega) (.slice A2 m c2)
            have mx := set_other (i := 1) mx (show gx ≠ gy by omega) (.slice A2 m c2)
            have rx := rx.setNe (p := ⟨gy, 1, none⟩) hnxy (.slice A2 m c2)
            have ry := ry.setNe (p := ⟨gy, 1, none⟩) hnyy (.slice A2 m c2)
            have hB := hB.setCell (p := ⟨gy, 1, none⟩) hkgy (.slice A2 m c2)
            have my := set_blk (v := .int .i64 e2) (i := 2) my rfl
            have ma := set_other (i := 2) ma (show w.heap.size ≠ gy by omega) (.int .i64 e2)
            have mb := set_other (i := 2) mb (show w.heap.size + 1 ≠ gy by omega) (.int .i64 e2)
            have mx := set_other (i := 2) mx (show gx ≠ gy by omega) (.int .i64 e2)
            have rx := rx.setNe (p := ⟨gy, 2, none⟩) hnxy (.int .i64 e2)
            have ry := ry.setNe (p := ⟨gy, 2, none⟩) hnyy (.int .i64 e2)
            have hB := hB.setCell (p := ⟨gy, 2, none⟩) hkgy (.int .i64 e2)
            obtain ⟨x0, x1, x2⟩ := box3_of ma
            obtain ⟨x3, x4, x5⟩ := box3_of mb
            refine hK.out _ _ ⟨x0, x1, x2, x3, x4, x5⟩ (fun _ => ?_)
            clear hK K x0 x1 x2 x3 x4 x5
            try simp only [Act.put, List.setIfInBounds_toArray, List.set_cons_zero, List.set_cons_succ]
            refine wpAnyH_done (by kernel_rfl) ?_ _
            go_wp2
            go_meet
            exact ⟨gx, gy, A1, c1, A2, c2, rfl, rfl, hne, mx, my, hkgx, hkgy, rx, ry, hdis, hB⟩
        · go_simp
          obtain ⟨gx, hg⟩ : ∃ g, g = V27.heap.size := ⟨_, rfl⟩
          have ma := heldA (.cells #[.bool false, .slice none 0 0, .int .i64 0] 24) ma
          have mb := heldA (.cells #[.bool false, .slice none 0 0, .int .i64 0] 24) mb
          have my := heldA (.cells #[.bool false, .slice none 0 0, .int .i64 0] 24) my
          have mx := World.alloc_heap_new V27 (.cells #[.bool false, .slice none 0 0, .int .i64 0] 24)
          rw [← hg] at mx
          have rx := rx.below ((Below.refl V27.heap.size V27).alloc (Nat.le_refl _) (.cells #[.bool false, .slice none 0 0, .int .i64 0] 24)) (Nat.le_refl _)
          have hsz : (V27.alloc (.cells #[.bool false, .slice none 0 0, .int .i64 0] 24)).heap.size = V27.heap.size + 1 := by simp
          have hlx : ∀ g, A1 = some ⟨g, 0, none⟩ → g < (V27.alloc (.cells #[.bool false, .slice none 0 0, .int .i64 0] 24)).heap.size := fun g q => by have := hlx g q; omega
          have hkgx : w1.heap.size ≤ gx := by have := hB.size; omega
          have hB := hB.alloc hB.size (.cells #[.bool false, .slice none 0 0, .int .i64 0] 24)
          have hW := hW.alloc hW.size (.cells #[.bool false, .slice none 0 0, .int .i64 0] 24)
          obtain ⟨x0, x1, x2⟩ := box3_of ma
          obtain ⟨x3, x4, x5⟩ := box3_of mb
          refine hK.out _ _ ⟨x0, x1, x2, x3, x4, x5⟩ (fun _ => ?_)
          clear hK K x0 x1 x2 x3 x4 x5
          try simp only [Act.put, List.setIfInBounds_toArray, List.set_cons_zero, List.set_cons_succ]
          try rw [← hg]
          generalize hU : V27.alloc (.cells #[.bool false, .slice none 0 0, .int .i64 0] 24) = V30 at *
          clear hU
          have hlgx : gx < V30.heap.size := by omega
          have hne : gx ≠ gy := by omega
          have hlgy : gy < V30.heap.size := by omega
          clear hg hsz
          have hBs0 : w1.heap.size ≤ V30.heap.size := hB.size
          refine wpAnyH_ready (rs := [3]) (by kernel_rfl) (by simp) ?_
          refine (AllReadyH.cons (o := ⟨_, _, _, _, _, _⟩) rfl (fun K hK => ?_) AllReadyH.nil)
          · go_simp
            refine (OB.out V30 (hb.below hW hS) (fun b h => up hW b h)).mono ?_
            rintro e V31 ⟨A2, c2, rfl, ry, hb0⟩
            have ma := heldz hb0 ma
            have mb := heldz hb0 mb
            have mx := heldz hb0 mx
            have my := heldz hb0 my
            have rx := rx.below hb0 (Nat.le_refl _)
            have hdis : ∀ g, A1 = some ⟨g, 0, none⟩ → A2 = some ⟨g, 0, none⟩ → False := by
              intro g q1 q2
              subst q1 q2
              rcases ry.form with ⟨z, _⟩ | ⟨g3, z, z2, _⟩
              · cases z
              · injection z with z; injection z with z
                have := hlx g rfl; omega
            have hB := hB.trans (hb0.mono hB.size)
            have hW := hW.trans (hb0.mono hW.size)
            have ry := ry.more (base' := w1.heap.size) hBs0
            have hlx : ∀ g, A1 = some ⟨g, 0, none⟩ → g < V31.heap.size := fun g q => Nat.lt_of_lt_of_le (hlx g q) hb0.size
            (try dsimp only)
            obtain ⟨x0, x1, x2⟩ := box3_of ma
            obtain ⟨x3, x4, x5⟩ := box3_of mb
            refine hK.out _ _ ⟨x0, x1, x2, x3, x4, x5⟩ (fun _ => ?_)
            clear hK K x0 x1 x2 x3 x4 x5
            try simp only [Act.put, List.setIfInBounds_toArray, List.set_cons_zero, List.set_cons_succ]
            have hlgx : gx < V31.heap.size := Nat.lt_of_lt_of_le hlgx hb0.size
            have hlgy : gy < V31.heap.size := Nat.lt_of_lt_of_le hlgy hb0.size
            have hBs0 : w1.heap.size ≤ V31.heap.size := hB.size
            have hnxx := rx.ne_box mx ty_ne
            have hnxy := rx.ne_box my ty_ne
            have hnyx := ry.ne_box mx ty_ne
            have hnyy := ry.ne_box my ty_ne
            have hsw1 : w.heap.size + 1 < w1.heap.size := (Array.getElem?_eq_some_iff.1 mb1).1
            refine wpAnyH_ready (rs := [6]) (by kernel_rfl) (by simp) (AllReadyH.cons (o := ⟨_, _, _, _, _, _⟩) rfl (fun K hK => ?_) AllReadyH.nil)
            obtain ⟨t0, t1, t2⟩ := box3_of mx
            have f0 := frozen_of 0 mx
            have f1 := frozen_of 1 mx
            have f2 := frozen_of 2 mx
            go_simp
            clear t0 t1 t2 f0 f1 f2
            have mx := set_blk (v := .bool na) (i := 0) mx rfl
            have ma := set_other (i := 0) ma (show w.heap.size ≠ gx by omega) (.bool na)
            have mb := set_other (i := 0) mb (show w.heap.size + 1 ≠ gx by omega) (.bool na)
            have my := set_other (i := 0) my (show gy ≠ gx by omega) (.bool na)
            have rx := rx.setNe (p := ⟨gx, 0, none⟩) hnxx (.bool na)
            have ry := ry.setNe (p := ⟨gx, 0, none⟩) hnyx (.bool na)
            have hB := hB.setCell (p := ⟨gx, 0, none⟩) hkgx (.bool na)
            have mx := set_blk (v := .slice A1 n c1) (i := 1) mx rfl
            have ma := set_other (i := 1) ma (show w.heap.size ≠ gx by omega) (.slice A1 n c1)
            have mb := set_other (i := 1) mb (show w.heap.size + 1 ≠ gx by omega) (.slice A1 n c1)
            have my := set_other (i := 1) my (show gy ≠ gx by omega) (.slice A1 n c1)
            have rx := rx.setNe (p := ⟨gx, 1, none⟩) hnxx (.slice A1 n c1)
            have ry := ry.setNe (p := ⟨gx, 1, none⟩) hnyx (.slice A1 n c1)
            have hB := hB.setCell (p := ⟨gx, 1, none⟩) hkgx (.slice A1 n c1)
            have mx := set_blk (v := .int .i64 e1) (i := 2) mx rfl
            have ma := set_other (i := 2) ma (show w.heap.size ≠ gx by omega) (.int .i64 e1)
            have mb := set_other (i := 2) mb (show w.heap.size + 1 ≠ gx by omega) (.int .i64 e1)
            have my := set_other (i := 2) my (show gy ≠ gx by omega) (.int .i64 e1)
            have rx := rx.setNe (p := ⟨gx, 2, none⟩) hnxx (.int .i64 e1)
            have ry := ry.setNe (p := ⟨gx, 2, none⟩) hnyx (.int .i64 e1)
            have hB := hB.setCell (p := ⟨gx, 2, none⟩) hkgx (.int .i64 e1)
            obtain ⟨x0, x1, x2⟩ := box3_of ma
            obtain ⟨x3, x4, x5⟩ := box3_of mb
            refine hK.out _ _ ⟨x0, x1, x2, x3, x4, x5⟩ (fun _ => ?_)
            clear hK K x0 x1 x2 x3 x4 x5
            try simp only [Act.put, List.setIfInBounds_toArray, List.set_cons_zero, List.set_cons_succ]
            refine wpAnyH_ready (rs := [7]) (by kernel_rfl) (by simp) (AllReadyH.cons (o := ⟨_, _, _, _, _, _⟩) rfl (fun K hK => ?_) AllReadyH.nil)
            obtain ⟨t0, t1, t2⟩ := box3_of my
            have f0 := frozen_of 0 my
            have f1 := frozen_of 1 my
            have f2 := frozen_of 2 my
            go_simp
            clear t0 t1 t2 f0 f1 f2
            have my := set_blk (v := .bool nb) (i := 0) my rfl
            have ma := set_other (i := 0) ma (show w.heap.size ≠ gy by omega) (.bool nb)
            have mb := set_other (i := 0) mb (show w.heap.size + 1 ≠ gy by omega) (.bool nb)
            have mx := set_other (i := 0) mx (show gx ≠ gy by omega) (.bool nb)
            have rx := rx.setNe (p := ⟨gy, 0, none⟩) hnxy (.bool nb)
            have ry := ry.setNe (p := ⟨gy, 0, none⟩) hnyy (.bool nb)
            have hB := hB.setCell (p := ⟨gy, 0, none⟩) hkgy (.bool nb)
            have my := set_blk (v := .slice A2 m c2) (i := 1) my rfl
            have ma := set_other (i := 1) ma (show w.heap.size ≠ gy by omega) (.slice A2 m c2)
            have mb := set_other (i := 1) mb (show w.heap.size + 1 ≠ gy by omega) (.slice A2 m c2)
            have mx := set_other (i := 1) mx (show gx ≠ gy by omega) (.slice A2 m c2)
            have rx := rx.setNe (p := ⟨gy, 1, none⟩) hnxy (.slice A2 m c2)
            have ry := ry.setNe (p := ⟨gy, 1, none⟩) hnyy (.slice A2 m c2)
            have hB := hB.setCell (p := ⟨gy, 1, none⟩) hkgy (.slice A2 m c2)
            have my := set_blk (v := .int .i64 e2) (i := 2) my rfl
            have ma := set_other (i := 2) ma (show w.heap.size ≠ gy by omega) (.int .i64 e2)
            have mb := set_other (i := 2) mb (show w.heap.size + 1 ≠ gy by omega) (.int .i64 e2)
            have mx := set_other (i := 2) mx (show gx ≠ gy by omega) (.int .i64 e2)
            have rx := rx.setNe (p := ⟨gy, 2, none⟩) hnxy (.int .i64 e2)
            have ry := ry.setNe (p := ⟨gy, 2, none⟩) hnyy (.int .i64 e2)
            have hB := hB.setCell (p := ⟨gy, 2, none⟩) hkgy (.int .i64 e2)
            obtain ⟨x0, x1, x2⟩ := box3_of ma
            obtain ⟨x3, x4, x5⟩ := box3_of mb
            refine hK.out _ _ ⟨x0, x1, x2, x3, x4, x5⟩ (fun _ => ?_)
            clear hK K x0 x1 x2 x3 x4 x5
            try simp only [Act.put, List.setIfInBounds_toArray, List.set_cons_zero, List.set_cons_succ]
            refine wpAnyH_done (by kernel_rfl) ?_ _
            go_wp2
            go_meet
            exact ⟨gx, gy, A1, c1, A2, c2, rfl, rfl, hne, mx, my, hkgx, hkgy, rx, ry, hdis, hB⟩
      · go_simp
        obtain ⟨gx, hg⟩ : ∃ g, g = V26.heap.size := ⟨_, rfl⟩
        have ma := heldA (.cells #[.bool false, .slice none 0 0, .int .i64 0] 24) ma
        have mb := heldA (.cells #[.bool false, .slice none 0 0, .int .i64 0] 24) mb
        have my := heldA (.cells #[.bool false, .slice none 0 0, .int .i64 0] 24) my
        have mx := World.alloc_heap_new V26 (.cells #[.bool false, .slice none 0 0, .int .i64 0] 24)
        rw [← hg] at mx
        have hsz : (V26.alloc (.cells #[.bool false, .slice none 0 0, .int .i64 0] 24)).heap.size = V26.heap.size + 1 := by simp
        have hkgx : w1.heap.size ≤ gx := by have := hB.size; omega
        have hB := hB.alloc hB.size (.cells #[.bool false, .slice none 0 0, .int .i64 0] 24)
        have hW := hW.alloc hW.size (.cells #[.bool false, .slice none 0 0, .int .i64 0] 24)
        obtain ⟨x0, x1, x2⟩ := box3_of ma
        obtain ⟨x3, x4, x5⟩ := box3_of mb
        refine hK.out _ _ ⟨x0, x1, x2, x3, x4, x5⟩ (fun _ => ?_)
        clear hK K x0 x1 x2 x3 x4 x5
        try simp only [Act.put, List.setIfInBounds_toArray, List.set_cons_zero, List.set_cons_succ]
        try rw [← hg]
        generalize hU : V26.alloc (.cells #[.bool false, .slice none 0 0, .int .i64 0] 24) = V32 at *
        clear hU
        have hlgx : gx < V32.heap.size := by omega
        have hne : gx ≠ gy := by omega
        have hlgy : gy < V32.heap.size := by omega
        clear hg hsz
        have hBs0 : w1.heap.size ≤ V32.heap.size := hB.size
        refine wpAnyH_ready (rs := [1]) (by kernel_rfl) (by simp) ?_
        refine (AllReadyH.cons (o := ⟨_, _, _, _, _, _⟩) rfl (fun K hK => ?_) AllReadyH.nil)
        · go_simp
          refine (OA.out V32 (ha.below hW hS) (fun b h => up hW b h)).mono ?_
          rintro e V33 ⟨A1, c1, rfl, rx, hb0⟩
          have ma := heldz hb0 ma
          have mb := heldz hb0 mb
          have mx := heldz hb0 mx
          have my := heldz hb0 my
          have hB := hB.trans (hb0.mono hB.size)
          have hW := hW.trans (hb0.mono hW.size)
          have hlx : ∀ g, A1 = some ⟨g, 0, none⟩ → g < V33.heap.size := by
            intro g q1
            rcases rx.form with ⟨z, _⟩ | ⟨g3, z, _, z3⟩
            · rw [z] at q1; cases q1
            · rw [z] at q1; injection q1 with q1; injection q1 with q1; omega
          have rx := rx.more (base' := w1.heap.size) hBs0
          (try dsimp only)
          obtain ⟨x0, x1, x2⟩ := box3_of ma
          obtain ⟨x3, x4, x5⟩ := box3_of mb
          refine hK.out _ _ ⟨x0, x1, x2, x3, x4, x5⟩ (fun _ => ?_)
          clear hK K x0 x1 x2 x3 x4 x5
          try simp only [Act.put, List.setIfInBounds_toArray, List.set_cons_zero, List.set_cons_succ]
          have hlgx : gx < V33.heap.size := Nat.lt_of_lt_of_le hlgx hb0.size
          have hlgy : gy < V33.heap.size := Nat.lt_of_lt_of_le hlgy hb0.size
          have hBs0 : w1.heap.size ≤ V33.heap.size := hB.size
          refine wpAnyH_ready (rs := [3]) (by kernel_rfl) (by simp) ?_
          refine (AllReadyH.cons (o := ⟨_, _, _, _, _, _⟩) rfl (fun K hK => ?_) AllReadyH.nil)
          · go_simp
            refine (OB.out V33 (hb.below hW hS) (fun b h => up hW b h)).mono ?_
            rintro e V34 ⟨A2, c2, rfl, ry, hb0⟩
            have ma := heldz hb0 ma
            have mb := heldz hb0 mb
            have mx := heldz hb0 mx
            have my := heldz hb0 my
            have rx := rx.below hb0 (Nat.le_refl _)
            have hdis : ∀ g, A1 = some ⟨g, 0, none⟩ → A2 = some ⟨g, 0, none⟩ → False := by
              intro g q1 q2
              subst q1 q2
              rcases ry.form with ⟨z, _⟩ | ⟨g3, z, z2, _⟩
              · cases z
              · injection z with z; injection z with z
                have := hlx g rfl; omega
            have hB := hB.trans (hb0.mono hB.size)
            have hW := hW.trans (hb0.mono hW.size)
            have ry := ry.more (base' := w1.heap.size) hBs0
            have hlx : ∀ g, A1 = some ⟨g, 0, none⟩ → g < V34.heap.size := fun g q => Nat.lt_of_lt_of_le (hlx g q) hb0.size
            (try dsimp only)
            obtain ⟨x0, x1, x2⟩ := box3_of ma
            obtain ⟨x3, x4, x5⟩ := box3_of mb
            refine hK.out _ _ ⟨x0, x1, x2, x3, x4, x5⟩ (fun _ => ?_)
            clear hK K x0 x1 x2 x3 x4 x5
            try simp only [Act.put, List.setIfInBounds_toArray, List.set_cons_zero, List.set_cons_succ]
            have hlgx : gx < V34.heap.size := Nat.lt_of_lt_of_le hlgx hb0.size
            have hlgy : gy < V34.heap.size := Nat.lt_of_lt_of_le hlgy hb0.size
            have hBs0 : w1.heap.size ≤ V34.heap.size := hB.size
            have hnxx := rx.ne_box mx ty_ne
            have hnxy := rx.ne_box my ty_ne
            have hnyx := ry.ne_box mx ty_ne
            have hnyy := ry.ne_box my ty_ne
            have hsw1 : w.heap.size + 1 < w1.heap.size := (Array.getElem?_eq_some_iff.1 mb1).1
            refine wpAnyH_ready (rs := [6]) (by kernel_rfl) (by simp) (AllReadyH.cons (o := ⟨_, _, _, _, _, _⟩) rfl (fun K hK => ?_) AllReadyH.nil)
            obtain ⟨t0, t1, t2⟩ := box3_of mx
            have f0 := frozen_of 0 mx
            have f1 := frozen_of 1 mx
            have f2 := frozen_of 2 mx
            go_simp
            clear t0 t1 t2 f0 f1 f2
            have mx := set_blk (v := .bool na) (i := 0) mx rfl
            have ma := set_other (i := 0) ma (show w.heap.size ≠ gx by omega) (.bool na)
            have mb := set_other (i := 0) mb (show w.heap.size + 1 ≠ gx by omega) (.bool na)
            have my := set_other (i := 0) my (show gy ≠ gx by omega) (.bool na)
            have rx := rx.setNe (p := ⟨gx, 0, none⟩) hnxx (.bool na)
            have ry := ry.setNe (p := ⟨gx, 0, none⟩) hnyx (.bool na)
            have hB := hB.setCell (p := ⟨gx, 0, none⟩) hkgx (.bool na)
            have mx := set_blk (v := .slice A1 n c1) (i := 1) mx rfl
            have ma := set_other (i := 1) ma (show w.heap.size ≠ gx by omega) (.slice A1 n c1)
            have mb := set_other (i := 1) mb (show w.heap.size + 1 ≠ gx by omega) (.slice A1 n c1)
            have my := set_other (i := 1) my (show gy ≠ gx by omega) (.slice A1 n c1)
            have rx := rx.setNe (p := ⟨gx, 1, none⟩) hnxx (.slice A1 n c1)
            have ry := ry.setNe (p := ⟨gx, 1, none⟩) hnyx (.slice A1 n c1)
            have hB := hB.setCell (p := ⟨gx, 1, none⟩) hkgx (.slice A1 n c1)
            have mx := set_blk (v := .int .i64 e1) (i := 2) mx rfl
            have ma := set_other (i := 2) ma (show w.heap.size ≠ gx by omega) (.int .i64 e1)
            have mb := set_other (i := 2) mb (show w.heap.size + 1 ≠ gx by omega) (.int .i64 e1)
            have my := set_other (i := 2) my (show gy ≠ gx by omega) (.int .i64 e1)
            have rx := rx.setNe (p := ⟨gx, 2, none⟩) hnxx (.int .i64 e1)
            have ry := ry.setNe (p := ⟨gx, 2, none⟩) hnyx (.int .i64 e1)
            have hB := hB.setCell (p := ⟨gx, 2, none⟩) hkgx (.int .i64 e1)
            obtain ⟨x0, x1, x2⟩ := box3_of ma
            obtain ⟨x3, x4, x5⟩ := box3_of mb
            refine hK.out _ _ ⟨x0, x1, x2, x3, x4, x5⟩ (fun _ => ?_)
            clear hK K x0 x1 x2 x3 x4 x5
            try simp only [Act.put, List.setIfInBounds_toArray, List.set_cons_zero, List.set_cons_succ]
            refine wpAnyH_ready (rs := [7]) (by kernel_rfl) (by simp) (AllReadyH.cons (o := ⟨_, _, _, _, _, _⟩) rfl (fun K hK => ?_) AllReadyH.nil)
            obtain ⟨t0, t1, t2⟩ := box3_of my
            have f0 := frozen_of 0 my
            have f1 := frozen_of 1 my
            have f2 := frozen_of 2 my
            go_simp
            clear t0 t1 t2 f0 f1 f2
            have my := set_blk (v := .bool nb) (i := 0) my rfl
            have ma := set_other (i := 0) ma (show w.heap.size ≠ gy by omega) (.bool nb)
            have mb := set_other (i := 0) mb (show w.heap.size + 1 ≠ gy by omega) (.bool nb)
            have mx := set_other (i := 0) mx (show gx ≠ gy by omega) (.bool nb)
            have rx := rx.setNe (p := ⟨gy, 0, none⟩) hnxy (.bool nb)
            have ry := ry.setNe (p := ⟨gy, 0, none⟩) hnyy (.bool nb)
            have hB := hB.setCell (p := ⟨gy, 0, none⟩) hkgy (.bool nb)
            have my := set_blk (v := .slice A2 m c2) (i := 1) my rfl
            have ma := set_other (i := 1) ma (show w.heap.size ≠ gy by omega) (.slice A2 m c2)
            have mb := set_other (i := 1) mb (show w.heap.size + 1 ≠ gy by omega) (.slice A2 m c2)
            have mx := set_other (i := 1) mx (show gx ≠ gy by omega) (.slice A2 m c2)
            have rx := rx.setNe (p := ⟨gy, 1, none⟩) hnxy (.slice A2 m c2)
            have ry := ry.setNe (p := ⟨gy, 1, none⟩) hnyy (.slice A2 m c2)
            have hB := hB.setCell (p := ⟨gy, 1, none⟩) hkgy (.slice A2 m c2)
            have my := set_blk (v := .int .i64 e2) (i := 2) my rfl
            have ma := set_other (i := 2) ma (show w.heap.size ≠ gy by omega) (.int .i64 e2)
            have mb := set_other (i := 2) mb (show w.heap.size + 1 ≠ gy by omega) (.int .i64 e2)
            have mx := set_other (i := 2) mx (show gx ≠ gy by omega) (.int .i64 e2)
            have rx := rx.setNe (p := ⟨gy, 2, none⟩) hnxy (.int .i64 e2)
            have ry := ry.setNe (p := ⟨gy, 2, none⟩) hnyy (.int .i64 e2)
            have hB := hB.setCell (p := ⟨gy, 2, none⟩) hkgy (.int .i64 e2)
            obtain ⟨x0, x1, x2⟩ := box3_of ma
            obtain ⟨x3, x4, x5⟩ := box3_of mb
            refine hK.out _ _ ⟨x0, x1, x2, x3, x4, x5⟩ (fun _ => ?_)
            clear hK K x0 x1 x2 x3 x4 x5
            try simp only [Act.put, List.setIfInBounds_toArray, List.set_cons_zero, List.set_cons_succ]
            refine wpAnyH_done (by kernel_rfl) ?_ _
            go_wp2
            go_meet
            exact ⟨gx, gy, A1, c1, A2, c2, rfl, rfl, hne, mx, my, hkgx, hkgy, rx, ry, hdis, hB⟩
  case rest =>
    obtain ⟨gx, gy, A1, c1, A2, c2, rfl, rfl, hne, mx, my, hkgx, hkgy, rx, ry, hdis, hB⟩ := hcut
    rename_i wc
    have ma := held hB (Array.getElem?_eq_some_iff.1 ma).1 ma
    have mb := held hB (Array.getElem?_eq_some_iff.1 mb).1 mb
    have hw0 := hw.size
    have hw := hw.trans (hB.mono hw.size)
    have hxg : ∀ g, A1 = some ⟨g, 0, none⟩ → w1.heap.size ≤ g ∧ g < wc.heap.size := fun g q => by
      rcases rx.form with ⟨z, _⟩ | ⟨g3, z, z2, z3⟩
      · rw [z] at q; cases q
      · rw [z] at q; injection q with q; injection q with q; omega
    have hyg : ∀ g, A2 = some ⟨g, 0, none⟩ → w1.heap.size ≤ g ∧ g < wc.heap.size := fun g q => by
      rcases ry.form with ⟨z, _⟩ | ⟨g3, z, z2, z3⟩
      · rw [z] at q; cases q
      · rw [z] at q; injection q with q; injection q with q; omega
    clear hB p0 p1 p2 p3 p4 p5
    have hC := Below.refl wc.heap.size wc
    obtain ⟨px0, px1, px2⟩ := box3_of mx
    obtain ⟨py0, py1, py2⟩ := box3_of my
    go_wp2_with fail
    refine (ADD.out wc (fun b => b < wc.heap.size) A1 c1 A2 c2 (rx.rd.more (fun b h => h.2)) (ry.rd.more (fun b h => h.2)) (fun b h => h)).mono ?_
    rintro e w2 ⟨⟨A3, n3, c3, rfl, rs⟩, hb2⟩
    clear px0 px1 px2 py0 py1 py2
    have ma := heldz hb2 ma
    have mb := heldz hb2 mb
    have mx := heldz hb2 mx
    have my := heldz hb2 my
    have rx := rx.below hb2 (Nat.le_refl _)
    have ry := ry.below hb2 (Nat.le_refl _)
    have hw := hw.trans (hb2.mono hw.size)
    have hC := hC.trans (hb2.mono hC.size)
    have ma := heldA (.cells #[.bool N1, .slice A3 n3 c3, .int .i64 X1] 24) ma
    have mb := heldA (.cells #[.bool N1, .slice A3 n3 c3, .int .i64 X1] 24) mb
    have mx := heldA (.cells #[.bool N1, .slice A3 n3 c3, .int .i64 X1] 24) mx
    have my := heldA (.cells #[.bool N1, .slice A3 n3 c3, .int .i64 X1] 24) my
    have ms := World.alloc_heap_new w2 (.cells #[.bool N1, .slice A3 n3 c3, .int .i64 X1] 24)
    obtain ⟨px0, px1, px2⟩ := box3_of mx
    go_wp2_with fail
    clear px0 px1 px2
    have rx := rx.below ((Below.refl w2.heap.size w2).alloc (Nat.le_refl _) (.cells #[.bool N1, .slice A3 n3 c3, .int .i64 X1] 24)) (Nat.le_refl _)
    have ry := ry.below ((Below.refl w2.heap.size w2).alloc (Nat.le_refl _) (.cells #[.bool N1, .slice A3 n3 c3, .int .i64 X1] 24)) (Nat.le_refl _)
    have rs := rs.below ((Below.refl w2.heap.size w2).alloc (Nat.le_refl _) (.cells #[.bool N1, .slice A3 n3 c3, .int .i64 X1] 24)) (Nat.le_refl _)
    have hw := hw.alloc hw.size (.cells #[.bool N1, .slice A3 n3 c3, .int .i64 X1] 24)
    have hC := hC.alloc hC.size (.cells #[.bool N1, .slice A3 n3 c3, .int .i64 X1] 24)
    generalize hV2 : (w2.alloc (.cells #[.bool N1, .slice A3 n3 c3, .int .i64 X1] 24)) = V2 at *
    clear hV2
    have hC1 := hC.size
    refine (NEG.out V2 (fun b => b < V2.heap.size) A1 c1 (rx.rd.more (fun b h => h.2)) (fun b h => h)).mono ?_
    rintro e w3 ⟨⟨A4, n4, c4, rfl, ro⟩, hb3⟩
    have ma := heldz hb3 ma
    have mb := heldz hb3 mb
    have mx := heldz hb3 mx
    have my := heldz hb3 my
    have ms := heldz hb3 ms
    have rx := rx.below hb3 (Nat.le_refl _)
    have ry := ry.below hb3 (Nat.le_refl _)
    have rs := rs.below hb3 (Nat.le_refl _)
    have hw := hw.trans (hb3.mono hw.size)
    have hC := hC.trans (hb3.mono hC.size)
    have hC2 : wc.heap.size ≤ V2.heap.size := hC1
    have ma := heldA (.cells #[.bool N2, .slice A4 n4 c4, .int .i64 X2] 24) ma
    have mb := heldA (.cells #[.bool N2, .slice A4 n4 c4, .int .i64 X2] 24) mb
    have mx := heldA (.cells #[.bool N2, .slice A4 n4 c4, .int .i64 X2] 24) mx
    have my := heldA (.cells #[.bool N2, .slice A4 n4 c4, .int .i64 X2] 24) my
    have ms := heldA (.cells #[.bool N2, .slice A4 n4 c4, .int .i64 X2] 24) ms
    have mo := World.alloc_heap_new w3 (.cells #[.bool N2, .slice A4 n4 c4, .int .i64 X2] 24)
    obtain ⟨px0, px1, px2⟩ := box3_of mx
    go_wp2_with fail
    clear px0 px1 px2
    have rx := rx.below ((Below.refl w3.heap.size w3).alloc (Nat.le_refl _) (.cells #[.bool N2, .slice A4 n4 c4, .int .i64 X2] 24)) (Nat.le_refl _)
    have ry := ry.below ((Below.refl w3.heap.size w3).alloc (Nat.le_refl _) (.cells #[.bool N2, .slice A4 n4 c4, .int .i64 X2] 24)) (Nat.le_refl _)
    have rs := rs.below ((Below.refl w3.heap.size w3).alloc (Nat.le_refl _) (.cells #[.bool N2, .slice A4 n4 c4, .int .i64 X2] 24)) (Nat.le_refl _)
    have ro := ro.below ((Below.refl w3.heap.size w3).alloc (Nat.le_refl _) (.cells #[.bool N2, .slice A4 n4 c4, .int .i64 X2] 24)) (Nat.le_refl _)
    have hw := hw.alloc hw.size (.cells #[.bool N2, .slice A4 n4 c4, .int .i64 X2] 24)
    have hC := hC.alloc hC.size (.cells #[.bool N2, .slice A4 n4 c4, .int .i64 X2] 24)
    generalize hV3 : (w3.alloc (.cells #[.bool N2, .slice A4 n4 c4, .int .i64 X2] 24)) = V3 at *
    clear hV3
    have hsb : ∀ g, A3 = some ⟨g, 0, none⟩ → wc.heap.size ≤ g := fun g q => rs.base_le q
    have hsb2 : ∀ g, A4 = some ⟨g, 0, none⟩ → wc.heap.size ≤ g := fun g q => Nat.le_trans hC2 (ro.base_le q)
    have hnb : ∀ b vs, V3.heap[b]? = some (.cells vs 24) → ∀ g, A1 = some ⟨g, 0, none⟩ → g ≠ b := fun b vs h => rx.ne_box h ty_ne
    have hob : ∀ g, some g = (Value.slice A1 n c1).ownBlock → A1 = some ⟨g, 0, none⟩ := fun g q => rx.ownB q
    refine (Spoil_c V3 rx).mono ?_
    rintro e w4 ⟨⟨vv, rfl⟩, hgr⟩
    have ma := heldG hgr hob (hnb _ _ ma) ma
    have mb := heldG hgr hob (hnb _ _ mb) mb
    have mx := heldG hgr hob (hnb _ _ mx) mx
    have my := heldG hgr hob (hnb _ _ my) my
    have ms := heldG hgr hob (hnb _ _ ms) ms
    have mo := heldG hgr hob (hnb _ _ mo) mo
    have ry := ry.grown hgr (fun g q h => hdis g (hob g h) q)
    have rs := rs.grown hgr (fun g q h => by have h3 := hxg g (hob g h); have h4 := hsb g q; omega)
    have ro := ro.grown hgr (fun g q h => by have h3 := hxg g (hob g h); have h4 := hsb2 g q; omega)
    have hw := hw.grown hgr hw.size (fun g h => by have h3 := hxg g (hob g h.symm); omega)
    clear hgr hnb hob
    obtain ⟨py0, py1, py2⟩ := box3_of my
    go_wp2_with fail
    have hnb : ∀ b vs, w4.heap[b]? = some (.cells vs 24) → ∀ g, A2 = some ⟨g, 0, none⟩ → g ≠ b := fun b vs h => ry.ne_box h ty_ne
    have hob : ∀ g, some g = (Value.slice A2 m c2).ownBlock → A2 = some ⟨g, 0, none⟩ := fun g q => ry.ownB q
    refine (Spoil_c w4 ry).mono ?_
    rintro e w5 ⟨⟨vv, rfl⟩, hgr⟩
    clear py0 py1 py2
    have ma := heldG hgr hob (hnb _ _ ma) ma
    have mb := heldG hgr hob (hnb _ _ mb) mb
    have mx := heldG hgr hob (hnb _ _ mx) mx
    have my := heldG hgr hob (hnb _ _ my) my
    have ms := heldG hgr hob (hnb _ _ ms) ms
    have mo := heldG hgr hob (hnb _ _ mo) mo
    have rs := rs.grown hgr (fun g q h => by have h3 := hyg g (hob g h); have h4 := hsb g q; omega)
    have ro := ro.grown hgr (fun g q h => by have h3 := hyg g (hob g h); have h4 := hsb2 g q; omega)
    have hw := hw.grown hgr hw.size (fun g h => by have h3 := hyg g (hob g h.symm); omega)
    clear hgr hnb hob
    obtain ⟨pa0, pa1, pa2⟩ := box3_of ma
    obtain ⟨pb0, pb1, pb2⟩ := box3_of mb
    go_wp2_with fail
    refine (RADD.out _ (ha.below hw hS) (hb.below hw hS) (up hw)).mono ?_
    rintro e w6 ⟨⟨A5, n5, c5, rfl, rt⟩, hb6⟩
    clear pa0 pa1 pa2 pb0 pb1 pb2
    have ma := heldz hb6 ma
    have mb := heldz hb6 mb
    have mx := heldz hb6 mx
    have my := heldz hb6 my
    have ms := heldz hb6 ms
    have mo := heldz hb6 mo
    have rs := rs.below hb6 (Nat.le_refl _)
    have ro := ro.below hb6 (Nat.le_refl _)
    have hw := hw.trans (hb6.mono hw.size)
    have ma := heldA (.cells #[.bool N1, .slice A5 n5 c5, .int .i64 X1] 24) ma
    have mb := heldA (.cells #[.bool N1, .slice A5 n5 c5, .int .i64 X1] 24) mb
    have mx := heldA (.cells #[.bool N1, .slice A5 n5 c5, .int .i64 X1] 24) mx
    have my := heldA (.cells #[.bool N1, .slice A5 n5 c5, .int .i64 X1] 24) my
    have ms := heldA (.cells #[.bool N1, .slice A5 n5 c5, .int .i64 X1] 24) ms
    have mo := heldA (.cells #[.bool N1, .slice A5 n5 c5, .int .i64 X1] 24) mo
    have mt := World.alloc_heap_new w6 (.cells #[.bool N1, .slice A5 n5 c5, .int .i64 X1] 24)
    obtain ⟨pa0, pa1, pa2⟩ := box3_of ma
    go_wp2_with fail
    clear pa0 pa1 pa2
    have rs := rs.below ((Below.refl w6.heap.size w6).alloc (Nat.le_refl _) (.cells #[.bool N1, .slice A5 n5 c5, .int .i64 X1] 24)) (Nat.le_refl _)
    have ro := ro.below ((Below.refl w6.heap.size w6).alloc (Nat.le_refl _) (.cells #[.bool N1, .slice A5 n5 c5, .int .i64 X1] 24)) (Nat.le_refl _)
    have rt := rt.below ((Below.refl w6.heap.size w6).alloc (Nat.le_refl _) (.cells #[.bool N1, .slice A5 n5 c5, .int .i64 X1] 24)) (Nat.le_refl _)
    have hw := hw.alloc hw.size (.cells #[.bool N1, .slice A5 n5 c5, .int .i64 X1] 24)
    generalize hV6 : (w6.alloc (.cells #[.bool N1, .slice A5 n5 c5, .int .i64 X1] 24)) = V6 at *
    clear hV6
    refine (RNEG.out _ (ha.below hw hS) (up hw)).mono ?_
    rintro e w7 ⟨⟨A6, n6, c6, rfl, ru⟩, hb7⟩
    have ma := heldz hb7 ma
    have mb := heldz hb7 mb
    have mx := heldz hb7 mx
    have my := heldz hb7 my
    have ms := heldz hb7 ms
    have mo := heldz hb7 mo
    have mt := heldz hb7 mt
    have rs := rs.below hb7 (Nat.le_refl _)
    have ro := ro.below hb7 (Nat.le_refl _)
    have rt := rt.below hb7 (Nat.le_refl _)
    have hw := hw.trans (hb7.mono hw.size)
    have ma := heldA (.cells #[.bool N2, .slice A6 n6 c6, .int .i64 X2] 24) ma
    have mb := heldA (.cells #[.bool N2, .slice A6 n6 c6, .int .i64 X2] 24) mb
    have mx := heldA (.cells #[.bool N2, .slice A6 n6 c6, .int .i64 X2] 24) mx
    have my := heldA (.cells #[.bool N2, .slice A6 n6 c6, .int .i64 X2] 24) my
    have ms := heldA (.cells #[.bool N2, .slice A6 n6 c6, .int .i64 X2] 24) ms
    have mo := heldA (.cells #[.bool N2, .slice A6 n6 c6, .int .i64 X2] 24) mo
    have mt := heldA (.cells #[.bool N2, .slice A6 n6 c6, .int .i64 X2] 24) mt
    have mu := World.alloc_heap_new w7 (.cells #[.bool N2, .slice A6 n6 c6, .int .i64 X2] 24)
    obtain ⟨ps0, ps1, ps2⟩ := box3_of ms
    obtain ⟨pt0, pt1, pt2⟩ := box3_of mt
    go_wp2_with fail
    clear ps0 ps1 ps2 pt0 pt1 pt2
    have rs := rs.below ((Below.refl w7.heap.size w7).alloc (Nat.le_refl _) (.cells #[.bool N2, .slice A6 n6 c6, .int .i64 X2] 24)) (Nat.le_refl _)
    have ro := ro.below ((Below.refl w7.heap.size w7).alloc (Nat.le_refl _) (.cells #[.bool N2, .slice A6 n6 c6, .int .i64 X2] 24)) (Nat.le_refl _)
    have rt := rt.below ((Below.refl w7.heap.size w7).alloc (Nat.le_refl _) (.cells #[.bool N2, .slice A6 n6 c6, .int .i64 X2] 24)) (Nat.le_refl _)
    have ru := ru.below ((Below.refl w7.heap.size w7).alloc (Nat.le_refl _) (.cells #[.bool N2, .slice A6 n6 c6, .int .i64 X2] 24)) (Nat.le_refl _)
    have hw := hw.alloc hw.size (.cells #[.bool N2, .slice A6 n6 c6, .int .i64 X2] 24)
    generalize hV7 : (w7.alloc (.cells #[.bool N2, .slice A6 n6 c6, .int .i64 X2] 24)) = V7 at *
    clear hV7
    refine (S1.out _ _ _ _ _ _ _ _ _ rs.rd rt.rd (fun b h => h.2) (fun b h => h.2) rs.lt rt.lt).mono ?_
    rintro e w8 ⟨rfl, hb8⟩
    have ma := heldz hb8 ma
    have mb := heldz hb8 mb
    have mx := heldz hb8 mx
    have my := heldz hb8 my
    have ms := heldz hb8 ms
    have mo := heldz hb8 mo
    have mt := heldz hb8 mt
    have mu := heldz hb8 mu
    have rs := rs.below hb8 (Nat.le_refl _)
    have ro := ro.below hb8 (Nat.le_refl _)
    have rt := rt.below hb8 (Nat.le_refl _)
    have ru := ru.below hb8 (Nat.le_refl _)
    have hw := hw.trans (hb8.mono hw.size)
    obtain ⟨po0, po1, po2⟩ := box3_of mo
    obtain ⟨pu0, pu1, pu2⟩ := box3_of mu
    go_wp2_with (first
      | (go_at_call 25; refine (num2_c _ _).mono ?_; rintro e w' ⟨rfl, rfl⟩)
      | fail)
    refine (S2.out _ _ _ _ _ _ _ _ _ ro.rd ru.rd (fun b h => h.2) (fun b h => h.2) ro.lt ru.lt).mono ?_
    rintro e w9 ⟨rfl, hb9⟩
    clear po0 po1 po2 pu0 pu1 pu2
    have ma := heldz hb9 ma
    have mb := heldz hb9 mb
    have mx := heldz hb9 mx
    have my := heldz hb9 my
    have ms := heldz hb9 ms
    have mo := heldz hb9 mo
    have mt := heldz hb9 mt
    have mu := heldz hb9 mu
    have rs := rs.below hb9 (Nat.le_refl _)
    have ro := ro.below hb9 (Nat.le_refl _)
    have rt := rt.below hb9 (Nat.le_refl _)
    have ru := ru.below hb9 (Nat.le_refl _)
    have hw := hw.trans (hb9.mono hw.size)
    go_wp2_with (go_at_call 25; refine (num2_c _ _).mono ?_; rintro e w' ⟨rfl, rfl⟩)
    go_ret
    exact ⟨rfl, hw⟩
end Go.Proofs.YtkcejhjhpbgjaaaGreatDoor
