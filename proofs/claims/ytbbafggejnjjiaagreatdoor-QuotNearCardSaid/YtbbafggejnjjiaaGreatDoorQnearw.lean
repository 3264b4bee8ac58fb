/-
  The walk of the law QuotNear: it returns true, whatever the decimal reads as. Written by gen_near.py.
-/
import Derived.Test.YtbbafggejnjjiaaGreatDoorQnear
import Derived.Test.YtbbafggejnjjiaaGreatDoorQord
import Derived.Test.YtbbafggejnjjiaaGreatDoorDrsub
import Derived.Test.YtbbafggejnjjiaaGreatDoorDrin
set_option linter.unusedVariables false
set_option linter.unusedSimpArgs false
namespace Go.Proofs.YtbbafggejnjjiaaGreatDoor
open Go.RowKit

theorem DSame_t {S S' : Nat → Prop} {n m c d : Nat} {A B : Option Addr} {xs ys : List Nat} {na nb : Bool} {e1 e2 : Int} (w : World) (h : na = nb ∧ e1 = e2 ∧ xs = ys) (ha : Rd w S A n xs) (hb : Rd w S' B m ys) (hS : ∀ b, S b → b < w.heap.size) (hS' : ∀ b, S' b → b < w.heap.size) (hn : n ≤ 9223372036854775807) (hm : m ≤ 9223372036854775807) :
    Calls Tryz.prog 21 #[dv na A n c e1, dv nb B m d e2] w fun e w' => e = .returned (.bool true) ∧ Below w.heap.size w w' := by
  have h1 := DSame_c (c := c) (d := d) na nb e1 e2 w ha hb hS hS' hn hm
  rw [decide_eq_true h] at h1
  exact h1
theorem DSame_f {S S' : Nat → Prop} {n m c d : Nat} {A B : Option Addr} {xs ys : List Nat} {na nb : Bool} {e1 e2 : Int} (w : World) (h : ¬ (na = nb ∧ e1 = e2 ∧ xs = ys)) (ha : Rd w S A n xs) (hb : Rd w S' B m ys) (hS : ∀ b, S b → b < w.heap.size) (hS' : ∀ b, S' b → b < w.heap.size) (hn : n ≤ 9223372036854775807) (hm : m ≤ 9223372036854775807) :
    Calls Tryz.prog 21 #[dv na A n c e1, dv nb B m d e2] w fun e w' => e = .returned (.bool false) ∧ Below w.heap.size w w' := by
  have h1 := DSame_c (c := c) (d := d) na nb e1 e2 w ha hb hS hS' hn hm
  rw [decide_eq_false h] at h1
  exact h1
theorem ok_one : okB false [1] 0 = true := by decide
theorem ok_zero : okB false [] 0 = true := by decide
theorem int_one : stN (decide ((1 : Int) < 0)) (1 : Int).natAbs 0 = false ∧ stX (1 : Int).natAbs 0 = 0 ∧ stZ (1 : Int).natAbs 0 = [1] := by decide
theorem told_near {e : Ending} {w' : World} {base E0 : Nat} {s : Bool} {Z : Nat} {lo : Int} {E : Nat} {P : Nat → Bool → Nat → Int → Prop} (hP : Chk E P E0 s Z lo) (hE : E = 0) (hw : P E0 s Z lo → E0 = 0 ∧ lo = 0) (h : Told e w' base E0 s Z lo) :
    P E0 s Z lo ∧ ∃ A n c N X L E, e = .returned (.tuple #[dv N A n c X, .int .i64 ((E : Nat) : Int)]) ∧ Rd w' (fun b => b < w'.heap.size) A n L ∧ n ≤ 9223372036854775807 ∧ okB N L X = true ∧ E ≤ 100 ∧
      (E = 0 → sv N (val L) X = sg s Z * (sp 0 : Int) ∧ 0 ≤ X) := by
  rcases hP with ⟨h1, _⟩ | ⟨_, h1⟩
  · exact absurd hE h1
  · obtain ⟨h2, h3⟩ := hw h1
    refine ⟨h1, ?_⟩
    subst h3
    obtain ⟨A, n, c, N, X, L, F, he, hr, hc⟩ := told_cases h (by omega)
    refine ⟨A, n, c, N, X, L, F, he, hr.all, hr.small, ?_⟩
    rcases hc with ⟨_, hF0, _, _, _, _, o, _, hv, hx⟩ | ⟨g1, g2, g3, g4, g5, _⟩
    · refine ⟨o, by omega, fun _ => ⟨hv, ?_⟩⟩
      rcases Nat.eq_zero_or_pos Z with h4 | h4
      · rw [h4, sg_zero, Int.zero_mul, sv_zero_iff] at hv
        rcases okB_cases hr.l32 o with ⟨_, _, h5⟩ | ⟨h5, _⟩
        · omega
        · omega
      · exact hx h4
    · subst g2 g3 g4
      refine ⟨by decide, ?_, fun h => absurd h g1⟩
      rw [g5 h2]
      unfold stE
      split
      · omega
      · split
        · omega
        · split <;> omega
set_option maxRecDepth 100000 in
set_option maxHeartbeats 8000000 in
theorem QuotNear_c {S : Nat → Prop} {n c : Nat} {A : Option Addr} {xs : List Nat} (na : Bool) (e1 : Int) (w : World) (ha : Rd w S A n xs)
    (hS : ∀ b, S b → b < w.heap.size) (hn : n ≤ 9223372036854775807) :
    Calls Tryz.prog 4 #[dv na A n c e1] w fun e w' => e = .returned (.bool true) ∧ Below w.heap.size w w' := by
  have up : ∀ {V : World}, Below w.heap.size w V → ∀ b, b < w.heap.size → b < V.heap.size := fun h b hb => by have := h.size; omega
  have hW : Below w.heap.size w (w.alloc (.cells #[.bool na, .slice A n c, .int .i64 e1] 24)) := (Below.refl w.heap.size w).alloc (Nat.le_refl _) _
  have ma := World.alloc_heap_new w (.cells #[.bool na, .slice A n c, .int .i64 e1] 24)
  unfold dv
  go_enter Tryz.func4, Tryz.ntmps4
  go_wp2_with fail
  generalize (w.alloc (.cells #[.bool na, .slice A n c, .int .i64 e1] 24)) = W at ma hW ⊢
  refine (alive3_c W).mono ?_
  rintro e w0 ⟨rfl, hb0⟩
  have ma := heldz hb0 ma
  have hB := hW.trans (hb0.mono hW.size)
  have ra : Rd w0 (fun b => b < w0.heap.size) A n xs := (ha.below hB hS).more (fun b h => up hB b (hS b h))
  clear hW hb0 ha hS up
  rcases okE_cases na xs e1 with ⟨hok, k1⟩ | ⟨hok, k1⟩
  · skip
    obtain ⟨xa0, xa1, xa2⟩ := box3_of ma
    go_wp2_with fail
    clear xa0 xa1 xa2
    have H := QFloor_c (c := c) na e1 w0 ra (fun b h => h) hn
    (try unfold dv at H)
    (try unfold nv at H)
    refine H.mono ?_
    rintro e w1 ⟨⟨E0, s0, Z1, lo0, hP, ht⟩, hb0⟩
    clear H
    have ma := heldz hb0 ma
    have ra := ra.step hb0
    have hB := hB.trans (hb0.mono hB.size)
    clear hb0
    obtain ⟨⟨-, hs, hZ1, -⟩, A1, n1, c1, N1, X1, L1, E1, rfl, r1, hn1, o1, eb1, hv1⟩ := told_near hP hok (fun h => ⟨h.1, h.2.2.2⟩) ht
    rw [hs] at hv1
    have HZ1 := Lib.hid hZ1
    have HV1 := Lib.hid hv1
    clear hP ht hs hZ1 hv1
    dsimp only [dv]
    go_upto_region 4 with fail
    have hal : Below w1.heap.size w1 (w1.alloc (.cells #[.bool N1, .slice A1 n1 c1, .int .i64 X1] 24)) := (Below.refl _ _).alloc (Nat.le_refl _) _
    have ma := heldz hal ma
    have ra := ra.step hal
    have r1 := r1.step hal
    have m1 := World.alloc_heap_new w1 (.cells #[.bool N1, .slice A1 n1 c1, .int .i64 X1] 24)
    have hB := hB.trans (hal.mono hB.size)
    clear hal
    generalize w1.alloc (.cells #[.bool N1, .slice A1 n1 c1, .int .i64 X1] 24) = w2 at ma m1 ra r1  hB ⊢
    obtain ⟨xa0, xa1, xa2⟩ := box3_of ma
    go_wp2_with fail
    clear xa0 xa1 xa2
    have H := QCeil_c (c := c) na e1 w2 ra (fun b h => h) hn
    (try unfold dv at H)
    (try unfold nv at H)
    refine H.mono ?_
    rintro e w3 ⟨⟨E0, s0, Z2, lo0, hP, ht⟩, hb0⟩
    clear H
    have ma := heldz hb0 ma
    have m1 := heldz hb0 m1
    have ra := ra.step hb0
    have r1 := r1.step hb0
    have hB := hB.trans (hb0.mono hB.size)
    clear hb0
    obtain ⟨⟨-, hs, hZ2, -⟩, A2, n2, c2, N2, X2, L2, E2, rfl, r2, hn2, o2, eb2, hv2⟩ := told_near hP hok (fun h => ⟨h.1, h.2.2.2⟩) ht
    rw [hs] at hv2
    have HZ2 := Lib.hid hZ2
    have HV2 := Lib.hid hv2
    clear hP ht hs hZ2 hv2
    dsimp only [dv]
    go_upto_region 5 with fail
    have hal : Below w3.heap.size w3 (w3.alloc (.cells #[.bool N2, .slice A2 n2 c2, .int .i64 X2] 24)) := (Below.refl _ _).alloc (Nat.le_refl _) _
    have ma := heldz hal ma
    have m1 := heldz hal m1
    have ra := ra.step hal
    have r1 := r1.step hal
    have r2 := r2.step hal
    have m2 := World.alloc_heap_new w3 (.cells #[.bool N2, .slice A2 n2 c2, .int .i64 X2] 24)
    have hB := hB.trans (hal.mono hB.size)
    clear hal
    generalize w3.alloc (.cells #[.bool N2, .slice A2 n2 c2, .int .i64 X2] 24) = w4 at ma m1 m2 ra r1 r2  hB ⊢
    obtain ⟨xa0, xa1, xa2⟩ := box3_of ma
    go_wp2_with fail
    clear xa0 xa1 xa2
    have H := QRound_c (c := c) na e1 w4 ra (fun b h => h) hn
    (try unfold dv at H)
    (try unfold nv at H)
    refine H.mono ?_
    rintro e w5 ⟨⟨E0, s0, Z3, lo0, hP, ht⟩, hb0⟩
    clear H
    have ma := heldz hb0 ma
    have m1 := heldz hb0 m1
    have m2 := heldz hb0 m2
    have ra := ra.step hb0
    have r1 := r1.step hb0
    have r2 := r2.step hb0
    have hB := hB.trans (hb0.mono hB.size)
    clear hb0
    obtain ⟨⟨-, hs, hZ3, -⟩, A3, n3, c3, N3, X3, L3, E3, rfl, r3, hn3, o3, eb3, hv3⟩ := told_near hP hok (fun h => ⟨h.1, h.2.2.2⟩) ht
    rw [hs] at hv3
    have HZ3 := Lib.hid hZ3
    have HV3 := Lib.hid hv3
    clear hP ht hs hZ3 hv3
    dsimp only [dv]
    go_upto_region 6 with fail
    have hal : Below w5.heap.size w5 (w5.alloc (.cells #[.bool N3, .slice A3 n3 c3, .int .i64 X3] 24)) := (Below.refl _ _).alloc (Nat.le_refl _) _
    have ma := heldz hal ma
    have m1 := heldz hal m1
    have m2 := heldz hal m2
    have ra := ra.step hal
    have r1 := r1.step hal
    have r2 := r2.step hal
    have r3 := r3.step hal
    have m3 := World.alloc_heap_new w5 (.cells #[.bool N3, .slice A3 n3 c3, .int .i64 X3] 24)
    have hB := hB.trans (hal.mono hB.size)
    clear hal
    generalize w5.alloc (.cells #[.bool N3, .slice A3 n3 c3, .int .i64 X3] 24) = w6 at ma m1 m2 m3 ra r1 r2 r3  hB ⊢
    have hck := fun V (h1 : Rd V (fun b => b < V.heap.size) A n xs) => RCheck_c (c := c) na e1 V h1 (fun b h => h) hn
    rw [hok] at hck
    unfold dv at hck
    have HCK := Lib.hid hck
    clear hck
    obtain ⟨xa0, xa1, xa2⟩ := box3_of ma
    go_wp2_with fail
    refine (HCK.out w6 ra).mono ?_
    rintro e w7 ⟨rfl, hb0⟩
    clear xa0 xa1 xa2
    have ma := heldz hb0 ma
    have m1 := heldz hb0 m1
    have m2 := heldz hb0 m2
    have m3 := heldz hb0 m3
    have ra := ra.step hb0
    have r1 := r1.step hb0
    have r2 := r2.step hb0
    have r3 := r3.step hb0
    have hB := hB.trans (hb0.mono hB.size)
    clear hb0
    obtain ⟨xa0, xa1, xa2⟩ := box3_of ma
    obtain ⟨x10, x11, x12⟩ := box3_of m1
    obtain ⟨x20, x21, x22⟩ := box3_of m2
    by_cases hE : E1 = 0 ∧ E2 = 0 ∧ E3 = 0
    rotate_left
    · have hsum : (((E1 : Nat) : Int) + ((E2 : Nat) : Int) + ((E3 : Nat) : Int) != 0) = true := by rw [bne_iff_ne]; omega
      clear hE HZ1 HZ2 HZ3 HV1 HV2 HV3
      go_wp2_with (go_at_call 22; refine (num3_c _ _).mono ?_; rintro e w' ⟨rfl, rfl⟩)
      refine (HCK.out w7 ra).mono ?_
      rintro e v1 ⟨rfl, hb0⟩
      go_wp2
      go_ret
      exact ⟨rfl, hB.trans (hb0.mono hB.size)⟩
    obtain ⟨rfl, rfl, rfl⟩ := hE
    go_wp2_with (go_at_call 22; refine (num3_c _ _).mono ?_; rintro e w' ⟨rfl, rfl⟩)
    clear xa0 xa1 xa2 x10 x11 x12 x20 x21 x22
    obtain ⟨_, _, _, a4, _, _⟩ := okB_true ra.l32 k1
    obtain ⟨v1', p1⟩ := HV1.out (by simp)
    obtain ⟨v2', p2⟩ := HV2.out (by simp)
    obtain ⟨v3', -⟩ := HV3.out (by simp)
    obtain ⟨l1, l2, l3, l4⟩ := near_law (na := na) a4.1 HZ1.out HZ2.out HZ3.out
    rw [← v1', ← v2'] at l3
    rw [← v1'] at l1
    rw [← v2'] at l2
    rw [← v1', ← v2'] at l4
    have b1 := (okB_true r1.l32 o1).2.2.2.1
    have b2 := (okB_true r2.l32 o2).2.2.2.1
    -- the facts of both cases
    have hcase : (sv N1 (val L1) X1 = sv na (val xs) e1 ∧ sv N2 (val L2) X2 = sv na (val xs) e1 ∧ sv N3 (val L3) X3 = sv N1 (val L1) X1) ∨
        (sv N1 (val L1) X1 ≠ sv na (val xs) e1 ∧ sv N2 (val L2) X2 - sv N1 (val L1) X1 = sv false 1 0 ∧ (sv N3 (val L3) X3 = sv N1 (val L1) X1 ∨ sv N3 (val L3) X3 = sv N2 (val L2) X2)) := by
      by_cases h0 : wr (val xs) e1 = 0
      · left
        obtain ⟨h1, h2, h3⟩ := l3 h0
        exact ⟨h1, h2, by rw [v3', h3, v1']⟩
      · right
        obtain ⟨h1, h2, h3⟩ := l4 h0
        refine ⟨h1, by rw [h2]; unfold sv sg; simp, ?_⟩
        rcases h3 with h3 | h3
        · left; rw [v3', h3, v1']
        · right; rw [v3', h3, v2']
    have HCASE := Lib.hid hcase
    have HL1 := Lib.hid l1
    have HL2 := Lib.hid l2
    clear hcase l1 l2 l3 l4 v1' v2' v3' HZ1 HZ2 HZ3 HV1 HV2 HV3 a4 HCK eb1 eb2 eb3
    have H := RSub_v (c := c2) (d := c1) N2 N1 X2 X1 w7 r2 r1 (fun b h => h) hn2 hn1
    (try unfold dv at H)
    (try unfold nv at H)
    refine H.mono ?_
    rintro e w8 ⟨ht, hb0⟩
    clear H
    have ma := heldz hb0 ma
    have m1 := heldz hb0 m1
    have m2 := heldz hb0 m2
    have m3 := heldz hb0 m3
    have ra := ra.step hb0
    have r1 := r1.step hb0
    have r2 := r2.step hb0
    have r3 := r3.step hb0
    have hB := hB.trans (hb0.mono hB.size)
    clear hb0
    have hk2 : okE2 N2 L2 X2 N1 L1 X1 = 0 := okE2_zero.2 ⟨o2, o1⟩
    rw [hk2] at ht
    have hdv : sg (addS N2 (val L2) X2 (ops N1 L1) (val L1) X1) (addZ N2 (val L2) X2 (ops N1 L1) (val L1) X1) * (sp (lo2 X2 X1) : Int) = sv N2 (val L2) X2 - sv N1 (val L1) X1 := by
      rw [add_sv _ _ _ _ _ _ (by omega) (by omega), ops_sv]; omega
    obtain ⟨A4, n4, c4, rfl, ht4⟩ := ht
    have hd4 : opE 0 (addZ N2 (val L2) X2 (ops N1 L1) (val L1) X1) (lo2 X2 X1) = 0 ∧ (sv N1 (val L1) X1 ≠ sv na (val xs) e1 → opN 0 (addS N2 (val L2) X2 (ops N1 L1) (val L1) X1) (addZ N2 (val L2) X2 (ops N1 L1) (val L1) X1) (lo2 X2 X1) = false ∧ opX 0 (addZ N2 (val L2) X2 (ops N1 L1) (val L1) X1) (lo2 X2 X1) = 0 ∧ opZ 0 (addZ N2 (val L2) X2 (ops N1 L1) (val L1) X1) (lo2 X2 X1) = [1]) := by
      rcases HCASE.out with ⟨h1, h2, _⟩ | ⟨h1, h2, _⟩
      · have hb := settle_back (na := false) (xs := []) (e1 := 0) L32.nil ok_zero (by unfold lo2; omega) (hdv.trans (by rw [h1, h2, Int.sub_self]; exact (sv_zero_iff.2 rfl).symm))
        exact ⟨hb.1, fun h => absurd h1 h⟩
      · have hb := settle_back (na := false) (xs := [1]) (e1 := 0) (L32.cons.2 ⟨by omega, L32.nil⟩) ok_one (by unfold lo2; omega) (hdv.trans h2)
        exact ⟨hb.1, fun _ => ⟨hb.2.1, hb.2.2.1, hb.2.2.2⟩⟩
    obtain ⟨hE4, hD4⟩ := hd4
    rw [hE4]
    generalize opN 0 (addS N2 (val L2) X2 (ops N1 L1) (val L1) X1) (addZ N2 (val L2) X2 (ops N1 L1) (val L1) X1) (lo2 X2 X1) = N4 at *
    generalize opX 0 (addZ N2 (val L2) X2 (ops N1 L1) (val L1) X1) (lo2 X2 X1) = X4 at *
    generalize opZ 0 (addZ N2 (val L2) X2 (ops N1 L1) (val L1) X1) (lo2 X2 X1) = L4 at *
    have r4 := ht4.all
    have hn4 := ht4.small
    have HD4 := Lib.hid hD4
    clear ht4 hdv hE4 hD4 hk2
    dsimp only [dv]
    go_upto_region 9 with fail
    have hal : Below w8.heap.size w8 (w8.alloc (.cells #[.bool N4, .slice A4 n4 c4, .int .i64 X4] 24)) := (Below.refl _ _).alloc (Nat.le_refl _) _
    have ma := heldz hal ma
    have m1 := heldz hal m1
    have m2 := heldz hal m2
    have m3 := heldz hal m3
    have ra := ra.step hal
    have r1 := r1.step hal
    have r2 := r2.step hal
    have r3 := r3.step hal
    have r4 := r4.step hal
    have m4 := World.alloc_heap_new w8 (.cells #[.bool N4, .slice A4 n4 c4, .int .i64 X4] 24)
    have hB := hB.trans (hal.mono hB.size)
    clear hal
    generalize w8.alloc (.cells #[.bool N4, .slice A4 n4 c4, .int .i64 X4] 24) = w9 at ma m1 m2 m3 m4 ra r1 r2 r3 r4  hB ⊢
    obtain ⟨xa0, xa1, xa2⟩ := box3_of ma
    obtain ⟨x10, x11, x12⟩ := box3_of m1
    obtain ⟨x20, x21, x22⟩ := box3_of m2
    have hord1 := order3_c (c := c1) (d := c) N1 na X1 e1 w9 r1 ra (fun b h => h) o1 k1
    have hord2 := fun V (h1 : Rd V (fun b => b < V.heap.size) A2 n2 L2) (h2 : Rd V (fun b => b < V.heap.size) A n xs) => order3_c (c := c2) (d := c) N2 na X2 e1 V h1 h2 (fun b h => h) o2 k1
    unfold dv at hord1 hord2
    have hc1 : cmpI (sv N1 (val L1) X1) (sv na (val xs) e1) ≤ 0 := by
      have := HL1.out
      unfold cmpI
      split
      · omega
      · first | omega | (split <;> omega)
    have hc2 : 0 ≤ cmpI (sv N2 (val L2) X2) (sv na (val xs) e1) := by
      have := HL2.out
      unfold cmpI
      split
      · omega
      · first | omega | (split <;> omega)
    generalize cmpI (sv N1 (val L1) X1) (sv na (val xs) e1) = C1 at *
    generalize cmpI (sv N2 (val L2) X2) (sv na (val xs) e1) = C2 at *
    have HORD2 := Lib.hid hord2
    clear hord2 HL1 HL2
    go_wp2_with fail
    clear xa0 xa1 xa2 x10 x11 x12 x20 x21 x22
    refine hord1.mono ?_
    rintro e w10 ⟨rfl, hb0⟩
    have ma := heldz hb0 ma
    have m1 := heldz hb0 m1
    have m2 := heldz hb0 m2
    have m3 := heldz hb0 m3
    have m4 := heldz hb0 m4
    have ra := ra.step hb0
    have r1 := r1.step hb0
    have r2 := r2.step hb0
    have r3 := r3.step hb0
    have r4 := r4.step hb0
    have hB := hB.trans (hb0.mono hB.size)
    clear hb0
    clear hord1
    obtain ⟨xa0, xa1, xa2⟩ := box3_of ma
    obtain ⟨x10, x11, x12⟩ := box3_of m1
    obtain ⟨x20, x21, x22⟩ := box3_of m2
    go_wp2_with fail
    clear xa0 xa1 xa2 x10 x11 x12 x20 x21 x22
    refine (HORD2.out w10 r2 ra).mono ?_
    rintro e w11 ⟨rfl, hb0⟩
    have ma := heldz hb0 ma
    have m1 := heldz hb0 m1
    have m2 := heldz hb0 m2
    have m3 := heldz hb0 m3
    have m4 := heldz hb0 m4
    have ra := ra.step hb0
    have r1 := r1.step hb0
    have r2 := r2.step hb0
    have r3 := r3.step hb0
    have r4 := r4.step hb0
    have hB := hB.trans (hb0.mono hB.size)
    clear hb0
    clear HORD2
    obtain ⟨xa0, xa1, xa2⟩ := box3_of ma
    obtain ⟨x10, x11, x12⟩ := box3_of m1
    obtain ⟨x20, x21, x22⟩ := box3_of m2
    have hcase : (N1 = na ∧ X1 = e1 ∧ L1 = xs) ∧ (N2 = na ∧ X2 = e1 ∧ L2 = xs) ∧ (N3 = N1 ∧ X3 = X1 ∧ L3 = L1) ∨
        ¬ (N1 = na ∧ X1 = e1 ∧ L1 = xs) ∧ (N4 = false ∧ X4 = 0 ∧ L4 = [1]) ∧ ((N3 = N1 ∧ X3 = X1 ∧ L3 = L1) ∨ (N3 = N2 ∧ X3 = X2 ∧ L3 = L2)) := by
      rcases HCASE.out with ⟨h1, h2, h3⟩ | ⟨h1, _, h3⟩
      · exact .inl ⟨sv_inj r1.l32 ra.l32 o1 k1 h1, sv_inj r2.l32 ra.l32 o2 k1 h2, sv_inj r3.l32 r1.l32 o3 o1 h3⟩
      · refine .inr ⟨fun ⟨h4, h5, h6⟩ => h1 (by rw [h4, h5, h6]), HD4.out h1, ?_⟩
        rcases h3 with h3 | h3
        · exact .inl (sv_inj r3.l32 r1.l32 o3 o1 h3)
        · exact .inr (sv_inj r3.l32 r2.l32 o3 o2 h3)
    have HC := Lib.hid hcase
    clear hcase HCASE HD4
    have hsame : ∃ b, Hid (b = decide (N1 = na ∧ X1 = e1 ∧ L1 = xs)) := ⟨_, Lib.hid rfl⟩
    obtain ⟨SB, hSB⟩ := hsame
    have hsm := fun V (h1 : Rd V (fun b => b < V.heap.size) A1 n1 L1) (h2 : Rd V (fun b => b < V.heap.size) A n xs) => DSame_c (c := c1) (d := c) N1 na X1 e1 V h1 h2 (fun b h => h) (fun b h => h) hn1 hn
    rw [← hSB.out] at hsm
    unfold dv at hsm
    have HSM := Lib.hid hsm
    clear hsm
    go_wp2_with fail
    clear xa0 xa1 xa2 x10 x11 x12 x20 x21 x22
    refine (HSM.out w11 r1 ra).mono ?_
    rintro e w12 ⟨rfl, hb0⟩
    have ma := heldz hb0 ma
    have m1 := heldz hb0 m1
    have m2 := heldz hb0 m2
    have m3 := heldz hb0 m3
    have m4 := heldz hb0 m4
    have ra := ra.step hb0
    have r1 := r1.step hb0
    have r2 := r2.step hb0
    have r3 := r3.step hb0
    have r4 := r4.step hb0
    have hB := hB.trans (hb0.mono hB.size)
    clear hb0
    clear HSM
    go_upto_region 12 with fail
    obtain ⟨G4, hG4⟩ : ∃ g, g = w8.heap.size := ⟨_, rfl⟩
    rw [← hG4] at m4 ⊢
    clear hG4
    rcases HC.out with ⟨hxa, hya, hzx⟩ | ⟨hxa, hd4, hz⟩
    · obtain rfl : SB = true := hSB.out.trans (decide_eq_true hxa)
      have HYA := Lib.hid hya
      have HZX := Lib.hid hzx
      clear hxa hya hzx HC hSB
      obtain ⟨xa0, xa1, xa2⟩ := box3_of ma
      obtain ⟨x10, x11, x12⟩ := box3_of m1
      obtain ⟨x20, x21, x22⟩ := box3_of m2
      obtain ⟨x30, x31, x32⟩ := box3_of m3
      obtain ⟨x40, x41, x42⟩ := box3_of m4
      go_wp2_with fail
      refine wp_region_held_drew (S := fun w' => w'.cell? ⟨w.heap.size, 0, none⟩ = some (.bool na) ∧ w'.cell? ⟨w.heap.size, 1, none⟩ = some (.slice A n c) ∧ w'.cell? ⟨w.heap.size, 2, none⟩ = some (.int .i64 e1) ∧ w'.cell? ⟨w1.heap.size, 0, none⟩ = some (.bool N1) ∧ w'.cell? ⟨w1.heap.size, 1, none⟩ = some (.slice A1 n1 c1) ∧ w'.cell? ⟨w1.heap.size, 2, none⟩ = some (.int .i64 X1) ∧ w'.cell? ⟨w3.heap.size, 0, none⟩ = some (.bool N2) ∧ w'.cell? ⟨w3.heap.size, 1, none⟩ = some (.slice A2 n2 c2) ∧ w'.cell? ⟨w3.heap.size, 2, none⟩ = some (.int .i64 X2) ∧ w'.cell? ⟨w5.heap.size, 0, none⟩ = some (.bool N3) ∧ w'.cell? ⟨w5.heap.size, 1, none⟩ = some (.slice A3 n3 c3) ∧ w'.cell? ⟨w5.heap.size, 2, none⟩ = some (.int .i64 X3) ∧ w'.cell? ⟨G4, 0, none⟩ = some (.bool N4) ∧ w'.cell? ⟨G4, 1, none⟩ = some (.slice A4 n4 c4) ∧ w'.cell? ⟨G4, 2, none⟩ = some (.int .i64 X4)) (by kernel_rfl) ⟨xa0, xa1, xa2, x10, x11, x12, x20, x21, x22, x30, x31, x32, x40, x41, x42⟩ (fun hHeld => ?_)
      (try simp only [List.size_toArray, List.length_cons, List.length_nil, Nat.reduceAdd, Array.replicate_succ, Array.replicate_zero, List.push_toArray, List.append_toArray, List.nil_append, List.cons_append])
      have ma : w12.drew.heap[w.heap.size]? = _ := ma
      have m1 : w12.drew.heap[w1.heap.size]? = _ := m1
      have m2 : w12.drew.heap[w3.heap.size]? = _ := m2
      have m3 : w12.drew.heap[w5.heap.size]? = _ := m3
      have m4 : w12.drew.heap[G4]? = _ := m4
      have ra : Rd w12.drew (fun b => b < w12.drew.heap.size) _ _ _ := ra.drew
      have r1 : Rd w12.drew (fun b => b < w12.drew.heap.size) _ _ _ := r1.drew
      have r2 : Rd w12.drew (fun b => b < w12.drew.heap.size) _ _ _ := r2.drew
      have r3 : Rd w12.drew (fun b => b < w12.drew.heap.size) _ _ _ := r3.drew
      have r4 : Rd w12.drew (fun b => b < w12.drew.heap.size) _ _ _ := r4.drew
      have hB : Below w.heap.size w w12.drew := only_drewB hB
      generalize hV0 : w12.drew = V0 at *
      clear hV0
      clear xa0 xa1 xa2 x10 x11 x12 x20 x21 x22 x30 x31 x32 x40 x41 x42
      refine wpAnyH_take (i := 0) (oi := ⟨_, _, _, _, _, _⟩) (v := ?_) rfl (by kernel_rfl) (by kernel_rfl) (by kernel_rfl) (fun _ _ _ h => h) (Or.inl ⟨by rfl, ?_⟩) (by assumption) ?_
      rotate_left
      · intro w hSw
        (try dsimp only at hSw)
        go_split_ands
        go_simp
        try with_reducible rfl
      try simp only [Act.put, List.setIfInBounds_toArray, List.set_cons_zero, List.set_cons_succ]
      refine wpAnyH_take (i := 1) (oi := ⟨_, _, _, _, _, _⟩) (v := ?_) rfl (by kernel_rfl) (by kernel_rfl) (by kernel_rfl) (fun _ _ _ h => h) (Or.inl ⟨by rfl, ?_⟩) (by assumption) ?_
      rotate_left
      · intro w hSw
        (try dsimp only at hSw)
        go_split_ands
        go_simp
        try with_reducible rfl
      try simp only [Act.put, List.setIfInBounds_toArray, List.set_cons_zero, List.set_cons_succ]
      refine wpAnyH_take (i := 2) (oi := ⟨_, _, _, _, _, _⟩) (v := ?_) rfl (by kernel_rfl) (by kernel_rfl) (by kernel_rfl) (fun _ _ _ h => h) (Or.inl ⟨by rfl, ?_⟩) (by assumption) ?_
      rotate_left
      · intro w hSw
        (try dsimp only at hSw)
        go_split_ands
        go_simp
        try with_reducible rfl
      try simp only [Act.put, List.setIfInBounds_toArray, List.set_cons_zero, List.set_cons_succ]
      refine wpAnyH_take (i := 3) (oi := ⟨_, _, _, _, _, _⟩) (v := ?_) rfl (by kernel_rfl) (by kernel_rfl) (by kernel_rfl) (fun _ _ _ h => h) (Or.inl ⟨by rfl, ?_⟩) (by assumption) ?_
      rotate_left
      · intro w hSw
        (try dsimp only at hSw)
        go_split_ands
        go_simp
        try with_reducible rfl
      try simp only [Act.put, List.setIfInBounds_toArray, List.set_cons_zero, List.set_cons_succ]
      refine wpAnyH_ready (rs := [4]) (by kernel_rfl) (by simp) ?_
      refine (AllReadyH.cons (o := ⟨_, _, _, _, _, _⟩) rfl (fun K hK => ?_) AllReadyH.nil)
      go_simp
      have H := DSame_t (c := c2) (d := c) V0 HYA.out r2 ra (fun b h => h) (fun b h => h) hn2 hn
      (try unfold dv at H)
      refine H.mono ?_
      rintro e V1 ⟨rfl, hb0⟩
      clear H
      have ma := heldz hb0 ma
      have m1 := heldz hb0 m1
      have m2 := heldz hb0 m2
      have m3 := heldz hb0 m3
      have m4 := heldz hb0 m4
      have ra := ra.step hb0
      have r1 := r1.step hb0
      have r2 := r2.step hb0
      have r3 := r3.step hb0
      have r4 := r4.step hb0
      have hB := hB.trans (hb0.mono hB.size)
      obtain ⟨xa0, xa1, xa2⟩ := box3_of ma
      obtain ⟨x10, x11, x12⟩ := box3_of m1
      obtain ⟨x20, x21, x22⟩ := box3_of m2
      obtain ⟨x30, x31, x32⟩ := box3_of m3
      obtain ⟨x40, x41, x42⟩ := box3_of m4
      (try dsimp only)
      refine hK.out _ _ ⟨xa0, xa1, xa2, x10, x11, x12, x20, x21, x22, x30, x31, x32, x40, x41, x42⟩ (fun hHeld => ?_)
      clear hK K
      try simp only [Act.put, List.setIfInBounds_toArray, List.set_cons_zero, List.set_cons_succ]
      clear xa0 xa1 xa2 x10 x11 x12 x20 x21 x22 x30 x31 x32 x40 x41 x42
      clear hb0
      refine wpAnyH_take (i := 5) (oi := ⟨_, _, _, _, _, _⟩) (v := ?_) rfl (by kernel_rfl) (by kernel_rfl) (by kernel_rfl) (fun _ _ _ h => h) (Or.inl ⟨by rfl, ?_⟩) (by assumption) ?_
      rotate_left
      · intro w hSw
        (try dsimp only at hSw)
        go_split_ands
        go_simp
        try with_reducible rfl
      try simp only [Act.put, List.setIfInBounds_toArray, List.set_cons_zero, List.set_cons_succ]
      refine wpAnyH_take (i := 6) (oi := ⟨_, _, _, _, _, _⟩) (v := ?_) rfl (by kernel_rfl) (by kernel_rfl) (by kernel_rfl) (fun _ _ _ h => h) (Or.inl ⟨by rfl, ?_⟩) (by assumption) ?_
      rotate_left
      · intro w hSw
        (try dsimp only at hSw)
        go_split_ands
        go_simp
        try with_reducible rfl
      try simp only [Act.put, List.setIfInBounds_toArray, List.set_cons_zero, List.set_cons_succ]
      refine wpAnyH_take (i := 7) (oi := ⟨_, _, _, _, _, _⟩) (v := undef) rfl (by kernel_rfl) (by kernel_rfl) (by kernel_rfl) (fun _ _ _ h => h) (Or.inr ⟨by rfl, rfl⟩) (by assumption) ?_
      try simp only [Act.put, List.setIfInBounds_toArray, List.set_cons_zero, List.set_cons_succ]
      refine wpAnyH_take (i := 8) (oi := ⟨_, _, _, _, _, _⟩) (v := undef) rfl (by kernel_rfl) (by kernel_rfl) (by kernel_rfl) (fun _ _ _ h => h) (Or.inr ⟨by rfl, rfl⟩) (by assumption) ?_
      try simp only [Act.put, List.setIfInBounds_toArray, List.set_cons_zero, List.set_cons_succ]
      refine wpAnyH_take (i := 9) (oi := ⟨_, _, _, _, _, _⟩) (v := undef) rfl (by kernel_rfl) (by kernel_rfl) (by kernel_rfl) (fun _ _ _ h => h) (Or.inr ⟨by rfl, rfl⟩) (by assumption) ?_
      try simp only [Act.put, List.setIfInBounds_toArray, List.set_cons_zero, List.set_cons_succ]
      refine wpAnyH_take (i := 10) (oi := ⟨_, _, _, _, _, _⟩) (v := undef) rfl (by kernel_rfl) (by kernel_rfl) (by kernel_rfl) (fun _ _ _ h => h) (Or.inr ⟨by rfl, rfl⟩) (by assumption) ?_
      try simp only [Act.put, List.setIfInBounds_toArray, List.set_cons_zero, List.set_cons_succ]
      refine wpAnyH_take (i := 11) (oi := ⟨_, _, _, _, _, _⟩) (v := undef) rfl (by kernel_rfl) (by kernel_rfl) (by kernel_rfl) (fun _ _ _ h => h) (Or.inr ⟨by rfl, rfl⟩) (by assumption) ?_
      try simp only [Act.put, List.setIfInBounds_toArray, List.set_cons_zero, List.set_cons_succ]
      refine wpAnyH_take (i := 12) (oi := ⟨_, _, _, _, _, _⟩) (v := undef) rfl (by kernel_rfl) (by kernel_rfl) (by kernel_rfl) (fun _ _ _ h => h) (Or.inr ⟨by rfl, rfl⟩) (by assumption) ?_
      try simp only [Act.put, List.setIfInBounds_toArray, List.set_cons_zero, List.set_cons_succ]
      refine wpAnyH_take (i := 13) (oi := ⟨_, _, _, _, _, _⟩) (v := undef) rfl (by kernel_rfl) (by kernel_rfl) (by kernel_rfl) (fun _ _ _ h => h) (Or.inr ⟨by rfl, rfl⟩) (by assumption) ?_
      try simp only [Act.put, List.setIfInBounds_toArray, List.set_cons_zero, List.set_cons_succ]
      refine wpAnyH_take (i := 14) (oi := ⟨_, _, _, _, _, _⟩) (v := ?_) rfl (by kernel_rfl) (by kernel_rfl) (by kernel_rfl) (fun _ _ _ h => h) (Or.inl ⟨by rfl, ?_⟩) (by assumption) ?_
      rotate_left
      · intro w hSw
        (try dsimp only at hSw)
        go_split_ands
        go_simp
        try with_reducible rfl
      try simp only [Act.put, List.setIfInBounds_toArray, List.set_cons_zero, List.set_cons_succ]
      refine wpAnyH_take (i := 15) (oi := ⟨_, _, _, _, _, _⟩) (v := ?_) rfl (by kernel_rfl) (by kernel_rfl) (by kernel_rfl) (fun _ _ _ h => h) (Or.inl ⟨by rfl, ?_⟩) (by assumption) ?_
      rotate_left
      · intro w hSw
        (try dsimp only at hSw)
        go_split_ands
        go_simp
        try with_reducible rfl
      try simp only [Act.put, List.setIfInBounds_toArray, List.set_cons_zero, List.set_cons_succ]
      refine wpAnyH_take (i := 16) (oi := ⟨_, _, _, _, _, _⟩) (v := ?_) rfl (by kernel_rfl) (by kernel_rfl) (by kernel_rfl) (fun _ _ _ h => h) (Or.inl ⟨by rfl, ?_⟩) (by assumption) ?_
      rotate_left
      · intro w hSw
        (try dsimp only at hSw)
        go_split_ands
        go_simp
        try with_reducible rfl
      try simp only [Act.put, List.setIfInBounds_toArray, List.set_cons_zero, List.set_cons_succ]
      refine wpAnyH_take (i := 17) (oi := ⟨_, _, _, _, _, _⟩) (v := ?_) rfl (by kernel_rfl) (by kernel_rfl) (by kernel_rfl) (fun _ _ _ h => h) (Or.inl ⟨by rfl, ?_⟩) (by assumption) ?_
      rotate_left
      · intro w hSw
        (try dsimp only at hSw)
        go_split_ands
        go_simp
        try with_reducible rfl
      try simp only [Act.put, List.setIfInBounds_toArray, List.set_cons_zero, List.set_cons_succ]
      refine wpAnyH_ready (rs := [18]) (by kernel_rfl) (by simp) ?_
      refine (AllReadyH.cons (o := ⟨_, _, _, _, _, _⟩) rfl (fun K hK => ?_) AllReadyH.nil)
      go_simp
      have H := DSame_t (c := c3) (d := c1) V1 HZX.out r3 r1 (fun b h => h) (fun b h => h) hn3 hn1
      (try unfold dv at H)
      refine H.mono ?_
      rintro e V3 ⟨rfl, hb0⟩
      clear H
      have ma := heldz hb0 ma
      have m1 := heldz hb0 m1
      have m2 := heldz hb0 m2
      have m3 := heldz hb0 m3
      have m4 := heldz hb0 m4
      have ra := ra.step hb0
      have r1 := r1.step hb0
      have r2 := r2.step hb0
      have r3 := r3.step hb0
      have r4 := r4.step hb0
      have hB := hB.trans (hb0.mono hB.size)
      obtain ⟨xa0, xa1, xa2⟩ := box3_of ma
      obtain ⟨x10, x11, x12⟩ := box3_of m1
      obtain ⟨x20, x21, x22⟩ := box3_of m2
      obtain ⟨x30, x31, x32⟩ := box3_of m3
      obtain ⟨x40, x41, x42⟩ := box3_of m4
      (try dsimp only)
      refine hK.out _ _ ⟨xa0, xa1, xa2, x10, x11, x12, x20, x21, x22, x30, x31, x32, x40, x41, x42⟩ (fun hHeld => ?_)
      clear hK K
      try simp only [Act.put, List.setIfInBounds_toArray, List.set_cons_zero, List.set_cons_succ]
      clear xa0 xa1 xa2 x10 x11 x12 x20 x21 x22 x30 x31 x32 x40 x41 x42
      clear hb0
      refine wpAnyH_take (i := 19) (oi := ⟨_, _, _, _, _, _⟩) (v := ?_) rfl (by kernel_rfl) (by kernel_rfl) (by kernel_rfl) (fun _ _ _ h => h) (Or.inl ⟨by rfl, ?_⟩) (by assumption) ?_
      rotate_left
      · intro w hSw
        (try dsimp only at hSw)
        go_split_ands
        go_simp
        try with_reducible rfl
      try simp only [Act.put, List.setIfInBounds_toArray, List.set_cons_zero, List.set_cons_succ]
      refine wpAnyH_take (i := 20) (oi := ⟨_, _, _, _, _, _⟩) (v := undef) rfl (by kernel_rfl) (by kernel_rfl) (by kernel_rfl) (fun _ _ _ h => h) (Or.inr ⟨by rfl, rfl⟩) (by assumption) ?_
      try simp only [Act.put, List.setIfInBounds_toArray, List.set_cons_zero, List.set_cons_succ]
      refine wpAnyH_take (i := 21) (oi := ⟨_, _, _, _, _, _⟩) (v := undef) rfl (by kernel_rfl) (by kernel_rfl) (by kernel_rfl) (fun _ _ _ h => h) (Or.inr ⟨by rfl, rfl⟩) (by assumption) ?_
      try simp only [Act.put, List.setIfInBounds_toArray, List.set_cons_zero, List.set_cons_succ]
      refine wpAnyH_take (i := 22) (oi := ⟨_, _, _, _, _, _⟩) (v := undef) rfl (by kernel_rfl) (by kernel_rfl) (by kernel_rfl) (fun _ _ _ h => h) (Or.inr ⟨by rfl, rfl⟩) (by assumption) ?_
      try simp only [Act.put, List.setIfInBounds_toArray, List.set_cons_zero, List.set_cons_succ]
      refine wpAnyH_take (i := 23) (oi := ⟨_, _, _, _, _, _⟩) (v := ?_) rfl (by kernel_rfl) (by kernel_rfl) (by kernel_rfl) (fun _ _ _ h => h) (Or.inl ⟨by rfl, ?_⟩) (by assumption) ?_
      rotate_left
      · intro w hSw
        (try dsimp only at hSw)
        go_split_ands
        go_simp
        try with_reducible rfl
      try simp only [Act.put, List.setIfInBounds_toArray, List.set_cons_zero, List.set_cons_succ]
      refine wpAnyH_take (i := 24) (oi := ⟨_, _, _, _, _, _⟩) (v := ?_) rfl (by kernel_rfl) (by kernel_rfl) (by kernel_rfl) (fun _ _ _ h => h) (Or.inl ⟨by rfl, ?_⟩) (by assumption) ?_
      rotate_left
      · intro w hSw
        (try dsimp only at hSw)
        go_split_ands
        go_simp
        try with_reducible rfl
      try simp only [Act.put, List.setIfInBounds_toArray, List.set_cons_zero, List.set_cons_succ]
      refine wpAnyH_take (i := 25) (oi := ⟨_, _, _, _, _, _⟩) (v := ?_) rfl (by kernel_rfl) (by kernel_rfl) (by kernel_rfl) (fun _ _ _ h => h) (Or.inl ⟨by rfl, ?_⟩) (by assumption) ?_
      rotate_left
      · intro w hSw
        (try dsimp only at hSw)
        go_split_ands
        go_simp
        try with_reducible rfl
      try simp only [Act.put, List.setIfInBounds_toArray, List.set_cons_zero, List.set_cons_succ]
      refine wpAnyH_done (by kernel_rfl) ?_ _
      go_wp2
      go_ret
      exact ⟨rfl, hB⟩
    · obtain rfl : SB = false := hSB.out.trans (decide_eq_false hxa)
      have HDD := Lib.hid hd4
      have HZ := Lib.hid hz
      clear hxa hd4 hz HC hSB
      by_cases hzx : N3 = N1 ∧ X3 = X1 ∧ L3 = L1
      · have HZX := Lib.hid hzx
        clear hzx HZ
        obtain ⟨xa0, xa1, xa2⟩ := box3_of ma
        obtain ⟨x10, x11, x12⟩ := box3_of m1
        obtain ⟨x20, x21, x22⟩ := box3_of m2
        obtain ⟨x30, x31, x32⟩ := box3_of m3
        obtain ⟨x40, x41, x42⟩ := box3_of m4
        go_wp2_with fail
        refine wp_region_held_drew (S := fun w' => w'.cell? ⟨w.heap.size, 0, none⟩ = some (.bool na) ∧ w'.cell? ⟨w.heap.size, 1, none⟩ = some (.slice A n c) ∧ w'.cell? ⟨w.heap.size, 2, none⟩ = some (.int .i64 e1) ∧ w'.cell? ⟨w1.heap.size, 0, none⟩ = some (.bool N1) ∧ w'.cell? ⟨w1.heap.size, 1, none⟩ = some (.slice A1 n1 c1) ∧ w'.cell? ⟨w1.heap.size, 2, none⟩ = some (.int .i64 X1) ∧ w'.cell? ⟨w3.heap.size, 0, none⟩ = some (.bool N2) ∧ w'.cell? ⟨w3.heap.size, 1, none⟩ = some (.slice A2 n2 c2) ∧ w'.cell? ⟨w3.heap.size, 2, none⟩ = some (.int .i64 X2) ∧ w'.cell? ⟨w5.heap.size, 0, none⟩ = some (.bool N3) ∧ w'.cell? ⟨w5.heap.size, 1, none⟩ = some (.slice A3 n3 c3) ∧ w'.cell? ⟨w5.heap.size, 2, none⟩ = some (.int .i64 X3) ∧ w'.cell? ⟨G4, 0, none⟩ = some (.bool N4) ∧ w'.cell? ⟨G4, 1, none⟩ = some (.slice A4 n4 c4) ∧ w'.cell? ⟨G4, 2, none⟩ = some (.int .i64 X4)) (by kernel_rfl) ⟨xa0, xa1, xa2, x10, x11, x12, x20, x21, x22, x30, x31, x32, x40, x41, x42⟩ (fun hHeld => ?_)
        (try simp only [List.size_toArray, List.length_cons, List.length_nil, Nat.reduceAdd, Array.replicate_succ, Array.replicate_zero, List.push_toArray, List.append_toArray, List.nil_append, List.cons_append])
        have ma : w12.drew.heap[w.heap.size]? = _ := ma
        have m1 : w12.drew.heap[w1.heap.size]? = _ := m1
        have m2 : w12.drew.heap[w3.heap.size]? = _ := m2
        have m3 : w12.drew.heap[w5.heap.size]? = _ := m3
        have m4 : w12.drew.heap[G4]? = _ := m4
        have ra : Rd w12.drew (fun b => b < w12.drew.heap.size) _ _ _ := ra.drew
        have r1 : Rd w12.drew (fun b => b < w12.drew.heap.size) _ _ _ := r1.drew
        have r2 : Rd w12.drew (fun b => b < w12.drew.heap.size) _ _ _ := r2.drew
        have r3 : Rd w12.drew (fun b => b < w12.drew.heap.size) _ _ _ := r3.drew
        have r4 : Rd w12.drew (fun b => b < w12.drew.heap.size) _ _ _ := r4.drew
        have hB : Below w.heap.size w w12.drew := only_drewB hB
        generalize hV0 : w12.drew = V0 at *
        clear hV0
        clear xa0 xa1 xa2 x10 x11 x12 x20 x21 x22 x30 x31 x32 x40 x41 x42
        refine wpAnyH_take (i := 0) (oi := ⟨_, _, _, _, _, _⟩) (v := ?_) rfl (by kernel_rfl) (by kernel_rfl) (by kernel_rfl) (fun _ _ _ h => h) (Or.inl ⟨by rfl, ?_⟩) (by assumption) ?_
        rotate_left
        · intro w hSw
          (try dsimp only at hSw)
          go_split_ands
          go_simp
          try with_reducible rfl
        try simp only [Act.put, List.setIfInBounds_toArray, List.set_cons_zero, List.set_cons_succ]
        refine wpAnyH_take (i := 1) (oi := ⟨_, _, _, _, _, _⟩) (v := ?_) rfl (by kernel_rfl) (by kernel_rfl) (by kernel_rfl) (fun _ _ _ h => h) (Or.inl ⟨by rfl, ?_⟩) (by assumption) ?_
        rotate_left
        · intro w hSw
          (try dsimp only at hSw)
          go_split_ands
          go_simp
          try with_reducible rfl
        try simp only [Act.put, List.setIfInBounds_toArray, List.set_cons_zero, List.set_cons_succ]
        refine wpAnyH_take (i := 2) (oi := ⟨_, _, _, _, _, _⟩) (v := undef) rfl (by kernel_rfl) (by kernel_rfl) (by kernel_rfl) (fun _ _ _ h => h) (Or.inr ⟨by rfl, rfl⟩) (by assumption) ?_
        try simp only [Act.put, List.setIfInBounds_toArray, List.set_cons_zero, List.set_cons_succ]
        refine wpAnyH_take (i := 3) (oi := ⟨_, _, _, _, _, _⟩) (v := undef) rfl (by kernel_rfl) (by kernel_rfl) (by kernel_rfl) (fun _ _ _ h => h) (Or.inr ⟨by rfl, rfl⟩) (by assumption) ?_
        try simp only [Act.put, List.setIfInBounds_toArray, List.set_cons_zero, List.set_cons_succ]
        refine wpAnyH_take (i := 4) (oi := ⟨_, _, _, _, _, _⟩) (v := undef) rfl (by kernel_rfl) (by kernel_rfl) (by kernel_rfl) (fun _ _ _ h => h) (Or.inr ⟨by rfl, rfl⟩) (by assumption) ?_
        try simp only [Act.put, List.setIfInBounds_toArray, List.set_cons_zero, List.set_cons_succ]
        refine wpAnyH_take (i := 5) (oi := ⟨_, _, _, _, _, _⟩) (v := ?_) rfl (by kernel_rfl) (by kernel_rfl) (by kernel_rfl) (fun _ _ _ h => h) (Or.inl ⟨by rfl, ?_⟩) (by assumption) ?_
        rotate_left
        · intro w hSw
          (try dsimp only at hSw)
          go_split_ands
          go_simp
          try with_reducible rfl
        try simp only [Act.put, List.setIfInBounds_toArray, List.set_cons_zero, List.set_cons_succ]
        refine wpAnyH_take (i := 6) (oi := ⟨_, _, _, _, _, _⟩) (v := ?_) rfl (by kernel_rfl) (by kernel_rfl) (by kernel_rfl) (fun _ _ _ h => h) (Or.inl ⟨by rfl, ?_⟩) (by assumption) ?_
        rotate_left
        · intro w hSw
          (try dsimp only at hSw)
          go_split_ands
          go_simp
          try with_reducible rfl
        try simp only [Act.put, List.setIfInBounds_toArray, List.set_cons_zero, List.set_cons_succ]
        refine wpAnyH_take (i := 7) (oi := ⟨_, _, _, _, _, _⟩) (v := ?_) rfl (by kernel_rfl) (by kernel_rfl) (by kernel_rfl) (fun _ _ _ h => h) (Or.inl ⟨by rfl, ?_⟩) (by assumption) ?_
        rotate_left
        · intro w hSw
          (try dsimp only at hSw)
          go_split_ands
          go_simp
          try with_reducible rfl
        try simp only [Act.put, List.setIfInBounds_toArray, List.set_cons_zero, List.set_cons_succ]
        refine wpAnyH_take (i := 8) (oi := ⟨_, _, _, _, _, _⟩) (v := ?_) rfl (by kernel_rfl) (by kernel_rfl) (by kernel_rfl) (fun _ _ _ h => h) (Or.inl ⟨by rfl, ?_⟩) (by assumption) ?_
        rotate_left
        · intro w hSw
          (try dsimp only at hSw)
          go_split_ands
          go_simp
          try with_reducible rfl
        try simp only [Act.put, List.setIfInBounds_toArray, List.set_cons_zero, List.set_cons_succ]
        refine wpAnyH_take (i := 9) (oi := ⟨_, _, _, _, _, _⟩) (v := ?_) rfl (by kernel_rfl) (by kernel_rfl) (by kernel_rfl) (fun _ _ _ h => h) (Or.inl ⟨by rfl, ?_⟩) (by assumption) ?_
        rotate_left
        · intro w hSw
          (try dsimp only at hSw)
          go_split_ands
          go_simp
          try with_reducible rfl
        try simp only [Act.put, List.setIfInBounds_toArray, List.set_cons_zero, List.set_cons_succ]
        refine wpAnyH_take (i := 10) (oi := ⟨_, _, _, _, _, _⟩) (v := ?_) rfl (by kernel_rfl) (by kernel_rfl) (by kernel_rfl) (fun _ _ _ h => h) (Or.inl ⟨by rfl, ?_⟩) (by assumption) ?_
        rotate_left
        · intro w hSw
          (try dsimp only at hSw)
          go_split_ands
          go_simp
          try with_reducible rfl
        try simp only [Act.put, List.setIfInBounds_toArray, List.set_cons_zero, List.set_cons_succ]
        refine wpAnyH_ready (rs := [11]) (by kernel_rfl) (by simp) ?_
        refine (AllReadyH.cons (o := ⟨_, _, _, _, _, _⟩) rfl (fun K hK => ?_) AllReadyH.nil)
        go_simp
        have H := RInt_c 1 V0 (by decide) (by decide)
        (try unfold dv at H)
        refine H.mono ?_
        obtain ⟨i1, i2, i3⟩ := int_one
        rintro e V1 ⟨Ai, ni, ci, rfl, ti, hb0⟩
        rw [i3] at ti
        rw [i1, i2]
        have hni := ti.small
        have ti := ti.all
        clear i1 i2 i3
        have ri0 := ti
        clear H
        have ma := heldz hb0 ma
        have m1 := heldz hb0 m1
        have m2 := heldz hb0 m2
        have m3 := heldz hb0 m3
        have m4 := heldz hb0 m4
        have ra := ra.step hb0
        have r1 := r1.step hb0
        have r2 := r2.step hb0
        have r3 := r3.step hb0
        have r4 := r4.step hb0
        have ri := ri0
        clear ri0 ti
        have hB := hB.trans (hb0.mono hB.size)
        obtain ⟨xa0, xa1, xa2⟩ := box3_of ma
        obtain ⟨x10, x11, x12⟩ := box3_of m1
        obtain ⟨x20, x21, x22⟩ := box3_of m2
        obtain ⟨x30, x31, x32⟩ := box3_of m3
        obtain ⟨x40, x41, x42⟩ := box3_of m4
        (try dsimp only)
        refine hK.out _ _ ⟨xa0, xa1, xa2, x10, x11, x12, x20, x21, x22, x30, x31, x32, x40, x41, x42⟩ (fun hHeld => ?_)
        clear hK K
        try simp only [Act.put, List.setIfInBounds_toArray, List.set_cons_zero, List.set_cons_succ]
        clear xa0 xa1 xa2 x10 x11 x12 x20 x21 x22 x30 x31 x32 x40 x41 x42
        clear hb0
        refine wpAnyH_ready (rs := [12]) (by kernel_rfl) (by simp) ?_
        refine (AllReadyH.cons (o := ⟨_, _, _, _, _, _⟩) rfl (fun K hK => ?_) AllReadyH.nil)
        go_simp
        have H := DSame_t (c := c4) (d := ci) V1 HDD.out r4 ri (fun b h => h) (fun b h => h) hn4 hni
        (try unfold dv at H)
        refine H.mono ?_
        rintro e V2 ⟨rfl, hb0⟩
        clear H
        have ma := heldz hb0 ma
        have m1 := heldz hb0 m1
        have m2 := heldz hb0 m2
        have m3 := heldz hb0 m3
        have m4 := heldz hb0 m4
        have ra := ra.step hb0
        have r1 := r1.step hb0
        have r2 := r2.step hb0
        have r3 := r3.step hb0
        have r4 := r4.step hb0
        have ri := ri.step hb0
        have hB := hB.trans (hb0.mono hB.size)
        obtain ⟨xa0, xa1, xa2⟩ := box3_of ma
        obtain ⟨x10, x11, x12⟩ := box3_of m1
        obtain ⟨x20, x21, x22⟩ := box3_of m2
        obtain ⟨x30, x31, x32⟩ := box3_of m3
        obtain ⟨x40, x41, x42⟩ := box3_of m4
        (try dsimp only)
        refine hK.out _ _ ⟨xa0, xa1, xa2, x10, x11, x12, x20, x21, x22, x30, x31, x32, x40, x41, x42⟩ (fun hHeld => ?_)
        clear hK K
        try simp only [Act.put, List.setIfInBounds_toArray, List.set_cons_zero, List.set_cons_succ]
        clear xa0 xa1 xa2 x10 x11 x12 x20 x21 x22 x30 x31 x32 x40 x41 x42
        clear hb0
        refine wpAnyH_take (i := 13) (oi := ⟨_, _, _, _, _, _⟩) (v := ?_) rfl (by kernel_rfl) (by kernel_rfl) (by kernel_rfl) (fun _ _ _ h => h) (Or.inl ⟨by rfl, ?_⟩) (by assumption) ?_
        rotate_left
        · intro w hSw
          (try dsimp only at hSw)
          go_split_ands
          go_simp
          try with_reducible rfl
        try simp only [Act.put, List.setIfInBounds_toArray, List.set_cons_zero, List.set_cons_succ]
        refine wpAnyH_take (i := 14) (oi := ⟨_, _, _, _, _, _⟩) (v := ?_) rfl (by kernel_rfl) (by kernel_rfl) (by kernel_rfl) (fun _ _ _ h => h) (Or.inl ⟨by rfl, ?_⟩) (by assumption) ?_
        rotate_left
        · intro w hSw
          (try dsimp only at hSw)
          go_split_ands
          go_simp
          try with_reducible rfl
        try simp only [Act.put, List.setIfInBounds_toArray, List.set_cons_zero, List.set_cons_succ]
        refine wpAnyH_take (i := 15) (oi := ⟨_, _, _, _, _, _⟩) (v := ?_) rfl (by kernel_rfl) (by kernel_rfl) (by kernel_rfl) (fun _ _ _ h => h) (Or.inl ⟨by rfl, ?_⟩) (by assumption) ?_
        rotate_left
        · intro w hSw
          (try dsimp only at hSw)
          go_split_ands
          go_simp
          try with_reducible rfl
        try simp only [Act.put, List.setIfInBounds_toArray, List.set_cons_zero, List.set_cons_succ]
        refine wpAnyH_take (i := 16) (oi := ⟨_, _, _, _, _, _⟩) (v := ?_) rfl (by kernel_rfl) (by kernel_rfl) (by kernel_rfl) (fun _ _ _ h => h) (Or.inl ⟨by rfl, ?_⟩) (by assumption) ?_
        rotate_left
        · intro w hSw
          (try dsimp only at hSw)
          go_split_ands
          go_simp
          try with_reducible rfl
        try simp only [Act.put, List.setIfInBounds_toArray, List.set_cons_zero, List.set_cons_succ]
        refine wpAnyH_take (i := 17) (oi := ⟨_, _, _, _, _, _⟩) (v := ?_) rfl (by kernel_rfl) (by kernel_rfl) (by kernel_rfl) (fun _ _ _ h => h) (Or.inl ⟨by rfl, ?_⟩) (by assumption) ?_
        rotate_left
        · intro w hSw
          (try dsimp only at hSw)
          go_split_ands
          go_simp
          try with_reducible rfl
        try simp only [Act.put, List.setIfInBounds_toArray, List.set_cons_zero, List.set_cons_succ]
        refine wpAnyH_ready (rs := [18]) (by kernel_rfl) (by simp) ?_
        refine (AllReadyH.cons (o := ⟨_, _, _, _, _, _⟩) rfl (fun K hK => ?_) AllReadyH.nil)
        go_simp
        have H := DSame_t (c := c3) (d := c1) V2 HZX.out r3 r1 (fun b h => h) (fun b h => h) hn3 hn1
        (try unfold dv at H)
        refine H.mono ?_
        rintro e V3 ⟨rfl, hb0⟩
        clear H
        have ma := heldz hb0 ma
        have m1 := heldz hb0 m1
        have m2 := heldz hb0 m2
        have m3 := heldz hb0 m3
        have m4 := heldz hb0 m4
        have ra := ra.step hb0
        have r1 := r1.step hb0
        have r2 := r2.step hb0
        have r3 := r3.step hb0
        have r4 := r4.step hb0
        have ri := ri.step hb0
        have hB := hB.trans (hb0.mono hB.size)
        obtain ⟨xa0, xa1, xa2⟩ := box3_of ma
        obtain ⟨x10, x11, x12⟩ := box3_of m1
        obtain ⟨x20, x21, x22⟩ := box3_of m2
        obtain ⟨x30, x31, x32⟩ := box3_of m3
        obtain ⟨x40, x41, x42⟩ := box3_of m4
        (try dsimp only)
        refine hK.out _ _ ⟨xa0, xa1, xa2, x10, x11, x12, x20, x21, x22, x30, x31, x32, x40, x41, x42⟩ (fun hHeld => ?_)
        clear hK K
        try simp only [Act.put, List.setIfInBounds_toArray, List.set_cons_zero, List.set_cons_succ]
        clear xa0 xa1 xa2 x10 x11 x12 x20 x21 x22 x30 x31 x32 x40 x41 x42
        clear hb0
        refine wpAnyH_take (i := 19) (oi := ⟨_, _, _, _, _, _⟩) (v := ?_) rfl (by kernel_rfl) (by kernel_rfl) (by kernel_rfl) (fun _ _ _ h => h) (Or.inl ⟨by rfl, ?_⟩) (by assumption) ?_
        rotate_left
        · intro w hSw
          (try dsimp only at hSw)
          go_split_ands
          go_simp
          try with_reducible rfl
        try simp only [Act.put, List.setIfInBounds_toArray, List.set_cons_zero, List.set_cons_succ]
        refine wpAnyH_take (i := 20) (oi := ⟨_, _, _, _, _, _⟩) (v := undef) rfl (by kernel_rfl) (by kernel_rfl) (by kernel_rfl) (fun _ _ _ h => h) (Or.inr ⟨by rfl, rfl⟩) (by assumption) ?_
        try simp only [Act.put, List.setIfInBounds_toArray, List.set_cons_zero, List.set_cons_succ]
        refine wpAnyH_take (i := 21) (oi := ⟨_, _, _, _, _, _⟩) (v := undef) rfl (by kernel_rfl) (by kernel_rfl) (by kernel_rfl) (fun _ _ _ h => h) (Or.inr ⟨by rfl, rfl⟩) (by assumption) ?_
        try simp only [Act.put, List.setIfInBounds_toArray, List.set_cons_zero, List.set_cons_succ]
        refine wpAnyH_take (i := 22) (oi := ⟨_, _, _, _, _, _⟩) (v := undef) rfl (by kernel_rfl) (by kernel_rfl) (by kernel_rfl) (fun _ _ _ h => h) (Or.inr ⟨by rfl, rfl⟩) (by assumption) ?_
        try simp only [Act.put, List.setIfInBounds_toArray, List.set_cons_zero, List.set_cons_succ]
        refine wpAnyH_take (i := 23) (oi := ⟨_, _, _, _, _, _⟩) (v := ?_) rfl (by kernel_rfl) (by kernel_rfl) (by kernel_rfl) (fun _ _ _ h => h) (Or.inl ⟨by rfl, ?_⟩) (by assumption) ?_
        rotate_left
        · intro w hSw
          (try dsimp only at hSw)
          go_split_ands
          go_simp
          try with_reducible rfl
        try simp only [Act.put, List.setIfInBounds_toArray, List.set_cons_zero, List.set_cons_succ]
        refine wpAnyH_take (i := 24) (oi := ⟨_, _, _, _, _, _⟩) (v := ?_) rfl (by kernel_rfl) (by kernel_rfl) (by kernel_rfl) (fun _ _ _ h => h) (Or.inl ⟨by rfl, ?_⟩) (by assumption) ?_
        rotate_left
        · intro w hSw
          (try dsimp only at hSw)
          go_split_ands
          go_simp
          try with_reducible rfl
        try simp only [Act.put, List.setIfInBounds_toArray, List.set_cons_zero, List.set_cons_succ]
        refine wpAnyH_take (i := 25) (oi := ⟨_, _, _, _, _, _⟩) (v := ?_) rfl (by kernel_rfl) (by kernel_rfl) (by kernel_rfl) (fun _ _ _ h => h) (Or.inl ⟨by rfl, ?_⟩) (by assumption) ?_
        rotate_left
        · intro w hSw
          (try dsimp only at hSw)
          go_split_ands
          go_simp
          try with_reducible rfl
        try simp only [Act.put, List.setIfInBounds_toArray, List.set_cons_zero, List.set_cons_succ]
        refine wpAnyH_done (by kernel_rfl) ?_ _
        go_wp2
        go_ret
        exact ⟨rfl, hB⟩
      · have HZY := Lib.hid (HZ.out.resolve_left hzx)
        have HZX := Lib.hid hzx
        clear hzx HZ
        obtain ⟨xa0, xa1, xa2⟩ := box3_of ma
        obtain ⟨x10, x11, x12⟩ := box3_of m1
        obtain ⟨x20, x21, x22⟩ := box3_of m2
        obtain ⟨x30, x31, x32⟩ := box3_of m3
        obtain ⟨x40, x41, x42⟩ := box3_of m4
        go_wp2_with fail
        refine wp_region_held_drew (S := fun w' => w'.cell? ⟨w.heap.size, 0, none⟩ = some (.bool na) ∧ w'.cell? ⟨w.heap.size, 1, none⟩ = some (.slice A n c) ∧ w'.cell? ⟨w.heap.size, 2, none⟩ = some (.int .i64 e1) ∧ w'.cell? ⟨w1.heap.size, 0, none⟩ = some (.bool N1) ∧ w'.cell? ⟨w1.heap.size, 1, none⟩ = some (.slice A1 n1 c1) ∧ w'.cell? ⟨w1.heap.size, 2, none⟩ = some (.int .i64 X1) ∧ w'.cell? ⟨w3.heap.size, 0, none⟩ = some (.bool N2) ∧ w'.cell? ⟨w3.heap.size, 1, none⟩ = some (.slice A2 n2 c2) ∧ w'.cell? ⟨w3.heap.size, 2, none⟩ = some (.int .i64 X2) ∧ w'.cell? ⟨w5.heap.size, 0, none⟩ = some (.bool N3) ∧ w'.cell? ⟨w5.heap.size, 1, none⟩ = some (.slice A3 n3 c3) ∧ w'.cell? ⟨w5.heap.size, 2, none⟩ = some (.int .i64 X3) ∧ w'.cell? ⟨G4, 0, none⟩ = some (.bool N4) ∧ w'.cell? ⟨G4, 1, none⟩ = some (.slice A4 n4 c4) ∧ w'.cell? ⟨G4, 2, none⟩ = some (.int .i64 X4)) (by kernel_rfl) ⟨xa0, xa1, xa2, x10, x11, x12, x20, x21, x22, x30, x31, x32, x40, x41, x42⟩ (fun hHeld => ?_)
        (try simp only [List.size_toArray, List.length_cons, List.length_nil, Nat.reduceAdd, Array.replicate_succ, Array.replicate_zero, List.push_toArray, List.append_toArray, List.nil_append, List.cons_append])
        have ma : w12.drew.heap[w.heap.size]? = _ := ma
        have m1 : w12.drew.heap[w1.heap.size]? = _ := m1
        have m2 : w12.drew.heap[w3.heap.size]? = _ := m2
        have m3 : w12.drew.heap[w5.heap.size]? = _ := m3
        have m4 : w12.drew.heap[G4]? = _ := m4
        have ra : Rd w12.drew (fun b => b < w12.drew.heap.size) _ _ _ := ra.drew
        have r1 : Rd w12.drew (fun b => b < w12.drew.heap.size) _ _ _ := r1.drew
        have r2 : Rd w12.drew (fun b => b < w12.drew.heap.size) _ _ _ := r2.drew
        have r3 : Rd w12.drew (fun b => b < w12.drew.heap.size) _ _ _ := r3.drew
        have r4 : Rd w12.drew (fun b => b < w12.drew.heap.size) _ _ _ := r4.drew
        have hB : Below w.heap.size w w12.drew := only_drewB hB
        generalize hV0 : w12.drew = V0 at *
        clear hV0
        clear xa0 xa1 xa2 x10 x11 x12 x20 x21 x22 x30 x31 x32 x40 x41 x42
        refine wpAnyH_take (i := 0) (oi := ⟨_, _, _, _, _, _⟩) (v := ?_) rfl (by kernel_rfl) (by kernel_rfl) (by kernel_rfl) (fun _ _ _ h => h) (Or.inl ⟨by rfl, ?_⟩) (by assumption) ?_
        rotate_left
        · intro w hSw
          (try dsimp only at hSw)
          go_split_ands
          go_simp
          try with_reducible rfl
        try simp only [Act.put, List.setIfInBounds_toArray, List.set_cons_zero, List.set_cons_succ]
        refine wpAnyH_take (i := 1) (oi := ⟨_, _, _, _, _, _⟩) (v := ?_) rfl (by kernel_rfl) (by kernel_rfl) (by kernel_rfl) (fun _ _ _ h => h) (Or.inl ⟨by rfl, ?_⟩) (by assumption) ?_
        rotate_left
        · intro w hSw
          (try dsimp only at hSw)
          go_split_ands
          go_simp
          try with_reducible rfl
        try simp only [Act.put, List.setIfInBounds_toArray, List.set_cons_zero, List.set_cons_succ]
        refine wpAnyH_take (i := 2) (oi := ⟨_, _, _, _, _, _⟩) (v := undef) rfl (by kernel_rfl) (by kernel_rfl) (by kernel_rfl) (fun _ _ _ h => h) (Or.inr ⟨by rfl, rfl⟩) (by assumption) ?_
        try simp only [Act.put, List.setIfInBounds_toArray, List.set_cons_zero, List.set_cons_succ]
        refine wpAnyH_take (i := 3) (oi := ⟨_, _, _, _, _, _⟩) (v := undef) rfl (by kernel_rfl) (by kernel_rfl) (by kernel_rfl) (fun _ _ _ h => h) (Or.inr ⟨by rfl, rfl⟩) (by assumption) ?_
        try simp only [Act.put, List.setIfInBounds_toArray, List.set_cons_zero, List.set_cons_succ]
        refine wpAnyH_take (i := 4) (oi := ⟨_, _, _, _, _, _⟩) (v := undef) rfl (by kernel_rfl) (by kernel_rfl) (by kernel_rfl) (fun _ _ _ h => h) (Or.inr ⟨by rfl, rfl⟩) (by assumption) ?_
        try simp only [Act.put, List.setIfInBounds_toArray, List.set_cons_zero, List.set_cons_succ]
        refine wpAnyH_take (i := 5) (oi := ⟨_, _, _, _, _, _⟩) (v := ?_) rfl (by kernel_rfl) (by kernel_rfl) (by kernel_rfl) (fun _ _ _ h => h) (Or.inl ⟨by rfl, ?_⟩) (by assumption) ?_
        rotate_left
        · intro w hSw
          (try dsimp only at hSw)
          go_split_ands
          go_simp
          try with_reducible rfl
        try simp only [Act.put, List.setIfInBounds_toArray, List.set_cons_zero, List.set_cons_succ]
        refine wpAnyH_take (i := 6) (oi := ⟨_, _, _, _, _, _⟩) (v := ?_) rfl (by kernel_rfl) (by kernel_rfl) (by kernel_rfl) (fun _ _ _ h => h) (Or.inl ⟨by rfl, ?_⟩) (by assumption) ?_
        rotate_left
        · intro w hSw
          (try dsimp only at hSw)
          go_split_ands
          go_simp
          try with_reducible rfl
        try simp only [Act.put, List.setIfInBounds_toArray, List.set_cons_zero, List.set_cons_succ]
        refine wpAnyH_take (i := 7) (oi := ⟨_, _, _, _, _, _⟩) (v := ?_) rfl (by kernel_rfl) (by kernel_rfl) (by kernel_rfl) (fun _ _ _ h => h) (Or.inl ⟨by rfl, ?_⟩) (by assumption) ?_
        rotate_left
        · intro w hSw
          (try dsimp only at hSw)
          go_split_ands
          go_simp
          try with_reducible rfl
        try simp only [Act.put, List.setIfInBounds_toArray, List.set_cons_zero, List.set_cons_succ]
        refine wpAnyH_take (i := 8) (oi := ⟨_, _, _, _, _, _⟩) (v := ?_) rfl (by kernel_rfl) (by kernel_rfl) (by kernel_rfl) (fun _ _ _ h => h) (Or.inl ⟨by rfl, ?_⟩) (by assumption) ?_
        rotate_left
        · intro w hSw
          (try dsimp only at hSw)
          go_split_ands
          go_simp
          try with_reducible rfl
        try simp only [Act.put, List.setIfInBounds_toArray, List.set_cons_zero, List.set_cons_succ]
        refine wpAnyH_take (i := 9) (oi := ⟨_, _, _, _, _, _⟩) (v := ?_) rfl (by kernel_rfl) (by kernel_rfl) (by kernel_rfl) (fun _ _ _ h => h) (Or.inl ⟨by rfl, ?_⟩) (by assumption) ?_
        rotate_left
        · intro w hSw
          (try dsimp only at hSw)
          go_split_ands
          go_simp
          try with_reducible rfl
        try simp only [Act.put, List.setIfInBounds_toArray, List.set_cons_zero, List.set_cons_succ]
        refine wpAnyH_take (i := 10) (oi := ⟨_, _, _, _, _, _⟩) (v := ?_) rfl (by kernel_rfl) (by kernel_rfl) (by kernel_rfl) (fun _ _ _ h => h) (Or.inl ⟨by rfl, ?_⟩) (by assumption) ?_
        rotate_left
        · intro w hSw
          (try dsimp only at hSw)
          go_split_ands
          go_simp
          try with_reducible rfl
        try simp only [Act.put, List.setIfInBounds_toArray, List.set_cons_zero, List.set_cons_succ]
        refine wpAnyH_ready (rs := [11]) (by kernel_rfl) (by simp) ?_
        refine (AllReadyH.cons (o := ⟨_, _, _, _, _, _⟩) rfl (fun K hK => ?_) AllReadyH.nil)
        go_simp
        have H := RInt_c 1 V0 (by decide) (by decide)
        (try unfold dv at H)
        refine H.mono ?_
        obtain ⟨i1, i2, i3⟩ := int_one
        rintro e V1 ⟨Ai, ni, ci, rfl, ti, hb0⟩
        rw [i3] at ti
        rw [i1, i2]
        have hni := ti.small
        have ti := ti.all
        clear i1 i2 i3
        have ri0 := ti
        clear H
        have ma := heldz hb0 ma
        have m1 := heldz hb0 m1
        have m2 := heldz hb0 m2
        have m3 := heldz hb0 m3
        have m4 := heldz hb0 m4
        have ra := ra.step hb0
        have r1 := r1.step hb0
        have r2 := r2.step hb0
        have r3 := r3.step hb0
        have r4 := r4.step hb0
        have ri := ri0
        clear ri0 ti
        have hB := hB.trans (hb0.mono hB.size)
        obtain ⟨xa0, xa1, xa2⟩ := box3_of ma
        obtain ⟨x10, x11, x12⟩ := box3_of m1
        obtain ⟨x20, x21, x22⟩ := box3_of m2
        obtain ⟨x30, x31, x32⟩ := box3_of m3
        obtain ⟨x40, x41, x42⟩ := box3_of m4
        (try dsimp only)
        refine hK.out _ _ ⟨xa0, xa1, xa2, x10, x11, x12, x20, x21, x22, x30, x31, x32, x40, x41, x42⟩ (fun hHeld => ?_)
        clear hK K
        try simp only [Act.put, List.setIfInBounds_toArray, List.set_cons_zero, List.set_cons_succ]
        clear xa0 xa1 xa2 x10 x11 x12 x20 x21 x22 x30 x31 x32 x40 x41 x42
        clear hb0
        refine wpAnyH_ready (rs := [12]) (by kernel_rfl) (by simp) ?_
        refine (AllReadyH.cons (o := ⟨_, _, _, _, _, _⟩) rfl (fun K hK => ?_) AllReadyH.nil)
        go_simp
        have H := DSame_t (c := c4) (d := ci) V1 HDD.out r4 ri (fun b h => h) (fun b h => h) hn4 hni
        (try unfold dv at H)
        refine H.mono ?_
        rintro e V2 ⟨rfl, hb0⟩
        clear H
        have ma := heldz hb0 ma
        have m1 := heldz hb0 m1
        have m2 := heldz hb0 m2
        have m3 := heldz hb0 m3
        have m4 := heldz hb0 m4
        have ra := ra.step hb0
        have r1 := r1.step hb0
        have r2 := r2.step hb0
        have r3 := r3.step hb0
        have r4 := r4.step hb0
        have ri := ri.step hb0
        have hB := hB.trans (hb0.mono hB.size)
        obtain ⟨xa0, xa1, xa2⟩ := box3_of ma
        obtain ⟨x10, x11, x12⟩ := box3_of m1
        obtain ⟨x20, x21, x22⟩ := box3_of m2
        obtain ⟨x30, x31, x32⟩ := box3_of m3
        obtain ⟨x40, x41, x42⟩ := box3_of m4
        (try dsimp only)
        refine hK.out _ _ ⟨xa0, xa1, xa2, x10, x11, x12, x20, x21, x22, x30, x31, x32, x40, x41, x42⟩ (fun hHeld => ?_)
        clear hK K
        try simp only [Act.put, List.setIfInBounds_toArray, List.set_cons_zero, List.set_cons_succ]
        clear xa0 xa1 xa2 x10 x11 x12 x20 x21 x22 x30 x31 x32 x40 x41 x42
        clear hb0
        refine wpAnyH_take (i := 13) (oi := ⟨_, _, _, _, _, _⟩) (v := ?_) rfl (by kernel_rfl) (by kernel_rfl) (by kernel_rfl) (fun _ _ _ h => h) (Or.inl ⟨by rfl, ?_⟩) (by assumption) ?_
        rotate_left
        · intro w hSw
          (try dsimp only at hSw)
          go_split_ands
          go_simp
          try with_reducible rfl
        try simp only [Act.put, List.setIfInBounds_toArray, List.set_cons_zero, List.set_cons_succ]
        refine wpAnyH_take (i := 14) (oi := ⟨_, _, _, _, _, _⟩) (v := ?_) rfl (by kernel_rfl) (by kernel_rfl) (by kernel_rfl) (fun _ _ _ h => h) (Or.inl ⟨by rfl, ?_⟩) (by assumption) ?_
        rotate_left
        · intro w hSw
          (try dsimp only at hSw)
          go_split_ands
          go_simp
          try with_reducible rfl
        try simp only [Act.put, List.setIfInBounds_toArray, List.set_cons_zero, List.set_cons_succ]
        refine wpAnyH_take (i := 15) (oi := ⟨_, _, _, _, _, _⟩) (v := ?_) rfl (by kernel_rfl) (by kernel_rfl) (by kernel_rfl) (fun _ _ _ h => h) (Or.inl ⟨by rfl, ?_⟩) (by assumption) ?_
        rotate_left
        · intro w hSw
          (try dsimp only at hSw)
          go_split_ands
          go_simp
          try with_reducible rfl
        try simp only [Act.put, List.setIfInBounds_toArray, List.set_cons_zero, List.set_cons_succ]
        refine wpAnyH_take (i := 16) (oi := ⟨_, _, _, _, _, _⟩) (v := ?_) rfl (by kernel_rfl) (by kernel_rfl) (by kernel_rfl) (fun _ _ _ h => h) (Or.inl ⟨by rfl, ?_⟩) (by assumption) ?_
        rotate_left
        · intro w hSw
          (try dsimp only at hSw)
          go_split_ands
          go_simp
          try with_reducible rfl
        try simp only [Act.put, List.setIfInBounds_toArray, List.set_cons_zero, List.set_cons_succ]
        refine wpAnyH_take (i := 17) (oi := ⟨_, _, _, _, _, _⟩) (v := ?_) rfl (by kernel_rfl) (by kernel_rfl) (by kernel_rfl) (fun _ _ _ h => h) (Or.inl ⟨by rfl, ?_⟩) (by assumption) ?_
        rotate_left
        · intro w hSw
          (try dsimp only at hSw)
          go_split_ands
          go_simp
          try with_reducible rfl
        try simp only [Act.put, List.setIfInBounds_toArray, List.set_cons_zero, List.set_cons_succ]
        refine wpAnyH_ready (rs := [18]) (by kernel_rfl) (by simp) ?_
        refine (AllReadyH.cons (o := ⟨_, _, _, _, _, _⟩) rfl (fun K hK => ?_) AllReadyH.nil)
        go_simp
        have H := DSame_f (c := c3) (d := c1) V2 HZX.out r3 r1 (fun b h => h) (fun b h => h) hn3 hn1
        (try unfold dv at H)
        refine H.mono ?_
        rintro e V3 ⟨rfl, hb0⟩
        clear H
        have ma := heldz hb0 ma
        have m1 := heldz hb0 m1
        have m2 := heldz hb0 m2
        have m3 := heldz hb0 m3
        have m4 := heldz hb0 m4
        have ra := ra.step hb0
        have r1 := r1.step hb0
        have r2 := r2.step hb0
        have r3 := r3.step hb0
        have r4 := r4.step hb0
        have ri := ri.step hb0
        have hB := hB.trans (hb0.mono hB.size)
        obtain ⟨xa0, xa1, xa2⟩ := box3_of ma
        obtain ⟨x10, x11, x12⟩ := box3_of m1
        obtain ⟨x20, x21, x22⟩ := box3_of m2
        obtain ⟨x30, x31, x32⟩ := box3_of m3
        obtain ⟨x40, x41, x42⟩ := box3_of m4
        (try dsimp only)
        refine hK.out _ _ ⟨xa0, xa1, xa2, x10, x11, x12, x20, x21, x22, x30, x31, x32, x40, x41, x42⟩ (fun hHeld => ?_)
        clear hK K
        try simp only [Act.put, List.setIfInBounds_toArray, List.set_cons_zero, List.set_cons_succ]
        clear xa0 xa1 xa2 x10 x11 x12 x20 x21 x22 x30 x31 x32 x40 x41 x42
        clear hb0
        refine wpAnyH_take (i := 19) (oi := ⟨_, _, _, _, _, _⟩) (v := ?_) rfl (by kernel_rfl) (by kernel_rfl) (by kernel_rfl) (fun _ _ _ h => h) (Or.inl ⟨by rfl, ?_⟩) (by assumption) ?_
        rotate_left
        · intro w hSw
          (try dsimp only at hSw)
          go_split_ands
          go_simp
          try with_reducible rfl
        try simp only [Act.put, List.setIfInBounds_toArray, List.set_cons_zero, List.set_cons_succ]
        refine wpAnyH_take (i := 20) (oi := ⟨_, _, _, _, _, _⟩) (v := ?_) rfl (by kernel_rfl) (by kernel_rfl) (by kernel_rfl) (fun _ _ _ h => h) (Or.inl ⟨by rfl, ?_⟩) (by assumption) ?_
        rotate_left
        · intro w hSw
          (try dsimp only at hSw)
          go_split_ands
          go_simp
          try with_reducible rfl
        try simp only [Act.put, List.setIfInBounds_toArray, List.set_cons_zero, List.set_cons_succ]
        refine wpAnyH_take (i := 21) (oi := ⟨_, _, _, _, _, _⟩) (v := ?_) rfl (by kernel_rfl) (by kernel_rfl) (by kernel_rfl) (fun _ _ _ h => h) (Or.inl ⟨by rfl, ?_⟩) (by assumption) ?_
        rotate_left
        · intro w hSw
          (try dsimp only at hSw)
          go_split_ands
          go_simp
          try with_reducible rfl
        try simp only [Act.put, List.setIfInBounds_toArray, List.set_cons_zero, List.set_cons_succ]
        refine wpAnyH_ready (rs := [22]) (by kernel_rfl) (by simp) ?_
        refine (AllReadyH.cons (o := ⟨_, _, _, _, _, _⟩) rfl (fun K hK => ?_) AllReadyH.nil)
        go_simp
        have H := DSame_t (c := c3) (d := c2) V3 HZY.out r3 r2 (fun b h => h) (fun b h => h) hn3 hn2
        (try unfold dv at H)
        refine H.mono ?_
        rintro e V4 ⟨rfl, hb0⟩
        clear H
        have ma := heldz hb0 ma
        have m1 := heldz hb0 m1
        have m2 := heldz hb0 m2
        have m3 := heldz hb0 m3
        have m4 := heldz hb0 m4
        have ra := ra.step hb0
        have r1 := r1.step hb0
        have r2 := r2.step hb0
        have r3 := r3.step hb0
        have r4 := r4.step hb0
        have ri := ri.step hb0
        have hB := hB.trans (hb0.mono hB.size)
        obtain ⟨xa0, xa1, xa2⟩ := box3_of ma
        obtain ⟨x10, x11, x12⟩ := box3_of m1
        obtain ⟨x20, x21, x22⟩ := box3_of m2
        obtain ⟨x30, x31, x32⟩ := box3_of m3
        obtain ⟨x40, x41, x42⟩ := box3_of m4
        (try dsimp only)
        refine hK.out _ _ ⟨xa0, xa1, xa2, x10, x11, x12, x20, x21, x22, x30, x31, x32, x40, x41, x42⟩ (fun hHeld => ?_)
        clear hK K
        try simp only [Act.put, List.setIfInBounds_toArray, List.set_cons_zero, List.set_cons_succ]
        clear xa0 xa1 xa2 x10 x11 x12 x20 x21 x22 x30 x31 x32 x40 x41 x42
        clear hb0
        refine wpAnyH_take (i := 23) (oi := ⟨_, _, _, _, _, _⟩) (v := ?_) rfl (by kernel_rfl) (by kernel_rfl) (by kernel_rfl) (fun _ _ _ h => h) (Or.inl ⟨by rfl, ?_⟩) (by assumption) ?_
        rotate_left
        · intro w hSw
          (try dsimp only at hSw)
          go_split_ands
          go_simp
          try with_reducible rfl
        try simp only [Act.put, List.setIfInBounds_toArray, List.set_cons_zero, List.set_cons_succ]
        refine wpAnyH_take (i := 24) (oi := ⟨_, _, _, _, _, _⟩) (v := ?_) rfl (by kernel_rfl) (by kernel_rfl) (by kernel_rfl) (fun _ _ _ h => h) (Or.inl ⟨by rfl, ?_⟩) (by assumption) ?_
        rotate_left
        · intro w hSw
          (try dsimp only at hSw)
          go_split_ands
          go_simp
          try with_reducible rfl
        try simp only [Act.put, List.setIfInBounds_toArray, List.set_cons_zero, List.set_cons_succ]
        refine wpAnyH_take (i := 25) (oi := ⟨_, _, _, _, _, _⟩) (v := ?_) rfl (by kernel_rfl) (by kernel_rfl) (by kernel_rfl) (fun _ _ _ h => h) (Or.inl ⟨by rfl, ?_⟩) (by assumption) ?_
        rotate_left
        · intro w hSw
          (try dsimp only at hSw)
          go_split_ands
          go_simp
          try with_reducible rfl
        try simp only [Act.put, List.setIfInBounds_toArray, List.set_cons_zero, List.set_cons_succ]
        refine wpAnyH_done (by kernel_rfl) ?_ _
        go_wp2
        go_ret
        exact ⟨rfl, hB⟩
  · skip
    obtain ⟨xa0, xa1, xa2⟩ := box3_of ma
    go_wp2_with fail
    clear xa0 xa1 xa2
    have H := QFloor_c (c := c) na e1 w0 ra (fun b h => h) hn
    (try unfold dv at H)
    (try unfold nv at H)
    refine H.mono ?_
    rintro e w1 ⟨⟨E0, s0, Z0, lo0, hP, A1, n1, c1, rfl, hr⟩, hb0⟩
    clear H
    have ma := heldz hb0 ma
    have ra := ra.step hb0
    have hB := hB.trans (hb0.mono hB.size)
    clear hb0
    have hE0 : E0 = 9 := by
      rcases hP with ⟨_, h⟩ | ⟨h, _⟩
      · exact h.trans hok
      · rw [hok] at h; exact absurd h (by decide)
    rw [show opE E0 Z0 lo0 = 9 from by rw [hE0]; rfl]
    generalize opN E0 s0 Z0 lo0 = N1
    generalize opX E0 Z0 lo0 = X1
    clear hP hr hE0
    dsimp only [dv]
    go_upto_region 4 with fail
    have hal : Below w1.heap.size w1 (w1.alloc (.cells #[.bool N1, .slice A1 n1 c1, .int .i64 X1] 24)) := (Below.refl _ _).alloc (Nat.le_refl _) _
    have ma := heldz hal ma
    have ra := ra.step hal
    have m1 := World.alloc_heap_new w1 (.cells #[.bool N1, .slice A1 n1 c1, .int .i64 X1] 24)
    have hB := hB.trans (hal.mono hB.size)
    clear hal
    generalize w1.alloc (.cells #[.bool N1, .slice A1 n1 c1, .int .i64 X1] 24) = w2 at ma m1 ra  hB ⊢
    obtain ⟨xa0, xa1, xa2⟩ := box3_of ma
    go_wp2_with fail
    clear xa0 xa1 xa2
    have H := QCeil_c (c := c) na e1 w2 ra (fun b h => h) hn
    (try unfold dv at H)
    (try unfold nv at H)
    refine H.mono ?_
    rintro e w3 ⟨⟨E0, s0, Z0, lo0, hP, A2, n2, c2, rfl, hr⟩, hb0⟩
    clear H
    have ma := heldz hb0 ma
    have m1 := heldz hb0 m1
    have ra := ra.step hb0
    have hB := hB.trans (hb0.mono hB.size)
    clear hb0
    have hE0 : E0 = 9 := by
      rcases hP with ⟨_, h⟩ | ⟨h, _⟩
      · exact h.trans hok
      · rw [hok] at h; exact absurd h (by decide)
    rw [show opE E0 Z0 lo0 = 9 from by rw [hE0]; rfl]
    generalize opN E0 s0 Z0 lo0 = N2
    generalize opX E0 Z0 lo0 = X2
    clear hP hr hE0
    dsimp only [dv]
    go_upto_region 5 with fail
    have hal : Below w3.heap.size w3 (w3.alloc (.cells #[.bool N2, .slice A2 n2 c2, .int .i64 X2] 24)) := (Below.refl _ _).alloc (Nat.le_refl _) _
    have ma := heldz hal ma
    have m1 := heldz hal m1
    have ra := ra.step hal
    have m2 := World.alloc_heap_new w3 (.cells #[.bool N2, .slice A2 n2 c2, .int .i64 X2] 24)
    have hB := hB.trans (hal.mono hB.size)
    clear hal
    generalize w3.alloc (.cells #[.bool N2, .slice A2 n2 c2, .int .i64 X2] 24) = w4 at ma m1 m2 ra  hB ⊢
    obtain ⟨xa0, xa1, xa2⟩ := box3_of ma
    go_wp2_with fail
    clear xa0 xa1 xa2
    have H := QRound_c (c := c) na e1 w4 ra (fun b h => h) hn
    (try unfold dv at H)
    (try unfold nv at H)
    refine H.mono ?_
    rintro e w5 ⟨⟨E0, s0, Z0, lo0, hP, A3, n3, c3, rfl, hr⟩, hb0⟩
    clear H
    have ma := heldz hb0 ma
    have m1 := heldz hb0 m1
    have m2 := heldz hb0 m2
    have ra := ra.step hb0
    have hB := hB.trans (hb0.mono hB.size)
    clear hb0
    have hE0 : E0 = 9 := by
      rcases hP with ⟨_, h⟩ | ⟨h, _⟩
      · exact h.trans hok
      · rw [hok] at h; exact absurd h (by decide)
    rw [show opE E0 Z0 lo0 = 9 from by rw [hE0]; rfl]
    generalize opN E0 s0 Z0 lo0 = N3
    generalize opX E0 Z0 lo0 = X3
    clear hP hr hE0
    dsimp only [dv]
    go_upto_region 6 with fail
    have hal : Below w5.heap.size w5 (w5.alloc (.cells #[.bool N3, .slice A3 n3 c3, .int .i64 X3] 24)) := (Below.refl _ _).alloc (Nat.le_refl _) _
    have ma := heldz hal ma
    have m1 := heldz hal m1
    have m2 := heldz hal m2
    have ra := ra.step hal
    have m3 := World.alloc_heap_new w5 (.cells #[.bool N3, .slice A3 n3 c3, .int .i64 X3] 24)
    have hB := hB.trans (hal.mono hB.size)
    clear hal
    generalize w5.alloc (.cells #[.bool N3, .slice A3 n3 c3, .int .i64 X3] 24) = w6 at ma m1 m2 m3 ra  hB ⊢
    have hck := fun V (h1 : Rd V (fun b => b < V.heap.size) A n xs) => RCheck_c (c := c) na e1 V h1 (fun b h => h) hn
    rw [hok] at hck
    unfold dv at hck
    have HCK := Lib.hid hck
    clear hck
    obtain ⟨xa0, xa1, xa2⟩ := box3_of ma
    go_wp2_with fail
    refine (HCK.out w6 ra).mono ?_
    rintro e w7 ⟨rfl, hb0⟩
    clear xa0 xa1 xa2
    have ma := heldz hb0 ma
    have m1 := heldz hb0 m1
    have m2 := heldz hb0 m2
    have m3 := heldz hb0 m3
    have ra := ra.step hb0
    have hB := hB.trans (hb0.mono hB.size)
    clear hb0
    obtain ⟨xa0, xa1, xa2⟩ := box3_of ma
    go_wp2_with (go_at_call 22; refine (num3_c _ _).mono ?_; rintro e w' ⟨rfl, rfl⟩)
    refine (HCK.out w7 ra).mono ?_
    rintro e v1 ⟨rfl, hb0⟩
    go_wp2_with (go_at_call 22; refine (num3_c _ _).mono ?_; rintro e w' ⟨rfl, rfl⟩)
    go_ret
    exact ⟨rfl, hB.trans (hb0.mono hB.size)⟩
end Go.Proofs.YtbbafggejnjjiaaGreatDoor
