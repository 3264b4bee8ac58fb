/-
  Contract of kinds.entryOf: a key and a value as an object.
-/
import Derived.Test.YtpmdcahomkdfmaaGreatDoorBKfl
import Derived.Test.YtpmdcahomkdfmaaGreatDoorBKff
import Derived.Test.YtpmdcahomkdfmaaGreatDoorBVob
import Derived.Test.YtpmdcahomkdfmaaGreatDoorBVsame
import Derived.Test.YtpmdcahomkdfmaaGreatDoorBUtext
import Derived.Test.YtpmdcahomkdfmaaGreatDoorBLli
import Derived.Test.YtpmdcahomkdfmaaGreatDoorBKun
set_option linter.unusedVariables false
set_option linter.unusedSimpArgs false
namespace Go.Proofs.YtpmdcahomkdfmaaGreatDoor
open Go.RowKit Go.Lib
attribute [local go_sem] Oper.semAt_some

theorem buildEK (kb lb : Nat) (w : World) : (Instr.build 28 #[(0, .int .i64 6), (4, .slice (some ⟨kb, 0, none⟩) 2 2), (3, .slice (some ⟨lb, 0, none⟩) 2 2)]).run Tryz.prog w = .ok (.agg #[.int .i64 6, .bool false, .slice none 0 0, .int .i64 0, .string ⟨#[]⟩, .slice (some ⟨lb, 0, none⟩) 2 2, .slice (some ⟨kb, 0, none⟩) 2 2]) w := run_build w 28 _ _ (by kernel_rfl)
theorem held7 {X Y : World} {b : Nat} {v0 v1 v2 v3 v4 v5 v6 : Value} (h : X.cell? ⟨b, 0, none⟩ = some v0 ∧ X.cell? ⟨b, 1, none⟩ = some v1 ∧ X.cell? ⟨b, 2, none⟩ = some v2 ∧ X.cell? ⟨b, 3, none⟩ = some v3 ∧ X.cell? ⟨b, 4, none⟩ = some v4 ∧ X.cell? ⟨b, 5, none⟩ = some v5 ∧ X.cell? ⟨b, 6, none⟩ = some v6) (hb : Y.heap[b]? = X.heap[b]?) :
    Y.cell? ⟨b, 0, none⟩ = some v0 ∧ Y.cell? ⟨b, 1, none⟩ = some v1 ∧ Y.cell? ⟨b, 2, none⟩ = some v2 ∧ Y.cell? ⟨b, 3, none⟩ = some v3 ∧ Y.cell? ⟨b, 4, none⟩ = some v4 ∧ Y.cell? ⟨b, 5, none⟩ = some v5 ∧ Y.cell? ⟨b, 6, none⟩ = some v6 := by
  have k : ∀ j, Y.cell? ⟨b, j, none⟩ = X.cell? ⟨b, j, none⟩ := fun j => World.cell?_of_block hb
  simpa only [k] using h
/-- An entry, in two blocks. -/
theorem entry_in {w : World} {S S' : Nat → Prop} {s : ByteArray} {v : VT} {k e : Int} {neg : Bool} {A LA KA : Option Addr} {n c ln lc kn kc kb lb : Nat} {t : ByteArray} (hv : VIn w S v [.int .i64 k, .bool neg, .slice A n c, .int .i64 e, .string t, .slice LA ln lc, .slice KA kn kc]) (hSS : ∀ b, S b → S' b)
    (hk : w.heap[kb]? = some (.cells #[.string ⟨#[107, 101, 121]⟩, .string ⟨#[118, 97, 108, 117, 101]⟩] 9)) (hl : w.heap[lb]? = some (.cells #[.int .i64 4, .bool false, .slice none 0 0, .int .i64 0, .string s, .slice none 0 0, .slice none 0 0, .int .i64 k, .bool neg, .slice A n c, .int .i64 e, .string t, .slice LA ln lc, .slice KA kn kc] 28)) (hkb : S' kb) (hlb : S' lb) (hs : s.size ≤ 140737488355328) :
    VIn w S' (entryV s v) [.int .i64 6, .bool false, .slice none 0 0, .int .i64 0, .string ⟨#[]⟩, .slice (some ⟨lb, 0, none⟩) 2 2, .slice (some ⟨kb, 0, none⟩) 2 2] := by
  refine .mk (cs := fun i => if i = 0 then [.int .i64 4, .bool false, .slice none 0 0, .int .i64 0, .string s, .slice none 0 0, .slice none 0 0] else [.int .i64 k, .bool neg, .slice A n c, .int .i64 e, .string t, .slice LA ln lc, .slice KA kn kc]) (Rd.nil w S' none) (by omega) (by decide) ⟨rfl, fun _ => ⟨kb, 0, rfl, hkb, fun i x hi => ?_⟩⟩ (by omega) rfl (by omega) (by omega) (fun _ => ⟨lb, 0, rfl, hlb, fun i hi => ⟨?_, fun j hj => ?_⟩⟩) (fun i x hi => ?_)
  · match i with
    | 0 => simp at hi; subst hi; exact ⟨cell_at3 hk rfl, by decide⟩
    | 1 => simp at hi; subst hi; exact ⟨cell_at3 hk rfl, by decide⟩
    | i + 2 => simp at hi
  · split <;> rfl
  · rw [cell_of_heap hl, Nat.zero_add]
    match i, hi with
    | 0, _ =>
      match j, hj with
      | 0, _ => rfl
      | 1, _ => rfl
      | 2, _ => rfl
      | 3, _ => rfl
      | 4, _ => rfl
      | 5, _ => rfl
      | 6, _ => rfl
    | 1, _ =>
      match j, hj with
      | 0, _ => rfl
      | 1, _ => rfl
      | 2, _ => rfl
      | 3, _ => rfl
      | 4, _ => rfl
      | 5, _ => rfl
      | 6, _ => rfl
  · match i with
    | 0 =>
      simp at hi; subst hi
      exact .mk (cs := fun _ => []) (Rd.nil w S' none) (by omega) hs ⟨rfl, fun h0 => absurd h0 (by omega)⟩ (by omega) rfl (by omega) (by omega) (fun h => absurd h (by omega)) (fun i x hi => absurd hi (by simp))
    | 1 => simp at hi; subst hi; exact hv.more hSS
    | i + 2 => simp at hi
set_option maxRecDepth 1000000 in
set_option maxHeartbeats 8000000 in
theorem entryOf_c {S : Nat → Prop} {v : VT} {cs : List Value} (s : ByteArray) (w : World) (hv : VIn w S v cs) (hS : ∀ b, S b → b < w.heap.size) (hs : s.size ≤ 140737488355328) :
    Calls Tryz.prog 15 #[.string s, .agg cs.toArray] w fun e w' => ∃ lb kb, e = .returned (.agg #[.int .i64 6, .bool false, .slice none 0 0, .int .i64 0, .string ⟨#[]⟩, .slice (some ⟨lb, 0, none⟩) 2 2, .slice (some ⟨kb, 0, none⟩) 2 2]) ∧
      VIn w' (fun b => S b ∨ (w.heap.size ≤ b ∧ b < w'.heap.size)) (entryV s v) [.int .i64 6, .bool false, .slice none 0 0, .int .i64 0, .string ⟨#[]⟩, .slice (some ⟨lb, 0, none⟩) 2 2, .slice (some ⟨kb, 0, none⟩) 2 2] ∧ Below w.heap.size w w' := by
  obtain ⟨k, neg, A, n, c, e, t, LA, ln, lc, KA, kn, kc, rfl, -, -⟩ := hv.seven
  obtain ⟨b0, hb0⟩ : ∃ b, w.heap.size = b := ⟨_, rfl⟩
  obtain ⟨wa, hwa⟩ : ∃ x, w.alloc (.cells #[.int .i64 k, .bool neg, .slice A n c, .int .i64 e, .string t, .slice LA ln lc, .slice KA kn kc] 28) = x := ⟨_, rfl⟩
  obtain ⟨W0, hW0⟩ : ∃ x, wa.alloc (.cells #[.int .i64 0, .bool false, .slice none 0 0, .int .i64 0, .string ⟨#[]⟩, .slice none 0 0, .slice none 0 0] 28) = x := ⟨_, rfl⟩
  have ga : Below b0 w wa := by rw [← hwa]; exact (Below.refl _ w).alloc (by omega) _
  have sa : wa.heap.size = b0 + 1 := by rw [← hwa, World.size_alloc, hb0]
  have na : wa.heap[b0]? = some (.cells #[.int .i64 k, .bool neg, .slice A n c, .int .i64 e, .string t, .slice LA ln lc, .slice KA kn kc] 28) := by rw [← hwa, ← hb0]; exact World.alloc_heap_new w _
  have gb : Below (b0 + 1) wa W0 := by rw [← hW0]; exact (Below.refl _ wa).alloc (by omega) _
  have sb : W0.heap.size = b0 + 2 := by rw [← hW0, World.size_alloc, sa]
  have nb : W0.heap[b0 + 1]? = some (.cells #[.int .i64 0, .bool false, .slice none 0 0, .int .i64 0, .string ⟨#[]⟩, .slice none 0 0, .slice none 0 0] 28) := by rw [← hW0, ← sa]; exact World.alloc_heap_new wa _
  have n0 := (gb.block b0 (by omega)).trans na
  obtain ⟨x0, x1, x2, x3, x4, x5, x6⟩ := box7_of n0
  have hb02 : Below b0 w W0 := ga.trans (gb.mono (by omega))
  rw [hb0] at hS ⊢
  have HV := Lib.hid hv
  have HS := Lib.hid hS
  have H1 := Lib.hid nb
  have HB0 := Lib.hid hb02
  have HA := Lib.hid hwa
  have HW := Lib.hid hW0
  have SB := Lib.hid sb
  clear hv hS nb hb02 na n0 ga gb hwa hW0 sa sb
  refine (callsIn_wide (n := 0)).1 ?_
  refine callsIn_of_wp Tryz.func15 rfl trivial ?_ rfl
  simp only [Tryz.ntmps15, List.size_toArray, List.length_cons, List.length_nil, Nat.reduceAdd, Nat.reduceSub, Array.replicate_succ, Array.replicate_zero, List.push_toArray, List.append_toArray, List.nil_append, List.cons_append]
  gi_wp2
  rw [HA.out]
  try rw [HW.out]
  try rw [hb0]
  clear hb0
  refine region_U (by kernel_rfl) (fun (X : World) => X.cell? ⟨b0, 0, none⟩ = some (.int .i64 k) ∧ X.cell? ⟨b0, 1, none⟩ = some (.bool neg) ∧ X.cell? ⟨b0, 2, none⟩ = some (.slice A n c) ∧ X.cell? ⟨b0, 3, none⟩ = some (.int .i64 e) ∧ X.cell? ⟨b0, 4, none⟩ = some (.string t) ∧ X.cell? ⟨b0, 5, none⟩ = some (.slice LA ln lc) ∧ X.cell? ⟨b0, 6, none⟩ = some (.slice KA kn kc)) 6 ?_
  have hHeld : (fun (X : World) => X.cell? ⟨b0, 0, none⟩ = some (.int .i64 k) ∧ X.cell? ⟨b0, 1, none⟩ = some (.bool neg) ∧ X.cell? ⟨b0, 2, none⟩ = some (.slice A n c) ∧ X.cell? ⟨b0, 3, none⟩ = some (.int .i64 e) ∧ X.cell? ⟨b0, 4, none⟩ = some (.string t) ∧ X.cell? ⟨b0, 5, none⟩ = some (.slice LA ln lc) ∧ X.cell? ⟨b0, 6, none⟩ = some (.slice KA kn kc)) W0.drew := ⟨x0, x1, x2, x3, x4, x5, x6⟩
  (try simp only [List.size_toArray, List.length_cons, List.length_nil, Nat.reduceAdd, Array.replicate_succ, Array.replicate_zero, List.push_toArray, List.append_toArray, List.nil_append, List.cons_append])
  refine wpAnyU_take (i := 1) (oi := ⟨_, _, _, _, _, _⟩) (ok := ⟨_, _, _, _, _, _⟩) (v := ?_) rfl rfl rfl (by decide) (by kernel_rfl) (by kernel_rfl) (by kernel_rfl) (by kernel_rfl) (by kernel_rfl) (fun _ _ _ h => h) ⟨by rfl, ?_⟩ (by assumption) ?_
  rotate_left
  · intro w hSw
    (try dsimp only at hSw)
    go_split_ands
    refine ⟨?_, rfl⟩
    go_simp
    try with_reducible rfl
  try simp only [Act.put, List.setIfInBounds_toArray, List.set_cons_zero, List.set_cons_succ]
  refine wpAnyU_take (i := 3) (oi := ⟨_, _, _, _, _, _⟩) (ok := ⟨_, _, _, _, _, _⟩) (v := ?_) rfl rfl rfl (by decide) (by kernel_rfl) (by kernel_rfl) (by kernel_rfl) (by kernel_rfl) (by kernel_rfl) (fun _ _ _ h => h) ⟨by rfl, ?_⟩ (by assumption) ?_
  rotate_left
  · intro w hSw
    (try dsimp only at hSw)
    go_split_ands
    refine ⟨?_, rfl⟩
    go_simp
    try with_reducible rfl
  try simp only [Act.put, List.setIfInBounds_toArray, List.set_cons_zero, List.set_cons_succ]
  refine wpAnyU_two (i := 0) (j := 2) (by kernel_rfl) (StepU.of (o := ⟨_, _, _, _, _, _⟩) rfl (by rfl) (fun K hK => ?_)) (StepU.of (o := ⟨_, _, _, _, _, _⟩) rfl (by rfl) (fun K hK => ?_))
  · go_simp
    have nk1 := World.alloc_heap_new W0.drew (.cells #[.string ⟨#[107, 101, 121]⟩, .string ⟨#[118, 97, 108, 117, 101]⟩] 9)
    have gk1 : Below W0.drew.heap.size W0.drew (W0.drew.alloc (.cells #[.string ⟨#[107, 101, 121]⟩, .string ⟨#[118, 97, 108, 117, 101]⟩] 9)) := (Below.refl _ W0.drew).alloc (Nat.le_refl _) _
    have sk1 : (W0.drew.alloc (.cells #[.string ⟨#[107, 101, 121]⟩, .string ⟨#[118, 97, 108, 117, 101]⟩] 9)).heap.size = W0.heap.size + 1 := World.size_alloc _ _
    rw [show (W0.alloc (.cells #[.string ⟨#[107, 101, 121]⟩, .string ⟨#[118, 97, 108, 117, 101]⟩] 9)).drew = W0.drew.alloc (.cells #[.string ⟨#[107, 101, 121]⟩, .string ⟨#[118, 97, 108, 117, 101]⟩] 9) from rfl]
    obtain ⟨Wk, hYk1⟩ : ∃ Y, W0.drew.alloc (.cells #[.string ⟨#[107, 101, 121]⟩, .string ⟨#[118, 97, 108, 117, 101]⟩] 9) = Y := ⟨_, rfl⟩
    rw [hYk1] at nk1 gk1 sk1 ⊢
    have hhk1 : (fun (X : World) => X.cell? ⟨b0, 0, none⟩ = some (.int .i64 k) ∧ X.cell? ⟨b0, 1, none⟩ = some (.bool neg) ∧ X.cell? ⟨b0, 2, none⟩ = some (.slice A n c) ∧ X.cell? ⟨b0, 3, none⟩ = some (.int .i64 e) ∧ X.cell? ⟨b0, 4, none⟩ = some (.string t) ∧ X.cell? ⟨b0, 5, none⟩ = some (.slice LA ln lc) ∧ X.cell? ⟨b0, 6, none⟩ = some (.slice KA kn kc)) Wk := held7 hHeld (gk1.block b0 (by have q0 := SB.out; show b0 < W0.heap.size; omega))
    have Zk1 := Lib.hid sk1
    clear sk1
    refine hK _ _ (.inr hhk1) ?_
    clear hK K hYk1
    try simp only [Act.put, List.setIfInBounds_toArray, List.set_cons_zero, List.set_cons_succ]
    refine wpAnyU_one (i := 2) (by kernel_rfl) (StepU.of (o := ⟨_, _, _, _, _, _⟩) rfl (by rfl) (fun K hK => ?_))
    go_simp
    refine ⟨trivial, rfl, ?_⟩
    refine (callsIn_wide.2 (etext_c s Wk)).mono ?_
    rintro e9 Wt ⟨rfl, gt1⟩
    have st1 : Wk.heap.size ≤ Wt.heap.size := gt1.size
    have hht1 : (fun (X : World) => X.cell? ⟨b0, 0, none⟩ = some (.int .i64 k) ∧ X.cell? ⟨b0, 1, none⟩ = some (.bool neg) ∧ X.cell? ⟨b0, 2, none⟩ = some (.slice A n c) ∧ X.cell? ⟨b0, 3, none⟩ = some (.int .i64 e) ∧ X.cell? ⟨b0, 4, none⟩ = some (.string t) ∧ X.cell? ⟨b0, 5, none⟩ = some (.slice LA ln lc) ∧ X.cell? ⟨b0, 6, none⟩ = some (.slice KA kn kc)) Wt := held7 hhk1 (gt1.block b0 (by have q0 := SB.out; have q1 := Zk1.out; show b0 < Wk.heap.size; omega))
    have Zt1 := Lib.hid st1
    clear st1
    refine hK _ _ (.inr hht1) ?_
    clear hK K
    try simp only [Act.put, List.setIfInBounds_toArray, List.set_cons_zero, List.set_cons_succ]
    refine wpAnyU_one (i := 4) (by kernel_rfl) (StepU.of (o := ⟨_, _, _, _, _, _⟩) rfl (by rfl) (fun K hK => ?_))
    go_simp
    have nl1 := World.alloc_heap_new Wt (.cells #[.int .i64 4, .bool false, .slice none 0 0, .int .i64 0, .string s, .slice none 0 0, .slice none 0 0, .int .i64 k, .bool neg, .slice A n c, .int .i64 e, .string t, .slice LA ln lc, .slice KA kn kc] 28)
    have gl1 : Below Wt.heap.size Wt (Wt.alloc (.cells #[.int .i64 4, .bool false, .slice none 0 0, .int .i64 0, .string s, .slice none 0 0, .slice none 0 0, .int .i64 k, .bool neg, .slice A n c, .int .i64 e, .string t, .slice LA ln lc, .slice KA kn kc] 28)) := (Below.refl _ Wt).alloc (Nat.le_refl _) _
    have sl1 : (Wt.alloc (.cells #[.int .i64 4, .bool false, .slice none 0 0, .int .i64 0, .string s, .slice none 0 0, .slice none 0 0, .int .i64 k, .bool neg, .slice A n c, .int .i64 e, .string t, .slice LA ln lc, .slice KA kn kc] 28)).heap.size = Wt.heap.size + 1 := World.size_alloc _ _
    obtain ⟨Wl, hYl1⟩ : ∃ Y, Wt.alloc (.cells #[.int .i64 4, .bool false, .slice none 0 0, .int .i64 0, .string s, .slice none 0 0, .slice none 0 0, .int .i64 k, .bool neg, .slice A n c, .int .i64 e, .string t, .slice LA ln lc, .slice KA kn kc] 28) = Y := ⟨_, rfl⟩
    rw [hYl1] at nl1 gl1 sl1 ⊢
    have hhl1 : (fun (X : World) => X.cell? ⟨b0, 0, none⟩ = some (.int .i64 k) ∧ X.cell? ⟨b0, 1, none⟩ = some (.bool neg) ∧ X.cell? ⟨b0, 2, none⟩ = some (.slice A n c) ∧ X.cell? ⟨b0, 3, none⟩ = some (.int .i64 e) ∧ X.cell? ⟨b0, 4, none⟩ = some (.string t) ∧ X.cell? ⟨b0, 5, none⟩ = some (.slice LA ln lc) ∧ X.cell? ⟨b0, 6, none⟩ = some (.slice KA kn kc)) Wl := held7 hht1 (gl1.block b0 (by have q0 := SB.out; have q1 := Zk1.out; have q2 := Zt1.out; show b0 < Wt.heap.size; omega))
    have Zl1 := Lib.hid sl1
    clear sl1
    refine hK _ _ (.inr hhl1) ?_
    clear hK K hYl1
    try simp only [Act.put, List.setIfInBounds_toArray, List.set_cons_zero, List.set_cons_succ]
    -- the end
    have nk9 : Wl.heap[W0.heap.size]? = some (.cells #[.string ⟨#[107, 101, 121]⟩, .string ⟨#[118, 97, 108, 117, 101]⟩] 9) := (gl1.block _ (by have q0 := SB.out; have q1 := Zk1.out; have q2 := Zt1.out; have q3 := Zl1.out; show W0.heap.size < Wt.heap.size; omega)).trans ((gt1.block _ (by have q0 := SB.out; have q1 := Zk1.out; have q2 := Zt1.out; have q3 := Zl1.out; show W0.heap.size < Wk.heap.size; omega)).trans (nk1))
    have nl9 : Wl.heap[Wt.heap.size]? = some (.cells #[.int .i64 4, .bool false, .slice none 0 0, .int .i64 0, .string s, .slice none 0 0, .slice none 0 0, .int .i64 k, .bool neg, .slice A n c, .int .i64 e, .string t, .slice LA ln lc, .slice KA kn kc] 28) := nl1
    have gz : Below (b0 + 2) W0 Wl := ((((Below.refl _ W0).drew).trans (gk1.mono (by have q0 := SB.out; have q1 := Zk1.out; have q2 := Zt1.out; have q3 := Zl1.out; show b0 + 2 ≤ W0.heap.size; omega))).trans (gt1.mono (by have q0 := SB.out; have q1 := Zk1.out; have q2 := Zt1.out; have q3 := Zl1.out; show b0 + 2 ≤ Wk.heap.size; omega))).trans (gl1.mono (by have q0 := SB.out; have q1 := Zk1.out; have q2 := Zt1.out; have q3 := Zl1.out; show b0 + 2 ≤ Wt.heap.size; omega))
    obtain ⟨kb, hkb⟩ : ∃ b, W0.heap.size = b := ⟨_, rfl⟩
    obtain ⟨lb, hlb⟩ : ∃ b, Wt.heap.size = b := ⟨_, rfl⟩
    have hk2 : b0 + 2 ≤ kb ∧ kb < Wl.heap.size := (by have q0 := SB.out; have q1 := Zk1.out; have q2 := Zt1.out; have q3 := Zl1.out; omega)
    have hl2 : b0 + 2 ≤ lb ∧ lb < Wl.heap.size := (by have q0 := SB.out; have q1 := Zk1.out; have q2 := Zt1.out; have q3 := Zl1.out; omega)
    rw [hkb] at nk9 ⊢
    rw [hlb] at nl9 ⊢
    have hz1 := (gz.block (b0 + 1) (by omega)).trans H1.out
    obtain ⟨z0, z1, z2, z3, z4, z5, z6⟩ := box7_of hz1
    have fz : ∀ j, Wl.frozen? ⟨b0 + 1, j, none⟩ = false := fun j => frozen_of_row _ _ j _ _ hz1
    have hbu := buildEK kb lb Wl
    have NK := Lib.hid nk9
    have NL := Lib.hid nl9
    have GZ := Lib.hid gz
    have HK2 := Lib.hid hk2
    have HL2 := Lib.hid hl2
    clear nk9 nl9 gz hk2 hl2 hz1 hkb hlb
    refine wpAnyU_one (i := 5) (by kernel_rfl) (StepU.of (o := ⟨_, _, _, _, _, _⟩) rfl (by rfl) (fun K hK => ?_))
    go_simp
    refine hK _ _ (.inr (by assumption)) ?_
    clear hK K
    try simp only [Act.put, List.setIfInBounds_toArray, List.set_cons_zero, List.set_cons_succ]
    refine wpAnyU_one (i := 6) (by kernel_rfl) (StepU.of (o := ⟨_, _, _, _, _, _⟩) rfl (by rfl) (fun K hK => ?_))
    go_simp
    refine hK _ _ (.inl rfl) ?_
    clear hK K
    try simp only [Act.put, List.setIfInBounds_toArray, List.set_cons_zero, List.set_cons_succ]
    refine wpAnyU_done (by kernel_rfl) ?_ _
    gi_wp2
    refine bodyPost_ret (v := .agg #[.int .i64 6, .bool false, .slice none 0 0, .int .i64 0, .string ⟨#[]⟩, .slice (some ⟨lb, 0, none⟩) 2 2, .slice (some ⟨kb, 0, none⟩) 2 2]) (by simp [results, Tryz.results15, go_sem, z0, z1, z2, z3, z4, z5, z6]) rfl ?_
    have hw := HB0.out.trans (GZ.out.mono (show b0 ≤ b0 + 2 by omega))
    have hk2 := HK2.out
    have hl2 := HL2.out
    refine ⟨lb, kb, rfl, ?_, below_seven hw (by omega) _ _ _ _ _ _ _⟩
    have hin := entry_in (S' := fun b => S b ∨ (b0 ≤ b ∧ b ≠ b0 + 1 ∧ b < Wl.heap.size)) (HV.out.keep fun p hp => hw.cell (HS.out _ hp)) (fun b hb => .inl hb) NK.out NL.out (.inr (by omega)) (.inr (by omega)) hs
    refine (hin.keep fun p hp => cell_seven ?_ _ _ _ _ _ _ _).more fun b hb => ?_
    · rcases hp with h | h
      · have := HS.out _ h; omega
      · omega
    · rcases hb with h | h
      · exact .inl h
      · exact .inr ⟨h.1, by simpa [World.setCell] using h.2.2⟩
  · go_simp
    refine ⟨trivial, rfl, ?_⟩
    refine (callsIn_wide.2 (etext_c s W0.drew)).mono ?_
    rintro e9 Wt ⟨rfl, gt1⟩
    have st1 : W0.heap.size ≤ Wt.heap.size := gt1.size
    have hht1 : (fun (X : World) => X.cell? ⟨b0, 0, none⟩ = some (.int .i64 k) ∧ X.cell? ⟨b0, 1, none⟩ = some (.bool neg) ∧ X.cell? ⟨b0, 2, none⟩ = some (.slice A n c) ∧ X.cell? ⟨b0, 3, none⟩ = some (.int .i64 e) ∧ X.cell? ⟨b0, 4, none⟩ = some (.string t) ∧ X.cell? ⟨b0, 5, none⟩ = some (.slice LA ln lc) ∧ X.cell? ⟨b0, 6, none⟩ = some (.slice KA kn kc)) Wt := held7 hHeld (gt1.block b0 (by have q0 := SB.out; show b0 < W0.heap.size; omega))
    have Zt1 := Lib.hid st1
    clear st1
    refine hK _ _ (.inr hht1) ?_
    clear hK K
    try simp only [Act.put, List.setIfInBounds_toArray, List.set_cons_zero, List.set_cons_succ]
    refine wpAnyU_two (i := 0) (j := 4) (by kernel_rfl) (StepU.of (o := ⟨_, _, _, _, _, _⟩) rfl (by rfl) (fun K hK => ?_)) (StepU.of (o := ⟨_, _, _, _, _, _⟩) rfl (by rfl) (fun K hK => ?_))
    · go_simp
      have nk1 := World.alloc_heap_new Wt (.cells #[.string ⟨#[107, 101, 121]⟩, .string ⟨#[118, 97, 108, 117, 101]⟩] 9)
      have gk1 : Below Wt.heap.size Wt (Wt.alloc (.cells #[.string ⟨#[107, 101, 121]⟩, .string ⟨#[118, 97, 108, 117, 101]⟩] 9)) := (Below.refl _ Wt).alloc (Nat.le_refl _) _
      have sk1 : (Wt.alloc (.cells #[.string ⟨#[107, 101, 121]⟩, .string ⟨#[118, 97, 108, 117, 101]⟩] 9)).heap.size = Wt.heap.size + 1 := World.size_alloc _ _
      obtain ⟨Wk, hYk1⟩ : ∃ Y, Wt.alloc (.cells #[.string ⟨#[107, 101, 121]⟩, .string ⟨#[118, 97, 108, 117, 101]⟩] 9) = Y := ⟨_, rfl⟩
      rw [hYk1] at nk1 gk1 sk1 ⊢
      have hhk1 : (fun (X : World) => X.cell? ⟨b0, 0, none⟩ = some (.int .i64 k) ∧ X.cell? ⟨b0, 1, none⟩ = some (.bool neg) ∧ X.cell? ⟨b0, 2, none⟩ = some (.slice A n c) ∧ X.cell? ⟨b0, 3, none⟩ = some (.int .i64 e) ∧ X.cell? ⟨b0, 4, none⟩ = some (.string t) ∧ X.cell? ⟨b0, 5, none⟩ = some (.slice LA ln lc) ∧ X.cell? ⟨b0, 6, none⟩ = some (.slice KA kn kc)) Wk := held7 hht1 (gk1.block b0 (by have q0 := SB.out; have q1 := Zt1.out; show b0 < Wt.heap.size; omega))
      have Zk1 := Lib.hid sk1
      clear sk1
      refine hK _ _ (.inr hhk1) ?_
      clear hK K hYk1
      try simp only [Act.put, List.setIfInBounds_toArray, List.set_cons_zero, List.set_cons_succ]
      refine wpAnyU_one (i := 4) (by kernel_rfl) (StepU.of (o := ⟨_, _, _, _, _, _⟩) rfl (by rfl) (fun K hK => ?_))
      go_simp
      have nl1 := World.alloc_heap_new Wk (.cells #[.int .i64 4, .bool false, .slice none 0 0, .int .i64 0, .string s, .slice none 0 0, .slice none 0 0, .int .i64 k, .bool neg, .slice A n c, .int .i64 e, .string t, .slice LA ln lc, .slice KA kn kc] 28)
      have gl1 : Below Wk.heap.size Wk (Wk.alloc (.cells #[.int .i64 4, .bool false, .slice none 0 0, .int .i64 0, .string s, .slice none 0 0, .slice none 0 0, .int .i64 k, .bool neg, .slice A n c, .int .i64 e, .string t, .slice LA ln lc, .slice KA kn kc] 28)) := (Below.refl _ Wk).alloc (Nat.le_refl _) _
      have sl1 : (Wk.alloc (.cells #[.int .i64 4, .bool false, .slice none 0 0, .int .i64 0, .string s, .slice none 0 0, .slice none 0 0, .int .i64 k, .bool neg, .slice A n c, .int .i64 e, .string t, .slice LA ln lc, .slice KA kn kc] 28)).heap.size = Wk.heap.size + 1 := World.size_alloc _ _
      obtain ⟨Wl, hYl1⟩ : ∃ Y, Wk.alloc (.cells #[.int .i64 4, .bool false, .slice none 0 0, .int .i64 0, .string s, .slice none 0 0, .slice none 0 0, .int .i64 k, .bool neg, .slice A n c, .int .i64 e, .string t, .slice LA ln lc, .slice KA kn kc] 28) = Y := ⟨_, rfl⟩
      rw [hYl1] at nl1 gl1 sl1 ⊢
      have hhl1 : (fun (X : World) => X.cell? ⟨b0, 0, none⟩ = some (.int .i64 k) ∧ X.cell? ⟨b0, 1, none⟩ = some (.bool neg) ∧ X.cell? ⟨b0, 2, none⟩ = some (.slice A n c) ∧ X.cell? ⟨b0, 3, none⟩ = some (.int .i64 e) ∧ X.cell? ⟨b0, 4, none⟩ = some (.string t) ∧ X.cell? ⟨b0, 5, none⟩ = some (.slice LA ln lc) ∧ X.cell? ⟨b0, 6, none⟩ = some (.slice KA kn kc)) Wl := held7 hhk1 (gl1.block b0 (by have q0 := SB.out; have q1 := Zt1.out; have q2 := Zk1.out; show b0 < Wk.heap.size; omega))
      have Zl1 := Lib.hid sl1
      clear sl1
      refine hK _ _ (.inr hhl1) ?_
      clear hK K hYl1
      try simp only [Act.put, List.setIfInBounds_toArray, List.set_cons_zero, List.set_cons_succ]
      -- the end
      have nk9 : Wl.heap[Wt.heap.size]? = some (.cells #[.string ⟨#[107, 101, 121]⟩, .string ⟨#[118, 97, 108, 117, 101]⟩] 9) := (gl1.block _ (by have q0 := SB.out; have q1 := Zt1.out; have q2 := Zk1.out; have q3 := Zl1.out; show Wt.heap.size < Wk.heap.size; omega)).trans (nk1)
      have nl9 : Wl.heap[Wk.heap.size]? = some (.cells #[.int .i64 4, .bool false, .slice none 0 0, .int .i64 0, .string s, .slice none 0 0, .slice none 0 0, .int .i64 k, .bool neg, .slice A n c, .int .i64 e, .string t, .slice LA ln lc, .slice KA kn kc] 28) := nl1
      have gz : Below (b0 + 2) W0 Wl := ((((Below.refl _ W0).drew).trans (gt1.mono (by have q0 := SB.out; have q1 := Zt1.out; have q2 := Zk1.out; have q3 := Zl1.out; show b0 + 2 ≤ W0.heap.size; omega))).trans (gk1.mono (by have q0 := SB.out; have q1 := Zt1.out; have q2 := Zk1.out; have q3 := Zl1.out; show b0 + 2 ≤ Wt.heap.size; omega))).trans (gl1.mono (by have q0 := SB.out; have q1 := Zt1.out; have q2 := Zk1.out; have q3 := Zl1.out; show b0 + 2 ≤ Wk.heap.size; omega))
      obtain ⟨kb, hkb⟩ : ∃ b, Wt.heap.size = b := ⟨_, rfl⟩
      obtain ⟨lb, hlb⟩ : ∃ b, Wk.heap.size = b := ⟨_, rfl⟩
      have hk2 : b0 + 2 ≤ kb ∧ kb < Wl.heap.size := (by have q0 := SB.out; have q1 := Zt1.out; have q2 := Zk1.out; have q3 := Zl1.out; omega)
      have hl2 : b0 + 2 ≤ lb ∧ lb < Wl.heap.size := (by have q0 := SB.out; have q1 := Zt1.out; have q2 := Zk1.out; have q3 := Zl1.out; omega)
      rw [hkb] at nk9 ⊢
      rw [hlb] at nl9 ⊢
      have hz1 := (gz.block (b0 + 1) (by omega)).trans H1.out
      obtain ⟨z0, z1, z2, z3, z4, z5, z6⟩ := box7_of hz1
      have fz : ∀ j, Wl.frozen? ⟨b0 + 1, j, none⟩ = false := fun j => frozen_of_row _ _ j _ _ hz1
      have hbu := buildEK kb lb Wl
      have NK := Lib.hid nk9
      have NL := Lib.hid nl9
      have GZ := Lib.hid gz
      have HK2 := Lib.hid hk2
      have HL2 := Lib.hid hl2
      clear nk9 nl9 gz hk2 hl2 hz1 hkb hlb
      refine wpAnyU_one (i := 5) (by kernel_rfl) (StepU.of (o := ⟨_, _, _, _, _, _⟩) rfl (by rfl) (fun K hK => ?_))
      go_simp
      refine hK _ _ (.inr (by assumption)) ?_
      clear hK K
      try simp only [Act.put, List.setIfInBounds_toArray, List.set_cons_zero, List.set_cons_succ]
      refine wpAnyU_one (i := 6) (by kernel_rfl) (StepU.of (o := ⟨_, _, _, _, _, _⟩) rfl (by rfl) (fun K hK => ?_))
      go_simp
      refine hK _ _ (.inl rfl) ?_
      clear hK K
      try simp only [Act.put, List.setIfInBounds_toArray, List.set_cons_zero, List.set_cons_succ]
      refine wpAnyU_done (by kernel_rfl) ?_ _
      gi_wp2
      refine bodyPost_ret (v := .agg #[.int .i64 6, .bool false, .slice none 0 0, .int .i64 0, .string ⟨#[]⟩, .slice (some ⟨lb, 0, none⟩) 2 2, .slice (some ⟨kb, 0, none⟩) 2 2]) (by simp [results, Tryz.results15, go_sem, z0, z1, z2, z3, z4, z5, z6]) rfl ?_
      have hw := HB0.out.trans (GZ.out.mono (show b0 ≤ b0 + 2 by omega))
      have hk2 := HK2.out
      have hl2 := HL2.out
      refine ⟨lb, kb, rfl, ?_, below_seven hw (by omega) _ _ _ _ _ _ _⟩
      have hin := entry_in (S' := fun b => S b ∨ (b0 ≤ b ∧ b ≠ b0 + 1 ∧ b < Wl.heap.size)) (HV.out.keep fun p hp => hw.cell (HS.out _ hp)) (fun b hb => .inl hb) NK.out NL.out (.inr (by omega)) (.inr (by omega)) hs
      refine (hin.keep fun p hp => cell_seven ?_ _ _ _ _ _ _ _).more fun b hb => ?_
      · rcases hp with h | h
        · have := HS.out _ h; omega
        · omega
      · rcases hb with h | h
        · exact .inl h
        · exact .inr ⟨h.1, by simpa [World.setCell] using h.2.2⟩
    · go_simp
      have nl1 := World.alloc_heap_new Wt (.cells #[.int .i64 4, .bool false, .slice none 0 0, .int .i64 0, .string s, .slice none 0 0, .slice none 0 0, .int .i64 k, .bool neg, .slice A n c, .int .i64 e, .string t, .slice LA ln lc, .slice KA kn kc] 28)
      have gl1 : Below Wt.heap.size Wt (Wt.alloc (.cells #[.int .i64 4, .bool false, .slice none 0 0, .int .i64 0, .string s, .slice none 0 0, .slice none 0 0, .int .i64 k, .bool neg, .slice A n c, .int .i64 e, .string t, .slice LA ln lc, .slice KA kn kc] 28)) := (Below.refl _ Wt).alloc (Nat.le_refl _) _
      have sl1 : (Wt.alloc (.cells #[.int .i64 4, .bool false, .slice none 0 0, .int .i64 0, .string s, .slice none 0 0, .slice none 0 0, .int .i64 k, .bool neg, .slice A n c, .int .i64 e, .string t, .slice LA ln lc, .slice KA kn kc] 28)).heap.size = Wt.heap.size + 1 := World.size_alloc _ _
      obtain ⟨Wl, hYl1⟩ : ∃ Y, Wt.alloc (.cells #[.int .i64 4, .bool false, .slice none 0 0, .int .i64 0, .string s, .slice none 0 0, .slice none 0 0, .int .i64 k, .bool neg, .slice A n c, .int .i64 e, .string t, .slice LA ln lc, .slice KA kn kc] 28) = Y := ⟨_, rfl⟩
      rw [hYl1] at nl1 gl1 sl1 ⊢
      have hhl1 : (fun (X : World) => X.cell? ⟨b0, 0, none⟩ = some (.int .i64 k) ∧ X.cell? ⟨b0, 1, none⟩ = some (.bool neg) ∧ X.cell? ⟨b0, 2, none⟩ = some (.slice A n c) ∧ X.cell? ⟨b0, 3, none⟩ = some (.int .i64 e) ∧ X.cell? ⟨b0, 4, none⟩ = some (.string t) ∧ X.cell? ⟨b0, 5, none⟩ = some (.slice LA ln lc) ∧ X.cell? ⟨b0, 6, none⟩ = some (.slice KA kn kc)) Wl := held7 hht1 (gl1.block b0 (by have q0 := SB.out; have q1 := Zt1.out; show b0 < Wt.heap.size; omega))
      have Zl1 := Lib.hid sl1
      clear sl1
      refine hK _ _ (.inr hhl1) ?_
      clear hK K hYl1
      try simp only [Act.put, List.setIfInBounds_toArray, List.set_cons_zero, List.set_cons_succ]
      refine wpAnyU_one (i := 0) (by kernel_rfl) (StepU.of (o := ⟨_, _, _, _, _, _⟩) rfl (by rfl) (fun K hK => ?_))
      go_simp
      have nk1 := World.alloc_heap_new Wl (.cells #[.string ⟨#[107, 101, 121]⟩, .string ⟨#[118, 97, 108, 117, 101]⟩] 9)
      have gk1 : Below Wl.heap.size Wl (Wl.alloc (.cells #[.string ⟨#[107, 101, 121]⟩, .string ⟨#[118, 97, 108, 117, 101]⟩] 9)) := (Below.refl _ Wl).alloc (Nat.le_refl _) _
      have sk1 : (Wl.alloc (.cells #[.string ⟨#[107, 101, 121]⟩, .string ⟨#[118, 97, 108, 117, 101]⟩] 9)).heap.size = Wl.heap.size + 1 := World.size_alloc _ _
      obtain ⟨Wk, hYk1⟩ : ∃ Y, Wl.alloc (.cells #[.string ⟨#[107, 101, 121]⟩, .string ⟨#[118, 97, 108, 117, 101]⟩] 9) = Y := ⟨_, rfl⟩
      rw [hYk1] at nk1 gk1 sk1 ⊢
      have hhk1 : (fun (X : World) => X.cell? ⟨b0, 0, none⟩ = some (.int .i64 k) ∧ X.cell? ⟨b0, 1, none⟩ = some (.bool neg) ∧ X.cell? ⟨b0, 2, none⟩ = some (.slice A n c) ∧ X.cell? ⟨b0, 3, none⟩ = some (.int .i64 e) ∧ X.cell? ⟨b0, 4, none⟩ = some (.string t) ∧ X.cell? ⟨b0, 5, none⟩ = some (.slice LA ln lc) ∧ X.cell? ⟨b0, 6, none⟩ = some (.slice KA kn kc)) Wk := held7 hhl1 (gk1.block b0 (by have q0 := SB.out; have q1 := Zt1.out; have q2 := Zl1.out; show b0 < Wl.heap.size; omega))
      have Zk1 := Lib.hid sk1
      clear sk1
      refine hK _ _ (.inr hhk1) ?_
      clear hK K hYk1
      try simp only [Act.put, List.setIfInBounds_toArray, List.set_cons_zero, List.set_cons_succ]
      -- the end
      have nk9 : Wk.heap[Wl.heap.size]? = some (.cells #[.string ⟨#[107, 101, 121]⟩, .string ⟨#[118, 97, 108, 117, 101]⟩] 9) := nk1
      have nl9 : Wk.heap[Wt.heap.size]? = some (.cells #[.int .i64 4, .bool false, .slice none 0 0, .int .i64 0, .string s, .slice none 0 0, .slice none 0 0, .int .i64 k, .bool neg, .slice A n c, .int .i64 e, .string t, .slice LA ln lc, .slice KA kn kc] 28) := (gk1.block _ (by have q0 := SB.out; have q1 := Zt1.out; have q2 := Zl1.out; have q3 := Zk1.out; show Wt.heap.size < Wl.heap.size; omega)).trans (nl1)
      have gz : Below (b0 + 2) W0 Wk := ((((Below.refl _ W0).drew).trans (gt1.mono (by have q0 := SB.out; have q1 := Zt1.out; have q2 := Zl1.out; have q3 := Zk1.out; show b0 + 2 ≤ W0.heap.size; omega))).trans (gl1.mono (by have q0 := SB.out; have q1 := Zt1.out; have q2 := Zl1.out; have q3 := Zk1.out; show b0 + 2 ≤ Wt.heap.size; omega))).trans (gk1.mono (by have q0 := SB.out; have q1 := Zt1.out; have q2 := Zl1.out; have q3 := Zk1.out; show b0 + 2 ≤ Wl.heap.size; omega))
      obtain ⟨kb, hkb⟩ : ∃ b, Wl.heap.size = b := ⟨_, rfl⟩
      obtain ⟨lb, hlb⟩ : ∃ b, Wt.heap.size = b := ⟨_, rfl⟩
      have hk2 : b0 + 2 ≤ kb ∧ kb < Wk.heap.size := (by have q0 := SB.out; have q1 := Zt1.out; have q2 := Zl1.out; have q3 := Zk1.out; omega)
      have hl2 : b0 + 2 ≤ lb ∧ lb < Wk.heap.size := (by have q0 := SB.out; have q1 := Zt1.out; have q2 := Zl1.out; have q3 := Zk1.out; omega)
      rw [hkb] at nk9 ⊢
      rw [hlb] at nl9 ⊢
      have hz1 := (gz.block (b0 + 1) (by omega)).trans H1.out
      obtain ⟨z0, z1, z2, z3, z4, z5, z6⟩ := box7_of hz1
      have fz : ∀ j, Wk.frozen? ⟨b0 + 1, j, none⟩ = false := fun j => frozen_of_row _ _ j _ _ hz1
      have hbu := buildEK kb lb Wk
      have NK := Lib.hid nk9
      have NL := Lib.hid nl9
      have GZ := Lib.hid gz
      have HK2 := Lib.hid hk2
      have HL2 := Lib.hid hl2
      clear nk9 nl9 gz hk2 hl2 hz1 hkb hlb
      refine wpAnyU_one (i := 5) (by kernel_rfl) (StepU.of (o := ⟨_, _, _, _, _, _⟩) rfl (by rfl) (fun K hK => ?_))
      go_simp
      refine hK _ _ (.inr (by assumption)) ?_
      clear hK K
      try simp only [Act.put, List.setIfInBounds_toArray, List.set_cons_zero, List.set_cons_succ]
      refine wpAnyU_one (i := 6) (by kernel_rfl) (StepU.of (o := ⟨_, _, _, _, _, _⟩) rfl (by rfl) (fun K hK => ?_))
      go_simp
      refine hK _ _ (.inl rfl) ?_
      clear hK K
      try simp only [Act.put, List.setIfInBounds_toArray, List.set_cons_zero, List.set_cons_succ]
      refine wpAnyU_done (by kernel_rfl) ?_ _
      gi_wp2
      refine bodyPost_ret (v := .agg #[.int .i64 6, .bool false, .slice none 0 0, .int .i64 0, .string ⟨#[]⟩, .slice (some ⟨lb, 0, none⟩) 2 2, .slice (some ⟨kb, 0, none⟩) 2 2]) (by simp [results, Tryz.results15, go_sem, z0, z1, z2, z3, z4, z5, z6]) rfl ?_
      have hw := HB0.out.trans (GZ.out.mono (show b0 ≤ b0 + 2 by omega))
      have hk2 := HK2.out
      have hl2 := HL2.out
      refine ⟨lb, kb, rfl, ?_, below_seven hw (by omega) _ _ _ _ _ _ _⟩
      have hin := entry_in (S' := fun b => S b ∨ (b0 ≤ b ∧ b ≠ b0 + 1 ∧ b < Wk.heap.size)) (HV.out.keep fun p hp => hw.cell (HS.out _ hp)) (fun b hb => .inl hb) NK.out NL.out (.inr (by omega)) (.inr (by omega)) hs
      refine (hin.keep fun p hp => cell_seven ?_ _ _ _ _ _ _ _).more fun b hb => ?_
      · rcases hp with h | h
        · have := HS.out _ h; omega
        · omega
      · rcases hb with h | h
        · exact .inl h
        · exact .inr ⟨h.1, by simpa [World.setCell] using h.2.2⟩
end Go.Proofs.YtpmdcahomkdfmaaGreatDoor
