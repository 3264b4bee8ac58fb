/-
  Contract of dec.opposite: a decimal with the other sign, in memory of its own.
  Contracts of dec's compare and Compare: the order of two decimals.
  Decimals as whole numbers (times a power of ten): their order, their sums, and that each number has one decimal. Plain lemmas, no Go.
  Contracts of dec.Sub, of the function that it hands on, and of workOut with it.
  Contracts of dec.Mul, of the function that it hands on, and of workOut with it.
-/
import Derived.Test.YtklpfgjnlheikaaGreatDoorDadd
import Derived.Test.YtklpfgjnlheikaaGreatDoorCopy
import Derived.Deep.AppendLies
import Derived.Deep.RegionHeld3
import Derived.Test.YtklpfgjnlheikaaGreatDoorDref
import Derived.Test.YtklpfgjnlheikaaGreatDoorDsgn
set_option linter.unusedVariables false
set_option linter.unusedSimpArgs false
namespace Go.Proofs.YtklpfgjnlheikaaGreatDoor
open Go.RowKit

theorem three_new (w : World) (o1 o2 o3 : Obj) : (((w.alloc o1).alloc o2).alloc o3).heap[w.heap.size]? = some o1 ∧ (((w.alloc o1).alloc o2).alloc o3).heap[w.heap.size + 1]? = some o2 ∧ (((w.alloc o1).alloc o2).alloc o3).heap[w.heap.size + 1 + 1]? = some o3 ∧
    Below w.heap.size w (((w.alloc o1).alloc o2).alloc o3) ∧ (((w.alloc o1).alloc o2).alloc o3).heap.size = w.heap.size + 3 := by
  obtain ⟨a1, a2⟩ := two_new w o1 o2
  have h3 := World.alloc_heap_new ((w.alloc o1).alloc o2) o3
  simp only [World.size_alloc] at h3
  exact ⟨(Below.heap_alloc _ _ _ (by simp <;> omega)).trans a1, (Below.heap_alloc _ _ _ (by simp <;> omega)).trans a2, h3, (((Below.refl _ w).alloc (Nat.le_refl _) o1).alloc (by simp) o2).alloc (by simp; omega) o3, by simp⟩

/-- Limbs appended to nil: a copy in memory of its own. -/
theorem wp_copy32 {S : Nat → Prop} {n c : Nat} {A : Option Addr} {xs : List Nat} {w : World} {o : Oper} {a : Act} {K : Act → World → Prop} {Q : Exit → Act → World → Prop} (x : Operand)
    (ho : o.op = .call { callee := .builtin .append, args := #[.const (.slice none 0 0), x], argTypes := #[22, 22] })
    (hx : a.eval x = .slice A n c) (ha : Rd w S A n xs) (hn : n ≤ 35184372088832)
    (h : ∀ A' c' w', Res w' w.heap.size A' n c' xs → Below w.heap.size w w' → K (a.put o.dst (.slice A' n c')) w') :
    Oper.wp Tryz.prog o a w K Q := by
  obtain ⟨i0, hi, hz0, hz1, hz2⟩ := info_parts info32
  cases A with
  | none =>
    obtain rfl : n = 0 := by
      rcases Nat.eq_zero_or_pos n with h | h
      · exact h
      · obtain ⟨b, off, e, _⟩ := ha.cells h; cases e
    obtain rfl : xs = [] := List.eq_nil_of_length_eq_zero ha.len
    have hrun : (Builtin.append_ #[22, 22] o.type #[.slice none 0 0, .slice none 0 c]).run Tryz.prog w = .ok (.slice none 0 0) w := by
      simp [Builtin.append_, run_underlying Tryz.underlying22, sizeOf, typeInfo, hi, Builtin.lenOf, Builtin.firstCells]
    unfold Oper.wp
    have he : a.eval (.const (.slice none 0 0)) = .slice none 0 0 := rfl
    simp [execOp, ho, resolve, invoke, builtin, he, hx, hrun, Result.andThen]
    exact h none 0 w (Res.nil _ _) (Below.refl _ _)
  | some ad =>
    obtain ⟨v', w', hr, h2, h3, _, _⟩ := run_append_own_at (P := Tryz.prog) w w.heap.size 22 o.type 93 i0 (.int .u32 0) 1 4 Tryz.underlying22 hi hz0 hz1 hz2 rfl (by decide) (.slice none 0 0) 0 [] (World.ownsRow_nil _ _ _ _) ad n c (u32s xs) (by rw [u32s_length, ha.len, Nat.mul_one]) ha.cellsAt (u32s_one xs) (by unfold maxLen; omega) (by omega) (Nat.le_refl _)
    rw [Nat.zero_add, List.nil_append] at h2
    obtain ⟨A', c', e, hres⟩ := Res.of_row ha.len ha.l32 h2
    subst e
    unfold Oper.wp
    have he : a.eval (.const (.slice none 0 0)) = .slice none 0 0 := rfl
    simp only [execOp, ho, resolve, invoke, builtin, Sem.run_bind, Sem.run_pure, Result.andThen_ok, List.map_toArray, List.map_cons, List.map_nil, he, hx, hr]
    exact h A' c' w' hres ((Below.refl _ w).grown h3 (by simp) (by intro k hk; simp [Value.ownBlock] at hk))

/-- The same at a step of a region that draws its order, and at a list of operations. -/
theorem step_copy32 {S : Nat → Prop} {n c : Nat} {A : Option Addr} {xs : List Nat} {w : World} {ops : Array Oper} {o : Oper} {a : Act} {K : Act → World → Prop} {Q : Exit → Act → World → Prop} {E : Prop} (hgd : o.guard = none) (x : Operand)
    (ho : o.op = .call { callee := .builtin .append, args := #[.const (.slice none 0 0), x], argTypes := #[22, 22] })
    (hx : a.eval x = .slice A n c) (ha : Rd w S A n xs) (hn : n ≤ 35184372088832)
    (h : ∀ A' c' w', Res w' w.heap.size A' n c' xs → Below w.heap.size w w' → K (a.put o.dst (.slice A' n c')) w') :
    if Region.wanted o (yielded ops a.tmps) = true then Oper.wp Tryz.prog o a w K Q else E := by
  have hw : Region.wanted o (yielded ops a.tmps) = true := by simp [Region.wanted, hgd]
  rw [if_pos hw]
  exact wp_copy32 x ho hx ha hn h
theorem wpList_copy32 {S : Nat → Prop} {n c : Nat} {A : Option Addr} {xs : List Nat} {w : World} {ops : Array Oper} {rest : List Oper} {o : Oper} {a : Act} {Q : Exit → Act → World → Prop} (hgd : o.guard = none) (x : Operand)
    (ho : o.op = .call { callee := .builtin .append, args := #[.const (.slice none 0 0), x], argTypes := #[22, 22] })
    (hx : a.eval x = .slice A n c) (ha : Rd w S A n xs) (hn : n ≤ 35184372088832)
    (h : ∀ A' c' w', Res w' w.heap.size A' n c' xs → Below w.heap.size w w' → wpList Tryz.prog ops Q rest (a.put o.dst (.slice A' n c')) w') :
    wpList Tryz.prog ops Q (o :: rest) a w :=
  wpList_plain hgd fun _ hK => wp_copy32 x ho hx ha hn fun A' c' w' h1 h2 => hK _ _ (h A' c' w' h1 h2)

/-- The sign of the opposite. -/
def ops (nb : Bool) (ys : List Nat) : Bool := !nb && decide (ys ≠ [])

set_option maxRecDepth 100000 in
set_option maxHeartbeats 4000000 in
theorem opposite_c {S : Nat → Prop} {n c : Nat} {A : Option Addr} {xs : List Nat} (neg : Bool) (exp : Int) (w : World) (ha : Rd w S A n xs) (hS : ∀ b, S b → b < w.heap.size) (hn : n ≤ 35184372088832) :
    Calls Tryz.prog 64 #[dv neg A n c exp] w fun e w' => ∃ A' c', e = .returned (dv (ops neg xs) A' n c' exp) ∧ Res w' w.heap.size A' n c' xs ∧ Below w.heap.size w w' := by
  have HL := Lib.hid ha.len
  unfold dv
  obtain ⟨r, hr⟩ : ∃ r, Hid (ops neg xs = r) := ⟨_, Lib.hid rfl⟩
  rw [hr.out]
  have hcase : neg = true ∧ r = false ∨ neg = false ∧ n = 0 ∧ r = false ∨ neg = false ∧ 0 < n ∧ r = true := by
    have h1 := hr.out
    unfold ops at h1
    cases neg
    · by_cases h : xs = []
      · refine .inr (.inl ⟨rfl, ?_, ?_⟩)
        · rw [← HL.out, h]; rfl
        · rw [← h1, h]; rfl
      · refine .inr (.inr ⟨rfl, ?_, ?_⟩)
        · rw [← HL.out]; exact List.length_pos_iff.2 h
        · rw [← h1, decide_eq_true h]; rfl
    · exact .inl ⟨rfl, h1.symm⟩
  obtain ⟨m0, m1⟩ := two_new w (.cells #[.bool neg, .slice A n c, .int .i64 exp] 24) (.cells #[.bool false, .slice none 0 0, .int .i64 0] 24)
  have hW : Below w.heap.size w ((w.alloc (.cells #[.bool neg, .slice A n c, .int .i64 exp] 24)).alloc (.cells #[.bool false, .slice none 0 0, .int .i64 0] 24)) := ((Below.refl _ w).alloc (Nat.le_refl _) _).alloc (by simp) _
  have hsz : ((w.alloc (.cells #[.bool neg, .slice A n c, .int .i64 exp] 24)).alloc (.cells #[.bool false, .slice none 0 0, .int .i64 0] 24)).heap.size = w.heap.size + 2 := by simp
  have HC := Lib.hid hcase
  have HM0 := Lib.hid m0
  have HM1 := Lib.hid m1
  clear hcase m0 m1
  go_enter Tryz.func64, Tryz.ntmps64
  go_wp2_with fail
  have m0 := HM0.out
  have m1 := HM1.out
  clear HM0 HM1
  generalize ((w.alloc (.cells #[.bool neg, .slice A n c, .int .i64 exp] 24)).alloc (.cells #[.bool false, .slice none 0 0, .int .i64 0] 24)) = W at m0 m1 hW hsz ⊢
  have hR := ha.below hW hS
  have hSW : ∀ b, S b → b < W.heap.size := fun b h => by have := hS b h; omega
  obtain ⟨k0, k1, k2⟩ := box3_of m0
  rcases HC.out with ⟨rfl, rfl⟩ | ⟨rfl, rfl, rfl⟩ | ⟨rfl, hn0, rfl⟩
  · clear HC
    refine wp_region_held_drew (S := fun w' => w'.cell? ⟨w.heap.size, 0, none⟩ = some (.bool true) ∧ w'.cell? ⟨w.heap.size, 1, none⟩ = some (.slice A n c) ∧ w'.cell? ⟨w.heap.size, 2, none⟩ = some (.int .i64 exp)) (by kernel_rfl) ⟨k0, k1, k2⟩ (fun hHeld => ?_)
    (try simp only [List.size_toArray, List.length_cons, List.length_nil, Nat.reduceAdd, Array.replicate_succ, Array.replicate_zero, List.push_toArray, List.append_toArray, List.nil_append, List.cons_append])
    refine wpAnyH_take (i := 0) (oi := ⟨_, _, _, _, _, _⟩) (v := ?_) rfl (by kernel_rfl) (by kernel_rfl) (by kernel_rfl) (fun _ _ _ h => h) (Or.inl ⟨by rfl, ?_⟩) (by assumption) ?_
    rotate_left
    · intro w hSw
      (try dsimp only at hSw)
      go_split_ands
      go_simp
      try with_reducible rfl
    try simp only [Act.put, List.setIfInBounds_toArray, List.set_cons_zero, List.set_cons_succ]
    refine wpAnyH_take (i := 1) (oi := ⟨_, _, _, _, _, _⟩) (v := ?_) rfl (by kernel_rfl) (by kernel_rfl) (by kernel_rfl) (fun _ _ _ h => h) (Or.inl ⟨by rfl, ?_⟩) (by assumption) ?_
    rotate_left
    · intro w hSw
      (try dsimp only at hSw)
      go_split_ands
      go_simp
      try with_reducible rfl
    try simp only [Act.put, List.setIfInBounds_toArray, List.set_cons_zero, List.set_cons_succ]
    refine wpAnyH_take (i := 2) (oi := ⟨_, _, _, _, _, _⟩) (v := ?_) rfl (by kernel_rfl) (by kernel_rfl) (by kernel_rfl) (fun _ _ _ h => h) (Or.inl ⟨by rfl, ?_⟩) (by assumption) ?_
    rotate_left
    · intro w hSw
      (try dsimp only at hSw)
      go_split_ands
      go_simp
      try with_reducible rfl
    try simp only [Act.put, List.setIfInBounds_toArray, List.set_cons_zero, List.set_cons_succ]
    refine wpAnyH_take (i := 3) (oi := ⟨_, _, _, _, _, _⟩) (v := ?_) rfl (by kernel_rfl) (by kernel_rfl) (by kernel_rfl) (fun _ _ _ h => h) (Or.inl ⟨by rfl, ?_⟩) (by assumption) ?_
    rotate_left
    · intro w hSw
      (try dsimp only at hSw)
      go_split_ands
      go_simp
      try with_reducible rfl
    try simp only [Act.put, List.setIfInBounds_toArray, List.set_cons_zero, List.set_cons_succ]
    refine wpAnyH_take (i := 4) (oi := ⟨_, _, _, _, _, _⟩) (v := undef) rfl (by kernel_rfl) (by kernel_rfl) (by kernel_rfl) (fun _ _ _ h => h) (Or.inr ⟨by rfl, rfl⟩) (by assumption) ?_
    try simp only [Act.put, List.setIfInBounds_toArray, List.set_cons_zero, List.set_cons_succ]
    refine wpAnyH_take (i := 5) (oi := ⟨_, _, _, _, _, _⟩) (v := undef) rfl (by kernel_rfl) (by kernel_rfl) (by kernel_rfl) (fun _ _ _ h => h) (Or.inr ⟨by rfl, rfl⟩) (by assumption) ?_
    try simp only [Act.put, List.setIfInBounds_toArray, List.set_cons_zero, List.set_cons_succ]
    refine wpAnyH_take (i := 6) (oi := ⟨_, _, _, _, _, _⟩) (v := undef) rfl (by kernel_rfl) (by kernel_rfl) (by kernel_rfl) (fun _ _ _ h => h) (Or.inr ⟨by rfl, rfl⟩) (by assumption) ?_
    try simp only [Act.put, List.setIfInBounds_toArray, List.set_cons_zero, List.set_cons_succ]
    refine wpAnyH_take (i := 7) (oi := ⟨_, _, _, _, _, _⟩) (v := undef) rfl (by kernel_rfl) (by kernel_rfl) (by kernel_rfl) (fun _ _ _ h => h) (Or.inr ⟨by rfl, rfl⟩) (by assumption) ?_
    try simp only [Act.put, List.setIfInBounds_toArray, List.set_cons_zero, List.set_cons_succ]
    refine wpAnyH_take (i := 8) (oi := ⟨_, _, _, _, _, _⟩) (v := ?_) rfl (by kernel_rfl) (by kernel_rfl) (by kernel_rfl) (fun _ _ _ h => h) (Or.inl ⟨by rfl, ?_⟩) (by assumption) ?_
    rotate_left
    · intro w hSw
      (try dsimp only at hSw)
      go_split_ands
      go_simp
      try with_reducible rfl
    try simp only [Act.put, List.setIfInBounds_toArray, List.set_cons_zero, List.set_cons_succ]
    refine wpAnyH_take (i := 9) (oi := ⟨_, _, _, _, _, _⟩) (v := ?_) rfl (by kernel_rfl) (by kernel_rfl) (by kernel_rfl) (fun _ _ _ h => h) (Or.inl ⟨by rfl, ?_⟩) (by assumption) ?_
    rotate_left
    · intro w hSw
      (try dsimp only at hSw)
      go_split_ands
      go_simp
      try with_reducible rfl
    try simp only [Act.put, List.setIfInBounds_toArray, List.set_cons_zero, List.set_cons_succ]
    refine wpAnyH_take (i := 10) (oi := ⟨_, _, _, _, _, _⟩) (v := ?_) rfl (by kernel_rfl) (by kernel_rfl) (by kernel_rfl) (fun _ _ _ h => h) (Or.inl ⟨by rfl, ?_⟩) (by assumption) ?_
    rotate_left
    · intro w hSw
      (try dsimp only at hSw)
      go_split_ands
      go_simp
      try with_reducible rfl
    try simp only [Act.put, List.setIfInBounds_toArray, List.set_cons_zero, List.set_cons_succ]
    refine wpAnyH_take (i := 12) (oi := ⟨_, _, _, _, _, _⟩) (v := ?_) rfl (by kernel_rfl) (by kernel_rfl) (by kernel_rfl) (fun _ _ _ h => h) (Or.inl ⟨by rfl, ?_⟩) (by assumption) ?_
    rotate_left
    · intro w hSw
      (try dsimp only at hSw)
      go_split_ands
      go_simp
      try with_reducible rfl
    try simp only [Act.put, List.setIfInBounds_toArray, List.set_cons_zero, List.set_cons_succ]
    refine wpAnyH_take (i := 13) (oi := ⟨_, _, _, _, _, _⟩) (v := ?_) rfl (by kernel_rfl) (by kernel_rfl) (by kernel_rfl) (fun _ _ _ h => h) (Or.inl ⟨by rfl, ?_⟩) (by assumption) ?_
    rotate_left
    · intro w hSw
      (try dsimp only at hSw)
      go_split_ands
      go_simp
      try with_reducible rfl
    try simp only [Act.put, List.setIfInBounds_toArray, List.set_cons_zero, List.set_cons_succ]
    refine wpAnyH_ready (rs := [11]) (by kernel_rfl) (by simp) (AllReadyH.cons (o := ⟨_, _, _, _, _, _⟩) rfl (fun K hK => ?_) AllReadyH.nil)
    refine step_copy32 rfl (.tmp 13) rfl rfl hR.drew hn ?_
    intro A1 c1 w1 hr1 hb1
    obtain ⟨z0, z1, z2⟩ := box3_of (held hb1 (show w.heap.size < W.heap.size by omega) m0)
    have q1 := held hb1 (show w.heap.size + 1 < W.heap.size by omega) m1
    have y0 : w1.cell? ⟨w.heap.size + 1, 0, none⟩ = some (.bool false) := cell_of q1 rfl
    have y1 : w1.cell? ⟨w.heap.size + 1, 1, none⟩ = some (.slice none 0 0) := cell_of q1 rfl
    have y2 : w1.cell? ⟨w.heap.size + 1, 2, none⟩ = some (.int .i64 0) := cell_of q1 rfl
    have f0 := frozen_of 0 q1
    have f1 := frozen_of 1 q1
    have f2 := frozen_of 2 q1
    refine hK.out _ _ ⟨z0, z1, z2⟩ (fun hHeld2 => ?_)
    clear hK K
    try simp only [Act.put, List.setIfInBounds_toArray, List.set_cons_zero, List.set_cons_succ]
    refine wpAnyH_take (i := 14) (oi := ⟨_, _, _, _, _, _⟩) (v := ?_) rfl (by kernel_rfl) (by kernel_rfl) (by kernel_rfl) (fun _ _ _ h => h) (Or.inl ⟨by rfl, ?_⟩) (by assumption) ?_
    rotate_left
    · intro w hSw
      (try dsimp only at hSw)
      go_split_ands
      go_simp
      try with_reducible rfl
    try simp only [Act.put, List.setIfInBounds_toArray, List.set_cons_zero, List.set_cons_succ]
    refine wpAnyH_ready (rs := [15]) (by kernel_rfl) (by simp) (AllReadyH.cons (o := ⟨_, _, _, _, _, _⟩) rfl (fun K hK => ?_) AllReadyH.nil)
    go_simp
    refine hK.out _ _ ?_ (fun hHeld3 => ?_)
    · (first | go_keep | (refine ⟨?_, ?_, ?_⟩ <;> go_keep))
    clear hK K
    try simp only [Act.put, List.setIfInBounds_toArray, List.set_cons_zero, List.set_cons_succ]
    refine wpAnyH_done (by kernel_rfl) ?_ _
    all_goals
      have hlt : w.heap.size + 1 < W.drew.heap.size := show w.heap.size + 1 < W.heap.size by omega
      have hw1 : Below w.heap.size w w1 := (only_drewB hW).trans (hb1.mono (show w.heap.size ≤ W.heap.size by omega))
      go_wp2
      refine bodyPost_ret (v := .agg #[.bool false, .slice A1 n c1, .int .i64 exp]) (by simp [results, Tryz.results64, go_sem, y0, y1, y2]) rfl ?_
      exact ⟨A1, c1, rfl, (((hr1.setOther (p := ⟨w.heap.size + 1, 0, none⟩) hlt _).setOther (p := ⟨w.heap.size + 1, 1, none⟩) hlt _).setOther (p := ⟨w.heap.size + 1, 2, none⟩) hlt _).more (show w.heap.size ≤ W.heap.size by omega),
        ((hw1.setCell (p := ⟨w.heap.size + 1, 0, none⟩) (by simp) _).setCell (p := ⟨w.heap.size + 1, 1, none⟩) (by simp) _).setCell (p := ⟨w.heap.size + 1, 2, none⟩) (by simp) _⟩
  · clear HC
    refine wp_region_held_drew (S := fun w' => w'.cell? ⟨w.heap.size, 0, none⟩ = some (.bool false) ∧ w'.cell? ⟨w.heap.size, 1, none⟩ = some (.slice A 0 c) ∧ w'.cell? ⟨w.heap.size, 2, none⟩ = some (.int .i64 exp)) (by kernel_rfl) ⟨k0, k1, k2⟩ (fun hHeld => ?_)
    (try simp only [List.size_toArray, List.length_cons, List.length_nil, Nat.reduceAdd, Array.replicate_succ, Array.replicate_zero, List.push_toArray, List.append_toArray, List.nil_append, List.cons_append])
    refine wpAnyH_take (i := 0) (oi := ⟨_, _, _, _, _, _⟩) (v := ?_) rfl (by kernel_rfl) (by kernel_rfl) (by kernel_rfl) (fun _ _ _ h => h) (Or.inl ⟨by rfl, ?_⟩) (by assumption) ?_
    rotate_left
    · intro w hSw
      (try dsimp only at hSw)
      go_split_ands
      go_simp
      try with_reducible rfl
    try simp only [Act.put, List.setIfInBounds_toArray, List.set_cons_zero, List.set_cons_succ]
    refine wpAnyH_take (i := 1) (oi := ⟨_, _, _, _, _, _⟩) (v := ?_) rfl (by kernel_rfl) (by kernel_rfl) (by kernel_rfl) (fun _ _ _ h => h) (Or.inl ⟨by rfl, ?_⟩) (by assumption) ?_
    rotate_left
    · intro w hSw
      (try dsimp only at hSw)
      go_split_ands
      go_simp
      try with_reducible rfl
    try simp only [Act.put, List.setIfInBounds_toArray, List.set_cons_zero, List.set_cons_succ]
    refine wpAnyH_take (i := 2) (oi := ⟨_, _, _, _, _, _⟩) (v := ?_) rfl (by kernel_rfl) (by kernel_rfl) (by kernel_rfl) (fun _ _ _ h => h) (Or.inl ⟨by rfl, ?_⟩) (by assumption) ?_
    rotate_left
    · intro w hSw
      (try dsimp only at hSw)
      go_split_ands
      go_simp
      try with_reducible rfl
    try simp only [Act.put, List.setIfInBounds_toArray, List.set_cons_zero, List.set_cons_succ]
    refine wpAnyH_take (i := 3) (oi := ⟨_, _, _, _, _, _⟩) (v := ?_) rfl (by kernel_rfl) (by kernel_rfl) (by kernel_rfl) (fun _ _ _ h => h) (Or.inl ⟨by rfl, ?_⟩) (by assumption) ?_
    rotate_left
    · intro w hSw
      (try dsimp only at hSw)
      go_split_ands
      go_simp
      try with_reducible rfl
    try simp only [Act.put, List.setIfInBounds_toArray, List.set_cons_zero, List.set_cons_succ]
    refine wpAnyH_take (i := 4) (oi := ⟨_, _, _, _, _, _⟩) (v := ?_) rfl (by kernel_rfl) (by kernel_rfl) (by kernel_rfl) (fun _ _ _ h => h) (Or.inl ⟨by rfl, ?_⟩) (by assumption) ?_
    rotate_left
    · intro w hSw
      (try dsimp only at hSw)
      go_split_ands
      go_simp
      try with_reducible rfl
    try simp only [Act.put, List.setIfInBounds_toArray, List.set_cons_zero, List.set_cons_succ]
    refine wpAnyH_take (i := 5) (oi := ⟨_, _, _, _, _, _⟩) (v := ?_) rfl (by kernel_rfl) (by kernel_rfl) (by kernel_rfl) (fun _ _ _ h => h) (Or.inl ⟨by rfl, ?_⟩) (by assumption) ?_
    rotate_left
    · intro w hSw
      (try dsimp only at hSw)
      go_split_ands
      go_simp
      try with_reducible rfl
    try simp only [Act.put, List.setIfInBounds_toArray, List.set_cons_zero, List.set_cons_succ]
    refine wpAnyH_take (i := 6) (oi := ⟨_, _, _, _, _, _⟩) (v := ?_) rfl (by kernel_rfl) (by kernel_rfl) (by kernel_rfl) (fun _ _ _ h => h) (Or.inl ⟨by rfl, ?_⟩) (by assumption) ?_
    rotate_left
    · intro w hSw
      (try dsimp only at hSw)
      go_split_ands
      go_simp
      try with_reducible rfl
    try simp only [Act.put, List.setIfInBounds_toArray, List.set_cons_zero, List.set_cons_succ]
    refine wpAnyH_take (i := 7) (oi := ⟨_, _, _, _, _, _⟩) (v := ?_) rfl (by kernel_rfl) (by kernel_rfl) (by kernel_rfl) (fun _ _ _ h => h) (Or.inl ⟨by rfl, ?_⟩) (by assumption) ?_
    rotate_left
    · intro w hSw
      (try dsimp only at hSw)
      go_split_ands
      go_simp
      try with_reducible rfl
    try simp only [Act.put, List.setIfInBounds_toArray, List.set_cons_zero, List.set_cons_succ]
    refine wpAnyH_take (i := 8) (oi := ⟨_, _, _, _, _, _⟩) (v := ?_) rfl (by kernel_rfl) (by kernel_rfl) (by kernel_rfl) (fun _ _ _ h => h) (Or.inl ⟨by rfl, ?_⟩) (by assumption) ?_
    rotate_left
    · intro w hSw
      (try dsimp only at hSw)
      go_split_ands
      go_simp
      try with_reducible rfl
    try simp only [Act.put, List.setIfInBounds_toArray, List.set_cons_zero, List.set_cons_succ]
    refine wpAnyH_take (i := 9) (oi := ⟨_, _, _, _, _, _⟩) (v := ?_) rfl (by kernel_rfl) (by kernel_rfl) (by kernel_rfl) (fun _ _ _ h => h) (Or.inl ⟨by rfl, ?_⟩) (by assumption) ?_
    rotate_left
    · intro w hSw
      (try dsimp only at hSw)
      go_split_ands
      go_simp
      try with_reducible rfl
    try simp only [Act.put, List.setIfInBounds_toArray, List.set_cons_zero, List.set_cons_succ]
    refine wpAnyH_take (i := 10) (oi := ⟨_, _, _, _, _, _⟩) (v := ?_) rfl (by kernel_rfl) (by kernel_rfl) (by kernel_rfl) (fun _ _ _ h => h) (Or.inl ⟨by rfl, ?_⟩) (by assumption) ?_
    rotate_left
    · intro w hSw
      (try dsimp only at hSw)
      go_split_ands
      go_simp
      try with_reducible rfl
    try simp only [Act.put, List.setIfInBounds_toArray, List.set_cons_zero, List.set_cons_succ]
    refine wpAnyH_take (i := 12) (oi := ⟨_, _, _, _, _, _⟩) (v := ?_) rfl (by kernel_rfl) (by kernel_rfl) (by kernel_rfl) (fun _ _ _ h => h) (Or.inl ⟨by rfl, ?_⟩) (by assumption) ?_
    rotate_left
    · intro w hSw
      (try dsimp only at hSw)
      go_split_ands
      go_simp
      try with_reducible rfl
    try simp only [Act.put, List.setIfInBounds_toArray, List.set_cons_zero, List.set_cons_succ]
    refine wpAnyH_take (i := 13) (oi := ⟨_, _, _, _, _, _⟩) (v := ?_) rfl (by kernel_rfl) (by kernel_rfl) (by kernel_rfl) (fun _ _ _ h => h) (Or.inl ⟨by rfl, ?_⟩) (by assumption) ?_
    rotate_left
    · intro w hSw
      (try dsimp only at hSw)
      go_split_ands
      go_simp
      try with_reducible rfl
    try simp only [Act.put, List.setIfInBounds_toArray, List.set_cons_zero, List.set_cons_succ]
    refine wpAnyH_ready (rs := [11]) (by kernel_rfl) (by simp) (AllReadyH.cons (o := ⟨_, _, _, _, _, _⟩) rfl (fun K hK => ?_) AllReadyH.nil)
    refine step_copy32 rfl (.tmp 13) rfl rfl hR.drew hn ?_
    intro A1 c1 w1 hr1 hb1
    obtain ⟨z0, z1, z2⟩ := box3_of (held hb1 (show w.heap.size < W.heap.size by omega) m0)
    have q1 := held hb1 (show w.heap.size + 1 < W.heap.size by omega) m1
    have y0 : w1.cell? ⟨w.heap.size + 1, 0, none⟩ = some (.bool false) := cell_of q1 rfl
    have y1 : w1.cell? ⟨w.heap.size + 1, 1, none⟩ = some (.slice none 0 0) := cell_of q1 rfl
    have y2 : w1.cell? ⟨w.heap.size + 1, 2, none⟩ = some (.int .i64 0) := cell_of q1 rfl
    have f0 := frozen_of 0 q1
    have f1 := frozen_of 1 q1
    have f2 := frozen_of 2 q1
    refine hK.out _ _ ⟨z0, z1, z2⟩ (fun hHeld2 => ?_)
    clear hK K
    try simp only [Act.put, List.setIfInBounds_toArray, List.set_cons_zero, List.set_cons_succ]
    refine wpAnyH_take (i := 14) (oi := ⟨_, _, _, _, _, _⟩) (v := ?_) rfl (by kernel_rfl) (by kernel_rfl) (by kernel_rfl) (fun _ _ _ h => h) (Or.inl ⟨by rfl, ?_⟩) (by assumption) ?_
    rotate_left
    · intro w hSw
      (try dsimp only at hSw)
      go_split_ands
      go_simp
      try with_reducible rfl
    try simp only [Act.put, List.setIfInBounds_toArray, List.set_cons_zero, List.set_cons_succ]
    refine wpAnyH_ready (rs := [15]) (by kernel_rfl) (by simp) (AllReadyH.cons (o := ⟨_, _, _, _, _, _⟩) rfl (fun K hK => ?_) AllReadyH.nil)
    go_simp
    refine hK.out _ _ ?_ (fun hHeld3 => ?_)
    · (first | go_keep | (refine ⟨?_, ?_, ?_⟩ <;> go_keep))
    clear hK K
    try simp only [Act.put, List.setIfInBounds_toArray, List.set_cons_zero, List.set_cons_succ]
    refine wpAnyH_done (by kernel_rfl) ?_ _
    all_goals
      have hlt : w.heap.size + 1 < W.drew.heap.size := show w.heap.size + 1 < W.heap.size by omega
      have hw1 : Below w.heap.size w w1 := (only_drewB hW).trans (hb1.mono (show w.heap.size ≤ W.heap.size by omega))
      go_wp2
      refine bodyPost_ret (v := .agg #[.bool false, .slice A1 0 c1, .int .i64 exp]) (by simp [results, Tryz.results64, go_sem, y0, y1, y2]) rfl ?_
      exact ⟨A1, c1, rfl, (((hr1.setOther (p := ⟨w.heap.size + 1, 0, none⟩) hlt _).setOther (p := ⟨w.heap.size + 1, 1, none⟩) hlt _).setOther (p := ⟨w.heap.size + 1, 2, none⟩) hlt _).more (show w.heap.size ≤ W.heap.size by omega),
        ((hw1.setCell (p := ⟨w.heap.size + 1, 0, none⟩) (by simp) _).setCell (p := ⟨w.heap.size + 1, 1, none⟩) (by simp) _).setCell (p := ⟨w.heap.size + 1, 2, none⟩) (by simp) _⟩
  · clear HC
    have hnb : decide ((n : Int) > 0) = true := decide_eq_true (by omega)
    refine wp_region_held_drew (S := fun w' => w'.cell? ⟨w.heap.size, 0, none⟩ = some (.bool false) ∧ w'.cell? ⟨w.heap.size, 1, none⟩ = some (.slice A n c) ∧ w'.cell? ⟨w.heap.size, 2, none⟩ = some (.int .i64 exp)) (by kernel_rfl) ⟨k0, k1, k2⟩ (fun hHeld => ?_)
    (try simp only [List.size_toArray, List.length_cons, List.length_nil, Nat.reduceAdd, Array.replicate_succ, Array.replicate_zero, List.push_toArray, List.append_toArray, List.nil_append, List.cons_append])
    refine wpAnyH_take (i := 0) (oi := ⟨_, _, _, _, _, _⟩) (v := ?_) rfl (by kernel_rfl) (by kernel_rfl) (by kernel_rfl) (fun _ _ _ h => h) (Or.inl ⟨by rfl, ?_⟩) (by assumption) ?_
    rotate_left
    · intro w hSw
      (try dsimp only at hSw)
      go_split_ands
      go_simp
      try with_reducible rfl
    try simp only [Act.put, List.setIfInBounds_toArray, List.set_cons_zero, List.set_cons_succ]
    refine wpAnyH_take (i := 1) (oi := ⟨_, _, _, _, _, _⟩) (v := ?_) rfl (by kernel_rfl) (by kernel_rfl) (by kernel_rfl) (fun _ _ _ h => h) (Or.inl ⟨by rfl, ?_⟩) (by assumption) ?_
    rotate_left
    · intro w hSw
      (try dsimp only at hSw)
      go_split_ands
      go_simp
      try with_reducible rfl
    try simp only [Act.put, List.setIfInBounds_toArray, List.set_cons_zero, List.set_cons_succ]
    refine wpAnyH_take (i := 2) (oi := ⟨_, _, _, _, _, _⟩) (v := ?_) rfl (by kernel_rfl) (by kernel_rfl) (by kernel_rfl) (fun _ _ _ h => h) (Or.inl ⟨by rfl, ?_⟩) (by assumption) ?_
    rotate_left
    · intro w hSw
      (try dsimp only at hSw)
      go_split_ands
      go_simp
      try with_reducible rfl
    try simp only [Act.put, List.setIfInBounds_toArray, List.set_cons_zero, List.set_cons_succ]
    refine wpAnyH_take (i := 3) (oi := ⟨_, _, _, _, _, _⟩) (v := ?_) rfl (by kernel_rfl) (by kernel_rfl) (by kernel_rfl) (fun _ _ _ h => h) (Or.inl ⟨by rfl, ?_⟩) (by assumption) ?_
    rotate_left
    · intro w hSw
      (try dsimp only at hSw)
      go_split_ands
      go_simp
      try with_reducible rfl
    try simp only [Act.put, List.setIfInBounds_toArray, List.set_cons_zero, List.set_cons_succ]
    refine wpAnyH_take (i := 4) (oi := ⟨_, _, _, _, _, _⟩) (v := ?_) rfl (by kernel_rfl) (by kernel_rfl) (by kernel_rfl) (fun _ _ _ h => h) (Or.inl ⟨by rfl, ?_⟩) (by assumption) ?_
    rotate_left
    · intro w hSw
      (try dsimp only at hSw)
      go_split_ands
      go_simp
      try with_reducible rfl
    try simp only [Act.put, List.setIfInBounds_toArray, List.set_cons_zero, List.set_cons_succ]
    refine wpAnyH_take (i := 5) (oi := ⟨_, _, _, _, _, _⟩) (v := ?_) rfl (by kernel_rfl) (by kernel_rfl) (by kernel_rfl) (fun _ _ _ h => h) (Or.inl ⟨by rfl, ?_⟩) (by assumption) ?_
    rotate_left
    · intro w hSw
      (try dsimp only at hSw)
      go_split_ands
      go_simp
      try with_reducible rfl
    try simp only [Act.put, List.setIfInBounds_toArray, List.set_cons_zero, List.set_cons_succ]
    refine wpAnyH_take (i := 6) (oi := ⟨_, _, _, _, _, _⟩) (v := ?_) rfl (by kernel_rfl) (by kernel_rfl) (by kernel_rfl) (fun _ _ _ h => h) (Or.inl ⟨by rfl, ?_⟩) (by assumption) ?_
    rotate_left
    · intro w hSw
      (try dsimp only at hSw)
      go_split_ands
      go_simp
      try with_reducible rfl
    try simp only [Act.put, List.setIfInBounds_toArray, List.set_cons_zero, List.set_cons_succ]
    refine wpAnyH_take (i := 7) (oi := ⟨_, _, _, _, _, _⟩) (v := ?_) rfl (by kernel_rfl) (by kernel_rfl) (by kernel_rfl) (fun _ _ _ h => h) (Or.inl ⟨by rfl, ?_⟩) (by assumption) ?_
    rotate_left
    · intro w hSw
      (try dsimp only at hSw)
      go_split_ands
      go_simp
      try with_reducible rfl
    try simp only [Act.put, List.setIfInBounds_toArray, List.set_cons_zero, List.set_cons_succ]
    refine wpAnyH_take (i := 8) (oi := ⟨_, _, _, _, _, _⟩) (v := ?_) rfl (by kernel_rfl) (by kernel_rfl) (by kernel_rfl) (fun _ _ _ h => h) (Or.inl ⟨by rfl, ?_⟩) (by assumption) ?_
    rotate_left
    · intro w hSw
      (try dsimp only at hSw)
      go_split_ands
      go_simp
      try with_reducible rfl
    try simp only [Act.put, List.setIfInBounds_toArray, List.set_cons_zero, List.set_cons_succ]
    refine wpAnyH_take (i := 9) (oi := ⟨_, _, _, _, _, _⟩) (v := ?_) rfl (by kernel_rfl) (by kernel_rfl) (by kernel_rfl) (fun _ _ _ h => h) (Or.inl ⟨by rfl, ?_⟩) (by assumption) ?_
    rotate_left
    · intro w hSw
      (try dsimp only at hSw)
      go_split_ands
      go_simp
      try with_reducible rfl
    try simp only [Act.put, List.setIfInBounds_toArray, List.set_cons_zero, List.set_cons_succ]
    refine wpAnyH_take (i := 10) (oi := ⟨_, _, _, _, _, _⟩) (v := ?_) rfl (by kernel_rfl) (by kernel_rfl) (by kernel_rfl) (fun _ _ _ h => h) (Or.inl ⟨by rfl, ?_⟩) (by assumption) ?_
    rotate_left
    · intro w hSw
      (try dsimp only at hSw)
      go_split_ands
      go_simp
      try with_reducible rfl
    try simp only [Act.put, List.setIfInBounds_toArray, List.set_cons_zero, List.set_cons_succ]
    refine wpAnyH_take (i := 12) (oi := ⟨_, _, _, _, _, _⟩) (v := ?_) rfl (by kernel_rfl) (by kernel_rfl) (by kernel_rfl) (fun _ _ _ h => h) (Or.inl ⟨by rfl, ?_⟩) (by assumption) ?_
    rotate_left
    · intro w hSw
      (try dsimp only at hSw)
      go_split_ands
      go_simp
      try with_reducible rfl
    try simp only [Act.put, List.setIfInBounds_toArray, List.set_cons_zero, List.set_cons_succ]
    refine wpAnyH_take (i := 13) (oi := ⟨_, _, _, _, _, _⟩) (v := ?_) rfl (by kernel_rfl) (by kernel_rfl) (by kernel_rfl) (fun _ _ _ h => h) (Or.inl ⟨by rfl, ?_⟩) (by assumption) ?_
    rotate_left
    · intro w hSw
      (try dsimp only at hSw)
      go_split_ands
      go_simp
      try with_reducible rfl
    try simp only [Act.put, List.setIfInBounds_toArray, List.set_cons_zero, List.set_cons_succ]
    refine wpAnyH_ready (rs := [11]) (by kernel_rfl) (by simp) (AllReadyH.cons (o := ⟨_, _, _, _, _, _⟩) rfl (fun K hK => ?_) AllReadyH.nil)
    refine step_copy32 rfl (.tmp 13) rfl rfl hR.drew hn ?_
    intro A1 c1 w1 hr1 hb1
    obtain ⟨z0, z1, z2⟩ := box3_of (held hb1 (show w.heap.size < W.heap.size by omega) m0)
    have q1 := held hb1 (show w.heap.size + 1 < W.heap.size by omega) m1
    have y0 : w1.cell? ⟨w.heap.size + 1, 0, none⟩ = some (.bool false) := cell_of q1 rfl
    have y1 : w1.cell? ⟨w.heap.size + 1, 1, none⟩ = some (.slice none 0 0) := cell_of q1 rfl
    have y2 : w1.cell? ⟨w.heap.size + 1, 2, none⟩ = some (.int .i64 0) := cell_of q1 rfl
    have f0 := frozen_of 0 q1
    have f1 := frozen_of 1 q1
    have f2 := frozen_of 2 q1
    refine hK.out _ _ ⟨z0, z1, z2⟩ (fun hHeld2 => ?_)
    clear hK K
    try simp only [Act.put, List.setIfInBounds_toArray, List.set_cons_zero, List.set_cons_succ]
    refine wpAnyH_take (i := 14) (oi := ⟨_, _, _, _, _, _⟩) (v := ?_) rfl (by kernel_rfl) (by kernel_rfl) (by kernel_rfl) (fun _ _ _ h => h) (Or.inl ⟨by rfl, ?_⟩) (by assumption) ?_
    rotate_left
    · intro w hSw
      (try dsimp only at hSw)
      go_split_ands
      go_simp
      try with_reducible rfl
    try simp only [Act.put, List.setIfInBounds_toArray, List.set_cons_zero, List.set_cons_succ]
    refine wpAnyH_ready (rs := [15]) (by kernel_rfl) (by simp) (AllReadyH.cons (o := ⟨_, _, _, _, _, _⟩) rfl (fun K hK => ?_) AllReadyH.nil)
    go_simp
    refine hK.out _ _ ?_ (fun hHeld3 => ?_)
    · (first | go_keep | (refine ⟨?_, ?_, ?_⟩ <;> go_keep))
    clear hK K
    try simp only [Act.put, List.setIfInBounds_toArray, List.set_cons_zero, List.set_cons_succ]
    refine wpAnyH_done (by kernel_rfl) ?_ _
    all_goals
      have hlt : w.heap.size + 1 < W.drew.heap.size := show w.heap.size + 1 < W.heap.size by omega
      have hw1 : Below w.heap.size w w1 := (only_drewB hW).trans (hb1.mono (show w.heap.size ≤ W.heap.size by omega))
      go_wp2
      refine bodyPost_ret (v := .agg #[.bool true, .slice A1 n c1, .int .i64 exp]) (by simp [results, Tryz.results64, go_sem, y0, y1, y2]) rfl ?_
      exact ⟨A1, c1, rfl, (((hr1.setOther (p := ⟨w.heap.size + 1, 0, none⟩) hlt _).setOther (p := ⟨w.heap.size + 1, 1, none⟩) hlt _).setOther (p := ⟨w.heap.size + 1, 2, none⟩) hlt _).more (show w.heap.size ≤ W.heap.size by omega),
        ((hw1.setCell (p := ⟨w.heap.size + 1, 0, none⟩) (by simp) _).setCell (p := ⟨w.heap.size + 1, 1, none⟩) (by simp) _).setCell (p := ⟨w.heap.size + 1, 2, none⟩) (by simp) _⟩
end Go.Proofs.YtklpfgjnlheikaaGreatDoor

namespace Go.Proofs.YtklpfgjnlheikaaGreatDoor
open Go.RowKit

theorem quiet_k {P : Program} {f : FuncId} {args : Array Value} {w : World} {n : Nat} {v : Value}
    (h : Calls P f args (w.drewN n) fun e w' => e = .returned v ∧ ∃ k, w' = (w.drewN n).drewN k) :
    Calls P f args (w.drewN n) fun e w'' => e = .returned v ∧ ∃ m, w'' = w.drewN m :=
  h.mono fun _ _ ⟨he, k, hk⟩ => ⟨he, n + k, by rw [hk]; simp only [World.drewN_drewN]⟩

set_option maxRecDepth 100000 in
set_option maxHeartbeats 2000000 in
theorem dcompare_c {S : Nat → Prop} {n m c d : Nat} {A B : Option Addr} {xs ys : List Nat} (na nb : Bool) (e1 e2 lo : Int) (P1 P2 : Nat) (w : World)
    (ha1 : Rd w S A n xs) (ha2 : Rd w S B m ys) (hS : ∀ b, S b → b < w.heap.size) (hc1 : Can xs) (hc2 : Can ys) (hn : n ≤ 256) (hm : m ≤ 256) (hv1 : val xs < 10 ^ 300) (hv2 : val ys < 10 ^ 300) (hx1 : -1000 ≤ e1 ∧ e1 ≤ 1000) (hx2 : -1000 ≤ e2 ∧ e2 ≤ 1000)
    (hlo : lo = min e1 e2) (hpi1 : e1 - lo = (P1 : Int)) (hpi2 : e2 - lo = (P2 : Int)) :
    Calls Tryz.prog 54 #[dv na A n c e1, dv nb B m d e2] w fun e w' => e = .returned (.int .i64 (dcN na nb (val xs * 10 ^ P1) (val ys * 10 ^ P2))) ∧ Below w.heap.size w w' := by
  have hXB : val xs * 10 ^ P1 < bp 256 := wide_bp (wide_lt hv1 (by omega))
  have hYB : val ys * 10 ^ P2 < bp 256 := wide_bp (wide_lt hv2 (by omega))
  have HXB := Lib.hid hXB
  have HYB := Lib.hid hYB
  have HV1 := Lib.hid hv1
  have HV2 := Lib.hid hv2
  have HLO := Lib.hid hlo
  have HP1 := Lib.hid hpi1
  have HP2 := Lib.hid hpi2
  have HLO2 : Hid (lo = min e2 e1) := by show _ = _; rw [hlo]; omega
  clear hXB hYB hv1 hv2 hlo hpi1 hpi2
  have hb0 : ∀ o1 o2 o3, Below w.heap.size w (((w.alloc o1).alloc o2).alloc o3) := fun o1 o2 o3 => (((Below.refl _ w).alloc (Nat.le_refl _) o1).alloc (by simp) o2).alloc (by simp; omega) o3
  unfold dv
  cases na
  · cases nb
    · have hD : Hid (dcN false false (val xs * 10 ^ P1) (val ys * 10 ^ P2) = cmpN (val xs * 10 ^ P1) (val ys * 10 ^ P2)) := rfl
      go_enter Tryz.func54, Tryz.ntmps54
      go_wp2_with fail
      obtain ⟨m0, m1⟩ := two_new ((w.alloc (.cells #[.bool false, .slice A n c, .int .i64 e1] 24))) (.cells #[.bool false, .slice B m d, .int .i64 e2] 24) (.cells #[.bool false, .slice A n c, .int .i64 e1, .bool false, .slice B m d, .int .i64 e2] 24)
      simp only [World.size_alloc] at m1
      have hW := hb0 (.cells #[.bool false, .slice A n c, .int .i64 e1] 24) (.cells #[.bool false, .slice B m d, .int .i64 e2] 24) (.cells #[.bool false, .slice A n c, .int .i64 e1, .bool false, .slice B m d, .int .i64 e2] 24)
      have hsz : (((w.alloc (.cells #[.bool false, .slice A n c, .int .i64 e1] 24)).alloc (.cells #[.bool false, .slice B m d, .int .i64 e2] 24)).alloc (.cells #[.bool false, .slice A n c, .int .i64 e1, .bool false, .slice B m d, .int .i64 e2] 24)).heap.size = w.heap.size + 3 := by simp
      generalize (((w.alloc (.cells #[.bool false, .slice A n c, .int .i64 e1] 24)).alloc (.cells #[.bool false, .slice B m d, .int .i64 e2] 24)).alloc (.cells #[.bool false, .slice A n c, .int .i64 e1, .bool false, .slice B m d, .int .i64 e2] 24)) = W at m1 hW hsz ⊢
      refine (align_c false false e1 e2 lo P1 P2 W m1 (ha1.below hW hS) (ha2.below hW hS) (fun b h => by have := hS b h; omega) hc1 hc2 hn hm HV1.out HV2.out hx1 hx2 HLO.out HP1.out HP2.out).mono ?_
      rintro e w1 ⟨g, cg, A1, k1, c1, A2, k2, c2, rfl, hg0, hg1, hgl, hgs, r1, r2, hb1⟩
      have hw1 : Below w.heap.size w w1 := hW.trans (hb1.mono (by omega))
      clear m0 m1
      go_wp2
      go_quiet ((go_at_call 70; exact quiet_k (CompareL_c _ (r1.rd.drewN _) (r2.rd.drewN _) HXB.out HYB.out)))
      go_wp2
      go_ret
      rw [hD.out]
      exact ⟨rfl, below_drewN hw1 _⟩
    · go_enter Tryz.func54, Tryz.ntmps54
      go_wp2
      go_ret
      exact ⟨rfl, ((Below.refl _ w).alloc (Nat.le_refl _) _).alloc (by simp) _⟩
  · cases nb
    · go_enter Tryz.func54, Tryz.ntmps54
      go_wp2
      go_ret
      exact ⟨rfl, ((Below.refl _ w).alloc (Nat.le_refl _) _).alloc (by simp) _⟩
    · have hD : Hid (dcN true true (val xs * 10 ^ P1) (val ys * 10 ^ P2) = cmpN (val ys * 10 ^ P2) (val xs * 10 ^ P1)) := rfl
      go_enter Tryz.func54, Tryz.ntmps54
      go_wp2_with fail
      obtain ⟨m0, m1⟩ := two_new (w.alloc (.cells #[.bool true, .slice B m d, .int .i64 e2] 24)) (.cells #[.bool true, .slice A n c, .int .i64 e1] 24) (.cells #[.bool true, .slice B m d, .int .i64 e2, .bool true, .slice A n c, .int .i64 e1] 24)
      simp only [World.size_alloc] at m1
      have hW := hb0 (.cells #[.bool true, .slice B m d, .int .i64 e2] 24) (.cells #[.bool true, .slice A n c, .int .i64 e1] 24) (.cells #[.bool true, .slice B m d, .int .i64 e2, .bool true, .slice A n c, .int .i64 e1] 24)
      have hsz : (((w.alloc (.cells #[.bool true, .slice B m d, .int .i64 e2] 24)).alloc (.cells #[.bool true, .slice A n c, .int .i64 e1] 24)).alloc (.cells #[.bool true, .slice B m d, .int .i64 e2, .bool true, .slice A n c, .int .i64 e1] 24)).heap.size = w.heap.size + 3 := by simp
      generalize (((w.alloc (.cells #[.bool true, .slice B m d, .int .i64 e2] 24)).alloc (.cells #[.bool true, .slice A n c, .int .i64 e1] 24)).alloc (.cells #[.bool true, .slice B m d, .int .i64 e2, .bool true, .slice A n c, .int .i64 e1] 24)) = W at m1 hW hsz ⊢
      refine (align_c true true e2 e1 lo P2 P1 W m1 (ha2.below hW hS) (ha1.below hW hS) (fun b h => by have := hS b h; omega) hc2 hc1 hm hn HV2.out HV1.out hx2 hx1 HLO2.out HP2.out HP1.out).mono ?_
      rintro e w1 ⟨g, cg, A1, k1, c1, A2, k2, c2, rfl, hg0, hg1, hgl, hgs, r1, r2, hb1⟩
      have hw1 : Below w.heap.size w w1 := hW.trans (hb1.mono (by omega))
      clear m0 m1
      go_wp2
      go_quiet ((go_at_call 70; exact quiet_k (CompareL_c _ (r1.rd.drewN _) (r2.rd.drewN _) HYB.out HXB.out)))
      go_wp2
      go_ret
      rw [hD.out]
      exact ⟨rfl, below_drewN hw1 _⟩

set_option maxRecDepth 100000 in
theorem DCompare_c {S : Nat → Prop} {n m c d : Nat} {A B : Option Addr} {xs ys : List Nat} (na nb : Bool) (e1 e2 lo : Int) (P1 P2 : Nat) (w : World)
    (ha1 : Rd w S A n xs) (ha2 : Rd w S B m ys) (hS : ∀ b, S b → b < w.heap.size) (hn : n ≤ 9223372036854775807) (hm : m ≤ 9223372036854775807)
    (hlo : lo = min e1 e2) (hpi1 : e1 - lo = (P1 : Int)) (hpi2 : e2 - lo = (P2 : Int)) :
    Calls Tryz.prog 13 #[dv na A n c e1, dv nb B m d e2] w fun e w' =>
      (okE2 na xs e1 nb ys e2 ≠ 0 → e = .returned (.tuple #[.int .i64 0, .int .i64 (okE2 na xs e1 nb ys e2 : Int)])) ∧
      (okE2 na xs e1 nb ys e2 = 0 → e = .returned (.tuple #[.int .i64 (dcN na nb (val xs * 10 ^ P1) (val ys * 10 ^ P2)), .int .i64 0])) ∧ Below w.heap.size w w' := by
  have HLO := Lib.hid hlo
  have HP1 := Lib.hid hpi1
  have HP2 := Lib.hid hpi2
  clear hlo hpi1 hpi2
  have hb0 : ∀ o1 o2 o3, Below w.heap.size w (((w.alloc o1).alloc o2).alloc o3) := fun o1 o2 o3 => (((Below.refl _ w).alloc (Nat.le_refl _) o1).alloc (by simp) o2).alloc (by simp; omega) o3
  unfold dv
  go_enter Tryz.func13, Tryz.ntmps13
  go_wp2_with fail
  obtain ⟨m0, m1⟩ := two_new (w.alloc (.cells #[.bool na, .slice A n c, .int .i64 e1] 24)) (.cells #[.bool nb, .slice B m d, .int .i64 e2] 24) (.cells #[.bool na, .slice A n c, .int .i64 e1, .bool nb, .slice B m d, .int .i64 e2] 24)
  obtain ⟨m2, m3⟩ := two_new w (.cells #[.bool na, .slice A n c, .int .i64 e1] 24) (.cells #[.bool nb, .slice B m d, .int .i64 e2] 24)
  simp only [World.size_alloc] at m0 m1
  have hW := hb0 (.cells #[.bool na, .slice A n c, .int .i64 e1] 24) (.cells #[.bool nb, .slice B m d, .int .i64 e2] 24) (.cells #[.bool na, .slice A n c, .int .i64 e1, .bool nb, .slice B m d, .int .i64 e2] 24)
  have hsz : (((w.alloc (.cells #[.bool na, .slice A n c, .int .i64 e1] 24)).alloc (.cells #[.bool nb, .slice B m d, .int .i64 e2] 24)).alloc (.cells #[.bool na, .slice A n c, .int .i64 e1, .bool nb, .slice B m d, .int .i64 e2] 24)).heap.size = w.heap.size + 3 := by simp
  have m2 : (((w.alloc (.cells #[.bool na, .slice A n c, .int .i64 e1] 24)).alloc (.cells #[.bool nb, .slice B m d, .int .i64 e2] 24)).alloc (.cells #[.bool na, .slice A n c, .int .i64 e1, .bool nb, .slice B m d, .int .i64 e2] 24)).heap[w.heap.size]? = some (.cells #[.bool na, .slice A n c, .int .i64 e1] 24) := (Below.heap_alloc _ _ _ (by simp; omega)).trans m2
  generalize (((w.alloc (.cells #[.bool na, .slice A n c, .int .i64 e1] 24)).alloc (.cells #[.bool nb, .slice B m d, .int .i64 e2] 24)).alloc (.cells #[.bool na, .slice A n c, .int .i64 e1, .bool nb, .slice B m d, .int .i64 e2] 24)) = W at m0 m1 m2 hW hsz ⊢
  have hSW : ∀ b, S b → b < W.heap.size := fun b h => by have := hS b h; omega
  refine (checkAll_c (c := c) (d := d) na nb e1 e2 W m1 (ha1.below hW hS) (ha2.below hW hS) hSW hn hm).mono ?_
  rintro e w1 ⟨rfl, hb1⟩
  have hw1 : Below w.heap.size w w1 := hW.trans (hb1.mono (by omega))
  have q0 := held hb1 (by omega) m2
  have q1 := held hb1 (by omega) m0
  have p0 : w1.cell? ⟨w.heap.size, 0, none⟩ = some (.bool na) := cell_of q0 rfl
  have p1 : w1.cell? ⟨w.heap.size, 1, none⟩ = some (.slice A n c) := cell_of q0 rfl
  have p2 : w1.cell? ⟨w.heap.size, 2, none⟩ = some (.int .i64 e1) := cell_of q0 rfl
  have p3 : w1.cell? ⟨w.heap.size + 1, 0, none⟩ = some (.bool nb) := cell_of q1 rfl
  have p4 : w1.cell? ⟨w.heap.size + 1, 1, none⟩ = some (.slice B m d) := cell_of q1 rfl
  have p5 : w1.cell? ⟨w.heap.size + 1, 2, none⟩ = some (.int .i64 e2) := cell_of q1 rfl
  clear m0 m1 m2 m3 q0 q1 hb0
  by_cases h0 : okE2 na xs e1 nb ys e2 = 0
  · have H0 := Lib.hid h0
    rw [h0]
    have hk1 : okB na xs e1 = true := by
      unfold okE2 at h0
      by_cases h : okB na xs e1 = true
      · exact h
      · rw [if_neg h] at h0; omega
    have hk2 : okB nb ys e2 = true := by
      unfold okE2 okE at h0
      rw [if_pos hk1] at h0
      by_cases h : okB nb ys e2 = true
      · exact h
      · rw [if_neg h] at h0; omega
    obtain ⟨a1, a2, a3, a4, _, _⟩ := okB_true ha1.l32 hk1
    obtain ⟨b1, b2, b3, b4, _, _⟩ := okB_true ha2.l32 hk2
    have hP := dcompare_c (c := c) (d := d) na nb e1 e2 lo P1 P2 w1 (ha1.below hw1 hS) (ha2.below hw1 hS) (fun b h => by have := hS b h; have := hw1.size; omega) a1 b1 (by rw [← ha1.len]; exact a2) (by rw [← ha2.len]; exact b2) a3 b3 a4 b4 HLO.out HP1.out HP2.out
    unfold dv at hP
    have HP := Lib.hid hP
    clear h0 hk1 hk2 a3 b3 hP a1 b1
    go_wp2_with fail
    refine HP.out.mono ?_
    rintro e w2 ⟨rfl, hb2⟩
    go_wp2
    go_ret2
    exact ⟨fun h => absurd H0.out h, fun _ => rfl, hw1.trans (hb2.mono hw1.size)⟩
  · have hbe : (((okE2 na xs e1 nb ys e2 : Nat) : Int) != 0) = true := by rw [bne_iff_ne]; omega
    have H0 := Lib.hid h0
    clear h0
    go_wp2
    go_ret2
    exact ⟨fun _ => rfl, fun h => absurd h H0.out, hw1⟩
end Go.Proofs.YtklpfgjnlheikaaGreatDoor

namespace Go.Proofs.YtklpfgjnlheikaaGreatDoor
open Go.RowKit

set_option maxRecDepth 100000 in
set_option maxHeartbeats 4000000 in
theorem subf_c {S : Nat → Prop} {n m c d pa pb : Nat} {A B : Option Addr} {xs ys : List Nat} (na nb : Bool) (e1 e2 lo : Int) (P1 P2 : Nat) (w : World)
    (ma : w.heap[pa]? = some (.cells #[.bool na, .slice A n c, .int .i64 e1] 24)) (mb : w.heap[pb]? = some (.cells #[.bool nb, .slice B m d, .int .i64 e2] 24))
    (ha1 : Rd w S A n xs) (ha2 : Rd w S B m ys) (hS : ∀ b, S b → b < w.heap.size) (hc1 : Can xs) (hc2 : Can ys) (hn : n ≤ 256) (hm : m ≤ 256) (hv1 : val xs < 10 ^ 300) (hv2 : val ys < 10 ^ 300) (hx1 : -1000 ≤ e1 ∧ e1 ≤ 1000) (hx2 : -1000 ≤ e2 ∧ e2 ≤ 1000)
    (hlo : lo = min e1 e2) (hpi1 : e1 - lo = (P1 : Int)) (hpi2 : e2 - lo = (P2 : Int)) (Z : Nat) (sg : Bool) (hZ : Z = sgV na (ops nb ys) (val xs * 10 ^ P1) (val ys * 10 ^ P2)) (hsg : sg = sgB na (ops nb ys) (val xs * 10 ^ P1) (val ys * 10 ^ P2)) :
    Calls Tryz.prog 63 #[.pointer (some ⟨pa, 0, none⟩), .pointer (some ⟨pb, 0, none⟩)] w fun e w' => ∃ s, e = .returned (rv sg none 0 0 lo s) ∧ IsDec Z s ∧ s.size ≤ 2731 ∧ Below w.heap.size w w' := by
  have hb0 : ∀ o, Below w.heap.size w (w.alloc o) := fun o => (Below.refl _ _).alloc (Nat.le_refl _) _
  have hsa := (Array.getElem?_eq_some_iff.1 ma).1
  have hsb := (Array.getElem?_eq_some_iff.1 mb).1
  have hW := hb0 (.cells #[.bool false, .slice none 0 0, .int .i64 0, .string ⟨#[]⟩] 83)
  have m2 := World.alloc_heap_new w (.cells #[.bool false, .slice none 0 0, .int .i64 0, .string ⟨#[]⟩] 83)
  have hsz : (w.alloc (.cells #[.bool false, .slice none 0 0, .int .i64 0, .string ⟨#[]⟩] 83)).heap.size = w.heap.size + 1 := by simp
  have HMA := Lib.hid ma
  have HMB := Lib.hid mb
  have HV1 := Lib.hid hv1
  have HV2 := Lib.hid hv2
  have HLO := Lib.hid hlo
  have HP1 := Lib.hid hpi1
  have HP2 := Lib.hid hpi2
  have HZ := Lib.hid hZ
  have HSG := Lib.hid hsg
  have HM2 := Lib.hid m2
  clear ma mb hlo hpi1 hpi2 hv1 hv2 hZ hsg m2
  unfold rv
  go_enter Tryz.func63, Tryz.ntmps63
  go_wp2_with fail
  have m2 := HM2.out
  clear HM2
  generalize (w.alloc (.cells #[.bool false, .slice none 0 0, .int .i64 0, .string ⟨#[]⟩] 83)) = W at m2 hW hsz ⊢
  have hSW : ∀ b, S b → b < W.heap.size := fun b h => by have := hS b h; omega
  have hO := opposite_c (c := d) nb e2 W.drew (ha2.below hW hS).drew hSW (by omega)
  have hsum : ∀ w1 B1 d1, Res w1 W.heap.size B1 m d1 ys → Below W.heap.size W.drew w1 → Calls Tryz.prog 59 #[dv na A n c e1, dv (ops nb ys) B1 m d1 e2] w1 fun e w' => ∃ s, e = .returned (rv sg none 0 0 lo s) ∧ IsDec Z s ∧ s.size ≤ 2731 ∧ Below w1.heap.size w1 w' := by
    intro w1 B1 d1 hr1 hb1
    rw [HZ.out, HSG.out]
    have hs1 := hb1.size
    exact dsum_c (S := fun b => b < w1.heap.size) (c := c) (d := d1) na (ops nb ys) e1 e2 lo P1 P2 w1 (((ha1.below hW hS).drew.below hb1 hSW).more (fun b h => Nat.lt_of_lt_of_le (hSW b h) hs1)) (hr1.rd.more (fun b h => h.2)) (fun b h => h) hc1 hc2 hn hm HV1.out HV2.out hx1 hx2 HLO.out HP1.out HP2.out
  unfold dv at hO hsum
  unfold rv at hsum
  have HO := Lib.hid hO
  have HSUM := Lib.hid hsum
  obtain ⟨k0, k1, k2⟩ := box3_of (held hW hsa HMA.out)
  obtain ⟨k3, k4, k5⟩ := box3_of (held hW hsb HMB.out)
  clear hO hsum hb0
  refine wp_region_held_drew (S := fun w' => w'.cell? ⟨pa, 0, none⟩ = some (.bool na) ∧ w'.cell? ⟨pa, 1, none⟩ = some (.slice A n c) ∧ w'.cell? ⟨pa, 2, none⟩ = some (.int .i64 e1) ∧ w'.cell? ⟨pb, 0, none⟩ = some (.bool nb) ∧ w'.cell? ⟨pb, 1, none⟩ = some (.slice B m d) ∧ w'.cell? ⟨pb, 2, none⟩ = some (.int .i64 e2)) (by kernel_rfl) ⟨k0, k1, k2, k3, k4, k5⟩ (fun hHeld => ?_)
  (try simp only [List.size_toArray, List.length_cons, List.length_nil, Nat.reduceAdd, Array.replicate_succ, Array.replicate_zero, List.push_toArray, List.append_toArray, List.nil_append, List.cons_append])
  refine wpAnyH_take (i := 0) (oi := ⟨_, _, _, _, _, _⟩) (v := ?_) rfl (by kernel_rfl) (by kernel_rfl) (by kernel_rfl) (fun _ _ _ h => h) (Or.inl ⟨by rfl, ?_⟩) (by assumption) ?_
  rotate_left
  · intro w hSw
    (try dsimp only at hSw)
    go_split_ands
    go_simp
    try with_reducible rfl
  try simp only [Act.put, List.setIfInBounds_toArray, List.set_cons_zero, List.set_cons_succ]
  refine wpAnyH_take (i := 1) (oi := ⟨_, _, _, _, _, _⟩) (v := ?_) rfl (by kernel_rfl) (by kernel_rfl) (by kernel_rfl) (fun _ _ _ h => h) (Or.inl ⟨by rfl, ?_⟩) (by assumption) ?_
  rotate_left
  · intro w hSw
    (try dsimp only at hSw)
    go_split_ands
    go_simp
    try with_reducible rfl
  try simp only [Act.put, List.setIfInBounds_toArray, List.set_cons_zero, List.set_cons_succ]
  refine wpAnyH_ready (rs := [2]) (by kernel_rfl) (by simp) (AllReadyH.cons (o := ⟨_, _, _, _, _, _⟩) rfl (fun K hK => ?_) AllReadyH.nil)
  go_simp
  refine HO.out.mono ?_
  rintro e w1 ⟨B1, d1, rfl, hr1, hb1⟩
  obtain ⟨z0, z1, z2⟩ := box3_of (held hb1 (show pa < W.heap.size by omega) (held hW hsa HMA.out))
  obtain ⟨z3, z4, z5⟩ := box3_of (held hb1 (show pb < W.heap.size by omega) (held hW hsb HMB.out))
  (try dsimp only)
  refine hK.out _ _ ⟨z0, z1, z2, z3, z4, z5⟩ (fun hHeld2 => ?_)
  clear hK K
  try simp only [Act.put, List.setIfInBounds_toArray, List.set_cons_zero, List.set_cons_succ]
  refine wpAnyH_ready (rs := [3]) (by kernel_rfl) (by simp) (AllReadyH.cons (o := ⟨_, _, _, _, _, _⟩) rfl (fun K hK => ?_) AllReadyH.nil)
  go_simp
  refine (HSUM.out _ _ _ hr1 hb1).mono ?_
  rintro e w2 ⟨s, rfl, hs, hs2, hb2⟩
  have hbW := hb1.trans (hb2.mono hb1.size)
  obtain ⟨x0, x1, x2⟩ := box3_of (held hbW (show pa < W.heap.size by omega) (held hW hsa HMA.out))
  obtain ⟨x3, x4, x5⟩ := box3_of (held hbW (show pb < W.heap.size by omega) (held hW hsb HMB.out))
  have q1 := held hbW (show w.heap.size < W.heap.size by omega) m2
  have y0 : w2.cell? ⟨w.heap.size, 0, none⟩ = some (.bool false) := cell_of q1 rfl
  have y1 : w2.cell? ⟨w.heap.size, 1, none⟩ = some (.slice none 0 0) := cell_of q1 rfl
  have y2 : w2.cell? ⟨w.heap.size, 2, none⟩ = some (.int .i64 0) := cell_of q1 rfl
  have y3 : w2.cell? ⟨w.heap.size, 3, none⟩ = some (.string ⟨#[]⟩) := cell_of q1 rfl
  have f0 := frozen_of 0 q1
  have f1 := frozen_of 1 q1
  have f2 := frozen_of 2 q1
  have f3 := frozen_of 3 q1
  have HS := Lib.hid hs
  (try dsimp only)
  refine hK.out _ _ ⟨x0, x1, x2, x3, x4, x5⟩ (fun hHeld3 => ?_)
  clear hK K hs q1
  try simp only [Act.put, List.setIfInBounds_toArray, List.set_cons_zero, List.set_cons_succ]
  refine wpAnyH_ready (rs := [4]) (by kernel_rfl) (by simp) (AllReadyH.cons (o := ⟨_, _, _, _, _, _⟩) rfl (fun K hK => ?_) AllReadyH.nil)
  go_simp
  refine hK.out _ _ ?_ (fun hHeld4 => ?_)
  · have ga : pa ≠ w.heap.size := by omega
    have gb : pb ≠ w.heap.size := by omega
    (first | go_keep | (refine ⟨?_, ?_, ?_, ?_, ?_, ?_⟩ <;> go_keep) | (simp [World.cell?_setCell_far, Ne.symm ga, Ne.symm gb, x0, x1, x2, x3, x4, x5]))
  clear hK K
  try simp only [Act.put, List.setIfInBounds_toArray, List.set_cons_zero, List.set_cons_succ]
  refine wpAnyH_done (by kernel_rfl) ?_ _
  go_wp2
  refine bodyPost_ret (v := .agg #[.bool sg, .slice none 0 0, .int .i64 lo, .string s]) (by simp [results, Tryz.results63, go_sem, y0, y1, y2, y3]) rfl ?_
  have hwW : Below w.heap.size w w2 := (only_drewB hW).trans (hbW.mono (show w.heap.size ≤ W.heap.size by omega))
  exact ⟨s, rfl, HS.out, hs2, (((hwW.setCell (p := ⟨w.heap.size, 0, none⟩) (Nat.le_refl _) _).setCell (p := ⟨w.heap.size, 1, none⟩) (Nat.le_refl _) _).setCell (p := ⟨w.heap.size, 2, none⟩) (Nat.le_refl _) _).setCell (p := ⟨w.heap.size, 3, none⟩) (Nat.le_refl _) _⟩

set_option maxRecDepth 100000 in
set_option maxHeartbeats 1000000 in
theorem workSub_c {S : Nat → Prop} {n m c d pa pb b : Nat} {A B : Option Addr} {xs ys : List Nat} (na nb : Bool) (e1 e2 lo : Int) (w : World)
    (hb : w.heap[b]? = some (.cells #[.bool na, .slice A n c, .int .i64 e1, .bool nb, .slice B m d, .int .i64 e2] 24))
    (ha1 : Rd w S A n xs) (ha2 : Rd w S B m ys) (hS : ∀ b, S b → b < w.heap.size) (hn : n ≤ 9223372036854775807) (hm : m ≤ 9223372036854775807)
    (hlo : okB na xs e1 = true → okB nb ys e2 = true → -100000 ≤ lo ∧ lo ≤ 100000) (Z : Nat) (sg : Bool)
    (hf : okB na xs e1 = true → okB nb ys e2 = true → ∀ W, Below w.heap.size w W → Calls Tryz.prog 63 #[.pointer (some ⟨pa, 0, none⟩), .pointer (some ⟨pb, 0, none⟩)] W fun e w' => ∃ s, e = .returned (rv sg none 0 0 lo s) ∧ IsDec Z s ∧ s.size ≤ 2731 ∧ Below W.heap.size W w') :
    Calls Tryz.prog 57 #[.func (.func 63) #[] #[.pointer (some ⟨pa, 0, none⟩), .pointer (some ⟨pb, 0, none⟩)], .slice (some ⟨b, 0, none⟩) 2 2] w fun e w' =>
      (okE2 na xs e1 nb ys e2 ≠ 0 → e = .returned (.tuple #[dv false none 0 0 0, .int .i64 (okE2 na xs e1 nb ys e2 : Int)])) ∧
      (okE2 na xs e1 nb ys e2 = 0 → ∃ A' n' c', e = .returned (.tuple #[dv (stN sg Z lo) A' n' c' (stX Z lo), .int .i64 (stE Z lo : Int)]) ∧ Res w' w.heap.size A' n' c' (stZ Z lo)) ∧ Below w.heap.size w w' := by
  have hb0 : ∀ o, Below w.heap.size w (w.alloc o) := fun o => (Below.refl _ _).alloc (Nat.le_refl _) _
  have hsc := (Array.getElem?_eq_some_iff.1 hb).1
  have HB := Lib.hid hb
  have HF := Lib.hid hf
  have HLO := Lib.hid hlo
  clear hb hf hlo
  go_enter Tryz.func57, Tryz.ntmps57
  go_wp2_with fail
  refine (checkAll_c (c := c) (d := d) na nb e1 e2 _ (held (hb0 _) hsc HB.out) (ha1.below (hb0 _) hS) (ha2.below (hb0 _) hS) (fun b h => by have := hS b h; simp; omega) hn hm).mono ?_
  rintro e w1 ⟨rfl, hb1⟩
  have hw1 : Below w.heap.size w w1 := (hb0 _).trans (hb1.mono (by simp))
  have m1 := held hb1 (by simp) (World.alloc_heap_new w _)
  by_cases h0 : okE2 na xs e1 nb ys e2 = 0
  · have H0 := Lib.hid h0
    rw [h0]
    have hk1 : okB na xs e1 = true := by
      unfold okE2 at h0
      by_cases h : okB na xs e1 = true
      · exact h
      · rw [if_neg h] at h0; omega
    have hk2 : okB nb ys e2 = true := by
      unfold okE2 okE at h0
      rw [if_pos hk1] at h0
      by_cases h : okB nb ys e2 = true
      · exact h
      · rw [if_neg h] at h0; omega
    have HF2 := Lib.hid (HF.out hk1 hk2)
    have HLO2 := Lib.hid (HLO.out hk1 hk2)
    clear h0 hk1 hk2
    go_wp2_with fail
    refine (HF2.out w1 hw1).mono ?_
    rintro e w2 ⟨s, rfl, hs, hs2, hb2⟩
    obtain ⟨d1, d2⟩ := isDec_dig hs
    have m2 := held hb2 (by have := hb1.size; simp at this; omega) m1
    have D1 := Lib.hid d1
    have D2 := Lib.hid d2
    have hw2 : Below w.heap.size w w2 := hw1.trans (hb2.mono hw1.size)
    clear m1 d1 d2 hs
    go_wp2_with fail
    have hS3 := settle_c sg none 0 0 lo s w2 (by omega) D1.out (by have := HLO2.out; omega)
    rw [D2.out] at hS3
    refine hS3.mono ?_
    rintro e w3 ⟨A', n', c', rfl, hr3, hb3⟩
    have m3 := held hb3 (by have := hw2.size; have := (Array.getElem?_eq_some_iff.1 m2).1; omega) m2
    have hy0 : w3.cell? ⟨w.heap.size, 0, none⟩ = some (.bool false) := cell_of m3 rfl
    have hy1 : w3.cell? ⟨w.heap.size, 1, none⟩ = some (.slice none 0 0) := cell_of m3 rfl
    have hy2 : w3.cell? ⟨w.heap.size, 2, none⟩ = some (.int .i64 0) := cell_of m3 rfl
    have hf0 := frozen_of 0 m3
    have hf1 := frozen_of 1 m3
    have hf2 := frozen_of 2 m3
    have hlt : w.heap.size < w2.heap.size := (Array.getElem?_eq_some_iff.1 m2).1
    clear hS3 m2 m3
    dsimp only [dv]
    go_wp2
    refine bodyPost_ret (v := .tuple #[.agg #[.bool (stN sg Z lo), .slice A' n' c', .int .i64 (stX Z lo)], .int .i64 (stE Z lo : Int)]) (by simp [results, Tryz.results57, go_sem, hy0, hy1, hy2]) rfl ?_
    refine ⟨fun h => absurd H0.out h, fun _ => ⟨A', n', c', rfl, ?_⟩, ?_⟩
    · exact (((hr3.setOther hlt _).setOther hlt _).setOther hlt _).more hw2.size
    · exact (((hw2.trans (hb3.mono hw2.size)).setCell (p := ⟨w.heap.size, 0, none⟩) (Nat.le_refl _) _).setCell (p := ⟨w.heap.size, 1, none⟩) (Nat.le_refl _) _).setCell (p := ⟨w.heap.size, 2, none⟩) (Nat.le_refl _) _
  · have hbe : (((okE2 na xs e1 nb ys e2 : Nat) : Int) != 0) = true := by rw [bne_iff_ne]; omega
    have hy0 : w1.cell? ⟨w.heap.size, 0, none⟩ = some (.bool false) := cell_of m1 rfl
    have hy1 : w1.cell? ⟨w.heap.size, 1, none⟩ = some (.slice none 0 0) := cell_of m1 rfl
    have hy2 : w1.cell? ⟨w.heap.size, 2, none⟩ = some (.int .i64 0) := cell_of m1 rfl
    have hf0 := frozen_of 0 m1
    have hf1 := frozen_of 1 m1
    have hf2 := frozen_of 2 m1
    have H0 := Lib.hid h0
    clear h0 m1
    go_wp2
    refine bodyPost_ret (v := .tuple #[.agg #[.bool false, .slice none 0 0, .int .i64 0], .int .i64 (okE2 na xs e1 nb ys e2 : Int)]) (by simp [results, Tryz.results57, go_sem, hy0, hy1, hy2]) rfl ?_
    refine ⟨fun _ => rfl, fun h => absurd h H0.out, ?_⟩
    exact ((hw1.setCell (p := ⟨w.heap.size, 0, none⟩) (Nat.le_refl _) _).setCell (p := ⟨w.heap.size, 1, none⟩) (Nat.le_refl _) _).setCell (p := ⟨w.heap.size, 2, none⟩) (Nat.le_refl _) _

set_option maxRecDepth 100000 in
set_option maxHeartbeats 1000000 in
theorem DSub_w {S : Nat → Prop} {n m c d : Nat} {A B : Option Addr} {xs ys : List Nat} (na nb : Bool) (e1 e2 lo : Int) (w : World)
    (ha1 : Rd w S A n xs) (ha2 : Rd w S B m ys) (hS : ∀ b, S b → b < w.heap.size) (hn : n ≤ 9223372036854775807) (hm : m ≤ 9223372036854775807)
    (hlo : okB na xs e1 = true → okB nb ys e2 = true → -100000 ≤ lo ∧ lo ≤ 100000) (Z : Nat) (sg : Bool)
    (hf : okB na xs e1 = true → okB nb ys e2 = true → ∀ W, Below w.heap.size w W → W.heap[w.heap.size]? = some (.cells #[.bool na, .slice A n c, .int .i64 e1] 24) → W.heap[w.heap.size + 1]? = some (.cells #[.bool nb, .slice B m d, .int .i64 e2] 24) →
      Calls Tryz.prog 63 #[.pointer (some ⟨w.heap.size, 0, none⟩), .pointer (some ⟨w.heap.size + 1, 0, none⟩)] W fun e w' => ∃ s, e = .returned (rv sg none 0 0 lo s) ∧ IsDec Z s ∧ s.size ≤ 2731 ∧ Below W.heap.size W w') :
    Calls Tryz.prog 17 #[dv na A n c e1, dv nb B m d e2] w fun e w' =>
      (okE2 na xs e1 nb ys e2 ≠ 0 → e = .returned (.tuple #[dv false none 0 0 0, .int .i64 (okE2 na xs e1 nb ys e2 : Int)])) ∧
      (okE2 na xs e1 nb ys e2 = 0 → ∃ A' n' c', e = .returned (.tuple #[dv (stN sg Z lo) A' n' c' (stX Z lo), .int .i64 (stE Z lo : Int)]) ∧ Res w' w.heap.size A' n' c' (stZ Z lo)) ∧ Below w.heap.size w w' := by
  have HF := Lib.hid hf
  have HLO := Lib.hid hlo
  clear hf hlo
  have hb0 : ∀ o1 o2 o3 o4, Below w.heap.size w ((((w.alloc o1).alloc o2).alloc o3).alloc o4) := fun o1 o2 o3 o4 => ((((Below.refl _ w).alloc (Nat.le_refl _) o1).alloc (by simp) o2).alloc (by simp; omega) o3).alloc (by simp; omega) o4
  have hmf : ∀ (fn : Fn) (first cap : Array Value) (w : World), (Instr.makeFunc fn first cap).run Tryz.prog w = .ok (.func fn first cap) w := fun _ _ _ _ => rfl
  unfold dv
  go_enter Tryz.func17, Tryz.ntmps17
  go_wp2_with fail
  obtain ⟨m0, m1, m2, m3⟩ := four_new w (.cells #[.bool na, .slice A n c, .int .i64 e1] 24) (.cells #[.bool nb, .slice B m d, .int .i64 e2] 24) (.cells #[.bool false, .slice none 0 0, .int .i64 0] 24) (.cells #[.bool na, .slice A n c, .int .i64 e1, .bool nb, .slice B m d, .int .i64 e2] 24)
  have hW := hb0 (.cells #[.bool na, .slice A n c, .int .i64 e1] 24) (.cells #[.bool nb, .slice B m d, .int .i64 e2] 24) (.cells #[.bool false, .slice none 0 0, .int .i64 0] 24) (.cells #[.bool na, .slice A n c, .int .i64 e1, .bool nb, .slice B m d, .int .i64 e2] 24)
  have hsz : ((((w.alloc (.cells #[.bool na, .slice A n c, .int .i64 e1] 24)).alloc (.cells #[.bool nb, .slice B m d, .int .i64 e2] 24)).alloc (.cells #[.bool false, .slice none 0 0, .int .i64 0] 24)).alloc (.cells #[.bool na, .slice A n c, .int .i64 e1, .bool nb, .slice B m d, .int .i64 e2] 24)).heap.size = w.heap.size + 4 := by simp
  generalize ((((w.alloc (.cells #[.bool na, .slice A n c, .int .i64 e1] 24)).alloc (.cells #[.bool nb, .slice B m d, .int .i64 e2] 24)).alloc (.cells #[.bool false, .slice none 0 0, .int .i64 0] 24)).alloc (.cells #[.bool na, .slice A n c, .int .i64 e1, .bool nb, .slice B m d, .int .i64 e2] 24)) = W at m0 m1 m2 m3 hW hsz ⊢
  have hSW : ∀ b, S b → b < W.heap.size := fun b h => by have := hS b h; omega
  refine (workSub_c na nb e1 e2 lo W m3 (ha1.below hW hS) (ha2.below hW hS) hSW hn hm HLO.out Z sg (fun k1 k2 W2 h2 => HF.out k1 k2 W2 (hW.trans (h2.mono (by omega))) (held h2 (by omega) m0) (held h2 (by omega) m1))).mono ?_
  rintro e w1 ⟨hbad, hgood, hb1⟩
  have hw1 : Below w.heap.size w w1 := hW.trans (hb1.mono (by omega))
  have m4 := held hb1 (by omega) m2
  have hy0 : w1.cell? ⟨w.heap.size + 1 + 1, 0, none⟩ = some (.bool false) := cell_of m4 rfl
  have hy1 : w1.cell? ⟨w.heap.size + 1 + 1, 1, none⟩ = some (.slice none 0 0) := cell_of m4 rfl
  have hy2 : w1.cell? ⟨w.heap.size + 1 + 1, 2, none⟩ = some (.int .i64 0) := cell_of m4 rfl
  have hf0 := frozen_of 0 m4
  have hf1 := frozen_of 1 m4
  have hf2 := frozen_of 2 m4
  clear m0 m1 m2 m3 m4 hb0 hmf
  by_cases h0 : okE2 na xs e1 nb ys e2 = 0
  · obtain ⟨A', n', c', rfl, hr⟩ := hgood h0
    have H0 := Lib.hid h0
    clear hbad hgood h0
    dsimp only [dv]
    go_wp2
    refine bodyPost_ret (v := .tuple #[.agg #[.bool (stN sg Z lo), .slice A' n' c', .int .i64 (stX Z lo)], .int .i64 (stE Z lo : Int)]) (by simp [results, Tryz.results17, go_sem, hy0, hy1, hy2]) rfl ?_
    refine ⟨fun h => absurd H0.out h, fun _ => ⟨A', n', c', rfl, ?_⟩, ?_⟩
    · exact (((hr.setOther (by simp; omega) _).setOther (by simp; omega) _).setOther (by simp; omega) _).more (by omega)
    · exact ((hw1.setCell (p := ⟨w.heap.size + 1 + 1, 0, none⟩) (by simp; omega) _).setCell (p := ⟨w.heap.size + 1 + 1, 1, none⟩) (by simp; omega) _).setCell (p := ⟨w.heap.size + 1 + 1, 2, none⟩) (by simp; omega) _
  · obtain rfl := hbad h0
    have H0 := Lib.hid h0
    clear hbad hgood h0
    dsimp only [dv]
    go_wp2
    refine bodyPost_ret (v := .tuple #[.agg #[.bool false, .slice none 0 0, .int .i64 0], .int .i64 (okE2 na xs e1 nb ys e2 : Int)]) (by simp [results, Tryz.results17, go_sem, hy0, hy1, hy2]) rfl ?_
    refine ⟨fun _ => rfl, fun h => absurd h H0.out, ?_⟩
    exact ((hw1.setCell (p := ⟨w.heap.size + 1 + 1, 0, none⟩) (by simp; omega) _).setCell (p := ⟨w.heap.size + 1 + 1, 1, none⟩) (by simp; omega) _).setCell (p := ⟨w.heap.size + 1 + 1, 2, none⟩) (by simp; omega) _
end Go.Proofs.YtklpfgjnlheikaaGreatDoor

namespace Go.Proofs.YtklpfgjnlheikaaGreatDoor
open Go.RowKit

theorem mul_bp {u v : Nat} (h1 : u < 10 ^ 300) (h2 : v < 10 ^ 300) : u * v < bp 256 := by
  obtain ⟨q, hq⟩ : ∃ q, q = 300 := ⟨_, rfl⟩
  rw [← hq] at h1 h2
  have h : u * v < 10 ^ (q + q) := by
    rw [Nat.pow_add]
    exact Nat.mul_lt_mul'' h1 h2
  exact lt_bp (m := 200) h (by omega) (by omega)

set_option maxRecDepth 100000 in
set_option maxHeartbeats 1000000 in
theorem dproduct_c {S : Nat → Prop} {n m c d : Nat} {A B : Option Addr} {xs ys : List Nat} (na nb : Bool) (e1 e2 : Int) (w : World)
    (ha1 : Rd w S A n xs) (ha2 : Rd w S B m ys) (hS : ∀ b, S b → b < w.heap.size) (hc1 : Can xs) (hc2 : Can ys) (hn : n ≤ 256) (hm : m ≤ 256) (hv1 : val xs < 10 ^ 300) (hv2 : val ys < 10 ^ 300) (hx1 : -1000 ≤ e1 ∧ e1 ≤ 1000) (hx2 : -1000 ≤ e2 ∧ e2 ≤ 1000) :
    Calls Tryz.prog 67 #[dv na A n c e1, dv nb B m d e2] w fun e w' => ∃ s, e = .returned (rv (na != nb) none 0 0 (e1 + e2) s) ∧ IsDec (val xs * val ys) s ∧ s.size ≤ 2731 ∧ Below w.heap.size w w' := by
  obtain ⟨hxa, hxb⟩ := hx1
  obtain ⟨hya, hyb⟩ := hx2
  have HB := Lib.hid (mul_bp hv1 hv2)
  clear hv1 hv2
  have hne : ∀ x y : Bool, (x != y) = (x ^^ y) := by decide
  unfold dv rv
  go_enter Tryz.func67, Tryz.ntmps67
  go_wp2_with fail
  obtain ⟨m0, m1, m2, hW, hsz⟩ := three_new w (.cells #[.bool na, .slice A n c, .int .i64 e1] 24) (.cells #[.bool nb, .slice B m d, .int .i64 e2] 24) (.cells #[.bool false, .slice none 0 0, .int .i64 0, .string ⟨#[]⟩] 83)
  generalize (((w.alloc (.cells #[.bool na, .slice A n c, .int .i64 e1] 24)).alloc (.cells #[.bool nb, .slice B m d, .int .i64 e2] 24)).alloc (.cells #[.bool false, .slice none 0 0, .int .i64 0, .string ⟨#[]⟩] 83)) = W at m0 m1 m2 hW hsz ⊢
  have hSW : ∀ b, S b → b < W.heap.size := fun b h => by have := hS b h; omega
  refine (MulL_c W (ha1.below hW hS) (ha2.below hW hS) hSW hSW hc1 hc2 hn hm HB.out).mono ?_
  rintro e w1 ⟨A1, n1, c1, rfl, hr1, hb1⟩
  have hw1 := hW.trans (hb1.mono (by omega))
  have q0 := held hb1 (by omega) m0
  have q1 := held hb1 (by omega) m1
  have q2 := held hb1 (by omega) m2
  obtain ⟨p0, p1, p2⟩ := box3_of q0
  obtain ⟨p3, p4, p5⟩ := box3_of q1
  have hl1 := hr1.len
  have hl2 := lim_len HB.out
  clear m0 m1 m2 q0 q1
  go_wp2_with fail
  refine (roughly_c (c := c1) _ _ w1 hr1.rd (fun b h => h.2) (lim_can _) (by omega)).mono ?_
  rintro e w2 ⟨s, rfl, hs, hs2, hb2⟩
  rw [lim_val] at hs
  have hw2 := hw1.trans (hb2.mono hw1.size)
  have m2 := held hb2 (by have := hb1.size; omega) q2
  have hy0 : w2.cell? ⟨w.heap.size + 1 + 1, 0, none⟩ = some (.bool false) := cell_of m2 rfl
  have hy1 : w2.cell? ⟨w.heap.size + 1 + 1, 1, none⟩ = some (.slice none 0 0) := cell_of m2 rfl
  have hy2 : w2.cell? ⟨w.heap.size + 1 + 1, 2, none⟩ = some (.int .i64 0) := cell_of m2 rfl
  have hy3 : w2.cell? ⟨w.heap.size + 1 + 1, 3, none⟩ = some (.string ⟨#[]⟩) := cell_of m2 rfl
  have hf0 := frozen_of 0 m2
  have hf1 := frozen_of 1 m2
  have hf2 := frozen_of 2 m2
  have hf3 := frozen_of 3 m2
  have HS := Lib.hid hs
  clear hs q2 m2 p0 p1 p2 p3 p4 p5 hne
  dsimp only [rv]
  go_wp2
  refine bodyPost_ret (v := .agg #[.bool (na != nb), .slice none 0 0, .int .i64 (e1 + e2), .string s]) (by simp [results, Tryz.results67, go_sem, hy0, hy1, hy2, hy3]; cases na <;> cases nb <;> rfl) rfl ?_
  exact ⟨s, rfl, HS.out, hs2, (((hw2.setCell (p := ⟨w.heap.size + 1 + 1, 0, none⟩) (by simp; omega) _).setCell (p := ⟨w.heap.size + 1 + 1, 1, none⟩) (by simp; omega) _).setCell (p := ⟨w.heap.size + 1 + 1, 2, none⟩) (by simp; omega) _).setCell (p := ⟨w.heap.size + 1 + 1, 3, none⟩) (by simp; omega) _⟩

set_option maxRecDepth 100000 in
theorem mulf_c {S : Nat → Prop} {n m c d pa pb : Nat} {A B : Option Addr} {xs ys : List Nat} (na nb : Bool) (e1 e2 : Int) (w : World)
    (ma : w.heap[pa]? = some (.cells #[.bool na, .slice A n c, .int .i64 e1] 24)) (mb : w.heap[pb]? = some (.cells #[.bool nb, .slice B m d, .int .i64 e2] 24))
    (ha1 : Rd w S A n xs) (ha2 : Rd w S B m ys) (hS : ∀ b, S b → b < w.heap.size) (hc1 : Can xs) (hc2 : Can ys) (hn : n ≤ 256) (hm : m ≤ 256) (hv1 : val xs < 10 ^ 300) (hv2 : val ys < 10 ^ 300) (hx1 : -1000 ≤ e1 ∧ e1 ≤ 1000) (hx2 : -1000 ≤ e2 ∧ e2 ≤ 1000) :
    Calls Tryz.prog 66 #[.pointer (some ⟨pa, 0, none⟩), .pointer (some ⟨pb, 0, none⟩)] w fun e w' => ∃ s, e = .returned (rv (na != nb) none 0 0 (e1 + e2) s) ∧ IsDec (val xs * val ys) s ∧ s.size ≤ 2731 ∧ Below w.heap.size w w' := by
  have hb0 : ∀ o, Below w.heap.size w (w.alloc o) := fun o => (Below.refl _ _).alloc (Nat.le_refl _) _
  have hsa := (Array.getElem?_eq_some_iff.1 ma).1
  have hsb := (Array.getElem?_eq_some_iff.1 mb).1
  have hP := dproduct_c (c := c) (d := d) na nb e1 e2 (w.alloc (.cells #[.bool false, .slice none 0 0, .int .i64 0, .string ⟨#[]⟩] 83)) (ha1.below (hb0 _) hS) (ha2.below (hb0 _) hS) (fun b h => by have := hS b h; simp; omega) hc1 hc2 hn hm hv1 hv2 hx1 hx2
  unfold dv at hP
  have HP := Lib.hid hP
  have p0 : w.cell? ⟨pa, 0, none⟩ = some (.bool na) := cell_of ma rfl
  have p1 : w.cell? ⟨pa, 1, none⟩ = some (.slice A n c) := cell_of ma rfl
  have p2 : w.cell? ⟨pa, 2, none⟩ = some (.int .i64 e1) := cell_of ma rfl
  have p3 : w.cell? ⟨pb, 0, none⟩ = some (.bool nb) := cell_of mb rfl
  have p4 : w.cell? ⟨pb, 1, none⟩ = some (.slice B m d) := cell_of mb rfl
  have p5 : w.cell? ⟨pb, 2, none⟩ = some (.int .i64 e2) := cell_of mb rfl
  clear hP ma mb hv1 hv2
  unfold rv
  go_enter Tryz.func66, Tryz.ntmps66
  go_wp2_with fail
  refine HP.out.mono ?_
  rintro e w1 ⟨s, rfl, hs, hs2, hb1⟩
  have m1 := held hb1 (by simp) (World.alloc_heap_new w _)
  have hy0 : w1.cell? ⟨w.heap.size, 0, none⟩ = some (.bool false) := cell_of m1 rfl
  have hy1 : w1.cell? ⟨w.heap.size, 1, none⟩ = some (.slice none 0 0) := cell_of m1 rfl
  have hy2 : w1.cell? ⟨w.heap.size, 2, none⟩ = some (.int .i64 0) := cell_of m1 rfl
  have hy3 : w1.cell? ⟨w.heap.size, 3, none⟩ = some (.string ⟨#[]⟩) := cell_of m1 rfl
  have hf0 := frozen_of 0 m1
  have hf1 := frozen_of 1 m1
  have hf2 := frozen_of 2 m1
  have hf3 := frozen_of 3 m1
  have HS := Lib.hid hs
  clear m1 hs p0 p1 p2 p3 p4 p5
  dsimp only [rv]
  go_wp2
  refine bodyPost_ret (v := .agg #[.bool (na != nb), .slice none 0 0, .int .i64 (e1 + e2), .string s]) (by simp [results, Tryz.results66, go_sem, hy0, hy1, hy2, hy3]) rfl ?_
  refine ⟨s, rfl, HS.out, hs2, ?_⟩
  exact (((((hb0 _).trans (hb1.mono (by simp))).setCell (p := ⟨w.heap.size, 0, none⟩) (Nat.le_refl _) _).setCell (p := ⟨w.heap.size, 1, none⟩) (Nat.le_refl _) _).setCell (p := ⟨w.heap.size, 2, none⟩) (Nat.le_refl _) _).setCell (p := ⟨w.heap.size, 3, none⟩) (Nat.le_refl _) _

set_option maxRecDepth 100000 in
set_option maxHeartbeats 1000000 in
theorem workMul_c {S : Nat → Prop} {n m c d pa pb b : Nat} {A B : Option Addr} {xs ys : List Nat} (na nb : Bool) (e1 e2 lo : Int) (w : World)
    (hb : w.heap[b]? = some (.cells #[.bool na, .slice A n c, .int .i64 e1, .bool nb, .slice B m d, .int .i64 e2] 24))
    (ha1 : Rd w S A n xs) (ha2 : Rd w S B m ys) (hS : ∀ b, S b → b < w.heap.size) (hn : n ≤ 9223372036854775807) (hm : m ≤ 9223372036854775807)
    (hlo : okB na xs e1 = true → okB nb ys e2 = true → -100000 ≤ lo ∧ lo ≤ 100000) (Z : Nat) (sg : Bool)
    (hf : okB na xs e1 = true → okB nb ys e2 = true → ∀ W, Below w.heap.size w W → Calls Tryz.prog 66 #[.pointer (some ⟨pa, 0, none⟩), .pointer (some ⟨pb, 0, none⟩)] W fun e w' => ∃ s, e = .returned (rv sg none 0 0 lo s) ∧ IsDec Z s ∧ s.size ≤ 2731 ∧ Below W.heap.size W w') :
    Calls Tryz.prog 57 #[.func (.func 66) #[] #[.pointer (some ⟨pa, 0, none⟩), .pointer (some ⟨pb, 0, none⟩)], .slice (some ⟨b, 0, none⟩) 2 2] w fun e w' =>
      (okE2 na xs e1 nb ys e2 ≠ 0 → e = .returned (.tuple #[dv false none 0 0 0, .int .i64 (okE2 na xs e1 nb ys e2 : Int)])) ∧
      (okE2 na xs e1 nb ys e2 = 0 → ∃ A' n' c', e = .returned (.tuple #[dv (stN sg Z lo) A' n' c' (stX Z lo), .int .i64 (stE Z lo : Int)]) ∧ Res w' w.heap.size A' n' c' (stZ Z lo)) ∧ Below w.heap.size w w' := by
  have hb0 : ∀ o, Below w.heap.size w (w.alloc o) := fun o => (Below.refl _ _).alloc (Nat.le_refl _) _
  have hsc := (Array.getElem?_eq_some_iff.1 hb).1
  have HB := Lib.hid hb
  have HF := Lib.hid hf
  have HLO := Lib.hid hlo
  clear hb hf hlo
  go_enter Tryz.func57, Tryz.ntmps57
  go_wp2_with fail
  refine (checkAll_c (c := c) (d := d) na nb e1 e2 _ (held (hb0 _) hsc HB.out) (ha1.below (hb0 _) hS) (ha2.below (hb0 _) hS) (fun b h => by have := hS b h; simp; omega) hn hm).mono ?_
  rintro e w1 ⟨rfl, hb1⟩
  have hw1 : Below w.heap.size w w1 := (hb0 _).trans (hb1.mono (by simp))
  have m1 := held hb1 (by simp) (World.alloc_heap_new w _)
  by_cases h0 : okE2 na xs e1 nb ys e2 = 0
  · have H0 := Lib.hid h0
    rw [h0]
    have hk1 : okB na xs e1 = true := by
      unfold okE2 at h0
      by_cases h : okB na xs e1 = true
      · exact h
      · rw [if_neg h] at h0; omega
    have hk2 : okB nb ys e2 = true := by
      unfold okE2 okE at h0
      rw [if_pos hk1] at h0
      by_cases h : okB nb ys e2 = true
      · exact h
      · rw [if_neg h] at h0; omega
    have HF2 := Lib.hid (HF.out hk1 hk2)
    have HLO2 := Lib.hid (HLO.out hk1 hk2)
    clear h0 hk1 hk2
    go_wp2_with fail
    refine (HF2.out w1 hw1).mono ?_
    rintro e w2 ⟨s, rfl, hs, hs2, hb2⟩
    obtain ⟨d1, d2⟩ := isDec_dig hs
    have m2 := held hb2 (by have := hb1.size; simp at this; omega) m1
    have D1 := Lib.hid d1
    have D2 := Lib.hid d2
    have hw2 : Below w.heap.size w w2 := hw1.trans (hb2.mono hw1.size)
    clear m1 d1 d2 hs
    go_wp2_with fail
    have hS3 := settle_c sg none 0 0 lo s w2 (by omega) D1.out (by have := HLO2.out; omega)
    rw [D2.out] at hS3
    refine hS3.mono ?_
    rintro e w3 ⟨A', n', c', rfl, hr3, hb3⟩
    have m3 := held hb3 (by have := hw2.size; have := (Array.getElem?_eq_some_iff.1 m2).1; omega) m2
    have hy0 : w3.cell? ⟨w.heap.size, 0, none⟩ = some (.bool false) := cell_of m3 rfl
    have hy1 : w3.cell? ⟨w.heap.size, 1, none⟩ = some (.slice none 0 0) := cell_of m3 rfl
    have hy2 : w3.cell? ⟨w.heap.size, 2, none⟩ = some (.int .i64 0) := cell_of m3 rfl
    have hf0 := frozen_of 0 m3
    have hf1 := frozen_of 1 m3
    have hf2 := frozen_of 2 m3
    have hlt : w.heap.size < w2.heap.size := (Array.getElem?_eq_some_iff.1 m2).1
    clear hS3 m2 m3
    dsimp only [dv]
    go_wp2
    refine bodyPost_ret (v := .tuple #[.agg #[.bool (stN sg Z lo), .slice A' n' c', .int .i64 (stX Z lo)], .int .i64 (stE Z lo : Int)]) (by simp [results, Tryz.results57, go_sem, hy0, hy1, hy2]) rfl ?_
    refine ⟨fun h => absurd H0.out h, fun _ => ⟨A', n', c', rfl, ?_⟩, ?_⟩
    · exact (((hr3.setOther hlt _).setOther hlt _).setOther hlt _).more hw2.size
    · exact (((hw2.trans (hb3.mono hw2.size)).setCell (p := ⟨w.heap.size, 0, none⟩) (Nat.le_refl _) _).setCell (p := ⟨w.heap.size, 1, none⟩) (Nat.le_refl _) _).setCell (p := ⟨w.heap.size, 2, none⟩) (Nat.le_refl _) _
  · have hbe : (((okE2 na xs e1 nb ys e2 : Nat) : Int) != 0) = true := by rw [bne_iff_ne]; omega
    have hy0 : w1.cell? ⟨w.heap.size, 0, none⟩ = some (.bool false) := cell_of m1 rfl
    have hy1 : w1.cell? ⟨w.heap.size, 1, none⟩ = some (.slice none 0 0) := cell_of m1 rfl
    have hy2 : w1.cell? ⟨w.heap.size, 2, none⟩ = some (.int .i64 0) := cell_of m1 rfl
    have hf0 := frozen_of 0 m1
    have hf1 := frozen_of 1 m1
    have hf2 := frozen_of 2 m1
    have H0 := Lib.hid h0
    clear h0 m1
    go_wp2
    refine bodyPost_ret (v := .tuple #[.agg #[.bool false, .slice none 0 0, .int .i64 0], .int .i64 (okE2 na xs e1 nb ys e2 : Int)]) (by simp [results, Tryz.results57, go_sem, hy0, hy1, hy2]) rfl ?_
    refine ⟨fun _ => rfl, fun h => absurd h H0.out, ?_⟩
    exact ((hw1.setCell (p := ⟨w.heap.size, 0, none⟩) (Nat.le_refl _) _).setCell (p := ⟨w.heap.size, 1, none⟩) (Nat.le_refl _) _).setCell (p := ⟨w.heap.size, 2, none⟩) (Nat.le_refl _) _

set_option maxRecDepth 100000 in
set_option maxHeartbeats 1000000 in
theorem DMul_w {S : Nat → Prop} {n m c d : Nat} {A B : Option Addr} {xs ys : List Nat} (na nb : Bool) (e1 e2 lo : Int) (w : World)
    (ha1 : Rd w S A n xs) (ha2 : Rd w S B m ys) (hS : ∀ b, S b → b < w.heap.size) (hn : n ≤ 9223372036854775807) (hm : m ≤ 9223372036854775807)
    (hlo : okB na xs e1 = true → okB nb ys e2 = true → -100000 ≤ lo ∧ lo ≤ 100000) (Z : Nat) (sg : Bool)
    (hf : okB na xs e1 = true → okB nb ys e2 = true → ∀ W, Below w.heap.size w W → W.heap[w.heap.size]? = some (.cells #[.bool na, .slice A n c, .int .i64 e1] 24) → W.heap[w.heap.size + 1]? = some (.cells #[.bool nb, .slice B m d, .int .i64 e2] 24) →
      Calls Tryz.prog 66 #[.pointer (some ⟨w.heap.size, 0, none⟩), .pointer (some ⟨w.heap.size + 1, 0, none⟩)] W fun e w' => ∃ s, e = .returned (rv sg none 0 0 lo s) ∧ IsDec Z s ∧ s.size ≤ 2731 ∧ Below W.heap.size W w') :
    Calls Tryz.prog 19 #[dv na A n c e1, dv nb B m d e2] w fun e w' =>
      (okE2 na xs e1 nb ys e2 ≠ 0 → e = .returned (.tuple #[dv false none 0 0 0, .int .i64 (okE2 na xs e1 nb ys e2 : Int)])) ∧
      (okE2 na xs e1 nb ys e2 = 0 → ∃ A' n' c', e = .returned (.tuple #[dv (stN sg Z lo) A' n' c' (stX Z lo), .int .i64 (stE Z lo : Int)]) ∧ Res w' w.heap.size A' n' c' (stZ Z lo)) ∧ Below w.heap.size w w' := by
  have HF := Lib.hid hf
  have HLO := Lib.hid hlo
  clear hf hlo
  have hb0 : ∀ o1 o2 o3 o4, Below w.heap.size w ((((w.alloc o1).alloc o2).alloc o3).alloc o4) := fun o1 o2 o3 o4 => ((((Below.refl _ w).alloc (Nat.le_refl _) o1).alloc (by simp) o2).alloc (by simp; omega) o3).alloc (by simp; omega) o4
  have hmf : ∀ (fn : Fn) (first cap : Array Value) (w : World), (Instr.makeFunc fn first cap).run Tryz.prog w = .ok (.func fn first cap) w := fun _ _ _ _ => rfl
  unfold dv
  go_enter Tryz.func19, Tryz.ntmps19
  go_wp2_with fail
  obtain ⟨m0, m1, m2, m3⟩ := four_new w (.cells #[.bool na, .slice A n c, .int .i64 e1] 24) (.cells #[.bool nb, .slice B m d, .int .i64 e2] 24) (.cells #[.bool false, .slice none 0 0, .int .i64 0] 24) (.cells #[.bool na, .slice A n c, .int .i64 e1, .bool nb, .slice B m d, .int .i64 e2] 24)
  have hW := hb0 (.cells #[.bool na, .slice A n c, .int .i64 e1] 24) (.cells #[.bool nb, .slice B m d, .int .i64 e2] 24) (.cells #[.bool false, .slice none 0 0, .int .i64 0] 24) (.cells #[.bool na, .slice A n c, .int .i64 e1, .bool nb, .slice B m d, .int .i64 e2] 24)
  have hsz : ((((w.alloc (.cells #[.bool na, .slice A n c, .int .i64 e1] 24)).alloc (.cells #[.bool nb, .slice B m d, .int .i64 e2] 24)).alloc (.cells #[.bool false, .slice none 0 0, .int .i64 0] 24)).alloc (.cells #[.bool na, .slice A n c, .int .i64 e1, .bool nb, .slice B m d, .int .i64 e2] 24)).heap.size = w.heap.size + 4 := by simp
  generalize ((((w.alloc (.cells #[.bool na, .slice A n c, .int .i64 e1] 24)).alloc (.cells #[.bool nb, .slice B m d, .int .i64 e2] 24)).alloc (.cells #[.bool false, .slice none 0 0, .int .i64 0] 24)).alloc (.cells #[.bool na, .slice A n c, .int .i64 e1, .bool nb, .slice B m d, .int .i64 e2] 24)) = W at m0 m1 m2 m3 hW hsz ⊢
  have hSW : ∀ b, S b → b < W.heap.size := fun b h => by have := hS b h; omega
  refine (workMul_c na nb e1 e2 lo W m3 (ha1.below hW hS) (ha2.below hW hS) hSW hn hm HLO.out Z sg (fun k1 k2 W2 h2 => HF.out k1 k2 W2 (hW.trans (h2.mono (by omega))) (held h2 (by omega) m0) (held h2 (by omega) m1))).mono ?_
  rintro e w1 ⟨hbad, hgood, hb1⟩
  have hw1 : Below w.heap.size w w1 := hW.trans (hb1.mono (by omega))
  have m4 := held hb1 (by omega) m2
  have hy0 : w1.cell? ⟨w.heap.size + 1 + 1, 0, none⟩ = some (.bool false) := cell_of m4 rfl
  have hy1 : w1.cell? ⟨w.heap.size + 1 + 1, 1, none⟩ = some (.slice none 0 0) := cell_of m4 rfl
  have hy2 : w1.cell? ⟨w.heap.size + 1 + 1, 2, none⟩ = some (.int .i64 0) := cell_of m4 rfl
  have hf0 := frozen_of 0 m4
  have hf1 := frozen_of 1 m4
  have hf2 := frozen_of 2 m4
  clear m0 m1 m2 m3 m4 hb0 hmf
  by_cases h0 : okE2 na xs e1 nb ys e2 = 0
  · obtain ⟨A', n', c', rfl, hr⟩ := hgood h0
    have H0 := Lib.hid h0
    clear hbad hgood h0
    dsimp only [dv]
    go_wp2
    refine bodyPost_ret (v := .tuple #[.agg #[.bool (stN sg Z lo), .slice A' n' c', .int .i64 (stX Z lo)], .int .i64 (stE Z lo : Int)]) (by simp [results, Tryz.results19, go_sem, hy0, hy1, hy2]) rfl ?_
    refine ⟨fun h => absurd H0.out h, fun _ => ⟨A', n', c', rfl, ?_⟩, ?_⟩
    · exact (((hr.setOther (by simp; omega) _).setOther (by simp; omega) _).setOther (by simp; omega) _).more (by omega)
    · exact ((hw1.setCell (p := ⟨w.heap.size + 1 + 1, 0, none⟩) (by simp; omega) _).setCell (p := ⟨w.heap.size + 1 + 1, 1, none⟩) (by simp; omega) _).setCell (p := ⟨w.heap.size + 1 + 1, 2, none⟩) (by simp; omega) _
  · obtain rfl := hbad h0
    have H0 := Lib.hid h0
    clear hbad hgood h0
    dsimp only [dv]
    go_wp2
    refine bodyPost_ret (v := .tuple #[.agg #[.bool false, .slice none 0 0, .int .i64 0], .int .i64 (okE2 na xs e1 nb ys e2 : Int)]) (by simp [results, Tryz.results19, go_sem, hy0, hy1, hy2]) rfl ?_
    refine ⟨fun _ => rfl, fun h => absurd h H0.out, ?_⟩
    exact ((hw1.setCell (p := ⟨w.heap.size + 1 + 1, 0, none⟩) (by simp; omega) _).setCell (p := ⟨w.heap.size + 1 + 1, 1, none⟩) (by simp; omega) _).setCell (p := ⟨w.heap.size + 1 + 1, 2, none⟩) (by simp; omega) _
end Go.Proofs.YtklpfgjnlheikaaGreatDoor
