/-
  Contract of alone: a text in memory of its own, if it is not too long.
-/
import Derived.Test.YtnfeifafocemaaaDoorCFrw
set_option linter.unusedVariables false
set_option linter.unusedSimpArgs false
namespace Go.Proofs.YtnfeifafocemaaaDoor
open Go.RowKit Go.Lib
attribute [local go_sem] Oper.semAt_some

set_option maxRecDepth 100000 in
theorem values_c (A : Option Addr) (n c : Nat) (w : World) :
    Calls Tryd.prog 38 #[.slice A n c] w fun e w' => e = .returned (.func (.func 51) #[] #[.pointer (some ⟨w.heap.size, 0, none⟩)]) ∧ w' = w.alloc (.cells #[.slice A n c] 44) := by
  have hmf : ∀ (fn : Fn) (first cap : Array Value) (w : World), (Instr.makeFunc fn first cap).run Tryd.prog w = .ok (.func fn first cap) w := fun _ _ _ _ => rfl
  go_enter Tryd.func38, Tryd.ntmps38
  go_wp2
  go_ret
  exact ⟨rfl, rfl⟩
set_option maxRecDepth 100000 in
set_option maxHeartbeats 2000000 in
theorem values1_iter {b g : Nat} (t : List UInt8) (W : World) (h1 : W.cell? ⟨b, 0, none⟩ = some (.slice (some ⟨g, 0, none⟩) 1 1)) (h2 : W.cell? ⟨g, 0, none⟩ = some (.string (mk8 t))) :
    IterK Tryd.prog 51 #[.pointer (some ⟨b, 0, none⟩)] encT (fun i => i = b ∨ i = g) (fun R => ∀ k, ¬ R k) [t] W := by
  intro l J Jx hJ hJx h0 hY
  refine callsIn_of_wp Tryd.func51 rfl trivial ?_ rfl
  simp only [Tryd.ntmps51, List.size_toArray, List.length_cons, List.length_nil, Nat.reduceAdd, Nat.reduceSub, Array.replicate_succ, Array.replicate_zero, List.push_toArray, List.append_toArray, List.nil_append, List.cons_append]
  have hj0 := h0 (fun _ => False) W (fun _ h => h) (Below.refl _ _) (fun k e => e.elim)
  obtain ⟨fn', tmps', assign', body', hy, hR⟩ := hY (fun _ => False) [] t [] W hj0 rfl
  dsimp only [encT] at hy
  have HR := Lib.hid hR
  have HX := Lib.hid hJx
  clear hY hJ h0 hR hJx hj0
  gi_upto_region 1 with fail
  gi_loopw [4, 7] (fun _ iv wr => (iv = .int .i64 0 ∧ wr = W) ∨ (iv = .int .i64 1 ∧ J (fun _ => False) [t] wr)) (fun _ iv _ => 1 - (RowKit.intOf iv).toNat)
  case atStart => exact .inl ⟨rfl, rfl⟩
  case round =>
    rcases hrel with ⟨rfl, rfl⟩ | ⟨rfl, hj⟩
    · gi_wp2_with (refine ⟨rfl, ?_⟩; refine HR.out.mono ?_; rintro e W' (⟨rfl, hJ', hk'⟩ | ⟨rfl, hJx', hk'⟩))
      · gi_wp2
        exact ⟨.inr ⟨rfl, hJ'⟩, by simp [RowKit.intOf]⟩
      · gi_wp2
        ((try simp only [Exit.inBlock, Exit.then]); refine bodyPost_ret (results_none rfl _ _ _) rfl ?_)
        exact ⟨⟨_, rfl⟩, _, .inr ⟨_, hJx'⟩⟩
    · have HJ := Lib.hid hj
      clear hj
      gi_wp2
      go_end0
      exact ⟨⟨_, rfl⟩, _, .inl HJ.out⟩
set_option maxRecDepth 100000 in
set_option maxHeartbeats 2000000 in
theorem alone_c (t : List UInt8) (w : World) (ht : t.length ≤ 140737488000000) :
    Calls Tryd.prog 21 #[.string (mk8 t)] w fun e w' => e = .returned (.tuple #[.string (tellF t).1, .int .i64 (tellF t).2]) ∧ Below w.heap.size w w' := by
  obtain ⟨g, hg⟩ : ∃ b, w.heap.size = b := ⟨_, rfl⟩
  obtain ⟨w1, hw1⟩ : ∃ x, w.alloc (.cells #[.string (mk8 t)] 9) = x := ⟨_, rfl⟩
  have g1 : Below g w w1 := by rw [← hw1]; exact (Below.refl _ w).alloc (by omega) _
  have s1 : w1.heap.size = g + 1 := by rw [← hw1, World.size_alloc, hg]
  have n1 : w1.heap[g]? = some (.cells #[.string (mk8 t)] 9) := by rw [← hw1, ← hg]; exact World.alloc_heap_new _ _
  have hv := values_c (some ⟨g, 0, none⟩) 1 1 w1
  rw [s1] at hv
  have hj : ∀ w2, w2 = w1.alloc (.cells #[.slice (some ⟨g, 0, none⟩) 1 1] 44) → Calls Tryd.prog 18 #[.func (.func 51) #[] #[.pointer (some ⟨g + 1, 0, none⟩)]] w2 fun e w' => e = .returned (.tuple #[.string (tellF t).1, .int .i64 (tellF t).2]) ∧ Below g w w' := by
    rintro w2 hw2
    have g2 : Below (g + 1) w1 w2 := by rw [hw2]; exact (Below.refl _ w1).alloc (by omega) _
    have s2 : w2.heap.size = g + 2 := by rw [hw2, World.size_alloc, s1]
    have n2 : w2.heap[g + 1]? = some (.cells #[.slice (some ⟨g, 0, none⟩) 1 1] 44) := by rw [hw2, ← s1]; exact World.alloc_heap_new _ _
    have m1 := (g2.block g (by omega)).trans n1
    have := joined_c (gf := 51) (lb := #[.pointer (some ⟨g + 1, 0, none⟩)]) (keep := fun i => i = g + 1 ∨ i = g) (ts := [t]) w2 (enters_of Tryd.func51 (by kernel_rfl) rfl)
      (fun W hW => values1_iter t W (cell_at3 ((hW.block _ (by omega)).trans n2) rfl) (cell_at3 ((hW.block _ (by omega)).trans m1) rfl)) (fun i hi => by omega) (fun x hx => by simp at hx; subst hx; exact ht)
    rw [show ([t] : List (List UInt8)).flatten = t by simp] at this
    exact this.mono fun e w' ⟨h1, h2⟩ => ⟨h1, (g1.trans (g2.mono (by omega))).trans (h2.mono (by omega))⟩
  obtain ⟨s, hs⟩ : ∃ s, mk8 t = s := ⟨_, rfl⟩
  obtain ⟨R, hR⟩ : ∃ R, tellF t = R := ⟨_, rfl⟩
  rw [hR] at hj ⊢
  rw [hs] at hw1 ⊢
  rw [hg]
  have HJ := Lib.hid hj
  have HV := Lib.hid hv
  have HW := Lib.hid hw1
  clear hj hv hw1 hs hR n1 s1 g1
  go_enter Tryd.func21, Tryd.ntmps21
  go_wp2_with fail
  try rw [hg]
  rw [HW.out]
  refine HV.out.mono ?_
  rintro e w2 ⟨rfl, hw2⟩
  have hj2 := HJ.out w2 hw2
  have HJ2 := Lib.hid hj2
  clear hj2 hw2
  go_wp2_with fail
  refine HJ2.out.mono ?_
  rintro e w3 ⟨rfl, hb3⟩
  have HB3 := Lib.hid hb3
  clear hb3
  go_wp2_with fail
  go_ret2
  exact ⟨rfl, HB3.out⟩
end Go.Proofs.YtnfeifafocemaaaDoor
