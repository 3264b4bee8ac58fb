/-
  Contracts of pieces and of what it hands back: what stands instead of each so many octets of a text.
-/
import Derived.Test.YtnfeifafocemaaaDoorCFjo
import Derived.Test.YtnfeifafocemaaaDoorCFhi
set_option linter.unusedVariables false
set_option linter.unusedSimpArgs false
namespace Go.Proofs.YtnfeifafocemaaaDoor
open Go.RowKit Go.Lib
attribute [local go_sem] Oper.semAt_some

/-- What a function tells instead of each of some pieces, in any world that keeps what it reads. -/
def InsF (fn : Nat) (fst caps : Array Value) (K : Nat → Prop) (cs : List (List UInt8)) (f : List UInt8 → List UInt8) (W : World) : Prop :=
  ∀ W', (∀ i, K i → W'.heap[i]? = W.heap[i]?) → ∀ c ∈ cs, Calls Tryd.prog fn (fst.push (.string (mk8 c)) ++ caps) W' fun e w' => e = .returned (.string (mk8 (f c))) ∧ Below W'.heap.size W' w'
theorem InsF.keep {fn : Nat} {fst caps : Array Value} {K : Nat → Prop} {cs : List (List UInt8)} {f : List UInt8 → List UInt8} {W W' : World} (h : InsF fn fst caps K cs f W) (hk : ∀ i, K i → W'.heap[i]? = W.heap[i]?) : InsF fn fst caps K cs f W' :=
  fun W2 h2 => h W2 fun i hi => (h2 i hi).trans (hk i hi)
set_option maxRecDepth 100000 in
theorem pieces_c (s : ByteArray) (z : Int) (fn : Nat) (fst caps : Array Value) (w : World) :
    Calls Tryd.prog 19 #[.string s, .int .i64 z, .func (.func fn) fst caps] w fun e w' => e = .returned (.func (.func 36) #[] #[.pointer (some ⟨w.heap.size, 0, none⟩), .pointer (some ⟨w.heap.size + 1, 0, none⟩), .pointer (some ⟨w.heap.size + 2, 0, none⟩)]) ∧
      w' = ((w.alloc (.cells #[.string s] 9)).alloc (.cells #[.int .i64 z] 3)).alloc (.cells #[.func (.func fn) fst caps] 29) := by
  have hmf : ∀ (fn : Fn) (first cap : Array Value) (w : World), (Instr.makeFunc fn first cap).run Tryd.prog w = .ok (.func fn first cap) w := fun _ _ _ _ => rfl
  go_enter Tryd.func19, Tryd.ntmps19
  go_wp2
  go_ret
  exact ⟨rfl, rfl⟩
theorem chkF_split {k : Nat} {L : List UInt8} {i : Nat} (h : i < (L.length + k - 1) / k) : ∃ rest, chkF k L = (chkF k L).take i ++ (L.drop (i * k)).take k :: rest := by
  refine ⟨(chkF k L).drop (i + 1), ?_⟩
  have hl : i < (chkF k L).length := by unfold chkF; rw [List.length_map, List.length_range]; exact h
  have h1 := List.take_append_drop i (chkF k L)
  rw [List.drop_eq_getElem_cons hl] at h1
  have h2 : (chkF k L)[i] = (L.drop (i * k)).take k := by simp [chkF]
  rw [h2] at h1
  exact h1.symm
theorem take_succF {k : Nat} {L c : List UInt8} {i : Nat} {rest : List (List UInt8)} (h : chkF k L = (chkF k L).take i ++ c :: rest) (hi : i < (L.length + k - 1) / k) : (chkF k L).take (i + 1) = (chkF k L).take i ++ [c] := by
  have hl : i < (chkF k L).length := by unfold chkF; rw [List.length_map, List.length_range]; exact hi
  have hlen : ((chkF k L).take i).length = i := by rw [List.length_take]; omega
  obtain ⟨T, hT⟩ : ∃ T, (chkF k L).take i = T := ⟨_, rfl⟩
  rw [hT] at h hlen ⊢
  rw [h, List.take_append, hlen, List.take_of_length_le (by omega), show i + 1 - i = 1 by omega]
  rfl
theorem mulF_lt {k n i : Nat} (hk : 0 < k) (h : i < (n + k - 1) / k) : i * k < n := by
  have h3 : (i + 1) * k ≤ n + k - 1 := Nat.le_trans (Nat.mul_le_mul_right k h) (Nat.div_mul_le_self _ _)
  rw [Nat.succ_mul] at h3; omega
theorem yieldF {e : Ending} {A B C : Prop} (h : (e = .returned (.bool true) ∧ A ∧ C) ∨ (e = .returned (.bool false) ∧ B ∧ C)) : ∃ r : Bool, e = .returned (.bool r) ∧ C ∧ ((r = true ∧ A) ∨ (r = false ∧ B)) := by
  rcases h with ⟨h1, h2, h3⟩ | ⟨h1, h2, h3⟩
  · exact ⟨true, h1, h3, .inl ⟨rfl, h2⟩⟩
  · exact ⟨false, h1, h3, .inr ⟨rfl, h2⟩⟩
set_option maxRecDepth 100000 in
set_option maxHeartbeats 2000000 in
theorem pieces1_iter {b1 b2 b3 fn k : Nat} {fst caps : Array Value} {K0 : Nat → Prop} {f : List UInt8 → List UInt8} (s : ByteArray) (W : World) (h1 : W.cell? ⟨b1, 0, none⟩ = some (.string s)) (h2 : W.cell? ⟨b2, 0, none⟩ = some (.int .i64 (k : Int))) (h3 : W.cell? ⟨b3, 0, none⟩ = some (.func (.func fn) fst caps))
    (hk : 0 < k) (hk9 : k ≤ 9) (hs : s.size ≤ 140737488355328) (eg : ∀ args w, (callFunc fn args).run Tryd.prog w = .ok (.enter fn args) w) (hK0 : ∀ i, K0 i → i < W.heap.size) (hin : InsF fn fst caps K0 (chkF k s.data.toList) f W) :
    IterK Tryd.prog 36 #[.pointer (some ⟨b1, 0, none⟩), .pointer (some ⟨b2, 0, none⟩), .pointer (some ⟨b3, 0, none⟩)] encT (fun i => i = b1 ∨ i = b2 ∨ i = b3 ∨ K0 i) (fun R => ∀ k, ¬ R k) ((chkF k s.data.toList).map f) W := by
  intro l J Jx hJ hJx h0 hY
  refine callsIn_of_wp Tryd.func36 rfl trivial ?_ rfl
  simp only [Tryd.ntmps36, List.size_toArray, List.length_cons, List.length_nil, Nat.reduceAdd, Nat.reduceSub, Array.replicate_succ, Array.replicate_zero, List.push_toArray, List.append_toArray, List.nil_append, List.cons_append]
  obtain ⟨L, hL⟩ : ∃ L, L = s.data.toList := ⟨_, rfl⟩
  have hsz : s.size = L.length := by rw [hL, Array.length_toList]; rfl
  rw [← hL] at hY ⊢
  obtain ⟨N, hN⟩ : ∃ N, (L.length + k - 1) / k = N := ⟨_, rfl⟩
  have hkz : ((k : Int) == 0) = false := by rw [beq_eq_false_iff_ne]; omega
  have hw1 : IntKind.i64.wrap ((L.length : Int) + (k : Int)) = (L.length : Int) + (k : Int) := IntWalk.i64_in _ (by omega)
  have hw2 : IntKind.i64.wrap ((L.length : Int) + (k : Int) - 1) = (L.length : Int) + (k : Int) - 1 := IntWalk.i64_in _ (by omega)
  have hdiv : ((L.length : Int) + (k : Int) - 1) / (k : Int) = (N : Int) := by
    rw [← hN, show (L.length : Int) + (k : Int) - 1 = ((L.length + k - 1 : Nat) : Int) by omega]
    rfl
  have hNle : N ≤ L.length + k := by rw [← hN]; exact Nat.le_trans (Nat.div_le_self _ _) (by omega)
  have hw3 : IntKind.i64.wrap (N : Int) = (N : Int) := IntWalk.i64_in _ (by omega)
  have HY := Lib.hid hY
  have HJ := Lib.hid hJ
  have HJX := Lib.hid hJx
  have H0 := Lib.hid h0
  have HL := Lib.hid hL
  have HN := Lib.hid hN
  have HIN := Lib.hid hin
  have HK := Lib.hid hK0
  clear hY hJ h0 hJx hL hN hin hK0
  gi_upto_region 1 with fail
  gi_loopw [5, 6, 14] (fun _ _ iv wr => ∃ i : Nat, i ≤ N ∧ iv = .int .i64 (i : Int) ∧ J (fun _ => False) (((chkF k L).take i).map f) wr ∧ KeptS (fun i => i = b1 ∨ i = b2 ∨ i = b3 ∨ K0 i) (fun _ => False) W wr) (fun _ _ iv _ => N - (RowKit.intOf iv).toNat)
  case atStart => exact ⟨0, Nat.zero_le _, rfl, H0.out (fun _ => False) W (fun _ h => h) (Below.refl _ _) (fun k e => e.elim), KeptS.refl _ _ _⟩
  case round =>
    obtain ⟨i, hi, rfl, hJk, hkp⟩ := hrel
    have hc1 : wr.cell? ⟨b1, 0, none⟩ = some (.string s) := (World.cell?_of_block (hkp.block _ (.inl (.inl rfl)))).trans h1
    have hc2 : wr.cell? ⟨b2, 0, none⟩ = some (.int .i64 (k : Int)) := (World.cell?_of_block (hkp.block _ (.inl (.inr (.inl rfl))))).trans h2
    have hc3 : wr.cell? ⟨b3, 0, none⟩ = some (.func (.func fn) fst caps) := (World.cell?_of_block (hkp.block _ (.inl (.inr (.inr (.inl rfl)))))).trans h3
    by_cases hlt : i < N
    · have hltz : (i : Int) < (N : Int) := by omega
      have hik : i * k < L.length := mulF_lt hk (by rw [HN.out]; exact hlt)
      obtain ⟨m, hm⟩ : ∃ m, i * k = m := ⟨_, rfl⟩
      have hmz : (i : Int) * (k : Int) = (m : Int) := by rw [← hm]; simp
      rw [hm] at hik
      obtain ⟨t, ht⟩ : ∃ t, min (m + k) L.length = t := ⟨_, rfl⟩
      have hmn : min ((m : Int) + (k : Int)) (L.length : Int) = (t : Int) := by omega
      have hmw : IntKind.i64.wrap (m : Int) = (m : Int) := IntWalk.i64_in _ (by omega)
      have htw : IntKind.i64.wrap ((m : Int) + (k : Int)) = (m : Int) + (k : Int) := IntWalk.i64_in _ (by omega)
      have hmt : (m : Int) ≤ (t : Int) := by omega
      have hts : (t : Int) ≤ (L.length : Int) := by omega
      have hiw : IntKind.i64.wrap ((i : Int) + 1) = (i : Int) + 1 := IntWalk.i64_in _ (by omega)
      obtain ⟨c, hc⟩ : ∃ c, (L.drop m).take k = c := ⟨_, rfl⟩
      have hcl : c.length = t - m := by rw [← hc, List.length_take, List.length_drop]; omega
      have hext : s.extract m t = mk8 c := by
        rw [← mk8_of (s := s.extract m t)]
        refine congrArg mk8 ?_
        rw [ByteArray.data_extract, Array.toList_extract, ← HL.out, ← hc]
        show (L.drop m).take (t - m) = _
        have : t - m = min k (L.length - m) := by omega
        rw [this, ← List.length_drop, ← List.take_eq_take_min]
      obtain ⟨rest, hsp⟩ := chkF_split (k := k) (L := L) (i := i) (by rw [HN.out]; exact hlt)
      rw [hm, hc] at hsp
      have hin := (HIN.out.keep (W' := wr) (fun j hj => hkp.block j (.inl (.inr (.inr (.inr hj)))))) wr.drew (fun _ _ => rfl) c (by rw [← HL.out, hsp]; simp)
      have HC := Lib.hid hin
      have HSP := Lib.hid hsp
      have HKP := Lib.hid hkp
      have HJK := Lib.hid hJk
      have HM := Lib.hid hm
      have HCC := Lib.hid hc
      clear hin hsp hkp hJk hm hc ht
      gi_wp2
      have hjd := HJ.out (fun _ => False) _ _ wr.drew HJK.out ((Below.refl _ wr).drew)
      have hspm : (chkF k L).map f = ((chkF k L).take i).map f ++ f c :: rest.map f := by
        have := congrArg (List.map f) HSP.out
        rw [List.map_append, List.map_cons] at this
        exact this
      have HJD := Lib.hid hjd
      have HSM := Lib.hid hspm
      clear hjd hspm
      refine region_S (by kernel_rfl) (fun (X : World) => X.cell? ⟨b1, 0, none⟩ = some (.string s) ∧ X.cell? ⟨b2, 0, none⟩ = some (.int .i64 (k : Int)) ∧ X.cell? ⟨b3, 0, none⟩ = some (.func (.func fn) fst caps)) ?_
      have hHeld : (fun (X : World) => X.cell? ⟨b1, 0, none⟩ = some (.string s) ∧ X.cell? ⟨b2, 0, none⟩ = some (.int .i64 (k : Int)) ∧ X.cell? ⟨b3, 0, none⟩ = some (.func (.func fn) fst caps)) wr.drew := ⟨hc1, hc2, hc3⟩
      (try simp only [List.size_toArray, List.length_cons, List.length_nil, Nat.reduceAdd, Array.replicate_succ, Array.replicate_zero, List.push_toArray, List.append_toArray, List.nil_append, List.cons_append])
      refine wpAnyS_take (i := 0) (oi := ⟨_, _, _, _, _, _⟩) (v := ?_) rfl rfl (by kernel_rfl) (by kernel_rfl) (by kernel_rfl) (fun _ _ _ h => h) ⟨by rfl, ?_⟩ (by assumption) ?_
      rotate_left
      · intro w hSw
        (try dsimp only at hSw)
        go_split_ands
        refine ⟨?_, rfl⟩
        go_simp
        try with_reducible rfl
      try simp only [Act.put, List.setIfInBounds_toArray, List.set_cons_zero, List.set_cons_succ]
      refine wpAnyS_take (i := 3) (oi := ⟨_, _, _, _, _, _⟩) (v := ?_) rfl rfl (by kernel_rfl) (by kernel_rfl) (by kernel_rfl) (fun _ _ _ h => h) ⟨by rfl, ?_⟩ (by assumption) ?_
      rotate_left
      · intro w hSw
        (try dsimp only at hSw)
        go_split_ands
        refine ⟨?_, rfl⟩
        go_simp
        try with_reducible rfl
      try simp only [Act.put, List.setIfInBounds_toArray, List.set_cons_zero, List.set_cons_succ]
      refine wpAnyS_take (i := 4) (oi := ⟨_, _, _, _, _, _⟩) (v := ?_) rfl rfl (by kernel_rfl) (by kernel_rfl) (by kernel_rfl) (fun _ _ _ h => h) ⟨by rfl, ?_⟩ (by assumption) ?_
      rotate_left
      · intro w hSw
        (try dsimp only at hSw)
        go_split_ands
        refine ⟨?_, rfl⟩
        go_simp
        try with_reducible rfl
      try simp only [Act.put, List.setIfInBounds_toArray, List.set_cons_zero, List.set_cons_succ]
      refine wpAnyS_take (i := 1) (oi := ⟨_, _, _, _, _, _⟩) (v := ?_) rfl rfl (by kernel_rfl) (by kernel_rfl) (by kernel_rfl) (fun _ _ _ h => h) ⟨by rfl, ?_⟩ (by assumption) ?_
      rotate_left
      · intro w hSw
        (try dsimp only at hSw)
        go_split_ands
        refine ⟨?_, rfl⟩
        go_simp
        try with_reducible rfl
      try simp only [Act.put, List.setIfInBounds_toArray, List.set_cons_zero, List.set_cons_succ]
      refine wpAnyS_take (i := 2) (oi := ⟨_, _, _, _, _, _⟩) (v := ?_) rfl rfl (by kernel_rfl) (by kernel_rfl) (by kernel_rfl) (fun _ _ _ h => h) ⟨by rfl, ?_⟩ (by assumption) ?_
      rotate_left
      · intro w hSw
        (try dsimp only at hSw)
        go_split_ands
        refine ⟨?_, rfl⟩
        go_simp
        try with_reducible rfl
      try simp only [Act.put, List.setIfInBounds_toArray, List.set_cons_zero, List.set_cons_succ]
      refine wpAnyS_take (i := 5) (oi := ⟨_, _, _, _, _, _⟩) (v := ?_) rfl rfl (by kernel_rfl) (by kernel_rfl) (by kernel_rfl) (fun _ _ _ h => h) ⟨by rfl, ?_⟩ (by assumption) ?_
      rotate_left
      · intro w hSw
        (try dsimp only at hSw)
        go_split_ands
        refine ⟨?_, rfl⟩
        go_simp
        try with_reducible rfl
      try simp only [Act.put, List.setIfInBounds_toArray, List.set_cons_zero, List.set_cons_succ]
      refine wpAnyS_take (i := 6) (oi := ⟨_, _, _, _, _, _⟩) (v := ?_) rfl rfl (by kernel_rfl) (by kernel_rfl) (by kernel_rfl) (fun _ _ _ h => h) ⟨by rfl, ?_⟩ (by assumption) ?_
      rotate_left
      · intro w hSw
        (try dsimp only at hSw)
        go_split_ands
        refine ⟨?_, rfl⟩
        go_simp
        try with_reducible rfl
      try simp only [Act.put, List.setIfInBounds_toArray, List.set_cons_zero, List.set_cons_succ]
      refine wpAnyS_take (i := 7) (oi := ⟨_, _, _, _, _, _⟩) (v := ?_) rfl rfl (by kernel_rfl) (by kernel_rfl) (by kernel_rfl) (fun _ _ _ h => h) ⟨by rfl, ?_⟩ (by assumption) ?_
      rotate_left
      · intro w hSw
        (try dsimp only at hSw)
        go_split_ands
        refine ⟨?_, rfl⟩
        go_simp
        try with_reducible rfl
      try simp only [Act.put, List.setIfInBounds_toArray, List.set_cons_zero, List.set_cons_succ]
      refine wpAnyS_take (i := 8) (oi := ⟨_, _, _, _, _, _⟩) (v := ?_) rfl rfl (by kernel_rfl) (by kernel_rfl) (by kernel_rfl) (fun _ _ _ h => h) ⟨by rfl, ?_⟩ (by assumption) ?_
      rotate_left
      · intro w hSw
        (try dsimp only at hSw)
        go_split_ands
        refine ⟨?_, rfl⟩
        go_simp
        try with_reducible rfl
      try simp only [Act.put, List.setIfInBounds_toArray, List.set_cons_zero, List.set_cons_succ]
      refine wpAnyS_take (i := 9) (oi := ⟨_, _, _, _, _, _⟩) (v := ?_) rfl rfl (by kernel_rfl) (by kernel_rfl) (by kernel_rfl) (fun _ _ _ h => h) ⟨by rfl, ?_⟩ (by assumption) ?_
      rotate_left
      · intro w hSw
        (try dsimp only at hSw)
        go_split_ands
        refine ⟨?_, rfl⟩
        go_simp
        try with_reducible rfl
      try simp only [Act.put, List.setIfInBounds_toArray, List.set_cons_zero, List.set_cons_succ]
      refine wpAnyS_take (i := 10) (oi := ⟨_, _, _, _, _, _⟩) (v := ?_) rfl rfl (by kernel_rfl) (by kernel_rfl) (by kernel_rfl) (fun _ _ _ h => h) ⟨by rfl, ?_⟩ (by assumption) ?_
      rotate_left
      · intro w hSw
        (try dsimp only at hSw)
        go_split_ands
        refine ⟨?_, rfl⟩
        go_simp
        try with_reducible rfl
      try simp only [Act.put, List.setIfInBounds_toArray, List.set_cons_zero, List.set_cons_succ]
      refine wpAnyS_one (i := 11) (o := ⟨_, _, _, _, _, _⟩) (by kernel_rfl) rfl (by rfl) (fun K hK => ?_)
      go_simp
      refine ⟨trivial, rfl, ?_⟩
      refine (callsIn_wide.2 HC.out).mono ?_
      rintro e w1 ⟨rfl, hb1⟩
      have hkd : KeptS (fun i => i = b1 ∨ i = b2 ∨ i = b3 ∨ K0 i) (fun _ => False) wr w1 := kept_below (show Below wr.heap.size wr w1 from (Below.refl _ wr).drew.trans hb1) (fun j hj => by
        have hz := HKP.out.size
        rcases hj with (rfl | rfl | rfl | hj) | hj
        · exact cell_lt hc1
        · exact cell_lt hc2
        · exact cell_lt hc3
        · have := HK.out j hj; show j < wr.heap.size; omega
        · exact hj.elim)
      have hh1 : (fun (X : World) => X.cell? ⟨b1, 0, none⟩ = some (.string s) ∧ X.cell? ⟨b2, 0, none⟩ = some (.int .i64 (k : Int)) ∧ X.cell? ⟨b3, 0, none⟩ = some (.func (.func fn) fst caps)) w1 := ⟨(World.cell?_of_block (hkd.block b1 (.inl (.inl rfl)))).trans hc1, (World.cell?_of_block (hkd.block b2 (.inl (.inr (.inl rfl))))).trans hc2, (World.cell?_of_block (hkd.block b3 (.inl (.inr (.inr (.inl rfl)))))).trans hc3⟩
      refine hK _ _ hh1 ?_
      clear hK K
      have hj := HJ.out _ _ _ w1 HJD.out hb1
      obtain ⟨fn', tmps', assign', body', hy, hR⟩ := HY.out _ _ _ (rest.map f) w1 hj HSM.out
      dsimp only [encT] at hy
      have HKD := Lib.hid hkd
      clear hj hb1 hHeld hkd
      refine wpAnyS_one (i := 12) (o := ⟨_, _, _, _, _, _⟩) (by kernel_rfl) rfl (by rfl) (fun K hK => ?_)
      go_simp
      refine ⟨rfl, ?_⟩
      refine hR.mono ?_
      rintro e W' hres
      obtain ⟨r, rfl, hkq, hres⟩ := yieldF hres
      have hh2 : (fun (X : World) => X.cell? ⟨b1, 0, none⟩ = some (.string s) ∧ X.cell? ⟨b2, 0, none⟩ = some (.int .i64 (k : Int)) ∧ X.cell? ⟨b3, 0, none⟩ = some (.func (.func fn) fst caps)) W' := ⟨(World.cell?_of_block (hkq.block b1 (.inl (.inl rfl)))).trans hh1.1, (World.cell?_of_block (hkq.block b2 (.inl (.inr (.inl rfl))))).trans hh1.2.1, (World.cell?_of_block (hkq.block b3 (.inl (.inr (.inr (.inl rfl)))))).trans hh1.2.2⟩
      refine hK _ _ hh2 ?_
      have HRES := Lib.hid hres
      have HKQ := Lib.hid (HKP.out.trans (HKD.out.trans hkq))
      clear hK K hR hy hh1 hres hkq
      refine wpAnyS_take (i := 13) (oi := ⟨_, _, _, _, _, _⟩) (v := ?_) rfl rfl (by kernel_rfl) (by kernel_rfl) (by kernel_rfl) (fun _ _ _ h => h) ⟨by rfl, ?_⟩ (by assumption) ?_
      rotate_left
      · intro w hSw
        (try dsimp only at hSw)
        go_split_ands
        refine ⟨?_, rfl⟩
        go_simp
        try with_reducible rfl
      try simp only [Act.put, List.setIfInBounds_toArray, List.set_cons_zero, List.set_cons_succ]
      refine wpAnyS_done (by kernel_rfl) ?_ _
      cases r
      · gi_wp2
        ((try simp only [Exit.inBlock, Exit.then]); refine bodyPost_ret (results_none rfl _ _ _) rfl ?_)
        rcases HRES.out with ⟨h5, h6⟩ | ⟨h5, h6⟩
        · cases h5
        · exact ⟨⟨_, rfl⟩, _, .inr ⟨_, h6⟩⟩
      · gi_wp2
        rcases HRES.out with ⟨h5, h6⟩ | ⟨h5, h6⟩
        · refine ⟨⟨i + 1, by omega, rfl, ?_, HKQ.out⟩, by simp [RowKit.intOf]; omega⟩
          rw [take_succF HSP.out (by rw [HN.out]; exact hlt), List.map_append]
          exact h6
        · cases h5
    · have hlt2 : ¬ (i : Int) < (N : Int) := by omega
      have hall : (chkF k L).take i = chkF k L := List.take_of_length_le (by unfold chkF; rw [List.length_map, List.length_range, HN.out]; omega)
      rw [hall] at hJk
      have HJK := Lib.hid hJk
      clear hJk hkp
      gi_wp2
      go_end0
      exact ⟨⟨_, rfl⟩, _, .inl HJK.out⟩
end Go.Proofs.YtnfeifafocemaaaDoor
