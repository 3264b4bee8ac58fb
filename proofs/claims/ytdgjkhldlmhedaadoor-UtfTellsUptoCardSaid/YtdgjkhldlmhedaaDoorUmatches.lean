/-
  Contract of utf.matches: the iterator that it hands back hands out where one text's octets stand in another's.
-/
import Derived.Test.YtdgjkhldlmhedaaDoorUfolloww
set_option linter.unusedVariables false
set_option linter.unusedSimpArgs false
namespace Go.Proofs.YtdgjkhldlmhedaaDoor
open Go.RowKit Go.Lib
attribute [local go_sem] Oper.semAt_some

/-- Where T ends among the first k octets of S, told by where it begins. -/
def occK (S T : List UInt8) (k : Nat) : List Nat := ((List.range k).filter fun i => T.isSuffixOf (S.take (i + 1))).map fun i => i + 1 - T.length
def occ (S T : List UInt8) : List Nat := if T = [] then [] else occK S T S.length
theorem occK_hit {S T : List UInt8} {k : Nat} (h : T <:+ S.take (k + 1)) : occK S T (k + 1) = occK S T k ++ [k + 1 - T.length] := by
  unfold occK
  rw [List.range_succ, List.filter_append, List.map_append]
  congr 1
  rw [List.filter_cons_of_pos (by rw [List.isSuffixOf_iff_suffix]; exact h)]
  rfl
theorem occK_miss {S T : List UInt8} {k : Nat} (h : ¬ T <:+ S.take (k + 1)) : occK S T (k + 1) = occK S T k := by
  unfold occK
  rw [List.range_succ, List.filter_append, List.map_append]
  rw [List.filter_cons_of_neg (by rw [List.isSuffixOf_iff_suffix]; exact h)]
  simp
theorem occK_split {S T : List UInt8} {k : Nat} (h : T <:+ S.take (k + 1)) : ∀ n, k + 1 ≤ n → ∃ rest, occK S T n = occK S T k ++ (k + 1 - T.length) :: rest := by
  intro n hn
  induction n with
  | zero => omega
  | succ n ih =>
    by_cases e : k = n
    · subst e
      exact ⟨[], occK_hit h⟩
    · obtain ⟨rest, hr⟩ := ih (by omega)
      by_cases h2 : T <:+ S.take (n + 1)
      · exact ⟨rest ++ [n + 1 - T.length], by rw [occK_hit h2, hr]; simp⟩
      · exact ⟨rest, by rw [occK_miss h2, hr]⟩
theorem occK_short {S T : List UInt8} (h : S.length < T.length) : ∀ k, occK S T k = []
  | 0 => rfl
  | k + 1 => by
    rw [occK_miss, occK_short h k]
    intro h2
    have := h2.length_le
    rw [List.length_take] at this
    omega
theorem occ_short {S T : List UInt8} (h : S.length < T.length) : occ S T = [] := by
  unfold occ
  by_cases e : T = []
  · rw [if_pos e]
  · rw [if_neg e]; exact occK_short h _
def encN (x : Nat) : Array Value := #[.int .i64 (x : Int)]
theorem matches_c (s t : ByteArray) (w : World) : Calls Tryd.prog 36 #[.string s, .string t] w fun e w' => e = .returned (.func (.func 47) #[] #[.pointer (some ⟨w.heap.size + 1, 0, none⟩), .pointer (some ⟨w.heap.size, 0, none⟩)]) ∧ w' = (w.alloc (.cells #[.string s] 9)).alloc (.cells #[.string t] 9) := by
  go_enter Tryd.func36, Tryd.ntmps36
  go_wp2
  go_ret
  exact ⟨rfl, rfl⟩

set_option maxRecDepth 100000 in
set_option maxHeartbeats 1000000 in
theorem matches1_iter {Bt Bs : Nat} (S T : List UInt8) (W : World) (h1 : W.cell? ⟨Bt, 0, none⟩ = some (.string (mk8 T))) (h2 : W.cell? ⟨Bs, 0, none⟩ = some (.string (mk8 S))) (hs : S.length ≤ 1099511627776) (ht : T.length ≤ 1099511627776) :
    IterS Tryd.prog 47 #[.pointer (some ⟨Bt, 0, none⟩), .pointer (some ⟨Bs, 0, none⟩)] encN (fun k => k = Bt ∨ k = Bs) (fun _ => True) (occ S T) W := by
  intro l J Jx hJ hJx h0 hY
  have hzS : (mk8 S).size = S.length := mk8_size S
  have hzT : (mk8 T).size = T.length := mk8_size T
  have hbt := cell_lt h1
  have hbs := cell_lt h2
  by_cases hT0 : T.length = 0
  · have hTn : T = [] := List.eq_nil_of_length_eq_zero hT0
    have ho : occ S T = [] := by unfold occ; rw [if_pos hTn]
    have hj := h0 (fun _ => False) W trivial (Below.refl _ _) (fun k h => h.elim)
    rw [ho]
    have he : (mk8 T) = ⟨#[]⟩ := by rw [hTn]; rfl
    rw [he] at h1
    have HJ0 := Lib.hid hj
    clear hj hY h0 hJ hJx ho hTn hT0 he hzT ht
    refine callsIn_of_wp Tryd.func47 rfl trivial ?_ rfl
    simp only [Tryd.ntmps47, List.size_toArray, List.length_cons, List.length_nil, Nat.reduceAdd, Nat.reduceSub, Array.replicate_succ, Array.replicate_zero, List.push_toArray, List.append_toArray, List.nil_append, List.cons_append]
    gi_wp2
    ((try simp only [Exit.inBlock, Exit.then]); refine bodyPost_ret (results_none rfl _ _ _) rfl ?_)
    exact ⟨⟨_, rfl⟩, _, .inl HJ0.out⟩
  have hTp : 0 < T.length := by omega
  have hTe : ((mk8 T).toList == []) = false := by
    rw [beq_eq_false_iff_ne]
    intro e
    have := congrArg List.length e
    rw [Lib.toList_data, mk8_L, List.length_nil] at this
    omega
  by_cases hsh : S.length < T.length
  · have ho : occ S T = [] := occ_short hsh
    have hj := h0 (fun _ => False) W trivial (Below.refl _ _) (fun k h => h.elim)
    rw [ho]
    have HJ0 := Lib.hid hj
    clear hj hY h0 hJ hJx ho hT0
    refine callsIn_of_wp Tryd.func47 rfl trivial ?_ rfl
    simp only [Tryd.ntmps47, List.size_toArray, List.length_cons, List.length_nil, Nat.reduceAdd, Nat.reduceSub, Array.replicate_succ, Array.replicate_zero, List.push_toArray, List.append_toArray, List.nil_append, List.cons_append]
    gi_wp2
    ((try simp only [Exit.inBlock, Exit.then]); refine bodyPost_ret (results_none rfl _ _ _) rfl ?_)
    exact ⟨⟨_, rfl⟩, _, .inl HJ0.out⟩
  have hle : T.length ≤ S.length := by omega
  have ho : occ S T = occK S T S.length := by unfold occ; rw [if_neg (by intro e; rw [e] at hTp; simp at hTp)]
  rw [ho] at hY ⊢
  have hfo := fun V => follow_c (T := T) V hTp ht
  have HFO := Lib.hid hfo
  have HY := Lib.hid hY
  have HJ := Lib.hid hJ
  have H0 := Lib.hid h0
  clear hY hJ h0 hJx ho hfo hT0 hsh
  refine callsIn_of_wp Tryd.func47 rfl trivial ?_ rfl
  simp only [Tryd.ntmps47, List.size_toArray, List.length_cons, List.length_nil, Nat.reduceAdd, Nat.reduceSub, Array.replicate_succ, Array.replicate_zero, List.push_toArray, List.append_toArray, List.nil_append, List.cons_append]
  gi_wp2_with fail
  refine ⟨trivial, rfl, ?_⟩
  refine (callsIn_wide.2 (HFO.out W)).mono ?_
  rintro e w1 ⟨E, rfl, htb, hok, hb1⟩
  have c1 : w1.cell? ⟨Bt, 0, none⟩ = some (.string (mk8 T)) := (hb1.cell (p := ⟨Bt, 0, none⟩) hbt).trans h1
  have c2 : w1.cell? ⟨Bs, 0, none⟩ = some (.string (mk8 S)) := (hb1.cell (p := ⟨Bs, 0, none⟩) hbs).trans h2
  have hg1 : W.heap.size + 1 < w1.heap.size := by
    rcases htb.row.form with ⟨z, _⟩ | ⟨g, z, _, hlt⟩
    · cases z
    · injection z with z; injection z with z; omega
  have hg3 : W.heap.size + 2 < w1.heap.size := htb.ends.lt
  obtain ⟨R, hR⟩ : ∃ R : Nat → Prop, R = fun k => k = W.heap.size ∨ k = W.heap.size + 1 ∨ k = W.heap.size + 2 := ⟨_, rfl⟩
  have hj0 := H0.out R w1 trivial hb1 (fun k h => by rw [hR] at h; rcases h with e | e | e <;> omega)
  have HR := Lib.hid hR
  have HTB := Lib.hid htb
  have HOK := Lib.hid hok
  have HJ0 := Lib.hid hj0
  clear hR htb hok hj0 h1 h2
  gi_wp2
  gi_loopw [5, 20] (fun v i wr => ∃ k m : Nat, k ≤ S.length ∧ i = .int .i64 (k : Int) ∧ v = .int .i64 (m : Int) ∧ Hid (Bd T (S.take k) m) ∧ J R (occK S T k) wr ∧ KeptS (fun k => k = Bt ∨ k = Bs) R w1 wr) (fun _ i _ => S.length - (RowKit.intOf i).toNat)
  case atStart => exact ⟨0, 0, Nat.zero_le _, rfl, rfl, Bd.zero T, HJ0.out, KeptS.refl _ _ _⟩
  case round =>
    obtain ⟨k, m, hk, rfl, rfl, hbd, hJk, hkp⟩ := hrel
    have hc1 : wr.cell? ⟨Bt, 0, none⟩ = some (.string (mk8 T)) := (World.cell?_of_block (hkp.block _ (.inl (.inl rfl)))).trans c1
    have hc2 : wr.cell? ⟨Bs, 0, none⟩ = some (.string (mk8 S)) := (World.cell?_of_block (hkp.block _ (.inl (.inr rfl)))).trans c2
    have htw : Tbl wr W.heap.size (W.heap.size + 2) (W.heap.size + 1) W.heap.size T E := HTB.out.same (hkp.block _ (.inr (by rw [HR.out]; exact .inl rfl))) (hkp.block _ (.inr (by rw [HR.out]; exact .inr (.inr rfl)))) (hkp.block _ (.inr (by rw [HR.out]; exact .inr (.inl rfl))))
    by_cases hlt : k < S.length
    · have hlt2 : (k : Int) < (S.length : Int) := by omega
      obtain ⟨c, hc⟩ : ∃ c, S[k]? = some c := ⟨S[k]'hlt, List.getElem?_eq_getElem hlt⟩
      have hat : (mk8 S)[k]'(by rw [mk8_size]; exact hlt) = c := mk8_at hc _
      have htk : S.take k ++ [c] = S.take (k + 1) := (take_snoc hc).symm
      have hstep := step_c (c := c) wr htw HOK.out hbd.out.1 (Nat.le_refl _) hTp ht hbd.out
      rw [htk] at hstep
      have HSTEP := Lib.hid hstep
      have HJK := Lib.hid hJk
      have HKP := Lib.hid hkp
      clear hstep hJk hkp htw hc htk hbd
      gi_wp2_with fail
      refine ⟨trivial, rfl, ?_⟩
      refine (callsIn_wide.2 HSTEP.out).mono ?_
      rintro e w2 ⟨⟨r, rfl, hr⟩, hw2⟩
      have hw2 := hw2.symm
      subst hw2
      have hrT : r ≤ T.length := hr.1
      by_cases hfull : r = T.length
      · have hsuf : T <:+ S.take (k + 1) := hr.full.1 hfull
        have hTk : T.length ≤ k + 1 := by
          have := hsuf.length_le
          rw [List.length_take] at this; omega
        obtain ⟨rest, hsp⟩ := occK_split hsuf S.length (by omega)
        obtain ⟨x, hx⟩ : ∃ x, x = k + 1 - T.length := ⟨_, rfl⟩
        have hwx : IntKind.i64.wrap ((k : Int) + 1 - (T.length : Int)) = (x : Int) := by rw [IntWalk.i64_in _ (by omega)]; omega
        rw [← hx] at hsp
        obtain ⟨fn, tmps, assign, body, hy, hRn⟩ := HY.out R _ x rest wr HJK.out hsp
        dsimp only [encN] at hy
        have HBD := Lib.hid hr
        have HXX := Lib.hid (show occK S T (k + 1) = occK S T k ++ [x] by rw [occK_hit hsuf, hx])
        clear hr hsuf hsp hx
        subst hfull
        gi_wp2_with (refine ⟨rfl, ?_⟩; refine hRn.mono ?_; rintro e W' (⟨rfl, hJ', hk'⟩ | ⟨rfl, hJx'⟩))
        · gi_wp2
          exact ⟨⟨k + 1, T.length, by omega, by go_num, rfl, HBD.out, by rw [HXX.out]; exact hJ', HKP.out.trans hk'⟩, by simp [RowKit.intOf]; omega⟩
        · gi_wp2
          ((try simp only [Exit.inBlock, Exit.then]); refine bodyPost_ret (results_none rfl _ _ _) rfl ?_)
          exact ⟨⟨_, rfl⟩, R, .inr ⟨_, hJx'⟩⟩
      · have hq2 : r < T.length := by omega
        have hq3 : ((r : Int) == (T.length : Int)) = false := by rw [beq_eq_false_iff_ne]; omega
        clear hrT
        have hns : ¬ T <:+ S.take (k + 1) := fun h => hfull (hr.full.2 h)
        have HBD := Lib.hid hr
        have HXX := Lib.hid (occK_miss hns)
        clear hr hns hfull
        gi_wp2_with fail
        refine ⟨(fun f h => by cases h), ?_⟩
        gi_wp2
        exact ⟨⟨k + 1, r, by omega, by go_num, rfl, HBD.out, by rw [HXX.out]; exact HJK.out, HKP.out⟩, by simp [RowKit.intOf]; omega⟩
    · obtain rfl : k = S.length := by omega
      have HJK := Lib.hid hJk
      clear hJk hkp htw hbd
      gi_wp2
      go_end0
      exact ⟨⟨_, rfl⟩, _, .inl HJK.out⟩
end Go.Proofs.YtdgjkhldlmhedaaDoor
