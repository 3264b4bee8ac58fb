/-
  Contract of utf.parts: the iterator that it hands back hands out what a text falls into, each part with its place.
-/
import Derived.Test.YtnfeifafocemaaaDoorCUlib
set_option linter.unusedVariables false
set_option linter.unusedSimpArgs false
namespace Go.Proofs.YtnfeifafocemaaaDoor
open Go.RowKit Go.Lib
attribute [local go_sem] Oper.semAt_some

def flat (q : List (List UInt8 × Int)) : List UInt8 := q.flatMap (·.1)
theorem flat_append (a b : List (List UInt8 × Int)) : flat (a ++ b) = flat a ++ flat b := by simp [flat]
/-- Parts with their places. -/
def ptsF : Nat → List (List UInt8 × Int) → List (Nat × Int)
  | _, [] => []
  | p, q :: r => (p, q.2) :: ptsF (p + q.1.length) r
theorem ptsF_append : ∀ (a b : List (List UInt8 × Int)) (p : Nat), ptsF p (a ++ b) = ptsF p a ++ ptsF (p + (flat a).length) b
  | [], b, p => by simp [ptsF, flat]
  | q :: a, b, p => by
    show (p, q.2) :: ptsF (p + q.1.length) (a ++ b) = _
    rw [ptsF_append a b]
    show _ = (p, q.2) :: (ptsF (p + q.1.length) a ++ ptsF (p + (flat (q :: a)).length) b)
    have : (flat (q :: a)).length = q.1.length + (flat a).length := by simp [flat]
    rw [this, Nat.add_assoc]
def pts (l : List UInt8) : List (Nat × Int) := ptsF 0 (pcs l)
def encP (x : Nat × Int) : Array Value := #[.int .i64 (x.1 : Int), .int .i64 x.2]

theorem extract_L (s : ByteArray) (p : Nat) : (s.extract p s.size).data.toList = s.data.toList.drop p := by
  rw [ByteArray.data_extract, Array.toList_extract]
  simp [List.take_of_length_le]

theorem kept_below {keep R : Nat → Prop} {A B : World} (hb : Below A.heap.size A B) (h : ∀ k, keep k ∨ R k → k < A.heap.size) : KeptS keep R A B := ⟨hb.size, fun k hk => hb.block k (h k hk)⟩

set_option maxRecDepth 100000 in
theorem parts1_iter {B1 : Nat} (s : ByteArray) (W : World) (h1 : W.cell? ⟨B1, 0, none⟩ = some (.string s)) (hT : Tabs W) (hs : s.size ≤ 140737488355328) :
    IterS Tryd.prog 41 #[.pointer (some ⟨B1, 0, none⟩)] encP (fun k => k = B1 ∨ k = 1 ∨ k = 2) (fun R => ∀ k, ¬ R k) (pts s.data.toList) W := by
  intro l J Jx hJ hJx h0 hY
  refine callsIn_of_wp Tryd.func41 rfl trivial ?_ rfl
  simp only [Tryd.ntmps41, List.size_toArray, List.length_cons, List.length_nil, Nat.reduceAdd, Nat.reduceSub, Array.replicate_succ, Array.replicate_zero, List.push_toArray, List.append_toArray, List.nil_append, List.cons_append]
  obtain ⟨L, hL⟩ : ∃ L, L = s.data.toList := ⟨_, rfl⟩
  have hsz : s.size = L.length := by rw [hL, Array.length_toList]; rfl
  rw [← hL] at hY ⊢
  have HY := Lib.hid hY
  have HJ := Lib.hid hJ
  have HJX := Lib.hid hJx
  have H0 := Lib.hid h0
  have HT := Lib.hid hT
  have HL := Lib.hid hL
  clear hY hJ h0 hJx hT hL
  gi_wp2
  gi_loopw [3] (fun i wr => ∃ (p : Nat) (pre : List (List UInt8 × Int)), p ≤ L.length ∧ i = .int .i64 (p : Int) ∧ pcs L = pre ++ pcs (L.drop p) ∧ p = (flat pre).length ∧ J (fun _ => False) (ptsF 0 pre) wr ∧ KeptS (fun k => k = B1 ∨ k = 1 ∨ k = 2) (fun _ => False) W wr) (fun i _ => L.length - (RowKit.intOf i).toNat)
  case atStart => exact ⟨0, [], Nat.zero_le _, rfl, rfl, rfl, H0.out (fun _ => False) W (fun _ h => h) (Below.refl _ _) (fun k e => e.elim), KeptS.refl _ _ _⟩
  case round =>
    obtain ⟨p, pre, hp, rfl, hpc, hpl, hJk, hkp⟩ := hrel
    have hc1 : wr.cell? ⟨B1, 0, none⟩ = some (.string s) := (World.cell?_of_block (hkp.block _ (.inl (.inl rfl)))).trans h1
    have hTr : Tabs wr := HT.out.same (hkp.block _ (.inl (.inr (.inl rfl)))) (hkp.block _ (.inl (.inr (.inr rfl))))
    by_cases hlt : p < L.length
    · have hlt2 : (p : Int) < (s.size : Int) := by omega
      have HTR := Lib.hid hTr
      have HPC := Lib.hid hpc
      have HPL := Lib.hid hpl
      have HKP := Lib.hid hkp
      have HJK := Lib.hid hJk
      clear hTr hpc hpl hkp hJk
      have hne : (s.extract p s.size).data.toList ≠ [] := by
        rw [extract_L, ← HL.out]
        intro e
        have := congrArg List.length e
        rw [List.length_drop, List.length_nil] at this
        omega
      have hdec := decode_c (s.extract p s.size) wr HTR.out hne
      rw [extract_L, ← HL.out] at hdec hne
      obtain ⟨r, hr⟩ : ∃ r, r = (decodeL (L.drop p)).1 := ⟨_, rfl⟩
      obtain ⟨k, hk⟩ : ∃ k, k = wid (L.drop p) := ⟨_, rfl⟩
      have hrl : r ≤ 1114111 := by rw [hr]; exact rune_lt _
      have hk1 : 1 ≤ k := by rw [hk]; exact wid_ge _
      have hk2 : p + k ≤ L.length := by
        have := wid_le hne
        rw [List.length_drop, ← hk] at this
        omega
      rw [← hr, ← hk, hsz] at hdec
      obtain ⟨ch, hch⟩ : ∃ ch, ch = partOf (L.drop p) := ⟨_, rfl⟩
      have hcv : ch = if r = 65533 ∧ k = 1 then -1 else (r : Int) := by rw [hch, hr, hk]; rfl
      have hps : pcs L = (pre ++ [((L.drop p).take k, ch)]) ++ pcs (L.drop (p + k)) := by
        rw [HPC.out, pcs_cons hne, ← hk, ← hch, List.drop_drop, List.append_assoc]; rfl
      have hlen : ((L.drop p).take k).length = k := by rw [List.length_take, List.length_drop]; omega
      have hpt : ptsF 0 (pre ++ [((L.drop p).take k, ch)]) = ptsF 0 pre ++ [(p, ch)] := by
        rw [ptsF_append, ← HPL.out, Nat.zero_add]; rfl
      have hfl : p + k = (flat (pre ++ [((L.drop p).take k, ch)])).length := by
        rw [flat_append, List.length_append, ← HPL.out]
        simp [flat, hlen]
      have hxs : ∃ rest, pts L = ptsF 0 pre ++ (p, ch) :: rest := by
        refine ⟨ptsF (p + k) (pcs (L.drop (p + k))), ?_⟩
        unfold pts
        rw [hps, ptsF_append, hpt, Nat.zero_add, ← hfl, List.append_assoc]; rfl
      obtain ⟨rest, hxs⟩ := hxs
      have HDEC := Lib.hid hdec
      have HCV := Lib.hid hcv
      have HPS := Lib.hid hps
      have HPT := Lib.hid hpt
      have HFL := Lib.hid hfl
      have HXS := Lib.hid hxs
      clear hdec hcv hps hpt hfl hxs hne hlen hr hk hch
      have hkl : ∀ k, (k = B1 ∨ k = 1 ∨ k = 2) ∨ (fun _ : Nat => False) k → k < wr.heap.size := by
        rintro k ((rfl | rfl | rfl) | h)
        · exact cell_lt hc1
        · exact HTR.out.lt0
        · exact HTR.out.lt1
        · exact h.elim
      have HKL := Lib.hid hkl
      clear hkl
      by_cases hbad : r = 65533 ∧ k = 1
      · obtain ⟨h65, h1k⟩ := hbad
        have e1 : ch = -1 := by rw [HCV.out, if_pos ⟨h65, h1k⟩]
        subst e1
        subst h65 h1k
        gi_wp2_with (first
        | (refine ⟨trivial, rfl, ?_⟩; refine (callsIn_wide.2 HDEC.out).mono ?_; rintro e w1 ⟨rfl, hb1⟩; have hj := HJ.out _ _ _ w1 HJK.out hb1; obtain ⟨fn, tmps, assign, body, hy, hR⟩ := HY.out _ _ _ rest w1 hj HXS.out; dsimp only [encP] at hy; clear hj)
        | (refine ⟨rfl, ?_⟩; refine hR.mono ?_; rintro e W' (⟨rfl, hJ', hk'⟩ | ⟨rfl, hJx'⟩)))
        · gi_wp2
          exact ⟨⟨p + 1, _, hk2, by go_num, HPS.out, HFL.out, by rw [HPT.out]; exact hJ', HKP.out.trans ((kept_below hb1 HKL.out).trans hk')⟩, by simp [RowKit.intOf]; omega⟩
        · gi_wp2
          ((try simp only [Exit.inBlock, Exit.then]); refine bodyPost_ret (results_none rfl _ _ _) rfl ?_)
          exact ⟨⟨_, rfl⟩, _, .inr ⟨_, hJx'⟩⟩
      · have e1 : ch = (r : Int) := by rw [HCV.out, if_neg hbad]
        subst e1
        by_cases h65 : r = 65533
        · have b1 : ((r : Int) == 65533) = true := by rw [beq_iff_eq]; omega
          have b2 : ((k : Int) == 1) = false := by rw [beq_eq_false_iff_ne]; omega
          clear h65
          gi_wp2_with (first
        | (refine ⟨trivial, rfl, ?_⟩; refine (callsIn_wide.2 HDEC.out).mono ?_; rintro e w1 ⟨rfl, hb1⟩; have hj := HJ.out _ _ _ w1 HJK.out hb1; obtain ⟨fn, tmps, assign, body, hy, hR⟩ := HY.out _ _ _ rest w1 hj HXS.out; dsimp only [encP] at hy; clear hj)
        | (refine ⟨rfl, ?_⟩; refine hR.mono ?_; rintro e W' (⟨rfl, hJ', hk'⟩ | ⟨rfl, hJx'⟩)))
          · gi_wp2
            exact ⟨⟨p + k, _, hk2, by go_num, HPS.out, HFL.out, by rw [HPT.out]; exact hJ', HKP.out.trans ((kept_below hb1 HKL.out).trans hk')⟩, by simp [RowKit.intOf]; omega⟩
          · gi_wp2
            ((try simp only [Exit.inBlock, Exit.then]); refine bodyPost_ret (results_none rfl _ _ _) rfl ?_)
            exact ⟨⟨_, rfl⟩, _, .inr ⟨_, hJx'⟩⟩
        · have b1 : ((r : Int) == 65533) = false := by rw [beq_eq_false_iff_ne]; omega
          gi_wp2_with (first
        | (refine ⟨trivial, rfl, ?_⟩; refine (callsIn_wide.2 HDEC.out).mono ?_; rintro e w1 ⟨rfl, hb1⟩; have hj := HJ.out _ _ _ w1 HJK.out hb1; obtain ⟨fn, tmps, assign, body, hy, hR⟩ := HY.out _ _ _ rest w1 hj HXS.out; dsimp only [encP] at hy; clear hj)
        | (refine ⟨rfl, ?_⟩; refine hR.mono ?_; rintro e W' (⟨rfl, hJ', hk'⟩ | ⟨rfl, hJx'⟩)))
          · gi_wp2
            exact ⟨⟨p + k, _, hk2, by go_num, HPS.out, HFL.out, by rw [HPT.out]; exact hJ', HKP.out.trans ((kept_below hb1 HKL.out).trans hk')⟩, by simp [RowKit.intOf]; omega⟩
          · gi_wp2
            ((try simp only [Exit.inBlock, Exit.then]); refine bodyPost_ret (results_none rfl _ _ _) rfl ?_)
            exact ⟨⟨_, rfl⟩, _, .inr ⟨_, hJx'⟩⟩
    · have hge : ¬ ((p : Int) < (s.size : Int)) := by omega
      have HPC := Lib.hid hpc
      have HPL := Lib.hid hpl
      have HJK := Lib.hid hJk
      clear hTr hpc hpl hkp hJk
      gi_wp2
      go_end0
      refine ⟨⟨_, rfl⟩, fun _ => False, .inl ?_⟩
      have h1 := HPC.out
      rw [List.drop_eq_nil_of_le (by omega), pcs_nil, List.append_nil] at h1
      unfold pts
      rw [h1]
      exact HJK.out
end Go.Proofs.YtnfeifafocemaaaDoor
