/-
  Contract of utf.parts: the iterator that it hands back hands out what a text falls into, each part with its place.
  Contracts of utf.Check and utf.Count.
-/
import Derived.Test.YtpmdcahomkdfmaaGreatDoorBNlimb
set_option linter.unusedVariables false
set_option linter.unusedSimpArgs false
namespace Go.Proofs.YtpmdcahomkdfmaaGreatDoor
open Go.RowKit Go.Lib
attribute [local go_sem] Oper.semAt_some

def flat (q : List (List UInt8 × Int)) : List UInt8 := q.flatMap (·.1)
theorem flat_append (a b : List (List UInt8 × Int)) : flat (a ++ b) = flat a ++ flat b := by simp [flat]
/-- Parts with their places. -/
def ptsF : Nat → List (List UInt8 × Int) → List (Nat × Int)
  | _, [] => []
  | p, q :: r => (p, q.2) :: ptsF (p + q.1.length) r
theorem ptsF_append : ∀ (a b : List (List UInt8 × Int)) (p : Nat), ptsF p (a ++ b) = ptsF p a ++ ptsF (p + (flat a).length) b
  | [], b, p => by simp [ptsF, flat]
  | q :: a, b, p => by
    show (p, q.2) :: ptsF (p + q.1.length) (a ++ b) = _
    rw [ptsF_append a b]
    show _ = (p, q.2) :: (ptsF (p + q.1.length) a ++ ptsF (p + (flat (q :: a)).length) b)
    have : (flat (q :: a)).length = q.1.length + (flat a).length := by simp [flat]
    rw [this, Nat.add_assoc]
def pts (l : List UInt8) : List (Nat × Int) := ptsF 0 (pcs l)
def encP (x : Nat × Int) : Array Value := #[.int .i64 (x.1 : Int), .int .i64 x.2]

theorem extract_L (s : ByteArray) (p : Nat) : (s.extract p s.size).data.toList = s.data.toList.drop p := by
  rw [ByteArray.data_extract, Array.toList_extract]
  simp [List.take_of_length_le]

theorem kept_below {keep R : Nat → Prop} {A B : World} (hb : Below A.heap.size A B) (h : ∀ k, keep k ∨ R k → k < A.heap.size) : KeptS keep R A B := ⟨hb.size, fun k hk => hb.block k (h k hk)⟩

set_option maxRecDepth 100000 in
theorem parts1_iter {B1 : Nat} (s : ByteArray) (W : World) (h1 : W.cell? ⟨B1, 0, none⟩ = some (.string s)) (hT : Tabs W) (hs : s.size ≤ 140737488355328) :
    IterS Tryz.prog 69 #[.pointer (some ⟨B1, 0, none⟩)] encP (fun k => k = B1 ∨ k = 0 ∨ k = 1) (fun R => ∀ k, ¬ R k) (pts s.data.toList) W := by
  intro l J Jx hJ hJx h0 hY
  refine callsIn_of_wp Tryz.func69 rfl trivial ?_ rfl
  simp only [Tryz.ntmps69, List.size_toArray, List.length_cons, List.length_nil, Nat.reduceAdd, Nat.reduceSub, Array.replicate_succ, Array.replicate_zero, List.push_toArray, List.append_toArray, List.nil_append, List.cons_append]
  obtain ⟨L, hL⟩ : ∃ L, L = s.data.toList := ⟨_, rfl⟩
  have hsz : s.size = L.length := by rw [hL, Array.length_toList]; rfl
  rw [← hL] at hY ⊢
  have HY := Lib.hid hY
  have HJ := Lib.hid hJ
  have HJX := Lib.hid hJx
  have H0 := Lib.hid h0
  have HT := Lib.hid hT
  have HL := Lib.hid hL
  clear hY hJ h0 hJx hT hL
  gi_wp2
  gi_loopw [3] (fun i wr => ∃ (p : Nat) (pre : List (List UInt8 × Int)), p ≤ L.length ∧ i = .int .i64 (p : Int) ∧ pcs L = pre ++ pcs (L.drop p) ∧ p = (flat pre).length ∧ J (fun _ => False) (ptsF 0 pre) wr ∧ KeptS (fun k => k = B1 ∨ k = 0 ∨ k = 1) (fun _ => False) W wr) (fun i _ => L.length - (RowKit.intOf i).toNat)
  case atStart => exact ⟨0, [], Nat.zero_le _, rfl, rfl, rfl, H0.out (fun _ => False) W (fun _ h => h) (Below.refl _ _) (fun k e => e.elim), KeptS.refl _ _ _⟩
  case round =>
    obtain ⟨p, pre, hp, rfl, hpc, hpl, hJk, hkp⟩ := hrel
    have hc1 : wr.cell? ⟨B1, 0, none⟩ = some (.string s) := (World.cell?_of_block (hkp.block _ (.inl (.inl rfl)))).trans h1
    have hTr : Tabs wr := HT.out.same (hkp.block _ (.inl (.inr (.inl rfl)))) (hkp.block _ (.inl (.inr (.inr rfl))))
    by_cases hlt : p < L.length
    · have hlt2 : (p : Int) < (s.size : Int) := by omega
      have HTR := Lib.hid hTr
      have HPC := Lib.hid hpc
      have HPL := Lib.hid hpl
      have HKP := Lib.hid hkp
      have HJK := Lib.hid hJk
      clear hTr hpc hpl hkp hJk
      have hne : (s.extract p s.size).data.toList ≠ [] := by
        rw [extract_L, ← HL.out]
        intro e
        have := congrArg List.length e
        rw [List.length_drop, List.length_nil] at this
        omega
      have hdec := decode_c (s.extract p s.size) wr HTR.out hne
      rw [extract_L, ← HL.out] at hdec hne
      obtain ⟨r, hr⟩ : ∃ r, r = (decodeL (L.drop p)).1 := ⟨_, rfl⟩
      obtain ⟨k, hk⟩ : ∃ k, k = wid (L.drop p) := ⟨_, rfl⟩
      have hrl : r ≤ 1114111 := by rw [hr]; exact rune_lt _
      have hk1 : 1 ≤ k := by rw [hk]; exact wid_ge _
      have hk2 : p + k ≤ L.length := by
        have := wid_le hne
        rw [List.length_drop, ← hk] at this
        omega
      rw [← hr, ← hk, hsz] at hdec
      obtain ⟨ch, hch⟩ : ∃ ch, ch = partOf (L.drop p) := ⟨_, rfl⟩
      have hcv : ch = if r = 65533 ∧ k = 1 then -1 else (r : Int) := by rw [hch, hr, hk]; rfl
      have hps : pcs L = (pre ++ [((L.drop p).take k, ch)]) ++ pcs (L.drop (p + k)) := by
        rw [HPC.out, pcs_cons hne, ← hk, ← hch, List.drop_drop, List.append_assoc]; rfl
      have hlen : ((L.drop p).take k).length = k := by rw [List.length_take, List.length_drop]; omega
      have hpt : ptsF 0 (pre ++ [((L.drop p).take k, ch)]) = ptsF 0 pre ++ [(p, ch)] := by
        rw [ptsF_append, ← HPL.out, Nat.zero_add]; rfl
      have hfl : p + k = (flat (pre ++ [((L.drop p).take k, ch)])).length := by
        rw [flat_append, List.length_append, ← HPL.out]
        simp [flat, hlen]
      have hxs : ∃ rest, pts L = ptsF 0 pre ++ (p, ch) :: rest := by
        refine ⟨ptsF (p + k) (pcs (L.drop (p + k))), ?_⟩
        unfold pts
        rw [hps, ptsF_append, hpt, Nat.zero_add, ← hfl, List.append_assoc]; rfl
      obtain ⟨rest, hxs⟩ := hxs
      have HDEC := Lib.hid hdec
      have HCV := Lib.hid hcv
      have HPS := Lib.hid hps
      have HPT := Lib.hid hpt
      have HFL := Lib.hid hfl
      have HXS := Lib.hid hxs
      clear hdec hcv hps hpt hfl hxs hne hlen hr hk hch
      have hkl : ∀ k, (k = B1 ∨ k = 0 ∨ k = 1) ∨ (fun _ : Nat => False) k → k < wr.heap.size := by
        rintro k ((rfl | rfl | rfl) | h)
        · exact cell_lt hc1
        · exact HTR.out.lt0
        · exact HTR.out.lt1
        · exact h.elim
      have HKL := Lib.hid hkl
      clear hkl
      by_cases hbad : r = 65533 ∧ k = 1
      · obtain ⟨h65, h1k⟩ := hbad
        have e1 : ch = -1 := by rw [HCV.out, if_pos ⟨h65, h1k⟩]
        subst e1
        subst h65 h1k
        gi_wp2_with (first
        | (refine ⟨trivial, rfl, ?_⟩; refine (callsIn_wide.2 HDEC.out).mono ?_; rintro e w1 ⟨rfl, hb1⟩; have hj := HJ.out _ _ _ w1 HJK.out hb1; obtain ⟨fn, tmps, assign, body, hy, hR⟩ := HY.out _ _ _ rest w1 hj HXS.out; dsimp only [encP] at hy; clear hj)
        | (refine ⟨rfl, ?_⟩; refine hR.mono ?_; rintro e W' (⟨rfl, hJ', hk'⟩ | ⟨rfl, hJx'⟩)))
        · gi_wp2
          exact ⟨⟨p + 1, _, hk2, by go_num, HPS.out, HFL.out, by rw [HPT.out]; exact hJ', HKP.out.trans ((kept_below hb1 HKL.out).trans hk')⟩, by simp [RowKit.intOf]; omega⟩
        · gi_wp2
          ((try simp only [Exit.inBlock, Exit.then]); refine bodyPost_ret (results_none rfl _ _ _) rfl ?_)
          exact ⟨⟨_, rfl⟩, _, .inr ⟨_, hJx'⟩⟩
      · have e1 : ch = (r : Int) := by rw [HCV.out, if_neg hbad]
        subst e1
        by_cases h65 : r = 65533
        · have b1 : ((r : Int) == 65533) = true := by rw [beq_iff_eq]; omega
          have b2 : ((k : Int) == 1) = false := by rw [beq_eq_false_iff_ne]; omega
          clear h65
          gi_wp2_with (first
        | (refine ⟨trivial, rfl, ?_⟩; refine (callsIn_wide.2 HDEC.out).mono ?_; rintro e w1 ⟨rfl, hb1⟩; have hj := HJ.out _ _ _ w1 HJK.out hb1; obtain ⟨fn, tmps, assign, body, hy, hR⟩ := HY.out _ _ _ rest w1 hj HXS.out; dsimp only [encP] at hy; clear hj)
        | (refine ⟨rfl, ?_⟩; refine hR.mono ?_; rintro e W' (⟨rfl, hJ', hk'⟩ | ⟨rfl, hJx'⟩)))
          · gi_wp2
            exact ⟨⟨p + k, _, hk2, by go_num, HPS.out, HFL.out, by rw [HPT.out]; exact hJ', HKP.out.trans ((kept_below hb1 HKL.out).trans hk')⟩, by simp [RowKit.intOf]; omega⟩
          · gi_wp2
            ((try simp only [Exit.inBlock, Exit.then]); refine bodyPost_ret (results_none rfl _ _ _) rfl ?_)
            exact ⟨⟨_, rfl⟩, _, .inr ⟨_, hJx'⟩⟩
        · have b1 : ((r : Int) == 65533) = false := by rw [beq_eq_false_iff_ne]; omega
          gi_wp2_with (first
        | (refine ⟨trivial, rfl, ?_⟩; refine (callsIn_wide.2 HDEC.out).mono ?_; rintro e w1 ⟨rfl, hb1⟩; have hj := HJ.out _ _ _ w1 HJK.out hb1; obtain ⟨fn, tmps, assign, body, hy, hR⟩ := HY.out _ _ _ rest w1 hj HXS.out; dsimp only [encP] at hy; clear hj)
        | (refine ⟨rfl, ?_⟩; refine hR.mono ?_; rintro e W' (⟨rfl, hJ', hk'⟩ | ⟨rfl, hJx'⟩)))
          · gi_wp2
            exact ⟨⟨p + k, _, hk2, by go_num, HPS.out, HFL.out, by rw [HPT.out]; exact hJ', HKP.out.trans ((kept_below hb1 HKL.out).trans hk')⟩, by simp [RowKit.intOf]; omega⟩
          · gi_wp2
            ((try simp only [Exit.inBlock, Exit.then]); refine bodyPost_ret (results_none rfl _ _ _) rfl ?_)
            exact ⟨⟨_, rfl⟩, _, .inr ⟨_, hJx'⟩⟩
    · have hge : ¬ ((p : Int) < (s.size : Int)) := by omega
      have HPC := Lib.hid hpc
      have HPL := Lib.hid hpl
      have HJK := Lib.hid hJk
      clear hTr hpc hpl hkp hJk
      gi_wp2
      go_end0
      refine ⟨⟨_, rfl⟩, fun _ => False, .inl ?_⟩
      have h1 := HPC.out
      rw [List.drop_eq_nil_of_le (by omega), pcs_nil, List.append_nil] at h1
      unfold pts
      rw [h1]
      exact HJK.out
end Go.Proofs.YtpmdcahomkdfmaaGreatDoor

namespace Go.Proofs.YtpmdcahomkdfmaaGreatDoor
open Go.RowKit Go.Lib
attribute [local go_sem] Oper.semAt_some

theorem parts_c (s : ByteArray) (w : World) : Calls Tryz.prog 44 #[.string s] w fun e w' => e = .returned (.func (.func 69) #[] #[.pointer (some ⟨w.heap.size, 0, none⟩)]) ∧ w' = w.alloc (.cells #[.string s] 9) := by
  go_enter Tryz.func44, Tryz.ntmps44
  go_wp2
  go_ret
  exact ⟨rfl, rfl⟩

/-- Where the first octet stands that begins no character. -/
def badAt (L : List UInt8) : Nat := (flat ((pcs L).takeWhile (fun q => q.2 != -1))).length
def errT (L : List UInt8) : Nat := if isT L = true then 0 else 61
theorem pts_mem {p : Nat} {q : List (List UInt8 × Int)} {pre : List (Nat × Int)} {x : Nat × Int} {rest : List (Nat × Int)} (h : ptsF p q = pre ++ x :: rest) (hpre : ∀ y ∈ pre, y.2 ≠ -1) (hx : x.2 = -1) :
    x.1 = p + (flat (q.takeWhile (fun q => q.2 != -1))).length ∧ (q.all fun q => q.2 != -1) = false := by
  induction q generalizing p pre with
  | nil => simp [ptsF] at h
  | cons a q ih =>
    cases pre with
    | nil =>
      simp only [ptsF, List.nil_append, List.cons.injEq] at h
      obtain ⟨rfl, _⟩ := h
      have : (a.2 != -1) = false := by simpa using hx
      simp [List.takeWhile_cons, this, flat]
    | cons y pre =>
      simp only [ptsF, List.cons_append, List.cons.injEq] at h
      obtain ⟨rfl, h⟩ := h
      have hy := hpre (p, a.2) (by simp)
      have ha : (a.2 != -1) = true := by simpa using hy
      obtain ⟨h1, h2⟩ := ih h (fun z hz => hpre z (by simp [hz]))
      rw [List.takeWhile_cons, List.all_cons, ha, h2]
      refine ⟨?_, rfl⟩
      rw [h1]
      simp [flat]
      omega
theorem pts_all {p : Nat} {q : List (List UInt8 × Int)} (h : ∀ y ∈ ptsF p q, y.2 ≠ -1) : (q.all fun q => q.2 != -1) = true := by
  induction q generalizing p with
  | nil => rfl
  | cons a q ih =>
    rw [List.all_cons, ih (p := p + a.1.length) (fun y hy => h y (by simp only [ptsF, List.mem_cons]; exact .inr hy))]
    have := h (p, a.2) (by simp [ptsF])
    simpa using this
theorem takeWhile_all {α : Type} (p : α → Bool) : ∀ l : List α, (∀ x ∈ l, p x = true) → l.takeWhile p = l
  | [], _ => rfl
  | x :: l, h => by rw [List.takeWhile_cons, h x (by simp), if_pos rfl, takeWhile_all p l (fun y hy => h y (by simp [hy]))]
theorem badAt_text {L : List UInt8} (h : isT L = true) : badAt L = L.length := by
  unfold badAt
  rw [takeWhile_all _ _ (fun x hx => by rw [isT_iff] at h; simpa using h x hx)]
  show (flat (pcs L)).length = _
  unfold flat
  rw [pcs_flat]
theorem bad_of {L : List UInt8} {pre : List (Nat × Int)} {x : Nat × Int} {rest : List (Nat × Int)} (h : pts L = pre ++ x :: rest) (hpre : ∀ y ∈ pre, y.2 ≠ -1) (hx : x.2 = -1) : x.1 = badAt L ∧ isT L = false := by
  obtain ⟨h1, h2⟩ := pts_mem h hpre hx
  exact ⟨by rw [h1, Nat.zero_add]; rfl, h2⟩

theorem boxed_ne {W : World} {B C i : Nat} {t : TypeId} {v : Value} (h : Boxed W B t v) (hne : B ≠ C) (u : Value) : Boxed (W.setCell ⟨C, i, none⟩ u) B t v := by
  show (W.setCell ⟨C, i, none⟩ u).heap[B]? = _
  rw [Below.heap_setCell _ _ _ _ hne]
  exact h

set_option maxRecDepth 100000 in
set_option maxHeartbeats 1000000 in
theorem UCheck_c (s : ByteArray) (w : World) (hT : Tabs w) (hs : s.size ≤ 140737488355328) :
    Calls Tryz.prog 53 #[.string s] w fun e w' => e = .returned (.tuple #[.int .i64 (badAt s.data.toList : Int), .int .i64 (errT s.data.toList : Int)]) ∧ Below w.heap.size w w' := by
  obtain ⟨L, hL⟩ : ∃ L, L = s.data.toList := ⟨_, rfl⟩
  have hsz : s.size = L.length := by rw [hL, Array.length_toList]; rfl
  have hw0 : Below w.heap.size w ((w.alloc (.cells #[.int .i64 0] 3)).alloc (.cells #[.int .i64 0] 30)) := ((Below.refl _ w).alloc (Nat.le_refl _) _).alloc (by simp) _
  have b0 : Boxed ((w.alloc (.cells #[.int .i64 0] 3)).alloc (.cells #[.int .i64 0] 30)) w.heap.size 3 (.int .i64 0) := (Boxed.new w _ _).alloc _
  have b1 : Boxed ((w.alloc (.cells #[.int .i64 0] 3)).alloc (.cells #[.int .i64 0] 30)) (w.heap.size + 1) 30 (.int .i64 0) := by
    have := Boxed.new (w.alloc (.cells #[.int .i64 0] 3)) 30 (.int .i64 0)
    rwa [World.size_alloc] at this
  rw [← hL]
  have HW0 := Lib.hid hw0
  have HB0 := Lib.hid b0
  have HB1 := Lib.hid b1
  have HT := Lib.hid hT
  have HL := Lib.hid hL
  clear hw0 b0 b1 hT hL
  refine (callsIn_wide (n := 0)).1 ?_
  refine callsIn_of_wp_marks Tryz.func53 rfl trivial ?_ rfl
  simp only [Tryz.ntmps53, List.size_toArray, List.length_cons, List.length_nil, Nat.reduceAdd, Nat.reduceSub, Array.replicate_succ, Array.replicate_zero, List.push_toArray, List.append_toArray, List.nil_append, List.cons_append]
  gi_wp2_with fail
  have hsz1 : ((w.alloc (.cells #[.int .i64 0] 3)).alloc (.cells #[.int .i64 0] 30)).heap.size = w.heap.size + 2 := by simp
  generalize hW1 : ((w.alloc (.cells #[.int .i64 0] 3)).alloc (.cells #[.int .i64 0] 30)) = W1 at *
  clear hW1
  refine ⟨trivial, rfl, ?_⟩
  refine (callsIn_wide.2 (parts_c s W1)).mono ?_
  rintro e W2 ⟨rfl, hW2⟩
  have hb2 : Below W1.heap.size W1 W2 := by rw [hW2]; exact (Below.refl _ _).alloc (Nat.le_refl _) _
  have bs : Boxed W2 (w.heap.size + 2) 9 (.string s) := by rw [hW2, ← hsz1]; exact Boxed.new W1 _ _
  have hsz2 : W2.heap.size = w.heap.size + 3 := by rw [hW2]; simp [hsz1]
  have c0 : Boxed W2 w.heap.size 3 (.int .i64 0) := by rw [hW2]; exact HB0.out.alloc _
  have c1 : Boxed W2 (w.heap.size + 1) 30 (.int .i64 0) := by rw [hW2]; exact HB1.out.alloc _
  have hw2 : Below w.heap.size w W2 := HW0.out.trans (hb2.mono (by omega))
  have hT2 : Tabs W2 := HT.out.below hw2
  clear hW2
  gi_wp2_with fail
  refine range_law_s (gf := 69) (lb := #[.pointer (some ⟨w.heap.size + 2, 0, none⟩)]) rfl (enters_of Tryz.func69 (by kernel_rfl) rfl) (encs := encP) (xs := pts L)
    (keep := fun k => k = w.heap.size + 2 ∨ k = 0 ∨ k = 1)
    (fun W hW => by
      rw [HL.out]
      exact parts1_iter s W ((hW.cell (p := ⟨w.heap.size + 2, 0, none⟩) (by show w.heap.size + 2 < W2.heap.size; omega)).trans bs.cell) (hT2.below hW) hs)
    (fun _ => rfl) (by
      intro k hk
      rcases hk with e | e | e
      · omega
      · have := hT2.lt0; omega
      · have := hT2.lt1; omega)
    (fun R pre W => (∀ x ∈ pre, x.2 ≠ -1) ∧ Boxed W w.heap.size 3 (.int .i64 0) ∧ Boxed W (w.heap.size + 1) 30 (.int .i64 0) ∧ Below w.heap.size w W)
    (fun c R pre W => c = .ret ∧ isT L = false ∧ Boxed W w.heap.size 3 (.int .i64 (badAt L : Int)) ∧ Boxed W (w.heap.size + 1) 30 (.int .i64 61) ∧ Below w.heap.size w W)
    ?_ ?_ ?_ ?_ ?_ ?_
  · rintro R pre X Y row ⟨h1, h2, h3, h4⟩ hg hr
    refine ⟨h1, h2.kept hg (fun e => by have := (hr _ e.symm).1; omega), h3.kept hg (fun e => by have := (hr _ e.symm).1; omega), h4.grown hg h4.size (fun k e => by have := (hr k e).1; omega)⟩
  · rintro c R pre X Y row ⟨h0, h1, h2, h3, h4⟩ hg hr
    refine ⟨h0, h1, h2.kept hg (fun e => by have := (hr _ e.symm).1; omega), h3.kept hg (fun e => by have := (hr _ e.symm).1; omega), h4.grown hg h4.size (fun k e => by have := (hr k e).1; omega)⟩
  · intro R W hRP hW hr
    exact ⟨fun x hx => (List.not_mem_nil hx).elim, (hW.block _ (by omega)).trans c0, (hW.block _ (by omega)).trans c1, hw2.trans (hW.mono (by omega))⟩
  · rintro l R pre ⟨p, ch⟩ rest hx W K hK
    dsimp only [encP]
    have HK := Lib.hid hK
    have HX := Lib.hid hx
    clear hK hx
    gi_wp2
    refine HK.out _ ?_
    rintro W3 ⟨h1, h2, h3, h4⟩ hz3 hr3
    have HPRE := Lib.hid h1
    clear h1
    have hc2 := h2.cell
    have hf2 := h2.frozen
    have hc3 := h3.cell
    have hf3 := h3.frozen
    by_cases hch : ch = -1
    · subst hch
      obtain ⟨e1, e2⟩ := bad_of HX.out HPRE.out rfl
      dsimp only at e1
      subst e1
      gi_wp2
      refine ⟨(KeepsOthers.setCell _ _ _).trans (KeepsOthers.setCell _ _ _), rfl, e2, boxed_ne (h2.set _) (by omega) _, (boxed_ne h3 (by omega) _).set _, (h4.setCell (p := ⟨w.heap.size, 0, none⟩) (Nat.le_refl _) _).setCell (p := ⟨w.heap.size + 1, 0, none⟩) (by simp) _⟩
    · have hb1 : (ch == -1) = false := by rw [beq_eq_false_iff_ne]; exact hch
      gi_wp2
      refine ⟨KeepsOthers.refl _, KeptS.refl _ _ _, ?_, h2, h3, h4⟩
      intro x hx
      rw [List.mem_append, List.mem_singleton] at hx
      rcases hx with hx | rfl
      · exact HPRE.out x hx
      · exact hch
  · rintro D R W ⟨h1, h2, h3, h4⟩ hD hK
    have hall : isT L = true := pts_all h1
    have he : errT L = 0 := by unfold errT; rw [if_pos hall]
    have hbl : badAt L = L.length := badAt_text hall
    clear h1
    have hc2 := h2.cell
    have hf2 := h2.frozen
    have hc3 := h3.cell
    have hf3 := h3.frozen
    gi_wp2
    rw [he, hbl]
    have r1 := boxed_ne (i := 0) (h2.set (.int .i64 (L.length : Int))) (show w.heap.size ≠ w.heap.size + 1 by omega) (.int .i64 0)
    have r2 := (boxed_ne (i := 0) h3 (show w.heap.size + 1 ≠ w.heap.size by omega) (.int .i64 (L.length : Int))).set (.int .i64 0)
    have hK' : ((W.setCell ⟨w.heap.size, 0, none⟩ (.int .i64 (L.length : Int))).setCell ⟨w.heap.size + 1, 0, none⟩ (.int .i64 0)).heap[D]? = some (.deferred (some [])) := ((KeepsOthers.setCell _ _ _).trans (KeepsOthers.setCell _ _ _)).same D _ hK rfl
    have hB' := (h4.setCell (p := ⟨w.heap.size, 0, none⟩) (Nat.le_refl _) (.int .i64 (L.length : Int))).setCell (p := ⟨w.heap.size + 1, 0, none⟩) (by simp) (.int .i64 0)
    generalize ((W.setCell ⟨w.heap.size, 0, none⟩ (.int .i64 (L.length : Int))).setCell ⟨w.heap.size + 1, 0, none⟩ (.int .i64 0)) = W3 at *
    have hDl := (Array.getElem?_eq_some_iff.1 hK).1
    have k1 : Boxed (W3.putObj D (.deferred none)) w.heap.size 3 (.int .i64 (L.length : Int)) := r1.kept (only_putS _ _ _) (fun e => by injection e; omega)
    have k2 : Boxed (W3.putObj D (.deferred none)) (w.heap.size + 1) 30 (.int .i64 0) := r2.kept (only_putS _ _ _) (fun e => by injection e; omega)
    refine ⟨by simp, .inl ⟨_, _, rfl, run_takeDeferred hK', ?_⟩⟩
    refine ⟨_, by simp [results, Tryz.results53, go_sem, k1.cell, k2.cell], rfl, ?_⟩
    exact hB'.grown (only_putS _ _ _) hB'.size (fun k e => by injection e; omega)
  · rintro D c R pre W ⟨rfl, h1, h2, h3, h4⟩ hD hK
    have he : errT L = 61 := by unfold errT; rw [h1]; rfl
    gi_wp2
    rw [he]
    have r1 := h2
    have r2 := h3
    have hK' := hK
    have hDl := (Array.getElem?_eq_some_iff.1 hK).1
    have k1 : Boxed (W.putObj D (.deferred none)) w.heap.size 3 (.int .i64 (badAt L : Int)) := r1.kept (only_putS _ _ _) (fun e => by injection e; omega)
    have k2 : Boxed (W.putObj D (.deferred none)) (w.heap.size + 1) 30 (.int .i64 61) := r2.kept (only_putS _ _ _) (fun e => by injection e; omega)
    refine ⟨by simp, .inl ⟨_, _, rfl, run_takeDeferred hK', ?_⟩⟩
    refine ⟨_, by simp [results, Tryz.results53, go_sem, k1.cell, k2.cell], rfl, ?_⟩
    exact h4.grown (only_putS _ _ _) h4.size (fun k e => by injection e; omega)
end Go.Proofs.YtpmdcahomkdfmaaGreatDoor
