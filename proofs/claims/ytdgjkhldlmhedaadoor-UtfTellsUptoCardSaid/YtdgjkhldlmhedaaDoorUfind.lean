/-
  Contract of utf.Find.
-/
import Derived.Test.YtdgjkhldlmhedaaDoorUmatches
set_option linter.unusedVariables false
set_option linter.unusedSimpArgs false
namespace Go.Proofs.YtdgjkhldlmhedaaDoor
open Go.RowKit Go.Lib
attribute [local go_sem] Oper.semAt_some

/-- How many characters stand ahead of an octet; where T's characters stand in S. -/
def cntS (S : List UInt8) (p : Nat) : Nat := (pcs (S.take p)).length
def findN (S T : List UInt8) : List Nat := (occ S T).map (cntS S)
theorem cntS_at {a : List Int} (h : ∀ c ∈ a, isCh c) {i : Nat} (hi : i ≤ a.length) : cntS (enc a) (enc (a.take i)).length = i := by
  unfold cntS
  rw [enc_take, pcs_text (fun c hc => h c (List.mem_of_mem_take hc)), List.length_map, List.length_take]
  omega
/-- From one place to the next, between characters: as many more as stand between. -/
theorem cntS_step {a : List Int} (h : ∀ c ∈ a, isCh c) {i j : Nat} (hij : i ≤ j) (hj : j ≤ a.length) :
    i + (pcs (((enc a).take (enc (a.take j)).length).drop (enc (a.take i)).length)).length = j := by
  rw [enc_take]
  have e : (a.take j).take i = a.take i := by rw [List.take_take]; congr 1; omega
  have h1 := enc_drop (a.take j) i
  rw [e] at h1
  rw [h1, pcs_text (fun c hc => h c (List.mem_of_mem_take (List.mem_of_mem_drop hc))), List.length_map, List.length_drop, List.length_take]
  omega
theorem occK_mem {S T : List UInt8} {k p : Nat} (h : p ∈ occK S T k) : ∃ i, i < k ∧ T <:+ S.take (i + 1) ∧ p = i + 1 - T.length := by
  unfold occK at h
  rw [List.mem_map] at h
  obtain ⟨i, hi, rfl⟩ := h
  rw [List.mem_filter, List.mem_range, List.isSuffixOf_iff_suffix] at hi
  exact ⟨i, hi.1, hi.2, rfl⟩
/-- Where T stands by octets, it stands. -/
theorem suffix_prefix {S T : List UInt8} {i : Nat} (hi : i < S.length) (h : T <:+ S.take (i + 1)) : T <+: S.drop (i + 1 - T.length) := by
  obtain ⟨q, hq⟩ := h
  have hl : q.length + T.length = i + 1 := by
    have := congrArg List.length hq
    rw [List.length_append, List.length_take] at this; omega
  refine ⟨S.drop (i + 1), ?_⟩
  rw [show i + 1 - T.length = q.length by omega]
  conv => rhs; rw [← List.take_append_drop (i + 1) S, ← hq]
  rw [List.append_assoc, List.drop_left]
/-- Each place is a character's. -/
theorem occ_char {a b : List Int} (ha : ∀ c ∈ a, isCh c) (hb : ∀ c ∈ b, isCh c) (hne : b ≠ []) {p : Nat} (h : p ∈ occ (enc a) (enc b)) : ∃ i, i < a.length ∧ p = (enc (a.take i)).length := by
  unfold occ at h
  by_cases e : enc b = []
  · rw [if_pos e] at h; cases h
  · rw [if_neg e] at h
    obtain ⟨i, hi, hs, rfl⟩ := occK_mem h
    obtain ⟨j, h1, h2, _⟩ := (stands_iff ha hb hne _).1 (suffix_prefix hi hs)
    exact ⟨j, h2, h1⟩
theorem occK_sorted (S T : List UInt8) : ∀ k, (occK S T k).Pairwise (· < ·) ∧ ∀ p ∈ occK S T k, p < k + 1 - T.length := by
  intro k
  induction k with
  | zero => exact ⟨List.Pairwise.nil, fun p h => by cases h⟩
  | succ k ih =>
    by_cases h : T <:+ S.take (k + 1)
    · have hl := h.length_le
      rw [List.length_take] at hl
      rw [occK_hit h]
      refine ⟨List.pairwise_append.2 ⟨ih.1, List.pairwise_singleton _ _, fun x hx y hy => ?_⟩, fun p hp => ?_⟩
      · rw [List.mem_singleton] at hy; rw [hy]; exact ih.2 x hx
      · rw [List.mem_append, List.mem_singleton] at hp
        rcases hp with hp | rfl
        · have := ih.2 p hp; omega
        · omega
    · rw [occK_miss h]
      exact ⟨ih.1, fun p hp => by have := ih.2 p hp; omega⟩

theorem mk8_mid (l : List UInt8) (p q : Nat) : (mk8 l).extract p q = mk8 ((l.take q).drop p) := by
  have h : ((mk8 l).extract p q).data.toList = (l.take q).drop p := by
    rw [ByteArray.data_extract, Array.toList_extract]
    show List.extract l p q = _
    rw [List.extract_eq_take_drop, List.drop_take]
  rw [← mk8_of ((mk8 l).extract p q), h]
/-- What a round of Find adds up. -/
theorem find_round {a b : List Int} (ha : ∀ c ∈ a, isCh c) (hb : ∀ c ∈ b, isCh c) (hne : b ≠ []) {pre rest : List Nat} {x : Nat} (h : occ (enc a) (enc b) = pre ++ x :: rest) :
    pre.getLast?.getD 0 ≤ x ∧ x ≤ (enc a).length ∧ cntS (enc a) (pre.getLast?.getD 0) + (pcs (((enc a).take x).drop (pre.getLast?.getD 0))).length = cntS (enc a) x := by
  have hx : x ∈ occ (enc a) (enc b) := by rw [h]; simp
  obtain ⟨j, hj, ej⟩ := occ_char ha hb hne hx
  have hle : ∀ i : Nat, i ≤ a.length → (enc (a.take i)).length ≤ (enc a).length := by
    intro i hi
    have := congrArg List.length (enc_take a i)
    rw [List.length_take] at this; omega
  have hi : ∃ i, i ≤ j ∧ pre.getLast?.getD 0 = (enc (a.take i)).length := by
    rcases List.eq_nil_or_concat pre with rfl | ⟨q, y, rfl⟩
    · exact ⟨0, Nat.zero_le _, rfl⟩
    · rw [List.concat_eq_append] at h ⊢
      have hy : y ∈ occ (enc a) (enc b) := by rw [h]; simp
      obtain ⟨i, hi, ei⟩ := occ_char ha hb hne hy
      have hlast : (q ++ [y]).getLast?.getD 0 = y := by simp
      refine ⟨i, ?_, by rw [hlast]; exact ei⟩
      have hyx : y < x := by
        have hs : (occ (enc a) (enc b)).Pairwise (· < ·) := by
          unfold occ
          split
          · exact List.Pairwise.nil
          · exact (occK_sorted _ _ _).1
        rw [h, List.append_assoc] at hs
        have := (List.pairwise_append.1 hs).2.1
        rw [List.singleton_append, List.pairwise_cons] at this
        exact this.1 x (by simp)
      rcases Nat.lt_or_ge j i with h1 | h1
      · exfalso
        have := enc_take_len (a := a) h1 (by omega)
        omega
      · exact h1
  obtain ⟨i, hij, ei⟩ := hi
  rw [ei, ej]
  have hmono : (enc (a.take i)).length ≤ (enc (a.take j)).length := by
    rcases Nat.lt_or_ge i j with h1 | h1
    · have := enc_take_len (a := a) h1 (by omega); omega
    · have : i = j := by omega
      rw [this]; exact Nat.le_refl _
  refine ⟨hmono, hle j (by omega), ?_⟩
  rw [cntS_at ha (by omega), cntS_at ha (by omega)]
  exact cntS_step ha hij (by omega)

set_option maxRecDepth 100000 in
set_option maxHeartbeats 2000000 in
theorem Find_ok (a b : List Int) (w : World) (hT : Tabs w) (ha : ∀ c ∈ a, isCh c) (hb : ∀ c ∈ b, isCh c) (hs : (enc a).length ≤ 16777216) (ht : (enc b).length ≤ 16777216) :
    Calls Tryd.prog 17 #[.string (mk8 (enc a)), .string (mk8 (enc b))] w fun e w' => ∃ A n c, e = .returned (.tuple #[.slice A n c, .int .i64 0]) ∧ RowV w' w.heap.size 3 A n c (nz (findN (enc a) (enc b))) ∧ Below w.heap.size w w' := by
  have hC1 := fun V (h : Tabs V) => Check_c (mk8 (enc a)) V h (by rw [mk8_size]; omega)
  have hC2 := fun V (h : Tabs V) => Check_c (mk8 (enc b)) V h (by rw [mk8_size]; omega)
  rw [mk8_L, show errT (enc a) = 0 by unfold errT; rw [if_pos (isT_enc ha)]] at hC1
  rw [mk8_L, show errT (enc b) = 0 by unfold errT; rw [if_pos (isT_enc hb)]] at hC2
  generalize badAt (enc a) = B1 at hC1
  generalize badAt (enc b) = B2 at hC2
  have hb0 : Below w.heap.size w ((w.alloc (.cells #[.string (mk8 (enc a))] 9)).alloc (.cells #[.string (mk8 (enc a)), .string (mk8 (enc b))] 9)) := ((Below.refl _ w).alloc (Nat.le_refl _) _).alloc (by simp) _
  have bx : Boxed ((w.alloc (.cells #[.string (mk8 (enc a))] 9)).alloc (.cells #[.string (mk8 (enc a)), .string (mk8 (enc b))] 9)) w.heap.size 9 (.string (mk8 (enc a))) := (Boxed.new w _ _).alloc _
  have hlit := World.alloc_heap_new (w.alloc (.cells #[.string (mk8 (enc a))] 9)) (.cells #[.string (mk8 (enc a)), .string (mk8 (enc b))] 9)
  rw [World.size_alloc] at hlit
  have HC1 := Lib.hid hC1
  have HC2 := Lib.hid hC2
  have HB0 := Lib.hid hb0
  have BX := Lib.hid bx
  have HLIT := Lib.hid hlit
  have HT := Lib.hid hT
  clear hC1 hC2 hb0 bx hlit hT
  have hc0 : (w.alloc (.cells #[.string (mk8 (enc a))] 9)).cell? ⟨w.heap.size, 0, none⟩ = some (.string (mk8 (enc a))) := (Boxed.new w 9 (.string (mk8 (enc a)))).cell
  refine (callsIn_wide (n := 0)).1 ?_
  refine callsIn_of_wp_marks Tryd.func17 rfl trivial ?_ rfl
  simp only [Tryd.ntmps17, List.size_toArray, List.length_cons, List.length_nil, Nat.reduceAdd, Nat.reduceSub, Array.replicate_succ, Array.replicate_zero, List.push_toArray, List.append_toArray, List.nil_append, List.cons_append]
  gi_wp2
  obtain ⟨W1, hW1⟩ : ∃ W1, ((w.alloc (.cells #[.string (mk8 (enc a))] 9)).alloc (.cells #[.string (mk8 (enc a)), .string (mk8 (enc b))] 9)) = W1 := ⟨_, rfl⟩
  have hz1 : W1.heap.size = w.heap.size + 2 := by rw [← hW1]; simp
  rw [hW1] at HB0 BX HLIT ⊢
  clear hW1 hc0
  gi_loopw [18] (fun i wr => ∃ k : Nat, k ≤ 2 ∧ i = .int .i64 (k : Int) ∧ Below W1.heap.size W1 wr) (fun i _ => 2 - (RowKit.intOf i).toNat)
  case atStart => exact ⟨0, by omega, rfl, Below.refl _ _⟩
  case round =>
    obtain ⟨k, hk, rfl, hbel⟩ := hrel
    have hzr := hbel.size
    have hl1 : wr.heap[w.heap.size + 1]? = some (.cells #[.string (mk8 (enc a)), .string (mk8 (enc b))] 9) := (hbel.block _ (by omega)).trans HLIT.out
    have hbxr : Boxed wr w.heap.size 9 (.string (mk8 (enc a))) := (hbel.block _ (by omega)).trans BX.out
    have hbw : Below w.heap.size w wr := HB0.out.trans (hbel.mono (by omega))
    have hTr : Tabs wr := HT.out.below hbw
    have hcc0 : wr.cell? ⟨w.heap.size + 1, 0, none⟩ = some (.string (mk8 (enc a))) := by unfold World.cell?; rw [hl1]; rfl
    have hcc1 : wr.cell? ⟨w.heap.size + 1, 1, none⟩ = some (.string (mk8 (enc b))) := by unfold World.cell?; rw [hl1]; rfl
    by_cases h0 : k = 0
    · subst h0
      have HTR := Lib.hid hTr
      have HBEL := Lib.hid hbel
      clear hTr hbel hl1
      gi_wp2_with fail
      refine ⟨trivial, rfl, ?_⟩
      refine (callsIn_wide.2 (HC1.out wr HTR.out)).mono ?_
      rintro e w2 ⟨rfl, hb2⟩
      have HB2 := Lib.hid hb2
      clear hb2
      gi_wp2
      exact ⟨⟨1, by omega, by go_num, HBEL.out.trans (HB2.out.mono HBEL.out.size)⟩, by simp [RowKit.intOf]⟩
    by_cases h1 : k = 1
    · subst h1
      have HTR := Lib.hid hTr
      have HBEL := Lib.hid hbel
      clear hTr hbel hl1
      gi_wp2_with fail
      refine ⟨trivial, rfl, ?_⟩
      refine (callsIn_wide.2 (HC2.out wr HTR.out)).mono ?_
      rintro e w2 ⟨rfl, hb2⟩
      have HB2 := Lib.hid hb2
      clear hb2
      gi_wp2
      exact ⟨⟨2, by omega, by go_num, HBEL.out.trans (HB2.out.mono HBEL.out.size)⟩, by simp [RowKit.intOf]⟩
    obtain rfl : k = 2 := by omega
    clear hcc0 hcc1 hl1 h0 h1
    have hcb3 := (((hbxr.alloc (.cells #[.slice none 0 0] 27)).alloc (.cells #[.int .i64 0] 3)).alloc (.cells #[.int .i64 0] 3)).cell
    have hcb := hbxr.cell
    obtain ⟨b0, hb0⟩ : ∃ b0, b0 = wr.heap.size := ⟨_, rfl⟩
    have HTR := Lib.hid hTr
    have HBEL := Lib.hid hbel
    have HBW := Lib.hid hbw
    have HBX := Lib.hid hbxr
    have HBB := Lib.hid hb0
    clear hTr hbel hbw hbxr HC1 HC2 hb0
    gi_wp2_with fail
    refine ⟨trivial, rfl, ?_⟩
    obtain ⟨W3, hW3⟩ : ∃ W3, (((wr.alloc (.cells #[.slice none 0 0] 27)).alloc (.cells #[.int .i64 0] 3)).alloc (.cells #[.int .i64 0] 3)) = W3 := ⟨_, rfl⟩
    have hz3 : W3.heap.size = wr.heap.size + 3 := by rw [← hW3]; simp
    have hB3 : Below wr.heap.size wr W3 := by rw [← hW3]; exact (((Below.refl _ _).alloc (Nat.le_refl _) _).alloc (by simp) _).alloc (by simp; omega) _
    have x0 : Boxed W3 wr.heap.size 27 (.slice none 0 0) := by rw [← hW3]; exact ((Boxed.new wr _ _).alloc _).alloc _
    have x1 : Boxed W3 (wr.heap.size + 1) 3 (.int .i64 0) := by
      rw [← hW3]
      have := Boxed.new (wr.alloc (.cells #[.slice none 0 0] 27)) 3 (.int .i64 0)
      rw [World.size_alloc] at this
      exact this.alloc _
    have x2 : Boxed W3 (wr.heap.size + 2) 3 (.int .i64 0) := by
      rw [← hW3]
      have := Boxed.new ((wr.alloc (.cells #[.slice none 0 0] 27)).alloc (.cells #[.int .i64 0] 3)) 3 (.int .i64 0)
      simp only [World.size_alloc, Nat.add_assoc, Nat.reduceAdd] at this
      exact this
    rw [hW3]
    clear hW3 hcb3
    refine (callsIn_wide.2 (matches_c (mk8 (enc a)) (mk8 (enc b)) W3)).mono ?_
    rintro e W4 ⟨rfl, hW4⟩
    rw [hz3]
    have hz4 : W4.heap.size = wr.heap.size + 5 := by rw [hW4]; simp [hz3]
    have hB4 : Below wr.heap.size wr W4 := by rw [hW4]; exact (hB3.alloc hB3.size _).alloc (by simp; omega) _
    have y0 : Boxed W4 wr.heap.size 27 (.slice none 0 0) := by rw [hW4]; exact (x0.alloc _).alloc _
    have y1 : Boxed W4 (wr.heap.size + 1) 3 (.int .i64 0) := by rw [hW4]; exact (x1.alloc _).alloc _
    have y2 : Boxed W4 (wr.heap.size + 2) 3 (.int .i64 0) := by rw [hW4]; exact (x2.alloc _).alloc _
    have y3 : Boxed W4 (wr.heap.size + 3) 9 (.string (mk8 (enc a))) := by rw [hW4, ← hz3]; exact (Boxed.new W3 _ _).alloc _
    have y4 : Boxed W4 (wr.heap.size + 3 + 1) 9 (.string (mk8 (enc b))) := by
      rw [hW4, ← hz3]
      have := Boxed.new (W3.alloc (.cells #[.string (mk8 (enc a))] 9)) 9 (.string (mk8 (enc b)))
      rwa [World.size_alloc] at this
    have ys : Boxed W4 w.heap.size 9 (.string (mk8 (enc a))) := (hB4.block _ HBX.out.lt).trans HBX.out
    clear hW4 x0 x1 x2
    gi_wp2_with fail
    refine range_law_s (gf := 47) (lb := #[.pointer (some ⟨wr.heap.size + 3 + 1, 0, none⟩), .pointer (some ⟨wr.heap.size + 3, 0, none⟩)]) rfl (enters_of Tryd.func47 (by kernel_rfl) rfl) (encs := encN) (xs := occ (enc a) (enc b))
      (keep := fun k => k = wr.heap.size + 3 + 1 ∨ k = wr.heap.size + 3)
      (fun W hW => matches1_iter (enc a) (enc b) W ((hW.cell (p := ⟨wr.heap.size + 3 + 1, 0, none⟩) (by show wr.heap.size + 3 + 1 < W4.heap.size; omega)).trans y4.cell) ((hW.cell (p := ⟨wr.heap.size + 3, 0, none⟩) (by show wr.heap.size + 3 < W4.heap.size; omega)).trans y3.cell) (by omega) (by omega))
      (fun _ => rfl) (by
        intro k hk
        rcases hk with e | e <;> omega)
      (fun R pre W => ∃ A n c, Boxed W wr.heap.size 27 (.slice A n c) ∧ Boxed W (wr.heap.size + 1) 3 (.int .i64 ((pre.getLast?.getD 0 : Nat) : Int)) ∧ Boxed W (wr.heap.size + 2) 3 (.int .i64 ((cntS (enc a) (pre.getLast?.getD 0) : Nat) : Int)) ∧ Boxed W w.heap.size 9 (.string (mk8 (enc a))) ∧ Boxed W (wr.heap.size + 3) 9 (.string (mk8 (enc a))) ∧ Boxed W (wr.heap.size + 3 + 1) 9 (.string (mk8 (enc b))) ∧ RowV W wr.heap.size 3 A n c (nz (pre.map (cntS (enc a)))) ∧ Below wr.heap.size wr W ∧ (∀ g, A = some ⟨g, 0, none⟩ → (∀ k, R k → g ≠ k) ∧ wr.heap.size + 5 ≤ g) ∧ ∀ k, R k → wr.heap.size + 5 ≤ k)
      (fun _ _ _ _ => False)
      ?_ ?_ ?_ ?_ ?_ ?_
    · rintro R pre X Y row ⟨A, n, c, h1, h2, h3, h4, h5, h6, h7, h8, h9, h10⟩ hg hr
      have hh : ∀ B, B < W4.heap.size → some B ≠ row := fun B hB e => by have := (hr _ e.symm).1; omega
      have hwl := HBX.out.lt
      exact ⟨A, n, c, h1.kept hg (hh _ (by omega)), h2.kept hg (hh _ (by omega)), h3.kept hg (hh _ (by omega)), h4.kept hg (hh _ (by omega)), h5.kept hg (hh _ (by omega)), h6.kept hg (hh _ (by omega)), h7.grown hg (h7.not_row hr), h8.grown hg h8.size (fun k e => by have := (hr k e).1; omega), h9, h10⟩
    · intro c R pre X Y row h; exact h.elim
    · intro R W hRP hW hr
      have hwl := HBX.out.lt
      exact ⟨none, 0, 0, (hW.block _ (by omega)).trans y0, (hW.block _ (by omega)).trans y1, by
        have e : cntS (enc a) 0 = 0 := by unfold cntS; rw [List.take_zero]; rfl
        show Boxed W _ _ (.int .i64 ((cntS (enc a) 0 : Nat) : Int))
        rw [e]
        exact (hW.block _ (by omega)).trans y2, (hW.block _ (by omega)).trans ys, (hW.block _ (by omega)).trans y3, (hW.block _ (by omega)).trans y4, RowV.nil _ _ _, hB4.trans (hW.mono (by omega)), (fun g e => by cases e), (fun k hk => by have := (hr k hk).1; omega)⟩
    · rintro l R pre x rest hx W K hK
      have HX := Lib.hid hx
      dsimp only [encN]
      have HK := Lib.hid hK
      clear hK hx
      gi_wp2
      refine HK.out _ ?_
      rintro W5 ⟨A, n, c, h1, h2, h3, h4, h5, h6, h7, h8, h9, h10⟩ hz5 hr5
      have hne : b ≠ [] := by
        rintro rfl
        have h0 := HX.out
        rw [show occ (enc a) (enc []) = [] by unfold occ; rw [if_pos enc_nil]] at h0
        simp at h0
      obtain ⟨hlx, hxs, hsum⟩ := find_round ha hb hne HX.out
      clear hne
      have hcs : cntS (enc a) x ≤ (enc a).length := by
        unfold cntS
        have h1 := pcs_len ((enc a).take x)
        rw [List.length_take] at h1; omega
      have hnl : n ≤ 16777216 := by
        have e1 := h7.len
        rw [nz_length, List.length_map] at e1
        have e2 := congrArg List.length HX.out
        rw [List.length_append, List.length_cons] at e2
        have e3 : (occ (enc a) (enc b)).length ≤ (enc a).length := by
          unfold occ
          split
          · exact Nat.zero_le _
          · unfold occK
            rw [List.length_map]
            have := List.length_filter_le (fun i => (enc b).isSuffixOf ((enc a).take (i + 1))) (List.range (enc a).length)
            rw [List.length_range] at this
            exact this
        omega
      obtain ⟨L0, hL0⟩ : ∃ L0, L0 = pre.getLast?.getD 0 := ⟨_, rfl⟩
      obtain ⟨PL, hPL⟩ : ∃ PL, PL = cntS (enc a) L0 := ⟨_, rfl⟩
      obtain ⟨PX, hPX⟩ : ∃ PX, PX = cntS (enc a) x := ⟨_, rfl⟩
      obtain ⟨M, hM⟩ : ∃ M, M = ((enc a).take x).drop L0 := ⟨_, rfl⟩
      obtain ⟨q, hq⟩ : ∃ q, q = (pcs M).length := ⟨_, rfl⟩
      rw [← hL0] at h2 h3 hlx hsum
      rw [← hM] at hsum
      rw [← hPL] at h3 hsum
      rw [← hq, ← hPX] at hsum
      rw [← hPX] at hcs
      have hRC := fun V => rcount_c (mk8 M) V (by rw [mk8_size, hM, List.length_drop, List.length_take]; omega)
      rw [mk8_L, ← hq] at hRC
      have hex : (mk8 (enc a)).extract L0 x = mk8 M := by rw [mk8_mid, hM]
      have hzs : (mk8 (enc a)).size = (enc a).length := mk8_size _
      have hwr : IntKind.i64.wrap ((PL : Int) + (q : Int)) = (PX : Int) := by rw [IntWalk.i64_in _ (by omega)]; omega
      have hc2 := h2.cell
      have hc3 := h3.cell
      have hf3 := h3.frozen
      have hc4 := h4.cell
      have hp2 := h2.lt
      have hp3 := h3.lt
      have hp4 := h4.lt
      have HRC := Lib.hid hRC
      have HPX := Lib.hid hPX
      have H1 := Lib.hid h1
      have H2 := Lib.hid h2
      have H3 := Lib.hid h3
      have H4 := Lib.hid h4
      have H5 := Lib.hid h5
      have H6 := Lib.hid h6
      have H7 := Lib.hid h7
      have H8 := Lib.hid h8
      have H9 := Lib.hid h9
      have H10 := Lib.hid h10
      clear hRC hPX h1 h2 h3 h4 h5 h6 h7 h8 h9 h10 hM hq hPL hL0 hsum
      have hmx : Tryd.prog.follows .mixedOrders = true := by kernel_rfl
      gi_wp2
      gi_region_with_o (first | (refine ⟨trivial, rfl, ?_⟩; refine (callsIn_wide.2 (HRC.out _)).mono ?_; rintro e w6 ⟨rfl, hb6⟩; have g2 : w6.cell? ⟨wr.heap.size + 1, 0, none⟩ = some (.int .i64 (L0 : Int)) := (hb6.cell (p := ⟨wr.heap.size + 1, 0, none⟩) hp2).trans hc2; have g3 : w6.cell? ⟨wr.heap.size + 2, 0, none⟩ = some (.int .i64 (PL : Int)) := (hb6.cell (p := ⟨wr.heap.size + 2, 0, none⟩) hp3).trans hc3; have k3 : w6.frozen? ⟨wr.heap.size + 2, 0, none⟩ = false := (World.frozen?_of_block (hb6.block _ hp3)).trans hf3))
      all_goals have zz : ∀ B t v, Boxed W5 B t v → Boxed w6 B t v := fun B t v h => (hb6.block _ h.lt).trans h
      all_goals have z0 := zz _ _ _ H1.out
      all_goals have z1 := zz _ _ _ H2.out
      all_goals have z2 := zz _ _ _ H3.out
      all_goals have zr : RowV w6 wr.heap.size 3 A n c (nz (pre.map (cntS (enc a)))) := H7.out.drew.below hb6 (Nat.le_refl _)
      all_goals have u1 := boxed_ne (i := 0) z1 (show wr.heap.size + 1 ≠ wr.heap.size + 2 by omega) (.int .i64 (PX : Int))
      all_goals have uc1 := u1.cell
      all_goals have uf1 := u1.frozen
      all_goals have v0 := boxed_ne (i := 0) (boxed_ne (i := 0) z0 (show wr.heap.size ≠ wr.heap.size + 2 by omega) (.int .i64 (PX : Int))) (show wr.heap.size ≠ wr.heap.size + 1 by omega) (.int .i64 (x : Int))
      all_goals have vc0 := v0.cell
      all_goals have v2 := boxed_ne (i := 0) (z2.set (.int .i64 (PX : Int))) (show wr.heap.size + 2 ≠ wr.heap.size + 1 by omega) (.int .i64 (x : Int))
      all_goals have vc2 := v2.cell
      all_goals have vr := (zr.setNe (p := ⟨wr.heap.size + 2, 0, none⟩) (fun g e => by have := (H9.out g e).2; show g ≠ wr.heap.size + 2; omega) (.int .i64 (PX : Int))).setNe (p := ⟨wr.heap.size + 1, 0, none⟩) (fun g e => by have := (H9.out g e).2; show g ≠ wr.heap.size + 1; omega) (.int .i64 (x : Int))
      all_goals have hro : ∀ o, (((w6.setCell ⟨wr.heap.size + 2, 0, none⟩ (.int .i64 (PX : Int))).setCell ⟨wr.heap.size + 1, 0, none⟩ (.int .i64 (x : Int))).alloc o).ownsRow wr.heap.size 3 1 (.slice A n c) n (nz (pre.map (cntS (enc a)))) := fun o => (vr.alloc o).own
      all_goals have hbx : ∀ o X, (((w6.setCell ⟨wr.heap.size + 2, 0, none⟩ (.int .i64 (PX : Int))).setCell ⟨wr.heap.size + 1, 0, none⟩ (.int .i64 (x : Int))).alloc o).grownBy X (Value.slice A n c).ownBlock → Boxed X wr.heap.size 27 (.slice A n c) := fun o X hg => (v0.alloc o).kept hg (fun e => by have := (H9.out _ (vr.ownB e)).2; omega)
      all_goals have hs6 : W5.heap.size ≤ w6.heap.size := hb6.size
      all_goals have HB6 := Lib.hid hb6
      all_goals have HVR := Lib.hid vr
      all_goals clear hb6 zz z0 zr vr g2 g3 k3
      all_goals obtain ⟨i0, hi, hq0, hq1, hq2⟩ := info_parts info64
      all_goals gi_wp2_with (gi_at_builtin; refine wpListIn_append_own_at _ rfl (.tmp 43) (.tmp 45) _ rfl wr.heap.size 3 i0 (.int .i64 0) 1 8 Tryd.underlying27 hi hq0 hq1 hq2 rfl (by decide) (.slice A n c) n (nz (pre.map (cntS (enc a)))) rfl (hro _) ⟨w6.heap.size, 0, none⟩ 1 1 [.int .i64 (PX : Int)] rfl rfl (cell_new1 _ _ _ _ (by simp)) (by simp [Value.oneCell']) (by unfold maxLen; omega) (by omega) (by simp; omega) ?_; intro v' w7 hown7 hg7 _ hat7; have kb := hbx _ _ hg7; obtain ⟨g', cap', rfl⟩ := ownsRow_succ hown7; have hc7 := kb.cell; have hf7 := kb.frozen)
      all_goals (
        have hz7 : w6.heap.size ≤ w7.heap.size := by have := hg7.size; simp at this; omega
        have hg' : A = some ⟨g', 0, none⟩ ∨ w6.heap.size ≤ g' := by
          rcases hat7 with h | h
          · left; exact HVR.out.ownB (by rw [← h]; rfl)
          · right; simp [Value.ownBlock] at h; omega
        have hgk : (∀ k, R k → g' ≠ k) ∧ wr.heap.size + 5 ≤ g' := by
          rcases hg' with h | h
          · exact H9.out _ h
          · exact ⟨fun k hk => by have := hr5 k hk; omega, by omega⟩
        have hrow7 : RowV w7 wr.heap.size 3 (some ⟨g', 0, none⟩) (n + 1) cap' (nz (pre.map (cntS (enc a))) ++ [.int .i64 (PX : Int)]) := ⟨by rw [List.length_append, HVR.out.len]; rfl, hown7⟩
        have up7 : ∀ B t v, B < w6.heap.size → B ≠ wr.heap.size + 1 → B ≠ wr.heap.size + 2 → B < wr.heap.size + 5 → Boxed W5 B t v → Boxed w7 B t v := fun B t v hB h1 h2 h3 h => by
          have e1 : Boxed w6 B t v := (HB6.out.block _ h.lt).trans h
          have e2 := boxed_ne (i := 0) (boxed_ne (i := 0) e1 h2 (.int .i64 (PX : Int))) h1 (.int .i64 (x : Int))
          exact (e2.alloc _).kept hg7 (fun e => by have := (H9.out _ (HVR.out.ownB e)).2; omega)
        have hk1 : Boxed w7 (wr.heap.size + 1) 3 (.int .i64 (x : Int)) := ((u1.set (.int .i64 (x : Int))).alloc _).kept hg7 (fun e => by have := (H9.out _ (HVR.out.ownB e)).2; omega)
        have hk2 : Boxed w7 (wr.heap.size + 2) 3 (.int .i64 (PX : Int)) := (v2.alloc _).kept hg7 (fun e => by have := (H9.out _ (HVR.out.ownB e)).2; omega)
        have hwl := HBX.out.lt
        have hbelow : Below wr.heap.size wr w7 := by
          have e1 : Below wr.heap.size wr w6 := (only_drewF H8.out).trans (HB6.out.mono (by have := H8.out.size; exact this))
          exact HVR.out.below_append ((e1.setCell (p := ⟨wr.heap.size + 2, 0, none⟩) (by simp) _).setCell (p := ⟨wr.heap.size + 1, 0, none⟩) (by simp) _) (by simp; omega) hg7
        refine ⟨?_, ⟨by simp; omega, ?_⟩, some ⟨g', 0, none⟩, n + 1, cap', kb.set _, ?_, ?_, boxed_ne (up7 _ _ _ (by omega) (by omega) (by omega) (by omega) H4.out) (by omega) _, boxed_ne (up7 _ _ _ (by omega) (by omega) (by omega) (by omega) H5.out) (by omega) _, boxed_ne (up7 _ _ _ (by omega) (by omega) (by omega) (by omega) H6.out) (by omega) _, ?_, hbelow.setCell (p := ⟨wr.heap.size, 0, none⟩) (Nat.le_refl _) _, ?_, H10.out⟩
        · exact (((((KeepsOthers.drew W5).trans (KeepsOthers.of_grownBy (below_grew HB6.out) (fun j o e _ => by cases e))).trans (KeepsOthers.setCell _ _ _)).trans (KeepsOthers.setCell _ _ _)).trans (HVR.out.others hg7)).trans (KeepsOthers.setCell _ _ _)
        · intro k hk
          have hkb : k < W5.heap.size ∧ wr.heap.size + 3 ≤ k ∧ some k ≠ (Value.slice A n c).ownBlock := by
            rcases hk with (e | e) | e
            · exact ⟨by omega, by omega, fun q => by have := (H9.out _ (HVR.out.ownB q)).2; omega⟩
            · exact ⟨by omega, by omega, fun q => by have := (H9.out _ (HVR.out.ownB q)).2; omega⟩
            · have h1 := hr5 k e
              have h2 := H10.out k e
              exact ⟨by omega, by omega, fun q => (H9.out _ (HVR.out.ownB q)).1 k e rfl⟩
          rw [Below.heap_setCell _ _ _ _ (show k ≠ wr.heap.size by omega), hg7.block k (by simp; omega) hkb.2.2, Below.heap_alloc _ _ _ (by simp; omega), Below.heap_setCell _ _ _ _ (show k ≠ wr.heap.size + 1 by omega), Below.heap_setCell _ _ _ _ (show k ≠ wr.heap.size + 2 by omega)]
          exact HB6.out.block _ hkb.1
        · rw [show (pre ++ [x]).getLast?.getD 0 = x by simp]
          exact boxed_ne hk1 (by omega) _
        · rw [show (pre ++ [x]).getLast?.getD 0 = x by simp, ← HPX.out]
          exact boxed_ne hk2 (by omega) _
        · have e1 : nz ((pre ++ [x]).map (cntS (enc a))) = nz (pre.map (cntS (enc a))) ++ [.int .i64 (PX : Int)] := by
            rw [HPX.out]; unfold nz zs64; simp
          rw [e1]
          exact hrow7.setNe (p := ⟨wr.heap.size, 0, none⟩) (fun g e => hrow7.ne_box kb ne_types.1 g e) _
        · intro g e
          injection e with e
          injection e with e
          subst e
          exact hgk)
    · rintro D R W ⟨A, n, c, h1, h2, h3, h4, h5, h6, h7, h8, h9, h10⟩ hD hK
      have hc1 := h1.cell
      have hDl := (Array.getElem?_eq_some_iff.1 hK).1
      gi_wp2
      refine ⟨by simp, .inl ⟨_, _, rfl, run_takeDeferred hK, ?_⟩⟩
      refine ⟨_, results_tmp2 rfl _ _ _, A, n, c, rfl, ?_, ?_⟩
      · unfold findN
        refine (h7.more HBW.out.size).grown (only_putS _ _ _) (h7.not_row (B := 0) (fun k e => by injection e with e; subst e; exact ⟨Nat.zero_le _, _, hK, rfl⟩))
      · exact (HBW.out.trans (h8.mono HBW.out.size)).grown (only_putS _ _ _) (by have := h8.size; have := HBW.out.size; omega) (fun k e => by injection e; have := HBW.out.size; omega)
    · intro D c R pre W h; exact h.elim
end Go.Proofs.YtdgjkhldlmhedaaDoor
