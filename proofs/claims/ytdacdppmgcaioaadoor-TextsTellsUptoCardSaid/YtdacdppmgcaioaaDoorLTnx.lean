/-
  What tells the next place: placeOf and its closure, betweenCharacters.
-/
import Derived.Test.YtdacdppmgcaioaaDoorLTpa
set_option linter.unusedVariables false
set_option linter.unusedSimpArgs false
namespace Go.Proofs.YtdacdppmgcaioaaDoor
open Go.RowKit Go.Lib

/-- Where a text stands first. -/
def nxOf (sep : List UInt8) (L : List UInt8) : Option (Nat × Nat) := if sep = [] ∨ Lib.index L sep < 0 then none else some ((Lib.index L sep).toNat, sep.length)
/-- Where the second character begins. -/
def nxCh (L : List UInt8) : Option (Nat × Nat) := if L = [] ∨ wid L = L.length then none else some (wid L, 0)
theorem index_cases (sub : List UInt8) (h : sub ≠ []) : ∀ L : List UInt8, Lib.index L sub = -1 ∨ ∃ i : Nat, Lib.index L sub = (i : Int) ∧ i + sub.length ≤ L.length ∧ L = L.take i ++ sub ++ L.drop (i + sub.length)
  | [] => by
    left
    unfold Lib.index
    rw [if_neg (by simpa using h)]
  | b :: l => by
    unfold Lib.index
    by_cases hp : sub.isPrefixOf (b :: l) = true
    · right
      rw [if_pos hp]
      obtain ⟨r, hr⟩ := List.isPrefixOf_iff_prefix.1 hp
      refine ⟨0, rfl, ?_, ?_⟩
      · have := congrArg List.length hr
        rw [List.length_append] at this
        omega
      · rw [Nat.zero_add, ← hr, List.drop_left, List.take_zero, List.nil_append]
    · rw [if_neg hp]
      rcases index_cases sub h l with h1 | ⟨i, h1, h2, h3⟩
      · left
        simp [h1]
      · right
        rw [h1, if_neg (by simp)]
        refine ⟨i + 1, by omega, by rw [List.length_cons]; omega, ?_⟩
        rw [show i + 1 + sub.length = (i + sub.length) + 1 by omega, List.drop_succ_cons, List.take_succ_cons, List.cons_append, List.cons_append, ← h3]
theorem nxOf_some {sep L : List UInt8} {a z : Nat} (h : nxOf sep L = some (a, z)) : sep ≠ [] ∧ z = sep.length ∧ a + z ≤ L.length ∧ L = L.take a ++ sep ++ L.drop (a + z) ∧ Lib.index L sep = (a : Int) := by
  unfold nxOf at h
  split at h
  · cases h
  · rename_i hn
    injection h with h; injection h with h1 h2
    have hs : sep ≠ [] := fun e => hn (.inl e)
    rcases index_cases sep hs L with h3 | ⟨i, h3, h4, h5⟩
    · exact absurd (.inr (by omega)) hn
    · have : i = a := by omega
      subst this
      subst h2
      exact ⟨hs, rfl, h4, h5, h3⟩

theorem ne_emptyT {z : ByteArray} (h : z ≠ ⟨#[]⟩) : z.toList.isEmpty = false := by
  rw [← decide_eq_emptyBytes z]
  exact decide_eq_false h
theorem placeOf_c (t : ByteArray) (w : World) : Calls Tryd.prog 44 #[.string t] w fun e w' => e = .returned (.func (.func 71) #[] #[.pointer (some ⟨w.heap.size, 0, none⟩)]) ∧ w' = w.alloc (.cells #[.string t] 9) := by
  go_enter Tryd.func44, Tryd.ntmps44
  go_wp2
  go_ret
  exact ⟨rfl, rfl⟩
set_option maxHeartbeats 2000000 in
set_option maxRecDepth 100000 in
theorem placeOf1_c {B tb : Nat} {m : Int} (t : ByteArray) (w : World) (hts : t.size ≤ 140737488355328) (hm : w.cell? ⟨0, 0, none⟩ = some (.int .i64 m)) (ht : w.heap[tb]? = some (.cells #[.string t] 9)) (htb : tb < B) (hBw : B ≤ w.heap.size) (hmB : 0 < B) :
    NextP 71 #[.pointer (some ⟨tb, 0, none⟩)] B w (nxOf t.data.toList) := by
  intro s W hs hb hBW
  have c0 : W.cell? ⟨tb, 0, none⟩ = some (.string t) := (hb.cell (p := ⟨tb, 0, none⟩) htb).trans (cellT ht rfl)
  have hmW : W.cell? ⟨0, 0, none⟩ = some (.int .i64 m) := (hb.cell (p := ⟨0, 0, none⟩) hmB).trans hm
  have htl : t.data.toList.length = t.size := by rw [Array.length_toList]; rfl
  have hsl : s.data.toList.length = s.size := by rw [Array.length_toList]; rfl
  by_cases he : t = ⟨#[]⟩
  · subst he
    have hnone : nxOf (⟨#[]⟩ : ByteArray).data.toList s.data.toList = none := if_pos (.inl rfl)
    have HN := Lib.hid hnone
    clear ht hm hb htl hsl hnone hmW
    go_enter Tryd.func71, Tryd.ntmps71
    go_wp2_with fail
    go_ret2
    exact ⟨.inl ⟨HN.out, 0, rfl⟩, Below.refl _ _⟩
  · have heL : t.data.toList ≠ [] := fun h => he (by
      have : t.data = #[] := by apply Array.ext'; simpa using h
      cases t; simp_all)
    have hbe : t.toList.isEmpty = false := ne_emptyT he
    have hix := fun V (hV : V.cell? ⟨0, 0, none⟩ = some (.int .i64 m)) => Tryd.strings_Index s t m V (by omega) hV
    have hres : ∃ I : Int, Lib.index s.data.toList t.data.toList = I ∧ NxE (nxOf t.data.toList) s (.returned (.tuple #[.int .i64 I, .int .i64 (t.size : Int)])) := by
      refine ⟨_, rfl, ?_⟩
      rcases index_cases t.data.toList heL s.data.toList with h1 | ⟨i, h1, h2, h3⟩
      · exact .inl ⟨if_pos (.inr (by omega)), _, by rw [h1]⟩
      · refine .inr ⟨i, t.size, ?_, by omega, by rw [h1]⟩
        unfold nxOf
        rw [if_neg (by rintro (h | h); exact heL h; omega), h1, htl]
        rfl
    obtain ⟨I, hI, hE⟩ := hres
    rw [hI] at hix
    have HE := Lib.hid hE
    have HIX := Lib.hid hix
    have HM := Lib.hid hmW
    clear ht hm hb htl hsl hix hmW heL hE hI he
    go_enter Tryd.func71, Tryd.ntmps71
    go_upto_region 3 with fail
    refine wp_region_held_drew (S := fun V => V.cell? ⟨tb, 0, none⟩ = some (.string t)) (by kernel_rfl) c0 (fun hHeld => ?_)
    (try simp only [List.size_toArray, List.length_cons, List.length_nil, Nat.reduceAdd, Array.replicate_succ, Array.replicate_zero, List.push_toArray, List.append_toArray, List.nil_append, List.cons_append])
    refine wpAnyH_take (i := 0) (oi := ⟨_, _, _, _, _, _⟩) (v := ?_) rfl (by kernel_rfl) (by kernel_rfl) (by kernel_rfl) (fun _ _ _ h => h) (Or.inl ⟨by rfl, ?_⟩) (by assumption) ?_
    rotate_left
    · intro w hSw
      (try dsimp only at hSw)
      go_split_ands
      go_simp
      try with_reducible rfl
    try simp only [Act.put, List.setIfInBounds_toArray, List.set_cons_zero, List.set_cons_succ]
    refine wpAnyH_take (i := 1) (oi := ⟨_, _, _, _, _, _⟩) (v := ?_) rfl (by kernel_rfl) (by kernel_rfl) (by kernel_rfl) (fun _ _ _ h => h) (Or.inl ⟨by rfl, ?_⟩) (by assumption) ?_
    rotate_left
    · intro w hSw
      (try dsimp only at hSw)
      go_split_ands
      go_simp
      try with_reducible rfl
    try simp only [Act.put, List.setIfInBounds_toArray, List.set_cons_zero, List.set_cons_succ]
    refine wpAnyH_take (i := 3) (oi := ⟨_, _, _, _, _, _⟩) (v := ?_) rfl (by kernel_rfl) (by kernel_rfl) (by kernel_rfl) (fun _ _ _ h => h) (Or.inl ⟨by rfl, ?_⟩) (by assumption) ?_
    rotate_left
    · intro w hSw
      (try dsimp only at hSw)
      go_split_ands
      go_simp
      try with_reducible rfl
    try simp only [Act.put, List.setIfInBounds_toArray, List.set_cons_zero, List.set_cons_succ]
    refine wpAnyH_take (i := 4) (oi := ⟨_, _, _, _, _, _⟩) (v := ?_) rfl (by kernel_rfl) (by kernel_rfl) (by kernel_rfl) (fun _ _ _ h => h) (Or.inl ⟨by rfl, ?_⟩) (by assumption) ?_
    rotate_left
    · intro w hSw
      (try dsimp only at hSw)
      go_split_ands
      go_simp
      try with_reducible rfl
    try simp only [Act.put, List.setIfInBounds_toArray, List.set_cons_zero, List.set_cons_succ]
    refine wpAnyH_ready (rs := [2]) (by kernel_rfl) (by simp) (AllReadyH.cons (o := ⟨_, _, _, _, _, _⟩) rfl (fun K hK => ?_) AllReadyH.nil)
    go_simp
    refine (HIX.out W.drew HM.out).mono ?_
    rintro e9 w1 ⟨rfl, rfl⟩
    (try dsimp only)
    refine hK _ _ c0 (fun hHeld2 => ?_)
    clear hK K
    try simp only [Act.put, List.setIfInBounds_toArray, List.set_cons_zero, List.set_cons_succ]
    refine wpAnyH_take (i := 5) (oi := ⟨_, _, _, _, _, _⟩) (v := ?_) rfl (by kernel_rfl) (by kernel_rfl) (by kernel_rfl) (fun _ _ _ h => h) (Or.inl ⟨by rfl, ?_⟩) (by assumption) ?_
    rotate_left
    · intro w hSw
      (try dsimp only at hSw)
      go_split_ands
      go_simp
      try with_reducible rfl
    try simp only [Act.put, List.setIfInBounds_toArray, List.set_cons_zero, List.set_cons_succ]
    refine wpAnyH_take (i := 6) (oi := ⟨_, _, _, _, _, _⟩) (v := ?_) rfl (by kernel_rfl) (by kernel_rfl) (by kernel_rfl) (fun _ _ _ h => h) (Or.inl ⟨by rfl, ?_⟩) (by assumption) ?_
    rotate_left
    · intro w hSw
      (try dsimp only at hSw)
      go_split_ands
      go_simp
      try with_reducible rfl
    try simp only [Act.put, List.setIfInBounds_toArray, List.set_cons_zero, List.set_cons_succ]
    refine wpAnyH_done (by kernel_rfl) ?_ _
    go_wp2_with fail
    go_ret2
    exact ⟨HE.out, Below.drew (Below.refl _ _)⟩
set_option maxHeartbeats 2000000 in
set_option maxRecDepth 100000 in
theorem between_c {B : Nat} (w : World) (hT : Tabs w) (hBw : B = w.heap.size) : NextP 45 #[] B w nxCh := by
  intro s W hs hb hBW
  have hTW : Tabs W := hT.below (hBw ▸ hb)
  have hsl : s.data.toList.length = s.size := by rw [Array.length_toList]; rfl
  show Calls _ _ #[.string s] W _
  by_cases he : s.data.toList = []
  · have hdec := Tryd.utf8_DecodeRuneInString s W hTW
    have hz : s.size = 0 := by rw [← hsl, he]; rfl
    have hd0 : Lib.decodeGo s = (65533, 0) := if_pos hz
    rw [hd0] at hdec
    have hE : NxE nxCh s (.returned (.tuple #[.int .i64 (-1), .int .i64 0])) := .inl ⟨if_pos (.inl he), 0, rfl⟩
    have HE := Lib.hid hE
    have HD := Lib.hid hdec
    have hzi : (s.size : Int) = 0 := by omega
    clear hdec hE hd0 he hsl hT hTW hb
    go_enter Tryd.func45, Tryd.ntmps45
    go_wp2_with fail
    refine HD.out.mono ?_
    rintro e w1 ⟨rfl, hb1⟩
    go_wp2_with fail
    go_ret2
    exact ⟨HE.out, hb1⟩
  · have hdec := decode_c s W hTW he
    have hle := wid_le he
    have hge := wid_ge s.data.toList
    obtain ⟨q, hq⟩ : ∃ q, wid s.data.toList = q := ⟨_, rfl⟩
    rw [hq] at hdec hle hge
    by_cases hw : q = s.size
    · have hE : NxE nxCh s (.returned (.tuple #[.int .i64 (-1), .int .i64 0])) := .inl ⟨if_pos (.inr (by rw [hq, hsl]; exact hw)), 0, rfl⟩
      have HE := Lib.hid hE
      have HD := Lib.hid hdec
      have hwi : ((q : Int) == (s.size : Int)) = true := by simp [hw]
      clear hdec hE he hsl hT hTW hb hq
      go_enter Tryd.func45, Tryd.ntmps45
      go_wp2_with fail
      refine HD.out.mono ?_
      rintro e w1 ⟨rfl, hb1⟩
      go_wp2_with fail
      go_ret2
      exact ⟨HE.out, hb1⟩
    · have hE : NxE nxCh s (.returned (.tuple #[.int .i64 (q : Int), .int .i64 ((0 : Nat) : Int)])) := .inr ⟨q, 0, by
        unfold nxCh
        rw [if_neg (by rintro (h | h); exact he h; omega), hq], by omega, rfl⟩
      have HE := Lib.hid hE
      have HD := Lib.hid hdec
      have hwi : ((q : Int) == (s.size : Int)) = false := by simp; omega
      clear hdec hE he hsl hT hTW hb hq
      go_enter Tryd.func45, Tryd.ntmps45
      go_wp2_with fail
      refine HD.out.mono ?_
      rintro e w1 ⟨rfl, hb1⟩
      go_wp2_with fail
      go_ret2
      exact ⟨HE.out, hb1⟩
end Go.Proofs.YtdacdppmgcaioaaDoor
