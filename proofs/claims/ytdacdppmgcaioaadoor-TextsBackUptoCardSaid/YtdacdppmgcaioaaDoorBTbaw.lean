/-
  The walk of the law TextsBack.
-/
import Derived.Test.YtdacdppmgcaioaaDoorBTal
import Derived.Test.YtdacdppmgcaioaaDoorBTpt
import Derived.Test.YtdacdppmgcaioaaDoorBTjo
set_option linter.unusedVariables false
set_option linter.unusedSimpArgs false
namespace Go.Proofs.YtdacdppmgcaioaaDoor
open Go.RowKit Go.Lib

theorem split_join (sep L : List UInt8) : joinB sep (splitP sep L) = L := by
  unfold splitP
  split
  · rename_i h; rw [h]; exact join_ch L
  · exact join_of sep L
theorem cutP_len {nx : List UInt8 → Option (Nat × Nat)} (hg : GoesT nx) : ∀ (n : Nat) (L : List UInt8), L.length ≤ n → (cutP nx L).length ≤ n + 1 := by
  intro n
  induction n with
  | zero =>
    intro L hn
    cases h : nx L with
    | none => rw [cutP_none h]; simp
    | some q => obtain ⟨a, z⟩ := q; have := hg _ _ _ h; omega
  | succ n ih =>
    intro L hn
    cases h : nx L with
    | none => rw [cutP_none h]; simp
    | some q =>
      obtain ⟨a, z⟩ := q
      have hq := hg _ _ _ h
      rw [cutP_some hg h, List.length_cons]
      have := ih (L.drop (a + z)) (by rw [List.length_drop]; omega)
      omega
theorem splitP_len (sep L : List UInt8) : (splitP sep L).length ≤ L.length + 1 := by
  unfold splitP
  split
  · exact cutP_len nxCh_goes _ L (Nat.le_refl _)
  · exact cutP_len (nxOf_goes sep) _ L (Nat.le_refl _)
set_option maxHeartbeats 8000000 in
set_option maxRecDepth 100000 in
theorem textsBack_c {m : Int} (s sep : ByteArray) (w : World) (hT : Tabs w) (hm : w.cell? ⟨0, 0, none⟩ = some (.int .i64 m)) (hs : s.size ≤ 1048576) (ht : sep.size ≤ 1048576) :
    Calls Tryd.prog 5 #[.string s, .string sep] w fun e w' => e = .returned (.bool true) ∧ Below w.heap.size w w' := by
  have hal := alive13_c w hT hm
  have hsp := fun W (hW : Below w.heap.size w W) => Split_c (m := m) s sep W (hT.below hW) ((hW.cell (p := ⟨0, 0, none⟩) (cell_lt hm)).trans hm) (by omega) (by omega)
  have HA := Lib.hid hal
  have HS := Lib.hid hsp
  have HT := Lib.hid hT
  clear hal hsp hT hm
  go_enter Tryd.func5, Tryd.ntmps5
  go_wp2_with fail
  refine HA.out.mono ?_
  rintro e w0 ⟨rfl, hb⟩
  have B0 := Lib.hid hb
  have K1 := Lib.hid (HS.out w0 hb)
  clear hb
  go_wp2_with fail
  refine K1.out.mono ?_
  rintro e w1 ⟨hE, hb⟩
  have B1 := Lib.hid (B0.out.trans (hb.mono B0.out.size))
  clear hb
  -- an error, or a text that is too long: what is told then is right by itself
  rcases hE with ⟨h1, rfl⟩ | ⟨h1, rfl, rfl⟩ | ⟨h1, hne, hC⟩
  · clear h1
    go_wp2_with (go_at_call 19; refine (lnum13_c _ _).mono ?_; rintro e w' ⟨rfl, rfl⟩)
    all_goals (go_ret; exact ⟨rfl, B1.out⟩)
  · have hj := Join_c (A := none) (c := 0) (xs := []) sep w1 (HT.out.below B1.out) (fun i x hx => by simp at hx) (fun _ => ⟨rfl, rfl⟩) (fun x hx => by simp at hx) (by simp) (by omega)
    have hT2 : isT sep.data.toList = true := errX_all h1 sep (by simp)
    have hw : wrote ([] ++ [sep]) (joinB (dl sep) (([] : List ByteArray).map dl)) = (⟨#[]⟩, 0) := by
      rw [wrote_ok (errX_ok (fun x hx => by rw [show x = sep by simpa using hx]; exact hT2))]
      exact tell_ok (by simp [joinB])
    rw [hw] at hj
    have HJ := Lib.hid hj
    clear hj hw h1 hT2
    go_wp2_with (go_at_call 19; refine (lnum13_c _ _).mono ?_; rintro e w' ⟨rfl, rfl⟩)
    refine HJ.out.mono ?_
    rintro e w2 ⟨rfl, hb⟩
    have B2 := Lib.hid (B1.out.trans (hb.mono B1.out.size))
    clear hb
    go_wp2_with (go_at_call 19; refine (lnum13_c _ _).mono ?_; rintro e w' ⟨rfl, rfl⟩)
    all_goals (go_ret; exact ⟨rfl, B2.out⟩)
  · rcases hC with ⟨hle, g, c, xs, hxs, hgb, hgl, rfl, hrd⟩ | ⟨-, rfl⟩
    · by_cases hl : 16384 < s.size
      · have hlI : decide ((16384 : Int) < (s.size : Int)) = true := decide_eq_true (by omega)
        clear hrd hxs hle h1
        go_wp2_with (go_at_call 19; refine (lnum13_c _ _).mono ?_; rintro e w' ⟨rfl, rfl⟩)
        all_goals (go_ret; exact ⟨rfl, B1.out⟩)
      · have hlI : decide ((16384 : Int) < (s.size : Int)) = false := decide_eq_false (by omega)
        have hsT : isT s.data.toList = true := errX_all h1 s (by simp)
        have hpT : isT sep.data.toList = true := errX_all h1 sep (by simp)
        have hparts := split_T hpT hsT
        have hmap : xs.map dl = splitP sep.data.toList s.data.toList := hxs
        have hxT : ∀ x ∈ xs, isT x.data.toList = true := fun x hx => hparts _ (by rw [← hmap]; exact List.mem_map.2 ⟨x, hx, rfl⟩)
        have hxz : ∀ x ∈ xs, x.size ≤ 140737488355328 := fun x hx => by
          have := hle x.data.toList (by rw [← hmap]; exact List.mem_map.2 ⟨x, hx, rfl⟩)
          rw [sizeT_list]; omega
        have hnx : xs.length ≤ 4294967296 := by
          have h2 : xs.length = (splitP sep.data.toList s.data.toList).length := by rw [← hmap, List.length_map]
          have h3 := splitP_len sep.data.toList s.data.toList
          rw [← sizeT_list] at h3
          omega
        have hj := Join_c (A := some ⟨g, 0, none⟩) (c := c) (xs := xs) sep w1 (HT.out.below B1.out) (hrd.up (by omega)) (fun h => by cases h) hxz hnx (by omega)
        have hw : wrote (xs ++ [sep]) (joinB (dl sep) (xs.map dl)) = (s, 0) := by
          rw [wrote_ok (errX_ok (fun x hx => by
            rcases List.mem_append.1 hx with h | h
            · exact hxT x h
            · rw [show x = sep by simpa using h]; exact hpT)), hmap]
          show tell (joinB sep.data.toList _) = _
          rw [split_join, tell_ok (by rw [← sizeT_list]; omega)]
        rw [hw] at hj
        have HJ := Lib.hid hj
        clear hj hw h1 hrd hxs hmap hxT hxz hle hparts hsT hpT
        go_wp2_with (go_at_call 19; refine (lnum13_c _ _).mono ?_; rintro e w' ⟨rfl, rfl⟩)
        refine HJ.out.mono ?_
        rintro e w2 ⟨rfl, hb⟩
        have B2 := Lib.hid (B1.out.trans (hb.mono B1.out.size))
        clear hb
        go_wp2_with (go_at_call 19; refine (lnum13_c _ _).mono ?_; rintro e w' ⟨rfl, rfl⟩)
        all_goals (go_ret; exact ⟨rfl, B2.out⟩)
    · clear h1
      go_wp2_with (go_at_call 19; refine (lnum13_c _ _).mono ?_; rintro e w' ⟨rfl, rfl⟩)
      all_goals (go_ret; exact ⟨rfl, B1.out⟩)
end Go.Proofs.YtdacdppmgcaioaaDoor
