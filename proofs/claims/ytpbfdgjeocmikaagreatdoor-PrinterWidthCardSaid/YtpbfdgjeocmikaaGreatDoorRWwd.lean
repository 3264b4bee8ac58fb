/-
  Contract of Width.
-/
import Derived.Test.YtpbfdgjeocmikaaGreatDoorRWplw
import Derived.Shelf.Strings.Split
namespace Go.Proofs
open Go.Shelf Go.RowKit Go.Lib
/-- strings.Split at one octet: no variable of the library is read. -/
theorem Any.strings_Split_octet {P : Program} {ρ : Ren} (L : Lays.n146 P ρ) (hi9 : (P.info? (ρ.t 9)).map (fun i => (i.zero, i.size, i.bytes)) = some (some (.string ByteArray.empty), 1, 16)) (s : ByteArray) (c : UInt8) (w : World) (hs : s.size < 4294967281) :
    Calls P (ρ.f 146) #[.string s, .string ⟨#[c]⟩] w fun e w' =>
      e = .returned (.slice (some ⟨w.heap.size, 0, none⟩) (Lib.countB s ⟨#[c]⟩ + 1) (Lib.countB s ⟨#[c]⟩ + 1)) ∧ w' = w.alloc (.cells ((Lib.splitB ⟨#[c]⟩ 0 (Lib.countB s ⟨#[c]⟩) s).map Value.string).toArray (ρ.t 9)) := by
  have h1 : 1 ≤ (⟨#[c]⟩ : ByteArray).size := Nat.le_refl 1
  obtain ⟨sep, hsep⟩ : ∃ sep : ByteArray, ⟨#[c]⟩ = sep := ⟨_, rfl⟩
  have hle := Lib.countB_le ⟨#[c]⟩ h1 s.size s (Nat.le_refl _)
  have hlen := Lib.splitB_all ⟨#[c]⟩ h1 0 _ s rfl
  have hC : Calls P (ρ.f 138) #[.string s, .string ⟨#[c]⟩] w fun e w' => e = .returned (.int .i64 (Lib.countB s ⟨#[c]⟩)) ∧ w' = w := by
    refine (Any.strings_Count_one { L with } s c w).mono fun e w' ⟨he, hw⟩ => ⟨?_, hw⟩
    rw [he]
    show _ = Ending.returned (Value.int .i64 ((Lib.count s.data.toList [c] : Nat) : Int))
    rw [Lib.count_one]
    rfl
  have cc := Any.strings_genSplit_core { L with } hi9 s ⟨#[c]⟩ 0 (-1) (Lib.countB s ⟨#[c]⟩ + 1) w hs h1 (Nat.zero_le _)
    (fun x cs hx => (Any.strings_Index_one { L with } x c _).mono fun e w' ⟨he, hw⟩ => ⟨by rw [he]; show _ = Ending.returned (Value.int .i64 (Lib.index x.data.toList [c])); rw [Lib.index_one], hw⟩)
    hC (by decide) (by decide) (by rw [if_pos (by decide)]; omega)
  rw [Nat.add_sub_cancel, hlen] at cc
  have e2 : Lib.cellsOf (Lib.splitB ⟨#[c]⟩ 0 (Lib.countB s ⟨#[c]⟩) s) (Lib.countB s ⟨#[c]⟩ + 1) = ((Lib.splitB ⟨#[c]⟩ 0 (Lib.countB s ⟨#[c]⟩) s).map Value.string).toArray := by rw [← hlen]; exact Lib.cellsOf_full _
  rw [e2] at cc
  rw [hsep] at cc ⊢
  have t3 := L.t3; have t9 := L.t9; have t31 := L.t31
  have a3 := L.a3; have a9 := L.a9; have a31 := L.a31
  have z3 := L.z3; have v3 := L.v3; have z9 := L.z9; have v9 := L.v9; have z31 := L.z31; have v31 := L.v31
  have e221 : ∀ args w, (callFunc (ρ.f 221) args).run P w = .ok (.enter (ρ.f 221) args) w := enters_of L.f221 (by kernel_rfl) rfl
  go_enter L.f146, Body.n146_ntmps ρ
  go_wp2_with (go_at_fn (ρ.f 221); refine cc.mono ?_; rintro e w' ⟨rfl, hw⟩; rw [hw])
  go_ret
  exact ⟨rfl, rfl⟩
end Go.Proofs
set_option linter.unusedVariables false
set_option linter.unusedSimpArgs false
namespace Go.Proofs.YtpbfdgjeocmikaaGreatDoor
open Go.RowKit Go.Lib
theorem split_lines : ∀ (s acc : List UInt8), ∃ h t, Lib.split s [10] = h :: t ∧ linesOf s acc = (acc ++ h) :: t
  | [], acc => ⟨[], [], by unfold Lib.split; rw [count_one]; rfl, by unfold linesOf; rw [List.append_nil]⟩
  | c :: l, acc => by
    unfold Lib.split linesOf
    by_cases hc : c = 10
    · subst hc
      rw [if_pos rfl, count_cons_eq, Nat.add_comm]
      obtain ⟨h, t, h1, h2⟩ := split_lines l []
      have hix : index (10 :: l) [10] = ((0 : Nat) : Int) := by rw [index]; simp [List.isPrefixOf]
      refine ⟨[], linesOf l [], ?_, by rw [List.append_nil]⟩
      unfold splitK
      rw [hix, if_neg (by decide), h2]
      show [] :: splitK [10] 0 (count l [10]) l = [] :: (h :: t)
      rw [← h1]; rfl
    · rw [if_neg hc, count_cons_ne c 10 l hc]
      obtain ⟨h, t, h1, h2⟩ := split_lines l (acc ++ [c])
      have hix : index (c :: l) [10] = if index l [10] == -1 then -1 else index l [10] + 1 := by
        have hp : ([10] : List UInt8).isPrefixOf (c :: l) = false := by simp [List.isPrefixOf, Ne.symm hc]
        rw [index, hp]; simp
      refine ⟨c :: h, t, ?_, by rw [h2]; simp⟩
      unfold Lib.split at h1
      cases hk : count l [10] with
      | zero =>
        rw [hk] at h1
        have h3 : [l] = h :: t := h1
        injection h3 with h3 h4
        subst h3 h4
        rfl
      | succ k =>
        rw [hk] at h1
        have hm : ¬ index l [10] = -1 := fun e => by rw [count_miss e] at hk; cases hk
        have hge := index_ge l [10]
        obtain ⟨j, hj⟩ : ∃ j : Nat, index l [10] = j := ⟨(index l [10]).toNat, by omega⟩
        unfold splitK at h1 ⊢
        rw [if_neg (fun e => hm (beq_iff_eq.1 e)), hj] at h1
        rw [hix, if_neg (fun e => hm (beq_iff_eq.1 e)), hj, if_neg (by rw [beq_iff_eq]; omega)]
        injection h1 with h3 h4
        subst h3 h4
        rw [show ((j : Int) + 1).toNat = j + 1 by omega, show ((j : Int)).toNat = j by omega]
        rfl
theorem wide_split (s : List UInt8) : (Lib.split s [10]).foldl (fun m l => max m l.length) 0 = wideL s 0 := by
  obtain ⟨h, t, h1, h2⟩ := split_lines s []
  have := wideL_lines s []
  rw [h2] at this
  rw [h1]
  exact this.symm

theorem psplit_c (s : ByteArray) (w : World) (hs : s.size < 4294967281) : Calls Tryz.prog 40 #[.string s, .string ⟨#[10]⟩] w fun e w' => ∃ ps : List ByteArray, ps.map (·.data.toList) = Lib.split s.data.toList [10] ∧ ps.length ≤ 4294967282 ∧
    e = .returned (.slice (some ⟨w.heap.size, 0, none⟩) ps.length ps.length) ∧ w' = w.alloc (.cells (ps.map Value.string).toArray 9) := by
  refine (Any.strings_Split_octet Tryz.lays146 (by kernel_rfl) s 10 w hs).mono ?_
  rintro e w' ⟨rfl, rfl⟩
  have hlen := Lib.splitB_all ⟨#[10]⟩ (Nat.le_refl 1) 0 _ s rfl
  have hle := Lib.countB_le ⟨#[10]⟩ (Nat.le_refl 1) s.size s (Nat.le_refl _)
  refine ⟨Lib.splitB ⟨#[10]⟩ 0 (Lib.countB s ⟨#[10]⟩) s, ?_, by omega, by rw [hlen], rfl⟩
  rw [Lib.splitB_data]; rfl
theorem foldl_take {ps : List ByteArray} {k : Nat} (h : k < ps.length) : ((ps.take (k + 1)).map (·.data.toList)).foldl (fun m l => max m l.length) 0 = max (((ps.take k).map (·.data.toList)).foldl (fun m l => max m l.length) 0) ps[k].size := by
  rw [List.take_add_one, List.getElem?_eq_getElem h]
  simp only [Option.toList_some, List.map_append, List.map_cons, List.map_nil, List.foldl_append, List.foldl_cons, List.foldl_nil]
  rw [Array.length_toList]; rfl
/-- Texts that Indent tells. -/
theorem ind_pair {x : VT} {n : Int} {e : Ending} (h : IndE x n e) : ∃ a r, e = .returned (.tuple #[.string a, .int .i64 r]) ∧ a.size ≤ 1048576 ∧ 0 ≤ r := by
  unfold IndE at h
  split at h
  · exact ⟨_, _, h, by decide, by omega⟩
  · split at h
    · exact ⟨_, _, h, by decide, by decide⟩
    · rcases h with ⟨hl, h⟩ | ⟨-, h⟩
      · refine ⟨_, _, h, ?_, by decide⟩
        show (prV quoteC numP n.toNat 0 x).toArray.size ≤ 1048576
        rw [List.size_toArray]; exact hl
      · exact ⟨_, _, h, by decide, by decide⟩
set_option maxRecDepth 100000 in
set_option maxHeartbeats 4000000 in
theorem pwidth_c {S : Nat → Prop} {x : VT} {cs : List Value} (n : Int) (w : World) (hG : Gl w.heap.size w) (hx : VIn w S x cs) (hS : ∀ b, S b → b < w.heap.size) :
    Calls Tryz.prog 20 #[.agg cs.toArray, .int .i64 n] w fun e w' => (∃ a r, IndE x n (.returned (.tuple #[.string a, .int .i64 r])) ∧ a.size ≤ 1048576 ∧ e = .returned (.tuple #[.int .i64 ((if r = 0 then wideL a.data.toList 0 else 0 : Nat) : Int), .int .i64 r])) ∧ Below w.heap.size w w' := by
  obtain ⟨k, neg, A, nn, c, e, t, LA, ln, lc, KA, kn, kc, rfl, -, -⟩ := hx.seven
  obtain ⟨bp, hbp⟩ : ∃ b, w.heap.size = b := ⟨_, rfl⟩
  have hb : Below w.heap.size w (w.alloc (.cells #[.int .i64 k, .bool neg, .slice A nn c, .int .i64 e, .string t, .slice LA ln lc, .slice KA kn kc] 28)) := (Below.refl _ w).alloc (Nat.le_refl _) _
  have hm := World.alloc_heap_new w (.cells #[.int .i64 k, .bool neg, .slice A nn c, .int .i64 e, .string t, .slice LA ln lc, .slice KA kn kc] 28)
  have hsz : (w.alloc (.cells #[.int .i64 k, .bool neg, .slice A nn c, .int .i64 e, .string t, .slice LA ln lc, .slice KA kn kc] 28)).heap.size = bp + 1 := by rw [World.size_alloc, hbp]
  have hc := indent_c n _ ((hG.low hb).up (by omega)) (hx.keep fun p hp => hb.cell (p := p) (hS _ hp)) (fun b h => by have := hS b h; omega)
  rw [hsz] at hc
  rw [hbp] at hb hm ⊢
  obtain ⟨y0, y1, y2, y3, y4, y5, y6⟩ := box7_of hm
  have HC := Lib.hid hc
  have HB := Lib.hid hb
  clear hc hb hm hx hG hS
  go_enter Tryz.func20, Tryz.ntmps20
  go_wp2_with fail
  try rw [hbp]
  clear y0 y1 y2 y3 y4 y5 y6 hbp
  generalize (w.alloc (.cells #[.int .i64 k, .bool neg, .slice A nn c, .int .i64 e, .string t, .slice LA ln lc, .slice KA kn kc] 28)) = w1 at *
  refine HC.out.mono ?_
  rintro e9 w2 ⟨he, hb2⟩
  obtain ⟨a, r, rfl, has, hr0⟩ := ind_pair he
  have HE := Lib.hid he
  have hB2 : Below bp w w2 := HB.out.trans (hb2.mono (by omega))
  have hs2 : bp + 1 ≤ w2.heap.size := by have := hb2.size; omega
  have HB2 := Lib.hid hB2
  clear he hb2 hB2 HC
  by_cases hr : r = 0
  case neg =>
    have e0 : (r != 0) = true := by rw [bne_iff_ne]; exact hr
    go_wp2_with fail
    go_ret2
    exact ⟨⟨a, r, HE.out, has, by rw [if_neg hr]; rfl⟩, HB2.out⟩
  subst hr
  have hsp := psplit_c a w2 (by omega)
  go_wp2_with fail
  refine hsp.mono ?_
  rintro e9 w3 ⟨ps, hps, hpl, rfl, rfl⟩
  clear hsp
  obtain ⟨g, hg⟩ : ∃ g, w2.heap.size = g := ⟨_, rfl⟩
  have hm := World.alloc_heap_new w2 (.cells (ps.map Value.string).toArray 9)
  have hb3 : Below w2.heap.size w2 (w2.alloc (.cells (ps.map Value.string).toArray 9)) := (Below.refl _ w2).alloc (Nat.le_refl _) _
  have hB3 := HB2.out.trans (hb3.mono (by omega))
  rw [hg] at hm ⊢
  generalize (w2.alloc (.cells (ps.map Value.string).toArray 9)) = w3 at *
  have hcell : ∀ j (h : j < ps.length), w3.cell? ⟨g, j, none⟩ = some (.string ps[j]) := fun j h => cell_at3 hm (by simp [h])
  have hfull : wideL a.data.toList 0 = (ps.map (·.data.toList)).foldl (fun m l => max m l.length) 0 := by rw [hps, wide_split]
  have HF := Lib.hid hfull
  have HCELL := Lib.hid hcell
  have HB3 := Lib.hid hB3
  clear hm hb3 hB3 hfull hcell hps
  go_wp2_with fail
  go_loop [8, 23] (fun mv iv => ∃ k : Nat, k ≤ ps.length ∧ iv = .int .i64 (k : Int) ∧ mv = .int .i64 ((((ps.take k).map (·.data.toList)).foldl (fun m l => max m l.length) 0 : Nat) : Int)) (fun _ iv => ps.length - (RowKit.intOf iv).toNat)
  case atStart => exact ⟨0, Nat.zero_le _, rfl, rfl⟩
  case round =>
    obtain ⟨j, hj, rfl, rfl⟩ := hrel
    by_cases hlt : j < ps.length
    · have hcj := HCELL.out j hlt
      have hft := foldl_take hlt
      obtain ⟨M, hM⟩ : ∃ M, ((ps.take j).map (·.data.toList)).foldl (fun m l => max m l.length) 0 = M := ⟨_, rfl⟩
      rw [hM] at hft ⊢
      have HFT := Lib.hid hft
      clear hft hM
      go_wp2
      exact ⟨⟨j + 1, by omega, by go_num, by rw [HFT.out]; go_num⟩, by simp [RowKit.intOf]; omega⟩
    · have he : j = ps.length := by omega
      subst he
      rw [List.take_length]
      go_wp2
      go_ret2
      exact ⟨⟨a, 0, HE.out, has, by rw [if_pos rfl, HF.out]; rfl⟩, HB3.out⟩
end Go.Proofs.YtpbfdgjeocmikaaGreatDoor
