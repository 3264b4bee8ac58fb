/-
  Contract of the reference's First.
-/
import Derived.Test.YtdacdppmgcaioaaDoorLUfst
import Derived.Test.YtdacdppmgcaioaaDoorLUfind
import Derived.Deep.Cut
import Derived.Deep.CutRange
import Derived.Deep.CutBlock
import Derived.Deep.AppendLies
import Derived.Deep.RegionHeld3
set_option linter.unusedVariables false
set_option linter.unusedSimpArgs false
namespace Go.Proofs.YtdacdppmgcaioaaDoor
open Go.RowKit Go.Lib

set_option maxRecDepth 100000 in
set_option maxHeartbeats 1000000 in
theorem First_c (l : List UInt8) (w : World) (hl : l.length ≤ 140737488355328) : Calls Tryd.prog 65 #[.string (mk8 l)] w fun e w' => e = .returned (.tuple #[.int .i64 (fstP l).1, .int .i64 ((fstP l).2 : Int)]) ∧ Below w.heap.size w w' := by
  by_cases hne : l = []
  · subst hne
    have e : mk8 [] = ⟨#[]⟩ := rfl
    rw [e, show fstP [] = (0, 0) from rfl]
    clear e
    go_enter Tryd.func65, Tryd.ntmps65
    go_wp2
    go_ret2
    exact ⟨rfl, Below.refl _ _⟩
  · have hlen : 0 < l.length := List.length_pos_iff.2 hne
    have hsz : (mk8 l).size = l.length := mk8_size l
    have hat : ∀ (k : Nat) (hk : k < (mk8 l).size), (mk8 l)[k]'hk = l.getD k 0 := fun k hk => by
      have hk2 : k < l.length := by rw [← hsz]; exact hk
      rw [mk8_at (x := l[k]) (List.getElem?_eq_getElem hk2) hk, List.getD_eq_getElem?_getD, List.getElem?_eq_getElem hk2]; rfl
    have hsl : szOf l ≤ l.length → (mk8 l).toList.take (szOf l) = l.take (szOf l) := fun _ => by rw [Lib.toList_data, mk8_L]
    generalize hS : mk8 l = S at *
    obtain ⟨c0, hc0⟩ : ∃ c0, c0 = l.getD 0 0 := ⟨_, rfl⟩
    have hh0 := hat 0 (by omega)
    have hb0 := (l.getD 0 0).toNat_lt
    have HS := Lib.hid hS
    have HAT := Lib.hid hat
    have HNE := Lib.hid hne
    clear hat hS hne hsl
    rw [← hc0] at hh0 hb0
    obtain ⟨sz, hszo⟩ : ∃ sz, sz = szOf l := ⟨_, rfl⟩
    obtain ⟨hd, hhdo⟩ : ∃ hd, hd = hdOf l := ⟨_, rfl⟩
    have hsw : (240 ≤ c0.toNat ∧ sz = 4 ∧ (hd : Int) = c0.toNat - 240) ∨ (c0.toNat < 240 ∧ 224 ≤ c0.toNat ∧ sz = 3 ∧ (hd : Int) = c0.toNat - 224) ∨ (c0.toNat < 240 ∧ c0.toNat < 224 ∧ 192 ≤ c0.toNat ∧ sz = 2 ∧ (hd : Int) = c0.toNat - 192) ∨ (c0.toNat < 240 ∧ c0.toNat < 224 ∧ c0.toNat < 192 ∧ sz = 1 ∧ (hd : Int) = c0.toNat) := by
      rw [hszo, hhdo]
      unfold szOf hdOf
      rw [← hc0]
      by_cases h1 : 240 ≤ c0.toNat
      · left; rw [if_pos h1, if_pos h1]; exact ⟨h1, rfl, by omega⟩
      · by_cases h2 : 224 ≤ c0.toNat
        · right; left; rw [if_neg h1, if_neg h1, if_pos h2, if_pos h2]; exact ⟨by omega, h2, rfl, by omega⟩
        · by_cases h3 : 192 ≤ c0.toNat
          · right; right; left; rw [if_neg h1, if_neg h1, if_neg h2, if_neg h2, if_pos h3, if_pos h3]; exact ⟨by omega, by omega, h3, rfl, by omega⟩
          · right; right; right; rw [if_neg h1, if_neg h1, if_neg h2, if_neg h2, if_neg h3, if_neg h3]; exact ⟨by omega, by omega, by omega, rfl, rfl⟩
    have hszb : 1 ≤ sz ∧ sz ≤ 4 := by omega
    have hhdb : hd < 256 := by have : c0.toNat < 256 := hb0; omega
    have hw0 : IntKind.i64.wrap (c0.toNat : Int) = (c0.toNat : Int) := IntWalk.i64_in _ (by have : c0.toNat < 256 := hb0; omega)
    have HC256 : Hid (c0.toNat < 256) := hb0
    have HSW := Lib.hid hsw
    have HSO := Lib.hid hszo
    have HHO := Lib.hid hhdo
    have HW0 := Lib.hid hw0
    have hl0 : ((l.length : Int) == 0) = false := by rw [beq_eq_false_iff_ne]; omega
    have hc256 : c0.toNat < 256 := HC256.out
    clear hsw hszo hhdo hc0 hb0 hw0
    go_enter Tryd.func65, Tryd.ntmps65
    have hw0 := HW0.out
    go_upto_block 0 with fail
    go_cut [5, 6] from 15 to 29 (fun s5 s6 wc => s5 = .int .i64 (hd : Int) ∧ s6 = .int .i64 (sz : Int) ∧ w = wc)
    case first =>
      rcases HSW.out with ⟨h1, h2, h3⟩ | ⟨h1, h2, h3, h4⟩ | ⟨h1, h2, h3, h4, h5⟩ | ⟨h1, h2, h3, h4, h5⟩
      · have d1 : (240 : Int) ≤ (c0.toNat : Int) := by omega
        have d4 : IntKind.i64.wrap ((c0.toNat : Int) - 240) = (hd : Int) := by rw [IntWalk.i64_in _ (by omega)]; omega
        subst h2
        clear h1 h3
        go_wp2
        go_meet
        exact ⟨rfl, rfl, rfl⟩
      · have d1 : (c0.toNat : Int) < 240 := by omega
        have d2 : (224 : Int) ≤ (c0.toNat : Int) := by omega
        have d4 : IntKind.i64.wrap ((c0.toNat : Int) - 224) = (hd : Int) := by rw [IntWalk.i64_in _ (by omega)]; omega
        subst h3
        clear h1 h2 h4
        go_wp2
        go_meet
        exact ⟨rfl, rfl, rfl⟩
      · have d1 : (c0.toNat : Int) < 240 := by omega
        have d2 : (c0.toNat : Int) < 224 := by omega
        have d3 : (192 : Int) ≤ (c0.toNat : Int) := by omega
        have d4 : IntKind.i64.wrap ((c0.toNat : Int) - 192) = (hd : Int) := by rw [IntWalk.i64_in _ (by omega)]; omega
        subst h4
        clear h1 h2 h3 h5
        go_wp2
        go_meet
        exact ⟨rfl, rfl, rfl⟩
      · have d1 : (c0.toNat : Int) < 240 := by omega
        have d2 : (c0.toNat : Int) < 224 := by omega
        have d3 : (c0.toNat : Int) < 192 := by omega
        subst h4
        clear h1 h2 h3
        go_wp2
        go_meet
        exact ⟨h5 ▸ rfl, rfl, rfl⟩
    case rest =>
      obtain ⟨rfl, rfl, rfl⟩ := hcut
      clear hw0 hh0 HSW
      by_cases hle : sz ≤ l.length
      · go_wp2
        go_loopw [5, 7] (fun v i wr => ∃ k : Nat, 1 ≤ k ∧ k ≤ sz ∧ i = .int .i64 (k : Int) ∧ v = .int .i64 (numAt l (k - 1) : Int) ∧ wr = w) (fun _ i _ => sz - (RowKit.intOf i).toNat)
        case atStart => exact ⟨1, Nat.le_refl _, by omega, rfl, by rw [HHO.out]; rfl, rfl⟩
        case round =>
          obtain ⟨k, hk1, hk, rfl, rfl, rfl⟩ := hrel
          have hnb : numAt l (k - 1) < 67108864 := by
            have h1 := numAt_lt l (k - 1)
            have h2 : 64 ^ (k - 1) ≤ 64 ^ 3 := Nat.pow_le_pow_right (by omega) (by omega)
            omega
          by_cases hlt : k < sz
          · have hkb : k < S.size := by omega
            have hx := HAT.out k hkb
            have hxb : (l.getD k 0).toNat < 256 := (l.getD k 0).toNat_lt
            have hstep : Hid (numAt l k = numAt l (k - 1) * 64 + (l.getD k 0).toNat % 64) := by
              show _ = _
              obtain ⟨k', rfl⟩ : ∃ k', k = k' + 1 := ⟨k - 1, by omega⟩
              rfl
            obtain ⟨nm, hnm⟩ : ∃ nm, nm = numAt l (k - 1) := ⟨_, rfl⟩
            rw [← hnm] at hnb hstep ⊢
            clear hnm
            generalize l.getD k 0 = x at *
            have hm : ((x.toNat : Int)).tmod 64 = ((x.toNat % 64 : Nat) : Int) := by rw [Int.tmod_eq_emod_of_nonneg (by omega)]; omega
            have hw1 : IntKind.i64.wrap (x.toNat : Int) = (x.toNat : Int) := IntWalk.i64_in _ (by omega)
            generalize hx64 : x.toNat % 64 = y at *
            have hyb : y < 64 := by omega
            clear hx64
            have hw2 : IntKind.i64.wrap ((nm : Int) * 64) = (nm : Int) * 64 := IntWalk.i64_in _ (by omega)
            have hw3 : IntKind.i64.wrap ((nm : Int) * 64 + (y : Int)) = (nm : Int) * 64 + (y : Int) := IntWalk.i64_in _ (by omega)
            go_wp2
            go_roundw
            case rel => exact ⟨k + 1, by omega, by omega, by go_num, by rw [show k + 1 - 1 = k by omega, hstep.out]; simp, by first | trivial | rfl⟩
            case measure => simp [RowKit.intOf]; omega
          · obtain rfl : k = sz := by omega
            obtain ⟨N, hN⟩ : ∃ N, N = numAt l (k - 1) := ⟨_, rfl⟩
            rw [← hN] at hnb ⊢
            have hNf : N = fstN l := by rw [hN, HSO.out]; rfl
            have HNF := Lib.hid hNf
            clear hN hNf
            by_cases hch : isCh (N : Int)
            · have HCH : Hid (decide (isCh (N : Int)) = true) := decide_eq_true hch
              have HIS := Lib.hid hch
              clear hch
              go_wp2_with fail
              refine wp_region_held_drew (S := fun _ => True) (by kernel_rfl) trivial (fun hHeld => ?_)
              (try simp only [List.size_toArray, List.length_cons, List.length_nil, Nat.reduceAdd, Array.replicate_succ, Array.replicate_zero, List.push_toArray, List.append_toArray, List.nil_append, List.cons_append])
              refine wpAnyH_take (i := 0) (oi := ⟨_, _, _, _, _, _⟩) (v := ?_) rfl (by kernel_rfl) (by kernel_rfl) (by kernel_rfl) (fun _ _ _ h => h) (Or.inl ⟨by rfl, ?_⟩) (by assumption) ?_
              rotate_left
              · intro w hSw
                (try dsimp only at hSw)
                go_split_ands
                go_simp
                try with_reducible rfl
              try simp only [Act.put, List.setIfInBounds_toArray, List.set_cons_zero, List.set_cons_succ]
              refine wpAnyH_ready (rs := [1]) (by kernel_rfl) (by simp) (AllReadyH.cons (o := ⟨_, _, _, _, _, _⟩) rfl (fun K hK => ?_) AllReadyH.nil)
              go_simp
              refine (may_c _ _).mono ?_
              rintro e w5 ⟨rfl, rfl⟩
              rw [HCH.out]
              (try dsimp only)
              refine hK.out _ _ trivial (fun hHeld2 => ?_)
              clear hK K
              try simp only [Act.put, List.setIfInBounds_toArray, List.set_cons_zero, List.set_cons_succ]
              refine wpAnyH_take (i := 2) (oi := ⟨_, _, _, _, _, _⟩) (v := ?_) rfl (by kernel_rfl) (by kernel_rfl) (by kernel_rfl) (fun _ _ _ h => h) (Or.inl ⟨by rfl, ?_⟩) (by assumption) ?_
              rotate_left
              · intro w hSw
                (try dsimp only at hSw)
                go_split_ands
                go_simp
                try with_reducible rfl
              try simp only [Act.put, List.setIfInBounds_toArray, List.set_cons_zero, List.set_cons_succ]
              refine wpAnyH_take (i := 3) (oi := ⟨_, _, _, _, _, _⟩) (v := ?_) rfl (by kernel_rfl) (by kernel_rfl) (by kernel_rfl) (fun _ _ _ h => h) (Or.inl ⟨by rfl, ?_⟩) (by assumption) ?_
              rotate_left
              · intro w hSw
                (try dsimp only at hSw)
                go_split_ands
                go_simp
                try with_reducible rfl
              try simp only [Act.put, List.setIfInBounds_toArray, List.set_cons_zero, List.set_cons_succ]
              refine wpAnyH_take (i := 4) (oi := ⟨_, _, _, _, _, _⟩) (v := ?_) rfl (by kernel_rfl) (by kernel_rfl) (by kernel_rfl) (fun _ _ _ h => h) (Or.inl ⟨by rfl, ?_⟩) (by assumption) ?_
              rotate_left
              · intro w hSw
                (try dsimp only at hSw)
                go_split_ands
                go_simp
                try with_reducible rfl
              try simp only [Act.put, List.setIfInBounds_toArray, List.set_cons_zero, List.set_cons_succ]
              refine wpAnyH_take (i := 7) (oi := ⟨_, _, _, _, _, _⟩) (v := ?_) rfl (by kernel_rfl) (by kernel_rfl) (by kernel_rfl) (fun _ _ _ h => h) (Or.inl ⟨by rfl, ?_⟩) (by assumption) ?_
              rotate_left
              · intro w hSw
                (try dsimp only at hSw)
                go_split_ands
                go_simp
                try with_reducible rfl
              try simp only [Act.put, List.setIfInBounds_toArray, List.set_cons_zero, List.set_cons_succ]
              refine wpAnyH_take (i := 8) (oi := ⟨_, _, _, _, _, _⟩) (v := ?_) rfl (by kernel_rfl) (by kernel_rfl) (by kernel_rfl) (fun _ _ _ h => h) (Or.inl ⟨by rfl, ?_⟩) (by assumption) ?_
              rotate_left
              · intro w hSw
                (try dsimp only at hSw)
                go_split_ands
                go_simp
                try with_reducible rfl
              try simp only [Act.put, List.setIfInBounds_toArray, List.set_cons_zero, List.set_cons_succ]
              refine wpAnyH_take (i := 9) (oi := ⟨_, _, _, _, _, _⟩) (v := ?_) rfl (by kernel_rfl) (by kernel_rfl) (by kernel_rfl) (fun _ _ _ h => h) (Or.inl ⟨by rfl, ?_⟩) (by assumption) ?_
              rotate_left
              · intro w hSw
                (try dsimp only at hSw)
                go_split_ands
                go_simp
                try with_reducible rfl
              try simp only [Act.put, List.setIfInBounds_toArray, List.set_cons_zero, List.set_cons_succ]
              refine wpAnyH_ready (rs := [5]) (by kernel_rfl) (by simp) (AllReadyH.cons (o := ⟨_, _, _, _, _, _⟩) rfl (fun K hK => ?_) AllReadyH.nil)
              go_simp
              refine (Octets_c _ _ HIS.out).mono ?_
              rintro e w6 ⟨n6, rfl, hr6, hb6⟩
              (try dsimp only)
              refine hK.out _ _ trivial (fun hHeld3 => ?_)
              clear hK K
              try simp only [Act.put, List.setIfInBounds_toArray, List.set_cons_zero, List.set_cons_succ]
              have hcv : (convert 62 9 (.slice (some ⟨wr.heap.size, 0, none⟩) n6 n6)).run Tryd.prog w6 = .ok (.string (mk8 (encodeRune (N : Int)))) w6 := hr6.rd.conv (c := n6)
              refine wpAnyH_ready (rs := [6]) (by kernel_rfl) (by simp) (AllReadyH.cons (o := ⟨_, _, _, _, _, _⟩) rfl (fun K hK => ?_) AllReadyH.nil)
              go_simp
              (try dsimp only)
              refine hK.out _ _ trivial (fun hHeld4 => ?_)
              clear hK K
              try simp only [Act.put, List.setIfInBounds_toArray, List.set_cons_zero, List.set_cons_succ]
              have hex : (S.extract 0 k).toList = l.take k := by rw [← HS.out, mk8_mid, Lib.toList_data, mk8_L, List.drop_zero]
              have hen : (mk8 (encodeRune (N : Int))).toList = encodeRune (N : Int) := by rw [Lib.toList_data, mk8_L]
              by_cases he : l.take k = encodeRune (N : Int)
              · have hcmp : ((mk8 (encodeRune (N : Int))).toList == (S.extract 0 k).toList) = true := by rw [hex, hen, he]; simp
                have hp : fstP l = ((N : Int), k) := by
                  have h1 := fstP_yes HNE.out (by rw [← HSO.out]; omega) (by rw [← HNF.out]; exact HIS.out) (by rw [← HSO.out, ← HNF.out]; exact he)
                  rw [← HSO.out, ← HNF.out] at h1; exact h1
                have HP := Lib.hid hp
                clear hp he hex hen
                refine wpAnyH_take (i := 10) (oi := ⟨_, _, _, _, _, _⟩) (v := ?_) rfl (by kernel_rfl) (by kernel_rfl) (by kernel_rfl) (fun _ _ _ h => h) (Or.inl ⟨by rfl, ?_⟩) (by assumption) ?_
                rotate_left
                · intro w hSw
                  (try dsimp only at hSw)
                  go_split_ands
                  go_simp
                  try with_reducible rfl
                try simp only [Act.put, List.setIfInBounds_toArray, List.set_cons_zero, List.set_cons_succ]
                refine wpAnyH_take (i := 11) (oi := ⟨_, _, _, _, _, _⟩) (v := ?_) rfl (by kernel_rfl) (by kernel_rfl) (by kernel_rfl) (fun _ _ _ h => h) (Or.inl ⟨by rfl, ?_⟩) (by assumption) ?_
                rotate_left
                · intro w hSw
                  (try dsimp only at hSw)
                  go_split_ands
                  go_simp
                  try with_reducible rfl
                try simp only [Act.put, List.setIfInBounds_toArray, List.set_cons_zero, List.set_cons_succ]
                refine wpAnyH_done (by kernel_rfl) ?_ _
                go_wp2
                go_ret2
                rw [HP.out]
                exact ⟨rfl, (Below.refl _ _).drew.trans (hb6.mono (Nat.le_refl _))⟩
              · have hcmp : ((mk8 (encodeRune (N : Int))).toList == (S.extract 0 k).toList) = false := by rw [hex, hen, beq_eq_false_iff_ne]; exact fun h => he h.symm
                have hp : fstP l = (0, 0) := fstP_no (fun h => he (by rw [HSO.out, HNF.out]; exact h.2.2.2))
                have HP := Lib.hid hp
                clear hp he hex hen
                refine wpAnyH_take (i := 10) (oi := ⟨_, _, _, _, _, _⟩) (v := ?_) rfl (by kernel_rfl) (by kernel_rfl) (by kernel_rfl) (fun _ _ _ h => h) (Or.inl ⟨by rfl, ?_⟩) (by assumption) ?_
                rotate_left
                · intro w hSw
                  (try dsimp only at hSw)
                  go_split_ands
                  go_simp
                  try with_reducible rfl
                try simp only [Act.put, List.setIfInBounds_toArray, List.set_cons_zero, List.set_cons_succ]
                refine wpAnyH_take (i := 11) (oi := ⟨_, _, _, _, _, _⟩) (v := ?_) rfl (by kernel_rfl) (by kernel_rfl) (by kernel_rfl) (fun _ _ _ h => h) (Or.inl ⟨by rfl, ?_⟩) (by assumption) ?_
                rotate_left
                · intro w hSw
                  (try dsimp only at hSw)
                  go_split_ands
                  go_simp
                  try with_reducible rfl
                try simp only [Act.put, List.setIfInBounds_toArray, List.set_cons_zero, List.set_cons_succ]
                refine wpAnyH_done (by kernel_rfl) ?_ _
                go_wp2
                go_ret2
                rw [HP.out]
                exact ⟨rfl, (Below.refl _ _).drew.trans (hb6.mono (Nat.le_refl _))⟩

            · have HCH : Hid (decide (isCh (N : Int)) = false) := decide_eq_false hch
              have HIS := Lib.hid hch
              clear hch
              go_wp2_with fail
              refine wp_region_held_drew (S := fun _ => True) (by kernel_rfl) trivial (fun hHeld => ?_)
              (try simp only [List.size_toArray, List.length_cons, List.length_nil, Nat.reduceAdd, Array.replicate_succ, Array.replicate_zero, List.push_toArray, List.append_toArray, List.nil_append, List.cons_append])
              refine wpAnyH_take (i := 0) (oi := ⟨_, _, _, _, _, _⟩) (v := ?_) rfl (by kernel_rfl) (by kernel_rfl) (by kernel_rfl) (fun _ _ _ h => h) (Or.inl ⟨by rfl, ?_⟩) (by assumption) ?_
              rotate_left
              · intro w hSw
                (try dsimp only at hSw)
                go_split_ands
                go_simp
                try with_reducible rfl
              try simp only [Act.put, List.setIfInBounds_toArray, List.set_cons_zero, List.set_cons_succ]
              refine wpAnyH_ready (rs := [1]) (by kernel_rfl) (by simp) (AllReadyH.cons (o := ⟨_, _, _, _, _, _⟩) rfl (fun K hK => ?_) AllReadyH.nil)
              go_simp
              refine (may_c _ _).mono ?_
              rintro e w5 ⟨rfl, rfl⟩
              rw [HCH.out]
              (try dsimp only)
              refine hK.out _ _ trivial (fun hHeld2 => ?_)
              clear hK K
              try simp only [Act.put, List.setIfInBounds_toArray, List.set_cons_zero, List.set_cons_succ]
              refine wpAnyH_take (i := 2) (oi := ⟨_, _, _, _, _, _⟩) (v := ?_) rfl (by kernel_rfl) (by kernel_rfl) (by kernel_rfl) (fun _ _ _ h => h) (Or.inl ⟨by rfl, ?_⟩) (by assumption) ?_
              rotate_left
              · intro w hSw
                (try dsimp only at hSw)
                go_split_ands
                go_simp
                try with_reducible rfl
              try simp only [Act.put, List.setIfInBounds_toArray, List.set_cons_zero, List.set_cons_succ]
              refine wpAnyH_take (i := 3) (oi := ⟨_, _, _, _, _, _⟩) (v := ?_) rfl (by kernel_rfl) (by kernel_rfl) (by kernel_rfl) (fun _ _ _ h => h) (Or.inl ⟨by rfl, ?_⟩) (by assumption) ?_
              rotate_left
              · intro w hSw
                (try dsimp only at hSw)
                go_split_ands
                go_simp
                try with_reducible rfl
              try simp only [Act.put, List.setIfInBounds_toArray, List.set_cons_zero, List.set_cons_succ]
              refine wpAnyH_take (i := 4) (oi := ⟨_, _, _, _, _, _⟩) (v := undef) rfl (by kernel_rfl) (by kernel_rfl) (by kernel_rfl) (fun _ _ _ h => h) (Or.inr ⟨by rfl, rfl⟩) (by assumption) ?_
              try simp only [Act.put, List.setIfInBounds_toArray, List.set_cons_zero, List.set_cons_succ]
              refine wpAnyH_take (i := 5) (oi := ⟨_, _, _, _, _, _⟩) (v := undef) rfl (by kernel_rfl) (by kernel_rfl) (by kernel_rfl) (fun _ _ _ h => h) (Or.inr ⟨by rfl, rfl⟩) (by assumption) ?_
              try simp only [Act.put, List.setIfInBounds_toArray, List.set_cons_zero, List.set_cons_succ]
              refine wpAnyH_take (i := 6) (oi := ⟨_, _, _, _, _, _⟩) (v := undef) rfl (by kernel_rfl) (by kernel_rfl) (by kernel_rfl) (fun _ _ _ h => h) (Or.inr ⟨by rfl, rfl⟩) (by assumption) ?_
              try simp only [Act.put, List.setIfInBounds_toArray, List.set_cons_zero, List.set_cons_succ]
              refine wpAnyH_take (i := 7) (oi := ⟨_, _, _, _, _, _⟩) (v := undef) rfl (by kernel_rfl) (by kernel_rfl) (by kernel_rfl) (fun _ _ _ h => h) (Or.inr ⟨by rfl, rfl⟩) (by assumption) ?_
              try simp only [Act.put, List.setIfInBounds_toArray, List.set_cons_zero, List.set_cons_succ]
              refine wpAnyH_take (i := 8) (oi := ⟨_, _, _, _, _, _⟩) (v := undef) rfl (by kernel_rfl) (by kernel_rfl) (by kernel_rfl) (fun _ _ _ h => h) (Or.inr ⟨by rfl, rfl⟩) (by assumption) ?_
              try simp only [Act.put, List.setIfInBounds_toArray, List.set_cons_zero, List.set_cons_succ]
              refine wpAnyH_take (i := 9) (oi := ⟨_, _, _, _, _, _⟩) (v := undef) rfl (by kernel_rfl) (by kernel_rfl) (by kernel_rfl) (fun _ _ _ h => h) (Or.inr ⟨by rfl, rfl⟩) (by assumption) ?_
              try simp only [Act.put, List.setIfInBounds_toArray, List.set_cons_zero, List.set_cons_succ]
              refine wpAnyH_take (i := 10) (oi := ⟨_, _, _, _, _, _⟩) (v := undef) rfl (by kernel_rfl) (by kernel_rfl) (by kernel_rfl) (fun _ _ _ h => h) (Or.inr ⟨by rfl, rfl⟩) (by assumption) ?_
              try simp only [Act.put, List.setIfInBounds_toArray, List.set_cons_zero, List.set_cons_succ]
              refine wpAnyH_take (i := 11) (oi := ⟨_, _, _, _, _, _⟩) (v := ?_) rfl (by kernel_rfl) (by kernel_rfl) (by kernel_rfl) (fun _ _ _ h => h) (Or.inl ⟨by rfl, ?_⟩) (by assumption) ?_
              rotate_left
              · intro w hSw
                (try dsimp only at hSw)
                go_split_ands
                go_simp
                try with_reducible rfl
              try simp only [Act.put, List.setIfInBounds_toArray, List.set_cons_zero, List.set_cons_succ]
              refine wpAnyH_done (by kernel_rfl) ?_ _
              go_wp2
              go_ret2
              have hp : fstP l = (0, 0) := fstP_no (fun h => HIS.out (by rw [HNF.out]; exact h.2.2.1))
              rw [hp]
              exact ⟨rfl, (Below.refl _ _).drew⟩
      · have hlt : (l.length : Int) < (sz : Int) := by omega
        have hp : Hid (fstP l = (0, 0)) := fstP_no (fun h => hle (by rw [HSO.out]; exact h.2.1))
        clear hle
        go_wp2
        go_ret2
        rw [hp.out]
        exact ⟨rfl, Below.refl _ _⟩
end Go.Proofs.YtdacdppmgcaioaaDoor
