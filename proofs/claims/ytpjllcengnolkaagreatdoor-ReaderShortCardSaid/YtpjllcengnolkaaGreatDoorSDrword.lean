/-
  Contract of the reference's Word and Print: a decimal's text, in octets, or the error.
-/
import Derived.Test.YtpjllcengnolkaaGreatDoorSNword
import Derived.Test.YtpjllcengnolkaaGreatDoorSDrprt
import Derived.Test.YtpjllcengnolkaaGreatDoorSDpar
import Derived.Test.YtpjllcengnolkaaGreatDoorSDop
import Derived.Test.YtpjllcengnolkaaGreatDoorSVcm
import Derived.Test.YtpjllcengnolkaaGreatDoorSDnumd
import Derived.Deep.RegionHeld3
import Derived.Deep.QuietTactic
import Derived.BigQuiet
import Derived.Deep.Cut
import Derived.Deep.CutRange
set_option linter.unusedVariables false
set_option linter.unusedSimpArgs false
namespace Go.Proofs.YtpjllcengnolkaaGreatDoor
open Go.RowKit

theorem below_drews1 (w : World) (k : Nat) : Below w.heap.size w (w.drewN k) := ⟨rfl, rfl, rfl, Nat.le_refl _, fun _ _ => rfl⟩
theorem octs_size {s : ByteArray} {l : List Nat} (h : octs s = l) : s.size = l.length := by rw [← h, octs_length]
theorem ex_take (s : ByteArray) (k : Nat) : octs (s.extract 0 k) = (octs s).take k := by rw [octs_extract, List.drop_zero]
theorem ex_drop (s : ByteArray) (k : Nat) : octs (s.extract k s.size) = (octs s).drop k := octs_rest s k

set_option maxRecDepth 100000 in
set_option maxHeartbeats 4000000 in
theorem RWord_c {S : Nat → Prop} {n c : Nat} {A : Option Addr} {xs : List Nat} (neg : Bool) (exp : Int) (w : World) (ha : Rd w S A n xs) (hS : ∀ b, S b → b < w.heap.size) (hn : n ≤ 9223372036854775807) (hok : okB neg xs exp = true) :
    Calls Tryz.prog 16 #[dv neg A n c exp] w fun e w' => ∃ t, e = .returned (.string t) ∧ octs t = prt neg (val xs) exp ∧ Below w.heap.size w w' := by
  obtain ⟨a1, a2, _, ⟨x1, x2⟩, x3, _⟩ := okB_true ha.l32 hok
  obtain ⟨l1, l2⟩ := numO_le (okB_len hok)
  have hn2 : n ≤ 256 := by rw [← ha.len]; exact a2
  have hb0 : Below w.heap.size w (w.alloc (.cells #[.bool neg, .slice A n c, .int .i64 exp] 31)) := (Below.refl _ _).alloc (Nat.le_refl _) _
  have hOf := Of_c (c := c) neg exp (w.alloc (.cells #[.bool neg, .slice A n c, .int .i64 exp] 31)) (ha.below hb0 hS) (fun b h => by have := hS b h; simp; omega) hn2
  have hzero : val xs = 0 → neg = false ∧ exp = 0 := fun h0 => by
    rcases okB_cases ha.l32 hok with ⟨_, h1, h2⟩ | ⟨h, _⟩
    · exact ⟨h1, h2⟩
    · omega
  obtain ⟨v, hv⟩ : ∃ v, v = val xs := ⟨_, rfl⟩
  rw [← hv] at hOf hzero l1 l2 ⊢
  obtain ⟨p, hp⟩ : ∃ p : Int, p = ((numO v).length : Int) + exp := ⟨_, rfl⟩
  have hprt : prt neg v exp = prtAt neg (numO v) p := by unfold prt; rw [hp]
  have hzp : v = 0 → prt neg v exp = [48] := fun h0 => by
    obtain ⟨z1, z2⟩ := hzero h0
    rw [h0, z1, z2]; decide
  obtain ⟨R, hR⟩ : ∃ R, R = prt neg v exp := ⟨_, rfl⟩
  rw [← hR] at hprt hzp ⊢
  unfold dv nv at hOf
  unfold dv
  have HB0 := Lib.hid hb0
  have HOF := Lib.hid hOf
  have HZP := Lib.hid hzp
  have HPR := Lib.hid hprt
  have HP := Lib.hid hp
  have hpb : -1000 ≤ p ∧ p ≤ 1300 := by omega
  obtain ⟨hp1, hp2⟩ := hpb
  clear hb0 hOf hzero hzp hprt hR hp hok ha hS a1 a2 x3 hv
  go_enter Tryz.func16, Tryz.ntmps16
  go_wp2_with fail
  refine HOF.out.mono ?_
  rintro e w1 ⟨A1, n1, c1, ds, rfl, hr1, hd1, hv1, hn1, hb1⟩
  have hw1 := HB0.out.trans (hb1.mono (by simp))
  have hal : Below w1.heap.size w1 (w1.alloc (.cells #[.bool neg, .slice A1 n1 c1, .int .i64 exp] 52)) := (Below.refl _ _).alloc (Nat.le_refl _) _
  have hw2 := hw1.trans (hal.mono hw1.size)
  have m2 := World.alloc_heap_new w1 (.cells #[.bool neg, .slice A1 n1 c1, .int .i64 exp] 52)
  have r2 := hr1.rd.below hal (fun b h => h.2)
  have hWd := Word_c (c := c1) (w1.alloc (.cells #[.bool neg, .slice A1 n1 c1, .int .i64 exp] 52)) r2 (fun b h => by have := h.2; simp; omega) hd1 (by omega)
  rw [hv1] at hWd
  have hlen := hr1.len
  have hnz : n1 = 0 → v = 0 := fun h => by
    have : ds = [] := List.eq_nil_of_length_eq_zero (by rw [hlen]; exact h)
    rw [← hv1, this]; rfl
  have HWD := Lib.hid hWd
  have HM2 := Lib.hid m2
  have HW2 := Lib.hid hw2
  have HNZ := Lib.hid hnz
  clear hWd m2 hw2 hnz hw1 hal r2 hr1 hd1 hv1 hb1 hlen
  go_wp2_with fail
  refine HWD.out.mono ?_
  rintro e w3 ⟨s, rfl, hs, hb3⟩
  have m3 := heldB hb3 HM2.out
  have q0 : w3.cell? ⟨w1.heap.size, 0, none⟩ = some (.bool neg) := cell_of m3 rfl
  have q1 : w3.cell? ⟨w1.heap.size, 1, none⟩ = some (.slice A1 n1 c1) := cell_of m3 rfl
  have q2 : w3.cell? ⟨w1.heap.size, 2, none⟩ = some (.int .i64 exp) := cell_of m3 rfl
  have hos := isDec_numO hs
  have hss : s.size = (numO v).length := octs_size hos
  have HOS := Lib.hid hos
  have HW3 := Lib.hid (HW2.out.trans (hb3.mono HW2.out.size))
  have hpx : IntKind.i64.wrap ((s.size : Int) + exp) = p := by rw [hss, IntWalk.i64_in _ (by omega)]; exact HP.out.symm
  have hex := ex_take s
  have hed : ∀ k, octs (s.extract k (numO v).length) = (octs s).drop k := fun k => by rw [← hss]; exact ex_drop s k
  have HEX := Lib.hid hex
  have HED := Lib.hid hed
  have hsl : s.size ≤ 300 := by omega
  have hsp : 0 < s.size := by omega
  clear hs hb3 m3 hos hex hed
  generalize numO v = D at *
  obtain rfl : p = (D.length : Int) + exp := HP.out
  clear HP
  go_upto_if 14 with fail
  go_cut [5] from 13 to 14 (fun s5 wc => ∃ SG : ByteArray, s5 = .string SG ∧ octs SG = (if neg = true then [45] else []) ∧ SG.size ≤ 1 ∧ w3 = wc)
  case first =>
    cases neg
    · go_wp2
      go_meet
      exact ⟨⟨#[]⟩, rfl, rfl, by decide, rfl⟩
    · go_wp2
      go_meet
      exact ⟨⟨#[45]⟩, rfl, rfl, by decide, rfl⟩
  case rest =>
    obtain ⟨SG, rfl, hgo, hgs, rfl⟩ := hcut
    have HGO := Lib.hid hgo
    clear hgo
    by_cases hn0 : n1 = 0
    · subst hn0
      have hz := Lib.hid (HZP.out (HNZ.out rfl))
      go_wp2
      go_ret
      exact ⟨_, rfl, by rw [hz.out]; rfl, HW3.out⟩
    · have hnb : ((n1 : Int) == 0) = false := by rw [beq_eq_false_iff_ne]; omega
      clear hn0 HNZ HZP
      by_cases c1' : -5 ≤ ((D.length : Int) + exp) ∧ ((D.length : Int) + exp) < 1
      · obtain ⟨k, hk⟩ : ∃ k : Nat, -((D.length : Int) + exp) = (k : Int) := ⟨(-((D.length : Int) + exp)).toNat, by omega⟩
        have hZ := fun V => zeros_c k (-((D.length : Int) + exp)) V hk (by omega)
        have hzs := repS_size k
        have hzo := octs_repS k
        have hfin : Hid (R = (if neg = true then [45] else []) ++ ([48, 46] ++ (List.replicate k 48 ++ D))) := by
          show _ = _
          rw [HPR.out]; unfold prtAt plainT
          rw [if_pos (show -5 ≤ ((D.length : Int) + exp) ∧ ((D.length : Int) + exp) ≤ 21 by omega), if_pos (show ((D.length : Int) + exp) < 1 by omega), show (-((D.length : Int) + exp)).toNat = k by omega]
        obtain ⟨d1, d2⟩ := c1'
        have HZ := Lib.hid hZ
        have HZO := Lib.hid hzo
        have hk100 : k ≤ 5 := by omega
        clear hZ hk hzo
        generalize repS k = Z at *
        go_wp2_with fail
        refine (HZ.out w3).mono ?_
        rintro e w4 ⟨rfl, rfl⟩
        go_wp2
        go_ret
        exact ⟨_, rfl, by rw [hfin.out]; simp only [octs_append, HGO.out, HZO.out, HOS.out, List.append_assoc]; rfl, HW3.out⟩
      · by_cases c2' : 1 ≤ ((D.length : Int) + exp) ∧ ((D.length : Int) + exp) ≤ 21
        · obtain ⟨d1, d2⟩ := c2'
          have d0 : ¬ (((D.length : Int) + exp) < 1) := by omega
          by_cases c3' : ((D.length : Int) + exp) < (D.length : Int)
          · have hfin : Hid (R = (if neg = true then [45] else []) ++ (D.take ((D.length : Int) + exp).toNat ++ 46 :: D.drop ((D.length : Int) + exp).toNat)) := by
              show _ = _
              rw [HPR.out]; unfold prtAt plainT
              rw [if_pos (show -5 ≤ ((D.length : Int) + exp) ∧ ((D.length : Int) + exp) ≤ 21 by omega), if_neg d0, if_pos c3']
            have g1 : 0 ≤ ((D.length : Int) + exp) := by omega
            have g2 : ((D.length : Int) + exp) ≤ (s.size : Int) := by omega
            clear c1'
            go_wp2_with fail
            go_quiet (fail)
            go_wp2
            go_ret
            exact ⟨_, rfl, by rw [hfin.out]; simp only [octs_append, HGO.out, HEX.out, HED.out, HOS.out, List.append_assoc]; rfl, HW3.out.trans ((below_drews1 w3 _).mono HW3.out.size)⟩
          · obtain ⟨k, hk⟩ : ∃ k : Nat, ((D.length : Int) + exp) - (D.length : Int) = (k : Int) := ⟨(((D.length : Int) + exp) - (D.length : Int)).toNat, by omega⟩
            have hZ := fun V => zeros_c k (((D.length : Int) + exp) - (D.length : Int)) V hk (by omega)
            have hzs := repS_size k
            have hzo := octs_repS k
            have hfin : Hid (R = (if neg = true then [45] else []) ++ (D ++ List.replicate k 48)) := by
              show _ = _
              rw [HPR.out]; unfold prtAt plainT
              rw [if_pos (show -5 ≤ ((D.length : Int) + exp) ∧ ((D.length : Int) + exp) ≤ 21 by omega), if_neg d0, if_neg c3', show (((D.length : Int) + exp) - (D.length : Int)).toNat = k by omega]
            have HZ := Lib.hid hZ
            have HZO := Lib.hid hzo
            have hk100 : k ≤ 21 := by omega
            clear hZ hk hzo c1'
            generalize repS k = Z at *
            go_wp2_with fail
            refine (HZ.out w3).mono ?_
            rintro e w4 ⟨rfl, rfl⟩
            go_wp2
            go_ret
            exact ⟨_, rfl, by rw [hfin.out]; simp only [octs_append, HGO.out, HZO.out, HOS.out, List.append_assoc], HW3.out⟩
        · by_cases c4' : ((D.length : Int) + exp) < 1
          · obtain ⟨k, hk⟩ : ∃ k : Nat, -(((D.length : Int) + exp) - 1) = (k : Int) := ⟨(-(((D.length : Int) + exp) - 1)).toNat, by omega⟩
            have hPl := fun V => plainN_c k V (by omega)
            have HPL := Lib.hid hPl
            have e0 : ¬ (-5 ≤ ((D.length : Int) + exp)) := by omega
            have e1 : ((D.length : Int) + exp) - 1 < 0 := by omega
            clear hPl c1' c2'
            by_cases hl1 : 1 < D.length
            · have hl1' : (1 : Int) < (D.length : Int) := by omega
              have hl1'' : (1 : Int) ≤ (D.length : Int) := by omega
              have hmin : min 1 D.length = 1 := by omega
              have hno1 : ¬ (9223372036854775807 < SG.size + 1) := by omega
              have hno2 : ¬ (9223372036854775807 < SG.size + 1 + 1) := by omega
              have hno3 : ¬ (9223372036854775807 < SG.size + 1 + 1 + (D.length - 1)) := by omega
              have hno4 : ¬ (9223372036854775807 < SG.size + 1 + 1 + (D.length - 1) + 2) := by omega
              have hfin : Hid (R = (if neg = true then [45] else []) ++ ((D.take 1 ++ 46 :: D.drop 1) ++ 101 :: 45 :: itoO (k : Int))) := by
                show _ = _
                rw [HPR.out]; unfold prtAt powT
                rw [if_neg (show ¬ (-5 ≤ ((D.length : Int) + exp) ∧ ((D.length : Int) + exp) ≤ 21) by omega), if_pos hl1, if_pos c4', show 1 - ((D.length : Int) + exp) = (k : Int) by omega]
              go_wp2_with fail
              refine wp_region_held_drew (S := fun _ => True) (by kernel_rfl) trivial (fun hHeld => ?_)
              (try simp only [List.size_toArray, List.length_cons, List.length_nil, Nat.reduceAdd, Array.replicate_succ, Array.replicate_zero, List.push_toArray, List.append_toArray, List.nil_append, List.cons_append])
              refine wpAnyH_take (i := 0) (oi := ⟨_, _, _, _, _, _⟩) (v := ?_) rfl (by kernel_rfl) (by kernel_rfl) (by kernel_rfl) (fun _ _ _ h => h) (Or.inl ⟨by rfl, ?_⟩) (by assumption) ?_
              rotate_left
              · intro w hSw
                (try dsimp only at hSw)
                go_split_ands
                go_simp
                try with_reducible rfl
              try simp only [Act.put, List.setIfInBounds_toArray, List.set_cons_zero, List.set_cons_succ]
              refine wpAnyH_take (i := 1) (oi := ⟨_, _, _, _, _, _⟩) (v := ?_) rfl (by kernel_rfl) (by kernel_rfl) (by kernel_rfl) (fun _ _ _ h => h) (Or.inl ⟨by rfl, ?_⟩) (by assumption) ?_
              rotate_left
              · intro w hSw
                (try dsimp only at hSw)
                go_split_ands
                go_simp
                try with_reducible rfl
              try simp only [Act.put, List.setIfInBounds_toArray, List.set_cons_zero, List.set_cons_succ]
              refine wpAnyH_take (i := 2) (oi := ⟨_, _, _, _, _, _⟩) (v := ?_) rfl (by kernel_rfl) (by kernel_rfl) (by kernel_rfl) (fun _ _ _ h => h) (Or.inl ⟨by rfl, ?_⟩) (by assumption) ?_
              rotate_left
              · intro w hSw
                (try dsimp only at hSw)
                go_split_ands
                go_simp
                try with_reducible rfl
              try simp only [Act.put, List.setIfInBounds_toArray, List.set_cons_zero, List.set_cons_succ]
              refine wpAnyH_take (i := 3) (oi := ⟨_, _, _, _, _, _⟩) (v := ?_) rfl (by kernel_rfl) (by kernel_rfl) (by kernel_rfl) (fun _ _ _ h => h) (Or.inl ⟨by rfl, ?_⟩) (by assumption) ?_
              rotate_left
              · intro w hSw
                (try dsimp only at hSw)
                go_split_ands
                go_simp
                try with_reducible rfl
              try simp only [Act.put, List.setIfInBounds_toArray, List.set_cons_zero, List.set_cons_succ]
              refine wpAnyH_take (i := 4) (oi := ⟨_, _, _, _, _, _⟩) (v := ?_) rfl (by kernel_rfl) (by kernel_rfl) (by kernel_rfl) (fun _ _ _ h => h) (Or.inl ⟨by rfl, ?_⟩) (by assumption) ?_
              rotate_left
              · intro w hSw
                (try dsimp only at hSw)
                go_split_ands
                go_simp
                try with_reducible rfl
              try simp only [Act.put, List.setIfInBounds_toArray, List.set_cons_zero, List.set_cons_succ]
              refine wpAnyH_take (i := 5) (oi := ⟨_, _, _, _, _, _⟩) (v := ?_) rfl (by kernel_rfl) (by kernel_rfl) (by kernel_rfl) (fun _ _ _ h => h) (Or.inl ⟨by rfl, ?_⟩) (by assumption) ?_
              rotate_left
              · intro w hSw
                (try dsimp only at hSw)
                go_split_ands
                go_simp
                try with_reducible rfl
              try simp only [Act.put, List.setIfInBounds_toArray, List.set_cons_zero, List.set_cons_succ]
              refine wpAnyH_take (i := 6) (oi := ⟨_, _, _, _, _, _⟩) (v := ?_) rfl (by kernel_rfl) (by kernel_rfl) (by kernel_rfl) (fun _ _ _ h => h) (Or.inl ⟨by rfl, ?_⟩) (by assumption) ?_
              rotate_left
              · intro w hSw
                (try dsimp only at hSw)
                go_split_ands
                go_simp
                try with_reducible rfl
              try simp only [Act.put, List.setIfInBounds_toArray, List.set_cons_zero, List.set_cons_succ]
              refine wpAnyH_take (i := 7) (oi := ⟨_, _, _, _, _, _⟩) (v := ?_) rfl (by kernel_rfl) (by kernel_rfl) (by kernel_rfl) (fun _ _ _ h => h) (Or.inl ⟨by rfl, ?_⟩) (by assumption) ?_
              rotate_left
              · intro w hSw
                (try dsimp only at hSw)
                go_split_ands
                go_simp
                try with_reducible rfl
              try simp only [Act.put, List.setIfInBounds_toArray, List.set_cons_zero, List.set_cons_succ]
              refine wpAnyH_take (i := 8) (oi := ⟨_, _, _, _, _, _⟩) (v := ?_) rfl (by kernel_rfl) (by kernel_rfl) (by kernel_rfl) (fun _ _ _ h => h) (Or.inl ⟨by rfl, ?_⟩) (by assumption) ?_
              rotate_left
              · intro w hSw
                (try dsimp only at hSw)
                go_split_ands
                go_simp
                try with_reducible rfl
              try simp only [Act.put, List.setIfInBounds_toArray, List.set_cons_zero, List.set_cons_succ]
              refine wpAnyH_take (i := 9) (oi := ⟨_, _, _, _, _, _⟩) (v := ?_) rfl (by kernel_rfl) (by kernel_rfl) (by kernel_rfl) (fun _ _ _ h => h) (Or.inl ⟨by rfl, ?_⟩) (by assumption) ?_
              rotate_left
              · intro w hSw
                (try dsimp only at hSw)
                go_split_ands
                go_simp
                try with_reducible rfl
              try simp only [Act.put, List.setIfInBounds_toArray, List.set_cons_zero, List.set_cons_succ]
              refine wpAnyH_take (i := 10) (oi := ⟨_, _, _, _, _, _⟩) (v := ?_) rfl (by kernel_rfl) (by kernel_rfl) (by kernel_rfl) (fun _ _ _ h => h) (Or.inl ⟨by rfl, ?_⟩) (by assumption) ?_
              rotate_left
              · intro w hSw
                (try dsimp only at hSw)
                go_split_ands
                go_simp
                try with_reducible rfl
              try simp only [Act.put, List.setIfInBounds_toArray, List.set_cons_zero, List.set_cons_succ]
              refine wpAnyH_ready (rs := [11]) (by kernel_rfl) (by simp) (AllReadyH.cons (o := ⟨_, _, _, _, _, _⟩) rfl (fun K hK => ?_) AllReadyH.nil)
              go_simp
              refine (HPL.out _).mono ?_
              rintro e w5 ⟨t, rfl, ht, hts, hb5⟩
              have hno5 : ¬ (9223372036854775807 < SG.size + 1 + 1 + (D.length - 1) + 2 + t.size) := by omega
              (try dsimp only)
              refine hK.out _ _ trivial (fun hHeld2 => ?_)
              clear hK K
              try simp only [Act.put, List.setIfInBounds_toArray, List.set_cons_zero, List.set_cons_succ]
              refine wpAnyH_take (i := 12) (oi := ⟨_, _, _, _, _, _⟩) (v := ?_) rfl (by kernel_rfl) (by kernel_rfl) (by kernel_rfl) (fun _ _ _ h => h) (Or.inl ⟨by rfl, ?_⟩) (by assumption) ?_
              rotate_left
              · intro w hSw
                (try dsimp only at hSw)
                go_split_ands
                go_simp
                try with_reducible rfl
              try simp only [Act.put, List.setIfInBounds_toArray, List.set_cons_zero, List.set_cons_succ]
              refine wpAnyH_take (i := 13) (oi := ⟨_, _, _, _, _, _⟩) (v := ?_) rfl (by kernel_rfl) (by kernel_rfl) (by kernel_rfl) (fun _ _ _ h => h) (Or.inl ⟨by rfl, ?_⟩) (by assumption) ?_
              rotate_left
              · intro w hSw
                (try dsimp only at hSw)
                go_split_ands
                go_simp
                try with_reducible rfl
              try simp only [Act.put, List.setIfInBounds_toArray, List.set_cons_zero, List.set_cons_succ]
              refine wpAnyH_done (by kernel_rfl) ?_ _
              have HB5 := Lib.hid (HW3.out.trans ((Below.refl w3.heap.size w3).drew.trans (hb5.mono (Nat.le_refl _)) |>.mono HW3.out.size))
              have HT5 := Lib.hid ht
              clear hb5 ht hHeld hHeld2
              go_wp2
              go_ret
              exact ⟨_, rfl, by rw [hfin.out]; simp only [octs_append, HGO.out, HEX.out, HED.out, HOS.out, HT5.out, List.append_assoc]; rfl, HB5.out⟩
            · have hl1' : ¬ ((1 : Int) < (D.length : Int)) := by omega
              have hfin : Hid (R = (if neg = true then [45] else []) ++ (D ++ 101 :: 45 :: itoO (k : Int))) := by
                show _ = _
                rw [HPR.out]; unfold prtAt powT
                rw [if_neg (show ¬ (-5 ≤ ((D.length : Int) + exp) ∧ ((D.length : Int) + exp) ≤ 21) by omega), if_neg hl1, if_pos c4', show 1 - ((D.length : Int) + exp) = (k : Int) by omega, List.take_of_length_le (by omega), List.append_nil]
              go_wp2_with fail
              refine (HPL.out _).mono ?_
              rintro e w5 ⟨t, rfl, ht, hts, hb5⟩
              have HB5 := Lib.hid (HW3.out.trans (hb5.mono HW3.out.size))
              have HT5 := Lib.hid ht
              clear hb5 ht
              go_wp2
              go_ret
              exact ⟨_, rfl, by rw [hfin.out]; simp only [octs_append, HGO.out, HOS.out, HT5.out, List.append_assoc]; rfl, HB5.out⟩
          · obtain ⟨k, hk⟩ : ∃ k : Nat, ((D.length : Int) + exp) - 1 = (k : Int) := ⟨(((D.length : Int) + exp) - 1).toNat, by omega⟩
            have hPl := fun V => plainN_c k V (by omega)
            have HPL := Lib.hid hPl
            have e0 : 21 < ((D.length : Int) + exp) := by omega
            have e1 : ¬ (((D.length : Int) + exp) - 1 < 0) := by omega
            clear hPl c1' c2'
            by_cases hl1 : 1 < D.length
            · have hl1' : (1 : Int) < (D.length : Int) := by omega
              have hl1'' : (1 : Int) ≤ (D.length : Int) := by omega
              have hmin : min 1 D.length = 1 := by omega
              have hno1 : ¬ (9223372036854775807 < SG.size + 1) := by omega
              have hno2 : ¬ (9223372036854775807 < SG.size + 1 + 1) := by omega
              have hno3 : ¬ (9223372036854775807 < SG.size + 1 + 1 + (D.length - 1)) := by omega
              have hno4 : ¬ (9223372036854775807 < SG.size + 1 + 1 + (D.length - 1) + 2) := by omega
              have hfin : Hid (R = (if neg = true then [45] else []) ++ ((D.take 1 ++ 46 :: D.drop 1) ++ 101 :: 43 :: itoO (k : Int))) := by
                show _ = _
                rw [HPR.out]; unfold prtAt powT
                rw [if_neg (show ¬ (-5 ≤ ((D.length : Int) + exp) ∧ ((D.length : Int) + exp) ≤ 21) by omega), if_pos hl1, if_neg c4', show ((D.length : Int) + exp) - 1 = (k : Int) from hk]
              go_wp2_with fail
              refine wp_region_held_drew (S := fun _ => True) (by kernel_rfl) trivial (fun hHeld => ?_)
              (try simp only [List.size_toArray, List.length_cons, List.length_nil, Nat.reduceAdd, Array.replicate_succ, Array.replicate_zero, List.push_toArray, List.append_toArray, List.nil_append, List.cons_append])
              refine wpAnyH_take (i := 0) (oi := ⟨_, _, _, _, _, _⟩) (v := ?_) rfl (by kernel_rfl) (by kernel_rfl) (by kernel_rfl) (fun _ _ _ h => h) (Or.inl ⟨by rfl, ?_⟩) (by assumption) ?_
              rotate_left
              · intro w hSw
                (try dsimp only at hSw)
                go_split_ands
                go_simp
                try with_reducible rfl
              try simp only [Act.put, List.setIfInBounds_toArray, List.set_cons_zero, List.set_cons_succ]
              refine wpAnyH_take (i := 1) (oi := ⟨_, _, _, _, _, _⟩) (v := ?_) rfl (by kernel_rfl) (by kernel_rfl) (by kernel_rfl) (fun _ _ _ h => h) (Or.inl ⟨by rfl, ?_⟩) (by assumption) ?_
              rotate_left
              · intro w hSw
                (try dsimp only at hSw)
                go_split_ands
                go_simp
                try with_reducible rfl
              try simp only [Act.put, List.setIfInBounds_toArray, List.set_cons_zero, List.set_cons_succ]
              refine wpAnyH_take (i := 2) (oi := ⟨_, _, _, _, _, _⟩) (v := ?_) rfl (by kernel_rfl) (by kernel_rfl) (by kernel_rfl) (fun _ _ _ h => h) (Or.inl ⟨by rfl, ?_⟩) (by assumption) ?_
              rotate_left
              · intro w hSw
                (try dsimp only at hSw)
                go_split_ands
                go_simp
                try with_reducible rfl
              try simp only [Act.put, List.setIfInBounds_toArray, List.set_cons_zero, List.set_cons_succ]
              refine wpAnyH_take (i := 3) (oi := ⟨_, _, _, _, _, _⟩) (v := ?_) rfl (by kernel_rfl) (by kernel_rfl) (by kernel_rfl) (fun _ _ _ h => h) (Or.inl ⟨by rfl, ?_⟩) (by assumption) ?_
              rotate_left
              · intro w hSw
                (try dsimp only at hSw)
                go_split_ands
                go_simp
                try with_reducible rfl
              try simp only [Act.put, List.setIfInBounds_toArray, List.set_cons_zero, List.set_cons_succ]
              refine wpAnyH_take (i := 4) (oi := ⟨_, _, _, _, _, _⟩) (v := ?_) rfl (by kernel_rfl) (by kernel_rfl) (by kernel_rfl) (fun _ _ _ h => h) (Or.inl ⟨by rfl, ?_⟩) (by assumption) ?_
              rotate_left
              · intro w hSw
                (try dsimp only at hSw)
                go_split_ands
                go_simp
                try with_reducible rfl
              try simp only [Act.put, List.setIfInBounds_toArray, List.set_cons_zero, List.set_cons_succ]
              refine wpAnyH_take (i := 5) (oi := ⟨_, _, _, _, _, _⟩) (v := ?_) rfl (by kernel_rfl) (by kernel_rfl) (by kernel_rfl) (fun _ _ _ h => h) (Or.inl ⟨by rfl, ?_⟩) (by assumption) ?_
              rotate_left
              · intro w hSw
                (try dsimp only at hSw)
                go_split_ands
                go_simp
                try with_reducible rfl
              try simp only [Act.put, List.setIfInBounds_toArray, List.set_cons_zero, List.set_cons_succ]
              refine wpAnyH_take (i := 6) (oi := ⟨_, _, _, _, _, _⟩) (v := ?_) rfl (by kernel_rfl) (by kernel_rfl) (by kernel_rfl) (fun _ _ _ h => h) (Or.inl ⟨by rfl, ?_⟩) (by assumption) ?_
              rotate_left
              · intro w hSw
                (try dsimp only at hSw)
                go_split_ands
                go_simp
                try with_reducible rfl
              try simp only [Act.put, List.setIfInBounds_toArray, List.set_cons_zero, List.set_cons_succ]
              refine wpAnyH_take (i := 7) (oi := ⟨_, _, _, _, _, _⟩) (v := ?_) rfl (by kernel_rfl) (by kernel_rfl) (by kernel_rfl) (fun _ _ _ h => h) (Or.inl ⟨by rfl, ?_⟩) (by assumption) ?_
              rotate_left
              · intro w hSw
                (try dsimp only at hSw)
                go_split_ands
                go_simp
                try with_reducible rfl
              try simp only [Act.put, List.setIfInBounds_toArray, List.set_cons_zero, List.set_cons_succ]
              refine wpAnyH_take (i := 8) (oi := ⟨_, _, _, _, _, _⟩) (v := ?_) rfl (by kernel_rfl) (by kernel_rfl) (by kernel_rfl) (fun _ _ _ h => h) (Or.inl ⟨by rfl, ?_⟩) (by assumption) ?_
              rotate_left
              · intro w hSw
                (try dsimp only at hSw)
                go_split_ands
                go_simp
                try with_reducible rfl
              try simp only [Act.put, List.setIfInBounds_toArray, List.set_cons_zero, List.set_cons_succ]
              refine wpAnyH_take (i := 9) (oi := ⟨_, _, _, _, _, _⟩) (v := ?_) rfl (by kernel_rfl) (by kernel_rfl) (by kernel_rfl) (fun _ _ _ h => h) (Or.inl ⟨by rfl, ?_⟩) (by assumption) ?_
              rotate_left
              · intro w hSw
                (try dsimp only at hSw)
                go_split_ands
                go_simp
                try with_reducible rfl
              try simp only [Act.put, List.setIfInBounds_toArray, List.set_cons_zero, List.set_cons_succ]
              refine wpAnyH_take (i := 10) (oi := ⟨_, _, _, _, _, _⟩) (v := ?_) rfl (by kernel_rfl) (by kernel_rfl) (by kernel_rfl) (fun _ _ _ h => h) (Or.inl ⟨by rfl, ?_⟩) (by assumption) ?_
              rotate_left
              · intro w hSw
                (try dsimp only at hSw)
                go_split_ands
                go_simp
                try with_reducible rfl
              try simp only [Act.put, List.setIfInBounds_toArray, List.set_cons_zero, List.set_cons_succ]
              refine wpAnyH_ready (rs := [11]) (by kernel_rfl) (by simp) (AllReadyH.cons (o := ⟨_, _, _, _, _, _⟩) rfl (fun K hK => ?_) AllReadyH.nil)
              go_simp
              refine (HPL.out _).mono ?_
              rintro e w5 ⟨t, rfl, ht, hts, hb5⟩
              have hno5 : ¬ (9223372036854775807 < SG.size + 1 + 1 + (D.length - 1) + 2 + t.size) := by omega
              (try dsimp only)
              refine hK.out _ _ trivial (fun hHeld2 => ?_)
              clear hK K
              try simp only [Act.put, List.setIfInBounds_toArray, List.set_cons_zero, List.set_cons_succ]
              refine wpAnyH_take (i := 12) (oi := ⟨_, _, _, _, _, _⟩) (v := ?_) rfl (by kernel_rfl) (by kernel_rfl) (by kernel_rfl) (fun _ _ _ h => h) (Or.inl ⟨by rfl, ?_⟩) (by assumption) ?_
              rotate_left
              · intro w hSw
                (try dsimp only at hSw)
                go_split_ands
                go_simp
                try with_reducible rfl
              try simp only [Act.put, List.setIfInBounds_toArray, List.set_cons_zero, List.set_cons_succ]
              refine wpAnyH_take (i := 13) (oi := ⟨_, _, _, _, _, _⟩) (v := ?_) rfl (by kernel_rfl) (by kernel_rfl) (by kernel_rfl) (fun _ _ _ h => h) (Or.inl ⟨by rfl, ?_⟩) (by assumption) ?_
              rotate_left
              · intro w hSw
                (try dsimp only at hSw)
                go_split_ands
                go_simp
                try with_reducible rfl
              try simp only [Act.put, List.setIfInBounds_toArray, List.set_cons_zero, List.set_cons_succ]
              refine wpAnyH_done (by kernel_rfl) ?_ _
              have HB5 := Lib.hid (HW3.out.trans ((Below.refl w3.heap.size w3).drew.trans (hb5.mono (Nat.le_refl _)) |>.mono HW3.out.size))
              have HT5 := Lib.hid ht
              clear hb5 ht hHeld hHeld2
              go_wp2
              go_ret
              exact ⟨_, rfl, by rw [hfin.out]; simp only [octs_append, HGO.out, HEX.out, HED.out, HOS.out, HT5.out, List.append_assoc]; rfl, HB5.out⟩
            · have hl1' : ¬ ((1 : Int) < (D.length : Int)) := by omega
              have hfin : Hid (R = (if neg = true then [45] else []) ++ (D ++ 101 :: 43 :: itoO (k : Int))) := by
                show _ = _
                rw [HPR.out]; unfold prtAt powT
                rw [if_neg (show ¬ (-5 ≤ ((D.length : Int) + exp) ∧ ((D.length : Int) + exp) ≤ 21) by omega), if_neg hl1, if_neg c4', show ((D.length : Int) + exp) - 1 = (k : Int) from hk, List.take_of_length_le (by omega), List.append_nil]
              go_wp2_with fail
              refine (HPL.out _).mono ?_
              rintro e w5 ⟨t, rfl, ht, hts, hb5⟩
              have HB5 := Lib.hid (HW3.out.trans (hb5.mono HW3.out.size))
              have HT5 := Lib.hid ht
              clear hb5 ht
              go_wp2
              go_ret
              exact ⟨_, rfl, by rw [hfin.out]; simp only [octs_append, HGO.out, HOS.out, HT5.out, List.append_assoc]; rfl, HB5.out⟩

end Go.Proofs.YtpjllcengnolkaaGreatDoor
