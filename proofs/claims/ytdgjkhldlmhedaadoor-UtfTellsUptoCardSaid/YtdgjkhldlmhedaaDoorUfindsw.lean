/-
  The walk of the law UtfFinds: it returns true, whatever the three texts are.
-/
import Derived.Test.YtdgjkhldlmhedaaDoorUfindsl
import Derived.Deep.AppendLies
import Derived.Deep.RegionHeld3
import Derived.Deep.QuietTactic
import Derived.BigQuiet
set_option linter.unusedVariables false
set_option linter.unusedSimpArgs false
namespace Go.Proofs.YtdgjkhldlmhedaaDoor
open Go.RowKit Go.Lib

theorem Find_any (S T : List UInt8) (w : World) (hT : Tabs w) (hs : S.length ≤ 16777216) (ht : T.length ≤ 16777216) :
    Calls Tryd.prog 17 #[.string (mk8 S), .string (mk8 T)] w fun e w' => ∃ A n c E, e = .returned (.tuple #[.slice A n c, .int .i64 E]) ∧ ((E = 61 ∧ n = 0 ∧ ¬ (isT S = true ∧ isT T = true)) ∨ (E = 0 ∧ isT S = true ∧ isT T = true)) ∧ (E = 0 → RowV w' w.heap.size 3 A n c (nz (findN S T))) ∧ Below w.heap.size w w' := by
  by_cases h : isT S = true ∧ isT T = true
  · have h1 := Find_ok (chars S) (chars T) w hT (chars_ch h.1) (chars_ch h.2) (by rw [enc_chars h.1]; exact hs) (by rw [enc_chars h.2]; exact ht)
    rw [enc_chars h.1, enc_chars h.2] at h1
    refine h1.mono ?_
    rintro e w' ⟨A, n, c, rfl, hr, hb⟩
    exact ⟨A, n, c, 0, rfl, .inr ⟨rfl, h.1, h.2⟩, fun _ => hr, hb⟩
  · refine (Find_no S T w hT hs ht h).mono ?_
    rintro e w' ⟨rfl, hb⟩
    exact ⟨none, 0, 0, 61, rfl, .inl ⟨rfl, rfl, h⟩, (fun h => by cases h), hb⟩

theorem FD_t {p q r : Prop} [Decidable p] [Decidable q] (h : p ↔ q ∨ r) (hq : true = decide q) : true = decide p :=
  (decide_eq_true (h.2 (.inl (of_decide_eq_true hq.symm)))).symm
theorem FD_f {p q : Prop} [Decidable p] [Decidable q] {j k : Nat} (h : p ↔ q ∨ j = k) (hq : false = decide q) : ((j : Int) == (k : Int)) = decide p := by
  have hq2 := of_decide_eq_false hq.symm
  by_cases e : j = k
  · rw [decide_eq_true (h.2 (.inr e)), e]; simp
  · rw [decide_eq_false (fun hp => (h.1 hp).elim hq2 e)]
    simp; omega
theorem quiet_z {P : Program} {f : FuncId} {args : Array Value} {w : World} {n : Nat} {v : Value}
    (h : Calls P f args (w.drewN n) fun e w' => e = .returned v ∧ w.drewN n = w') :
    Calls P f args (w.drewN n) fun e w'' => e = .returned v ∧ ∃ m, w'' = w.drewN m :=
  h.mono fun _ _ ⟨he, hm⟩ => ⟨he, n, hm.symm⟩

set_option maxRecDepth 100000 in
set_option maxHeartbeats 1000000 in
theorem UtfFinds_c (LA LT LB : List UInt8) (w : World) (hT : Tabs w) (ha : LA.length ≤ 1048576) (ht : LT.length ≤ 1048576) (hb : LB.length ≤ 1048576) :
    Calls Tryd.prog 8 #[.string (mk8 LA), .string (mk8 LT), .string (mk8 LB)] w fun e w' => e = .returned (.bool true) ∧ Below w.heap.size w w' := by
  have hA := fun V (h : Tabs V) => alive4_c V h
  have hC1 := fun V (h : Tabs V) => Count_c (mk8 LA) V h (by rw [mk8_size]; omega)
  have hC2 := fun V (h : Tabs V) => Count_c (mk8 LT) V h (by rw [mk8_size]; omega)
  rw [mk8_L] at hC1 hC2
  have hadd1 : ∀ W, (Op.stringOp .add (mk8 LA) (mk8 LT)).run Tryd.prog W = .ok (.string (mk8 (LA ++ LT))) W := fun W => by rw [run_string_add_sum W _ _ (by rw [mk8_size, mk8_size]; omega), mk8_cat]
  have hadd2 : ∀ W, (Op.stringOp .add (mk8 (LA ++ LT)) (mk8 LB)).run Tryd.prog W = .ok (.string (mk8 (LA ++ LT ++ LB))) W := fun W => by rw [run_string_add_sum W _ _ (by rw [mk8_size, mk8_size, List.length_append]; omega), mk8_cat]
  have hSl : (LA ++ LT ++ LB).length ≤ 3145728 := by simp only [List.length_append]; omega
  have hF := fun V (h : Tabs V) => Find_any (LA ++ LT ++ LB) LT V h (by omega) (by omega)
  have hSL := fun (i j : Nat) (hA : isT LA = true) (hT : isT LT = true) (hS : isT (LA ++ LT ++ LB) = true) (hne : LT ≠ []) (hN : (findN (LA ++ LT ++ LB) LT)[i]? = some j) V (h : Tabs V) => by
    have h1 := (findsL hA hT hS hne).at_ i j hN
    have hk : cntT LT ≤ LT.length := by unfold cntT; rw [if_pos hT]; exact pcs_len LT
    have h2 := Slice_c (LA ++ LT ++ LB) (j : Int) ((j : Int) + (cntT LT : Int)) V h (by omega) ⟨by omega, by omega⟩ ⟨by omega, by omega⟩
    rw [h1.1, show errT (LA ++ LT ++ LB) = 0 by unfold errT; rw [if_pos hS]] at h2
    exact h2
  have hFS := fun hA hT hS hne => findsL (A := LA) (T := LT) (B := LB) hA hT hS hne
  have hz1 : isT LT = true → LT = [] → findN (LA ++ LT ++ LB) LT = [] ∧ cntT LT = 0 := fun h1 h2 => by rw [h2]; exact ⟨findN_nil _, (cntT_zero (by rw [← h2]; exact h1)).2 rfl⟩
  have hz2 : isT LT = true → LT ≠ [] → 0 < cntT LT := fun h1 h2 => Nat.pos_of_ne_zero fun h => h2 ((cntT_zero h1).1 h)
  have he1 : (isT LA = true ∧ errT LA = 0) ∨ errT LA = 61 := by
    by_cases h : isT LA = true
    · exact .inl ⟨h, by unfold errT; rw [if_pos h]⟩
    · exact .inr (by unfold errT; rw [if_neg h])
  have he2 : isT LT = true → errT LT = 0 := fun h => by unfold errT; rw [if_pos h]
  have hkb : isT LT = true → cntT LT ≤ 1048576 := fun h => by unfold cntT; rw [if_pos h]; have := pcs_len LT; omega
  have hjb : ∀ i j : Nat, isT LA = true → isT LT = true → isT (LA ++ LT ++ LB) = true → LT ≠ [] → (findN (LA ++ LT ++ LB) LT)[i]? = some j → j ≤ 3145728 := fun i j h1 h2 h3 h4 h5 => by
    have := ((hFS h1 h2 h3 h4).at_ i j h5).2; omega
  generalize hE1 : errT LA = E1 at *
  generalize hE2 : errT LT = E2 at *
  generalize hK1 : cntT LA = K1 at *
  generalize hK2 : cntT LT = K2 at *
  generalize findN (LA ++ LT ++ LB) LT = N at *
  generalize mk8 (LA ++ LT ++ LB) = SS at *
  generalize mk8 (LA ++ LT) = SM at *
  generalize mk8 LA = SA at *
  generalize mk8 LT = ST at *
  generalize mk8 LB = SB at *
  clear hE1 hE2 hK1 hK2 hSl
  have HA := Lib.hid hA
  have HF := Lib.hid hF
  have HC1 := Lib.hid hC1
  have HC2 := Lib.hid hC2
  have HSL := Lib.hid hSL
  have HFS := Lib.hid hFS
  have HT := Lib.hid hT
  have HZ1 := Lib.hid hz1
  have HZ2 := Lib.hid hz2
  have HE1 := Lib.hid he1
  have HE2 := Lib.hid he2
  have HKB := Lib.hid hkb
  have HJB := Lib.hid hjb
  clear hA hF hC1 hC2 hSL hFS hT hz1 hz2 he1 he2 hkb hjb ha ht hb
  go_enter Tryd.func8, Tryd.ntmps8
  go_wp2_with fail
  refine (HA.out w HT.out).mono ?_
  rintro e w1 ⟨rfl, hb1⟩
  go_wp2_with fail
  refine (HF.out w1 (HT.out.below hb1)).mono ?_
  rintro e w2 ⟨A, n, c, E, rfl, hE, hrow, hb2⟩
  have hrow := fun h => (hrow h).more hb1.size
  have hb2 := hb1.trans (hb2.mono hb1.size)
  have HROW := Lib.hid hrow
  have HE := Lib.hid hE
  clear hrow hE
  go_wp2_with fail
  refine (HC1.out w2 (HT.out.below hb2)).mono ?_
  rintro e w3 ⟨rfl, hb3⟩
  have hrow := fun h => (HROW.out h).below hb3 (Nat.le_refl _)
  have hb3 := hb2.trans (hb3.mono hb2.size)
  clear HROW
  have HROW := Lib.hid hrow
  clear hrow
  go_wp2_with fail
  refine (HC2.out w3 (HT.out.below hb3)).mono ?_
  rintro e w4 ⟨rfl, hb4⟩
  have hrow := fun h => (HROW.out h).below hb4 (Nat.le_refl _)
  have hb4 := hb3.trans (hb4.mono hb3.size)
  clear HROW
  have HROW := Lib.hid hrow
  have HB4 := Lib.hid hb4
  clear hrow hb1 hb2 hb3 hb4 HA HF HC1 HC2
  rcases HE.out with ⟨rfl, rfl, _⟩ | ⟨rfl, hS, hT⟩
  · go_wp2_with (go_at_call 19; refine (num4_c _ _).mono ?_; rintro e w' ⟨rfl, rfl⟩)
    go_ret
    exact ⟨rfl, HB4.out⟩
  · rcases HE1.out with ⟨hA, rfl⟩ | rfl
    · by_cases hne : LT = []
      · obtain ⟨rfl, rfl⟩ := HZ1.out hT hne
        have hn := (HROW.out rfl).len
        obtain rfl : n = 0 := by rw [← hn]; rfl
        clear hn
        go_wp2_with (go_at_call 19; refine (num4_c _ _).mono ?_; rintro e w' ⟨rfl, rfl⟩)
        go_ret
        exact ⟨rfl, HB4.out⟩
      · have hk0 := HZ2.out hT hne
        have hkb := HKB.out hT
        have hFS := HFS.out hA hT hS hne
        have hSL := fun i j => HSL.out i j hA hT hS hne
        have hJB := fun i j => HJB.out i j hA hT hS hne
        have hE2 := HE2.out hT
        have hrow := HROW.out rfl
        clear HROW
        have hnb : n ≤ 9223372036854775807 := by have := hrow.n_le; unfold maxLen at this; omega
        have hlen : N.length = n := by rw [← hrow.len]; simp [nz, zs64_length]
        subst hE2
        have HSL := Lib.hid hSL
        have HFS := Lib.hid hFS
        have HJB := Lib.hid hJB
        have HROW := Lib.hid hrow
        have HLEN := Lib.hid hlen
        have hk1 : ((K2 : Int) == 0) = false := by simp; omega
        clear hSL hFS hJB hrow hlen hS hT hA hne HE1 HE2 HE
        go_wp2_with (go_at_call 19; refine (num4_c _ _).mono ?_; rintro e w' ⟨rfl, rfl⟩)
        go_loopw [14, 15] (fun f i wr => ∃ q : Nat, q ≤ n ∧ i = .int .i64 (q : Int) ∧ f = .bool (decide (K1 ∈ N.take q)) ∧ RowV wr w.heap.size 3 A n c (nz N) ∧ Below w.heap.size w wr) (fun _ i _ => n - (RowKit.intOf i).toNat)
        case atStart => exact ⟨0, Nat.zero_le _, rfl, by simp, HROW.out, HB4.out⟩
        case round =>
          obtain ⟨q, hq, rfl, rfl, hrow, hbel⟩ := hrel
          obtain ⟨fd, hfd⟩ : ∃ fd, fd = decide (K1 ∈ N.take q) := ⟨_, rfl⟩
          rw [← hfd]
          have HFD := Lib.hid hfd
          clear hfd
          by_cases hlt : q < n
          · obtain ⟨j, hj⟩ : ∃ j, N[q]? = some j := ⟨N[q]'(by rw [HLEN.out]; exact hlt), List.getElem?_eq_getElem (by rw [HLEN.out]; exact hlt)⟩
            have hjb := HJB.out q j hj
            obtain ⟨b1, o1, rfl, hb1, hc1⟩ := hrow.rd.at_ (nz_get hj)
            have hcp : ∀ q' j', q = q' + 1 → N[q']? = some j' → wr.cell? ⟨b1, o1 + q', none⟩ = some (.int .i64 (j' : Int)) ∧ j' < j := fun q' j' e h => by
              subst e
              obtain ⟨b2, o2, e2, _, hc2⟩ := hrow.rd.at_ (nz_get h)
              injection e2 with e2
              injection e2 with e3 e4
              subst e3; subst e4
              exact ⟨hc2, sorted_at HFS.out.sorted h hj⟩
            have HCP := Lib.hid hcp
            have HSLj := Lib.hid (HSL.out q j hj)
            have HMT := Lib.hid (mem_take_succ (n := K1) hj)
            have HJ := Lib.hid hj
            have HR := Lib.hid hrow
            have HBL := Lib.hid hbel
            have HB1 := Lib.hid hb1
            clear hcp hj hrow hbel hb1
            have hwj : IntKind.i64.wrap ((j : Int) + (K2 : Int)) = (j : Int) + (K2 : Int) := IntWalk.i64_in _ (by omega)
            have hci : wr.drew.cell? ⟨b1, o1 + q, none⟩ = some (.int .i64 (j : Int)) := hc1
            go_wp2_with fail
            refine wp_region_held_drew (S := fun w' => w'.cell? ⟨b1, o1 + q, none⟩ = some (.int .i64 (j : Int))) (by kernel_rfl) hci (fun hHeld => ?_)
            (try simp only [List.size_toArray, List.length_cons, List.length_nil, Nat.reduceAdd, Array.replicate_succ, Array.replicate_zero, List.push_toArray, List.append_toArray, List.nil_append, List.cons_append])
            refine wpAnyH_take (i := 0) (oi := ⟨_, _, _, _, _, _⟩) (v := ?_) rfl (by kernel_rfl) (by kernel_rfl) (by kernel_rfl) (fun _ _ _ h => h) (Or.inl ⟨by rfl, ?_⟩) (by assumption) ?_
            rotate_left
            · intro w hSw
              (try dsimp only at hSw)
              go_split_ands
              go_simp
              try with_reducible rfl
            try simp only [Act.put, List.setIfInBounds_toArray, List.set_cons_zero, List.set_cons_succ]
            refine wpAnyH_take (i := 1) (oi := ⟨_, _, _, _, _, _⟩) (v := ?_) rfl (by kernel_rfl) (by kernel_rfl) (by kernel_rfl) (fun _ _ _ h => h) (Or.inl ⟨by rfl, ?_⟩) (by assumption) ?_
            rotate_left
            · intro w hSw
              (try dsimp only at hSw)
              go_split_ands
              go_simp
              try with_reducible rfl
            try simp only [Act.put, List.setIfInBounds_toArray, List.set_cons_zero, List.set_cons_succ]
            refine wpAnyH_take (i := 2) (oi := ⟨_, _, _, _, _, _⟩) (v := ?_) rfl (by kernel_rfl) (by kernel_rfl) (by kernel_rfl) (fun _ _ _ h => h) (Or.inl ⟨by rfl, ?_⟩) (by assumption) ?_
            rotate_left
            · intro w hSw
              (try dsimp only at hSw)
              go_split_ands
              go_simp
              try with_reducible rfl
            try simp only [Act.put, List.setIfInBounds_toArray, List.set_cons_zero, List.set_cons_succ]
            refine wpAnyH_take (i := 3) (oi := ⟨_, _, _, _, _, _⟩) (v := ?_) rfl (by kernel_rfl) (by kernel_rfl) (by kernel_rfl) (fun _ _ _ h => h) (Or.inl ⟨by rfl, ?_⟩) (by assumption) ?_
            rotate_left
            · intro w hSw
              (try dsimp only at hSw)
              go_split_ands
              go_simp
              try with_reducible rfl
            try simp only [Act.put, List.setIfInBounds_toArray, List.set_cons_zero, List.set_cons_succ]
            refine wpAnyH_take (i := 4) (oi := ⟨_, _, _, _, _, _⟩) (v := ?_) rfl (by kernel_rfl) (by kernel_rfl) (by kernel_rfl) (fun _ _ _ h => h) (Or.inl ⟨by rfl, ?_⟩) (by assumption) ?_
            rotate_left
            · intro w hSw
              (try dsimp only at hSw)
              go_split_ands
              go_simp
              try with_reducible rfl
            try simp only [Act.put, List.setIfInBounds_toArray, List.set_cons_zero, List.set_cons_succ]
            refine wpAnyH_take (i := 5) (oi := ⟨_, _, _, _, _, _⟩) (v := ?_) rfl (by kernel_rfl) (by kernel_rfl) (by kernel_rfl) (fun _ _ _ h => h) (Or.inl ⟨by rfl, ?_⟩) (by assumption) ?_
            rotate_left
            · intro w hSw
              (try dsimp only at hSw)
              go_split_ands
              go_simp
              try with_reducible rfl
            try simp only [Act.put, List.setIfInBounds_toArray, List.set_cons_zero, List.set_cons_succ]
            refine wpAnyH_take (i := 6) (oi := ⟨_, _, _, _, _, _⟩) (v := ?_) rfl (by kernel_rfl) (by kernel_rfl) (by kernel_rfl) (fun _ _ _ h => h) (Or.inl ⟨by rfl, ?_⟩) (by assumption) ?_
            rotate_left
            · intro w hSw
              (try dsimp only at hSw)
              go_split_ands
              go_simp
              try with_reducible rfl
            try simp only [Act.put, List.setIfInBounds_toArray, List.set_cons_zero, List.set_cons_succ]
            refine wpAnyH_take (i := 7) (oi := ⟨_, _, _, _, _, _⟩) (v := ?_) rfl (by kernel_rfl) (by kernel_rfl) (by kernel_rfl) (fun _ _ _ h => h) (Or.inl ⟨by rfl, ?_⟩) (by assumption) ?_
            rotate_left
            · intro w hSw
              (try dsimp only at hSw)
              go_split_ands
              go_simp
              try with_reducible rfl
            try simp only [Act.put, List.setIfInBounds_toArray, List.set_cons_zero, List.set_cons_succ]
            refine wpAnyH_take (i := 8) (oi := ⟨_, _, _, _, _, _⟩) (v := ?_) rfl (by kernel_rfl) (by kernel_rfl) (by kernel_rfl) (fun _ _ _ h => h) (Or.inl ⟨by rfl, ?_⟩) (by assumption) ?_
            rotate_left
            · intro w hSw
              (try dsimp only at hSw)
              go_split_ands
              go_simp
              try with_reducible rfl
            try simp only [Act.put, List.setIfInBounds_toArray, List.set_cons_zero, List.set_cons_succ]
            refine wpAnyH_take (i := 9) (oi := ⟨_, _, _, _, _, _⟩) (v := ?_) rfl (by kernel_rfl) (by kernel_rfl) (by kernel_rfl) (fun _ _ _ h => h) (Or.inl ⟨by rfl, ?_⟩) (by assumption) ?_
            rotate_left
            · intro w hSw
              (try dsimp only at hSw)
              go_split_ands
              go_simp
              try with_reducible rfl
            try simp only [Act.put, List.setIfInBounds_toArray, List.set_cons_zero, List.set_cons_succ]
            refine wpAnyH_take (i := 10) (oi := ⟨_, _, _, _, _, _⟩) (v := ?_) rfl (by kernel_rfl) (by kernel_rfl) (by kernel_rfl) (fun _ _ _ h => h) (Or.inl ⟨by rfl, ?_⟩) (by assumption) ?_
            rotate_left
            · intro w hSw
              (try dsimp only at hSw)
              go_split_ands
              go_simp
              try with_reducible rfl
            try simp only [Act.put, List.setIfInBounds_toArray, List.set_cons_zero, List.set_cons_succ]
            refine wpAnyH_ready (rs := [11]) (by kernel_rfl) (by simp) (AllReadyH.cons (o := ⟨_, _, _, _, _, _⟩) rfl (fun K hK => ?_) AllReadyH.nil)
            go_simp
            refine (HSLj.out wr.drew ((HT.out.below HBL.out).same rfl rfl)).mono ?_
            rintro e w5 ⟨rfl, hb5⟩
            have hlt1 : b1 < wr.drew.heap.size := HB1.out.2
            have hb5c : ∀ p : Addr, p.block = b1 → w5.cell? p = wr.cell? p := fun p e => (hb5.cell (p := p) (by rw [e]; exact hlt1)).trans rfl
            have hc5 : w5.cell? ⟨b1, o1 + q, none⟩ = some (.int .i64 (j : Int)) := (hb5.cell (p := ⟨b1, o1 + q, none⟩) hlt1).trans hci
            (try dsimp only)
            refine hK.out _ _ hc5 (fun hHeld2 => ?_)
            clear hK K
            try simp only [Act.put, List.setIfInBounds_toArray, List.set_cons_zero, List.set_cons_succ]
            refine wpAnyH_take (i := 12) (oi := ⟨_, _, _, _, _, _⟩) (v := ?_) rfl (by kernel_rfl) (by kernel_rfl) (by kernel_rfl) (fun _ _ _ h => h) (Or.inl ⟨by rfl, ?_⟩) (by assumption) ?_
            rotate_left
            · intro w hSw
              (try dsimp only at hSw)
              go_split_ands
              go_simp
              try with_reducible rfl
            try simp only [Act.put, List.setIfInBounds_toArray, List.set_cons_zero, List.set_cons_succ]
            refine wpAnyH_take (i := 13) (oi := ⟨_, _, _, _, _, _⟩) (v := ?_) rfl (by kernel_rfl) (by kernel_rfl) (by kernel_rfl) (fun _ _ _ h => h) (Or.inl ⟨by rfl, ?_⟩) (by assumption) ?_
            rotate_left
            · intro w hSw
              (try dsimp only at hSw)
              go_split_ands
              go_simp
              try with_reducible rfl
            try simp only [Act.put, List.setIfInBounds_toArray, List.set_cons_zero, List.set_cons_succ]
            refine wpAnyH_take (i := 14) (oi := ⟨_, _, _, _, _, _⟩) (v := ?_) rfl (by kernel_rfl) (by kernel_rfl) (by kernel_rfl) (fun _ _ _ h => h) (Or.inl ⟨by rfl, ?_⟩) (by assumption) ?_
            rotate_left
            · intro w hSw
              (try dsimp only at hSw)
              go_split_ands
              go_simp
              try with_reducible rfl
            try simp only [Act.put, List.setIfInBounds_toArray, List.set_cons_zero, List.set_cons_succ]
            refine wpAnyH_take (i := 15) (oi := ⟨_, _, _, _, _, _⟩) (v := ?_) rfl (by kernel_rfl) (by kernel_rfl) (by kernel_rfl) (fun _ _ _ h => h) (Or.inl ⟨by rfl, ?_⟩) (by assumption) ?_
            rotate_left
            · intro w hSw
              (try dsimp only at hSw)
              go_split_ands
              go_simp
              try with_reducible rfl
            try simp only [Act.put, List.setIfInBounds_toArray, List.set_cons_zero, List.set_cons_succ]
            refine wpAnyH_take (i := 16) (oi := ⟨_, _, _, _, _, _⟩) (v := ?_) rfl (by kernel_rfl) (by kernel_rfl) (by kernel_rfl) (fun _ _ _ h => h) (Or.inl ⟨by rfl, ?_⟩) (by assumption) ?_
            rotate_left
            · intro w hSw
              (try dsimp only at hSw)
              go_split_ands
              go_simp
              try with_reducible rfl
            try simp only [Act.put, List.setIfInBounds_toArray, List.set_cons_zero, List.set_cons_succ]
            refine wpAnyH_done (by kernel_rfl) ?_ _
            clear hHeld hHeld2
            have hbz : Below w.heap.size w w5 := HBL.out.trans (((Below.refl wr.heap.size wr).drew).trans (hb5.mono (Nat.le_refl _)) |>.mono HBL.out.size)
            have hrz : RowV w5 w.heap.size 3 (some ⟨b1, o1, none⟩) n c (nz N) := (HR.out.drew).below hb5 (Nat.le_refl _)
            have HBZ := Lib.hid hbz
            have HRZ := Lib.hid hrz
            clear hbz hrz hb5
            by_cases hq0 : q = 0
            · subst hq0
              have hc6 : w5.cell? ⟨b1, o1, none⟩ = some (.int .i64 (j : Int)) := hc5
              go_wp2
              go_quiet ((go_at_call 19; exact quiet_z (num4_c _ _)))
              have hc7 : (w5.drewN nq).cell? ⟨b1, o1, none⟩ = some (.int .i64 (j : Int)) := by rw [World.cell?_drewN]; exact hc6
              cases fd
              all_goals
                go_wp2
                go_roundw
                case rel => exact ⟨0 + 1, by omega, by first | rfl | go_num, by first | (rw [← FD_t HMT.out HFD.out]) | (rw [← FD_f HMT.out HFD.out]), HRZ.out.below (below_drews _ _) (Nat.le_refl _), HBZ.out.trans ((below_drews _ _).mono HBZ.out.size)⟩
                case measure => simp [RowKit.intOf]; omega
            · obtain ⟨q', hq'⟩ : ∃ q', q = q' + 1 := ⟨q - 1, by omega⟩
              obtain ⟨j', hj'⟩ : ∃ j', N[q']? = some j' := ⟨N[q']'(by rw [HLEN.out]; omega), List.getElem?_eq_getElem (by rw [HLEN.out]; omega)⟩
              obtain ⟨hc2, hjj⟩ := HCP.out q' j' hq' hj'
              have hcy : w5.cell? ⟨b1, o1 + q', none⟩ = some (.int .i64 (j' : Int)) := (hb5c _ rfl).trans hc2
              have hle : ¬ ((j : Int) ≤ (j' : Int)) := by omega
              have hqp : (0 : Int) < (q : Int) := by omega
              have hqm : IntKind.i64.wrap ((q : Int) - 1) = (q' : Int) := by
                rw [IntWalk.i64_in _ (by omega)]; omega
              have hqn : q' < n := by omega
              have hqe : 0 < q := by omega
              have hqd : decide ((0 : Int) < (q : Int)) = true := decide_eq_true hqp
              have hqf : decide (0 < q) = true := decide_eq_true hqe
              clear hj' hq' hq0
              go_wp2
              go_quiet ((go_at_call 19; exact quiet_z (num4_c _ _)))
              have hc7 : (w5.drewN nq).cell? ⟨b1, o1 + q, none⟩ = some (.int .i64 (j : Int)) := by rw [World.cell?_drewN]; exact hc5
              cases fd
              all_goals
                go_wp2
                go_roundw
                case rel => exact ⟨q + 1, by omega, by first | rfl | go_num, by first | (rw [← FD_t HMT.out HFD.out]) | (rw [← FD_f HMT.out HFD.out]), HRZ.out.below (below_drews _ _) (Nat.le_refl _), HBZ.out.trans ((below_drews _ _).mono HBZ.out.size)⟩
                case measure => simp [RowKit.intOf]; omega
          · obtain rfl : q = n := by omega
            obtain rfl : fd = true := HFD.out.trans <| decide_eq_true (by rw [List.take_of_length_le (by rw [HLEN.out]; exact Nat.le_refl _)]; exact HFS.out.mem)
            have HBL := Lib.hid hbel
            clear hrow hbel
            go_wp2_with (go_at_call 19; refine (num4_c _ _).mono ?_; rintro e w' ⟨rfl, rfl⟩)
            go_ret
            exact ⟨rfl, HBL.out⟩
    · by_cases hn0 : n = 0
      · subst hn0
        go_wp2_with (go_at_call 19; refine (num4_c _ _).mono ?_; rintro e w' ⟨rfl, rfl⟩)
        go_ret
        exact ⟨rfl, HB4.out⟩
      · have hn1 : ((n : Int) == 0) = false := by simp; omega
        go_wp2_with (go_at_call 19; refine (num4_c _ _).mono ?_; rintro e w' ⟨rfl, rfl⟩)
        go_ret
        exact ⟨rfl, HB4.out⟩
end Go.Proofs.YtdgjkhldlmhedaaDoor
