/-
  Contracts of the scan's space, begin, apart and digits.
-/
import Derived.Test.YtpjllcengnolkaaGreatDoorPLargs
import Derived.Deep.RegionHeld3
set_option linter.unusedVariables false
set_option linter.unusedSimpArgs false
namespace Go.Proofs.YtpjllcengnolkaaGreatDoor
open Go.RowKit Go.Lib
variable {B : Nat} {L : List UInt8} {A : Option Addr} {c sb : Nat}

set_option maxRecDepth 100000 in
theorem space_c {w : World} {p o : Nat} (E : Env B L A c sb w p o) :
    Calls Tryz.prog 53 #[ptr sb] w (Po B L A c sb (fun k => k = sb) o rU w (rSkips isWs L p)) := by
  obtain ⟨c0, c1, c2⟩ := E.cells
  have f1 := E.frozen 1 (by omega)
  have hh := E.here
  have hE := Lib.hid E
  have hsp := fun (V : World) (h : Oct B L A V) => Space_c (c := c) h E.fits hh
  have HSP := Lib.hid hsp
  clear E hsp
  show Calls _ _ _ _ (Po B L A c sb (fun k => k = sb) o rU w (.ok () (wsE L p)))
  have hle := wsE_le (p := p) hh
  obtain ⟨Z, hZ⟩ : ∃ Z, wsE L p = Z := ⟨_, rfl⟩
  rw [hZ] at hle ⊢
  rw [hZ] at HSP
  go_enter Tryz.func53, Tryz.ntmps53
  go_wp2_with fail
  refine wp_region_held_drew (S := fun w' => w'.cell? ⟨sb, 0, none⟩ = some (.slice A L.length c)) (by kernel_rfl) c0 (fun hHeld => ?_)
  (try simp only [List.size_toArray, List.length_cons, List.length_nil, Nat.reduceAdd, Array.replicate_succ, Array.replicate_zero, List.push_toArray, List.append_toArray, List.nil_append, List.cons_append])
  refine wpAnyH_take (i := 0) (oi := ⟨_, _, _, _, _, _⟩) (v := ?_) rfl (by kernel_rfl) (by kernel_rfl) (by kernel_rfl) (fun _ _ _ h => h) (Or.inl ⟨by rfl, ?_⟩) (by assumption) ?_
  rotate_left
  · intro w hSw
    (try dsimp only at hSw)
    go_split_ands
    go_simp
    try with_reducible rfl
  try simp only [Act.put, List.setIfInBounds_toArray, List.set_cons_zero, List.set_cons_succ]
  refine wpAnyH_take (i := 1) (oi := ⟨_, _, _, _, _, _⟩) (v := ?_) rfl (by kernel_rfl) (by kernel_rfl) (by kernel_rfl) (fun _ _ _ h => h) (Or.inl ⟨by rfl, ?_⟩) (by assumption) ?_
  rotate_left
  · intro w hSw
    (try dsimp only at hSw)
    go_split_ands
    go_simp
    try with_reducible rfl
  try simp only [Act.put, List.setIfInBounds_toArray, List.set_cons_zero, List.set_cons_succ]
  refine wpAnyH_take (i := 2) (oi := ⟨_, _, _, _, _, _⟩) (v := ?_) rfl (by kernel_rfl) (by kernel_rfl) (by kernel_rfl) (fun _ _ _ h => h) (Or.inl ⟨by rfl, ?_⟩) (by assumption) ?_
  rotate_left
  · intro w hSw
    (try dsimp only at hSw)
    go_split_ands
    go_simp
    try with_reducible rfl
  try simp only [Act.put, List.setIfInBounds_toArray, List.set_cons_zero, List.set_cons_succ]
  refine wpAnyH_take (i := 3) (oi := ⟨_, _, _, _, _, _⟩) (v := ?_) rfl (by kernel_rfl) (by kernel_rfl) (by kernel_rfl) (fun _ _ _ h => h) (Or.inl ⟨by rfl, ?_⟩) (by assumption) ?_
  rotate_left
  · intro w hSw
    (try dsimp only at hSw)
    go_split_ands
    go_simp
    try with_reducible rfl
  try simp only [Act.put, List.setIfInBounds_toArray, List.set_cons_zero, List.set_cons_succ]
  refine wpAnyH_take (i := 4) (oi := ⟨_, _, _, _, _, _⟩) (v := ?_) rfl (by kernel_rfl) (by kernel_rfl) (by kernel_rfl) (fun _ _ _ h => h) (Or.inl ⟨by rfl, ?_⟩) (by assumption) ?_
  rotate_left
  · intro w hSw
    (try dsimp only at hSw)
    go_split_ands
    go_simp
    try with_reducible rfl
  try simp only [Act.put, List.setIfInBounds_toArray, List.set_cons_zero, List.set_cons_succ]
  refine wpAnyH_take (i := 5) (oi := ⟨_, _, _, _, _, _⟩) (v := ?_) rfl (by kernel_rfl) (by kernel_rfl) (by kernel_rfl) (fun _ _ _ h => h) (Or.inl ⟨by rfl, ?_⟩) (by assumption) ?_
  rotate_left
  · intro w hSw
    (try dsimp only at hSw)
    go_split_ands
    go_simp
    try with_reducible rfl
  try simp only [Act.put, List.setIfInBounds_toArray, List.set_cons_zero, List.set_cons_succ]
  refine wpAnyH_take (i := 6) (oi := ⟨_, _, _, _, _, _⟩) (v := ?_) rfl (by kernel_rfl) (by kernel_rfl) (by kernel_rfl) (fun _ _ _ h => h) (Or.inl ⟨by rfl, ?_⟩) (by assumption) ?_
  rotate_left
  · intro w hSw
    (try dsimp only at hSw)
    go_split_ands
    go_simp
    try with_reducible rfl
  try simp only [Act.put, List.setIfInBounds_toArray, List.set_cons_zero, List.set_cons_succ]
  refine wpAnyH_take (i := 7) (oi := ⟨_, _, _, _, _, _⟩) (v := ?_) rfl (by kernel_rfl) (by kernel_rfl) (by kernel_rfl) (fun _ _ _ h => h) (Or.inl ⟨by rfl, ?_⟩) (by assumption) ?_
  rotate_left
  · intro w hSw
    (try dsimp only at hSw)
    go_split_ands
    go_simp
    try with_reducible rfl
  try simp only [Act.put, List.setIfInBounds_toArray, List.set_cons_zero, List.set_cons_succ]
  refine wpAnyH_ready (rs := [8]) (by kernel_rfl) (by simp) (AllReadyH.cons (o := ⟨_, _, _, _, _, _⟩) rfl (fun K hK => ?_) AllReadyH.nil)
  go_simp
  refine hK.out _ _ c0 (fun hHeld2 => ?_)
  clear hK K hHeld
  try simp only [Act.put, List.setIfInBounds_toArray, List.set_cons_zero, List.set_cons_succ]
  refine wpAnyH_ready (rs := [9]) (by kernel_rfl) (by simp) (AllReadyH.cons (o := ⟨_, _, _, _, _, _⟩) rfl (fun K hK => ?_) AllReadyH.nil)
  go_simp
  refine (HSP.out w.drew hE.out.oct).mono ?_
  rintro e' w3 ⟨rfl, rfl⟩
  (try dsimp only)
  refine hK.out _ _ c0 (fun hHeld3 => ?_)
  clear hK K hHeld2
  try simp only [Act.put, List.setIfInBounds_toArray, List.set_cons_zero, List.set_cons_succ]
  refine wpAnyH_take (i := 10) (oi := ⟨_, _, _, _, _, _⟩) (v := ?_) rfl (by kernel_rfl) (by kernel_rfl) (by kernel_rfl) (fun _ _ _ h => h) (Or.inl ⟨by rfl, ?_⟩) (by assumption) ?_
  rotate_left
  · intro w hSw
    (try dsimp only at hSw)
    go_split_ands
    go_simp
    try with_reducible rfl
  try simp only [Act.put, List.setIfInBounds_toArray, List.set_cons_zero, List.set_cons_succ]
  refine wpAnyH_take (i := 11) (oi := ⟨_, _, _, _, _, _⟩) (v := ?_) rfl (by kernel_rfl) (by kernel_rfl) (by kernel_rfl) (fun _ _ _ h => h) (Or.inl ⟨by rfl, ?_⟩) (by assumption) ?_
  rotate_left
  · intro w hSw
    (try dsimp only at hSw)
    go_split_ands
    go_simp
    try with_reducible rfl
  try simp only [Act.put, List.setIfInBounds_toArray, List.set_cons_zero, List.set_cons_succ]
  refine wpAnyH_ready (rs := [12]) (by kernel_rfl) (by simp) (AllReadyH.cons (o := ⟨_, _, _, _, _, _⟩) rfl (fun K hK => ?_) AllReadyH.nil)
  go_simp
  refine hK.out _ _ ((World.cell?_setCell_other _ _ _ _ (by simp)).trans c0) (fun hHeld4 => ?_)
  clear hK K hHeld3
  try simp only [Act.put, List.setIfInBounds_toArray, List.set_cons_zero, List.set_cons_succ]
  refine wpAnyH_done (by kernel_rfl) ?_ _
  go_wp2
  first | go_end0 | refine bodyPost_ret (results_none rfl _ _ _) rfl ?_
  exact ⟨⟨_, rfl, rfl⟩, (hE.out.stay ((But.refl (fun _ => False) _).drew) (fun _ _ h => h) (fun h => h)).move (q := Z) hle, But.setCell (C := fun k => k = sb) (p := ⟨sb, 1, none⟩) ((But.refl _ _).drew) (.inl rfl) _⟩

set_option maxRecDepth 100000 in
theorem apart_c {w : World} {p o : Nat} (E : Env B L A c sb w p o) :
    Calls Tryz.prog 62 #[ptr sb] w (Po B L A c sb (fun _ => False) o rU w (rApart L p)) := by
  have hpn : ∀ (T : Nat) (v : Value) (w : World), (Instr.panic (.iface T v)).run Tryz.prog w = .halt (.panic (.iface T v)) w := fun _ _ _ => rfl
  obtain ⟨c0, c1, c2⟩ := E.cells
  have hf := E.fits
  have hh := E.here
  unfold rApart
  cases hx : L[p]? with
  | none =>
    have hp : p = L.length := by have := List.getElem?_eq_none_iff.1 hx; omega
    have hE := Lib.hid E
    clear E hx hh
    subst hp
    go_enter Tryz.func62, Tryz.ntmps62
    go_wp2
    go_quiet (fail)
    go_wp2
    first | go_end0 | refine bodyPost_ret (results_none rfl _ _ _) rfl ?_
    exact ⟨⟨_, rfl, rfl⟩, hE.out.stay ((But.refl (fun _ => False) _).drewN _) (fun _ _ h => h) (fun h => h), (But.refl _ _).drewN _⟩
  | some x =>
    have hp : p < L.length := (List.getElem?_eq_some_iff.1 hx).1
    obtain ⟨g, off, hA, hg, cx⟩ := E.oct p x hx
    have hpn2 : ((p : Int) == (L.length : Int)) = false := by rw [beq_eq_false_iff_ne]; omega
    have hE := Lib.hid E
    clear E hx hh
    subst hA
    obtain ⟨d1, hd1⟩ : ∃ b, isDg x = b := ⟨_, rfl⟩
    obtain ⟨d2, hd2⟩ : ∃ b, isLt x = b := ⟨_, rfl⟩
    obtain ⟨Z, hZ⟩ : ∃ Z, indexByte ((⟨#[43, 45, 46, 95]⟩ : ByteArray).data.toList) x = Z := ⟨_, rfl⟩
    have hw : isWd x = (d1 || d2 || decide (0 ≤ Z)) := by
      rw [← hd1, ← hd2, ← hZ]
      have := forall_u8 (p := fun x => isWd x == (isDg x || isLt x || decide (0 ≤ indexByte [43, 45, 46, 95] x))) (by kernel_rfl) x
      exact eq_of_beq this
    have q1 := fun V => ldigit_c x V
    have q2 := fun V => isLetter_c x V
    have q3 := fun V => idx_c ⟨#[43, 45, 46, 95]⟩ x V
    rw [hd1] at q1
    rw [hd2] at q2
    rw [hZ] at q3
    simp only [hw]
    have Q1 := Lib.hid q1
    have Q2 := Lib.hid q2
    have Q3 := Lib.hid q3
    clear q1 q2 q3 hd1 hd2 hZ hw
    cases d1 <;> cases d2 <;> by_cases hz : 0 ≤ Z
    all_goals
      first | rw [decide_eq_true hz] | rw [decide_eq_false hz]
      simp only [Bool.true_or, Bool.or_true, Bool.false_or, if_true, Bool.false_eq_true, if_false]
      go_enter Tryz.func62, Tryz.ntmps62
      go_wp2
      go_quiet (fail)
      go_wp2
      go_quiet (fail)
      go_wp2_with (first | (go_at_call 47; refine (Q1.out _).mono ?_; rintro e w2 ⟨rfl, rfl⟩) | (go_at_call 80; refine (Q2.out _).mono ?_; rintro e w2 ⟨rfl, rfl⟩) | (go_at_call 21; refine (Q3.out _).mono ?_; rintro e w2 ⟨rfl, rfl⟩))
      first
        | (go_end0; refine ⟨⟨_, rfl, rfl⟩, hE.out.stay (C := fun _ => False) ?_ (fun _ _ h => h) (fun h => h), ?_⟩ <;> first | exact (But.refl _ _).drewN _ | exact ((But.refl _ _).drewN _).drewN _)
        | (refine ⟨rfl, rfl, ?_⟩; first | exact (But.refl _ _).drewN _ | exact ((But.refl _ _).drewN _).drewN _)
        | (refine bodyPost_ret (results_none rfl _ _ _) rfl ?_; refine ⟨⟨_, rfl, rfl⟩, hE.out.stay (C := fun _ => False) ?_ (fun _ _ h => h) (fun h => h), ?_⟩ <;> first | exact (But.refl _ _).drewN _ | exact ((But.refl _ _).drewN _).drewN _)

set_option maxRecDepth 100000 in
theorem begin_c {w : World} {p o : Nat} (E : Env B L A c sb w p o) (nth k : Nat) (hk : k + o = 64) (hn : nth ≤ 100000) :
    Calls Tryz.prog 35 #[ptr sb, .int .i64 (nth : Int)] w (Po B L A c sb (fun _ => False) o rU w (rBegin k nth L p)) := by
  have hpn : ∀ (T : Nat) (v : Value) (w : World), (Instr.panic (.iface T v)).run Tryz.prog w = .halt (.panic (.iface T v)) w := fun _ _ _ => rfl
  have hPK := Lib.hid (peek_c E)
  unfold rBegin rAt
  unfold rPeek at hPK ⊢
  cases hx : L[p]? with
  | none =>
    rw [hx] at hPK
    clear E hx
    show Calls _ _ _ _ (Po B L A c sb (fun _ => False) o rU w (.bad p 8))
    go_enter Tryz.func35, Tryz.ntmps35
    go_wp2_with (go_at_call 36; refine hPK.out.mono ?_; rintro e w1 ⟨rfl, hb⟩)
    exact ⟨rfl, rfl, hb⟩
  | some x =>
    rw [hx] at hPK
    clear E hx
    show Calls _ _ _ _ (Po B L A c sb (fun _ => False) o rU w ((if (!(x == 91 || x == 123) && !isDg x && !(x == 34 || x == 45 || x == 110 || x == 102 || x == 116)) = true then rFail 33 else if ((x == 91 || x == 123) && k == 0) = true then rFail 42 else if 4096 < nth then rFail 3 else rPure ()) L p))
    obtain ⟨g1, hg1⟩ : ∃ b, (x == 91) = b := ⟨_, rfl⟩
    obtain ⟨g2, hg2⟩ : ∃ b, (x == 123) = b := ⟨_, rfl⟩
    obtain ⟨d1, hd1⟩ : ∃ b, isDg x = b := ⟨_, rfl⟩
    obtain ⟨Z, hZ⟩ : ∃ Z, indexByte ((⟨#[34, 45, 110, 102, 116]⟩ : ByteArray).data.toList) x = Z := ⟨_, rfl⟩
    have hw : (x == 34 || x == 45 || x == 110 || x == 102 || x == 116) = decide (0 ≤ Z) := by
      rw [← hZ]
      have := forall_u8 (p := fun x => (x == 34 || x == 45 || x == 110 || x == 102 || x == 116) == (decide (0 ≤ indexByte [34, 45, 110, 102, 116] x))) (by kernel_rfl) x
      exact eq_of_beq this
    have i1 : ((x.toNat : Int) == 91) = (x == 91) := u8I_eq x 91
    have i2 : ((x.toNat : Int) == 123) = (x == 123) := u8I_eq x 123
    rw [hg1] at i1
    rw [hg2] at i2
    have q1 := fun V => ldigit_c x V
    have q3 := fun V => idx_c ⟨#[34, 45, 110, 102, 116]⟩ x V
    rw [hd1] at q1
    rw [hZ] at q3
    rw [hw, hd1, hg1, hg2]
    have Q1 := Lib.hid q1
    have Q3 := Lib.hid q3
    have ho : (k == 0) = (((o : Nat) : Int) == 64) := by rw [Bool.eq_iff_iff]; simp only [beq_iff_eq]; omega
    have hn : (4096 < nth) ↔ (4096 : Int) < (nth : Int) := by omega
    obtain ⟨ko, hko⟩ : ∃ b, (((o : Nat) : Int) == 64) = b := ⟨_, rfl⟩
    rw [ho, hko]
    clear q1 q3 hd1 hZ hw hg1 hg2 ho
    cases g1
    · cases g2
      · cases d1
        · by_cases hz : 0 ≤ Z
          · rw [decide_eq_true hz]
            have hz2 : ¬ Z < 0 := by omega
            by_cases hn1 : (4096 : Int) < (nth : Int)
            · skip
              simp only [Bool.not_true, Bool.not_false, Bool.and_true, Bool.and_false, Bool.true_and, Bool.false_and, Bool.true_or, Bool.or_true, Bool.false_or, Bool.or_false, hn, if_true, Bool.false_eq_true, if_false]
              try rw [if_pos hn1]
              try rw [if_neg hn1]
              show Calls _ _ _ _ (Po B L A c sb (fun _ => False) o rU w (.bad p 3))
              go_enter Tryz.func35, Tryz.ntmps35
              go_wp2_with (go_at_call 36; refine hPK.out.mono ?_; rintro e w1 ⟨⟨v, rfl, rfl⟩, E1, hb1⟩; obtain ⟨c0, c1, c2⟩ := E1.cells; have HB := Lib.hid hb1; have HE1 := Lib.hid E1; clear hb1 E1 hPK c0)
              try go_wp2_with (first | (go_at_call 47; refine (Q1.out _).mono ?_; rintro e w2 ⟨rfl, rfl⟩) | (go_at_call 21; refine (Q3.out _).mono ?_; rintro e w2 ⟨rfl, rfl⟩))
              first
                | (go_end0; exact ⟨⟨_, rfl, rfl⟩, HE1.out, HB.out⟩)
                | exact ⟨rfl, rfl, HB.out⟩
                | (refine bodyPost_ret (results_none rfl _ _ _) rfl ?_; exact ⟨⟨_, rfl, rfl⟩, HE1.out, HB.out⟩)
            · skip
              simp only [Bool.not_true, Bool.not_false, Bool.and_true, Bool.and_false, Bool.true_and, Bool.false_and, Bool.true_or, Bool.or_true, Bool.false_or, Bool.or_false, hn, if_true, Bool.false_eq_true, if_false]
              try rw [if_pos hn1]
              try rw [if_neg hn1]
              show Calls _ _ _ _ (Po B L A c sb (fun _ => False) o rU w (.ok () p))
              go_enter Tryz.func35, Tryz.ntmps35
              go_wp2_with (go_at_call 36; refine hPK.out.mono ?_; rintro e w1 ⟨⟨v, rfl, rfl⟩, E1, hb1⟩; obtain ⟨c0, c1, c2⟩ := E1.cells; have HB := Lib.hid hb1; have HE1 := Lib.hid E1; clear hb1 E1 hPK c0)
              try go_wp2_with (first | (go_at_call 47; refine (Q1.out _).mono ?_; rintro e w2 ⟨rfl, rfl⟩) | (go_at_call 21; refine (Q3.out _).mono ?_; rintro e w2 ⟨rfl, rfl⟩))
              first
                | (go_end0; exact ⟨⟨_, rfl, rfl⟩, HE1.out, HB.out⟩)
                | exact ⟨rfl, rfl, HB.out⟩
                | (refine bodyPost_ret (results_none rfl _ _ _) rfl ?_; exact ⟨⟨_, rfl, rfl⟩, HE1.out, HB.out⟩)
          · rw [decide_eq_false hz]
            have hz2 : Z < 0 := by omega
            simp only [Bool.not_true, Bool.not_false, Bool.and_true, Bool.and_false, Bool.true_and, Bool.false_and, Bool.true_or, Bool.or_true, Bool.false_or, Bool.or_false, hn, if_true, Bool.false_eq_true, if_false]
            try rw [if_pos hn1]
            try rw [if_neg hn1]
            show Calls _ _ _ _ (Po B L A c sb (fun _ => False) o rU w (.bad p 33))
            go_enter Tryz.func35, Tryz.ntmps35
            go_wp2_with (go_at_call 36; refine hPK.out.mono ?_; rintro e w1 ⟨⟨v, rfl, rfl⟩, E1, hb1⟩; obtain ⟨c0, c1, c2⟩ := E1.cells; have HB := Lib.hid hb1; have HE1 := Lib.hid E1; clear hb1 E1 hPK c0)
            try go_wp2_with (first | (go_at_call 47; refine (Q1.out _).mono ?_; rintro e w2 ⟨rfl, rfl⟩) | (go_at_call 21; refine (Q3.out _).mono ?_; rintro e w2 ⟨rfl, rfl⟩))
            first
              | (go_end0; exact ⟨⟨_, rfl, rfl⟩, HE1.out, HB.out⟩)
              | exact ⟨rfl, rfl, HB.out⟩
              | (refine bodyPost_ret (results_none rfl _ _ _) rfl ?_; exact ⟨⟨_, rfl, rfl⟩, HE1.out, HB.out⟩)
        · skip
          by_cases hn1 : (4096 : Int) < (nth : Int)
          · skip
            simp only [Bool.not_true, Bool.not_false, Bool.and_true, Bool.and_false, Bool.true_and, Bool.false_and, Bool.true_or, Bool.or_true, Bool.false_or, Bool.or_false, hn, if_true, Bool.false_eq_true, if_false]
            try rw [if_pos hn1]
            try rw [if_neg hn1]
            show Calls _ _ _ _ (Po B L A c sb (fun _ => False) o rU w (.bad p 3))
            go_enter Tryz.func35, Tryz.ntmps35
            go_wp2_with (go_at_call 36; refine hPK.out.mono ?_; rintro e w1 ⟨⟨v, rfl, rfl⟩, E1, hb1⟩; obtain ⟨c0, c1, c2⟩ := E1.cells; have HB := Lib.hid hb1; have HE1 := Lib.hid E1; clear hb1 E1 hPK c0)
            try go_wp2_with (first | (go_at_call 47; refine (Q1.out _).mono ?_; rintro e w2 ⟨rfl, rfl⟩) | (go_at_call 21; refine (Q3.out _).mono ?_; rintro e w2 ⟨rfl, rfl⟩))
            first
              | (go_end0; exact ⟨⟨_, rfl, rfl⟩, HE1.out, HB.out⟩)
              | exact ⟨rfl, rfl, HB.out⟩
              | (refine bodyPost_ret (results_none rfl _ _ _) rfl ?_; exact ⟨⟨_, rfl, rfl⟩, HE1.out, HB.out⟩)
          · skip
            simp only [Bool.not_true, Bool.not_false, Bool.and_true, Bool.and_false, Bool.true_and, Bool.false_and, Bool.true_or, Bool.or_true, Bool.false_or, Bool.or_false, hn, if_true, Bool.false_eq_true, if_false]
            try rw [if_pos hn1]
            try rw [if_neg hn1]
            show Calls _ _ _ _ (Po B L A c sb (fun _ => False) o rU w (.ok () p))
            go_enter Tryz.func35, Tryz.ntmps35
            go_wp2_with (go_at_call 36; refine hPK.out.mono ?_; rintro e w1 ⟨⟨v, rfl, rfl⟩, E1, hb1⟩; obtain ⟨c0, c1, c2⟩ := E1.cells; have HB := Lib.hid hb1; have HE1 := Lib.hid E1; clear hb1 E1 hPK c0)
            try go_wp2_with (first | (go_at_call 47; refine (Q1.out _).mono ?_; rintro e w2 ⟨rfl, rfl⟩) | (go_at_call 21; refine (Q3.out _).mono ?_; rintro e w2 ⟨rfl, rfl⟩))
            first
              | (go_end0; exact ⟨⟨_, rfl, rfl⟩, HE1.out, HB.out⟩)
              | exact ⟨rfl, rfl, HB.out⟩
              | (refine bodyPost_ret (results_none rfl _ _ _) rfl ?_; exact ⟨⟨_, rfl, rfl⟩, HE1.out, HB.out⟩)
      · skip
        cases ko
        · skip
          by_cases hn1 : (4096 : Int) < (nth : Int)
          · skip
            simp only [Bool.not_true, Bool.not_false, Bool.and_true, Bool.and_false, Bool.true_and, Bool.false_and, Bool.true_or, Bool.or_true, Bool.false_or, Bool.or_false, hn, if_true, Bool.false_eq_true, if_false]
            try rw [if_pos hn1]
            try rw [if_neg hn1]
            show Calls _ _ _ _ (Po B L A c sb (fun _ => False) o rU w (.bad p 3))
            go_enter Tryz.func35, Tryz.ntmps35
            go_wp2_with (go_at_call 36; refine hPK.out.mono ?_; rintro e w1 ⟨⟨v, rfl, rfl⟩, E1, hb1⟩; obtain ⟨c0, c1, c2⟩ := E1.cells; have HB := Lib.hid hb1; have HE1 := Lib.hid E1; clear hb1 E1 hPK c0)
            skip
            first
              | (go_end0; exact ⟨⟨_, rfl, rfl⟩, HE1.out, HB.out⟩)
              | exact ⟨rfl, rfl, HB.out⟩
              | (refine bodyPost_ret (results_none rfl _ _ _) rfl ?_; exact ⟨⟨_, rfl, rfl⟩, HE1.out, HB.out⟩)
          · skip
            simp only [Bool.not_true, Bool.not_false, Bool.and_true, Bool.and_false, Bool.true_and, Bool.false_and, Bool.true_or, Bool.or_true, Bool.false_or, Bool.or_false, hn, if_true, Bool.false_eq_true, if_false]
            try rw [if_pos hn1]
            try rw [if_neg hn1]
            show Calls _ _ _ _ (Po B L A c sb (fun _ => False) o rU w (.ok () p))
            go_enter Tryz.func35, Tryz.ntmps35
            go_wp2_with (go_at_call 36; refine hPK.out.mono ?_; rintro e w1 ⟨⟨v, rfl, rfl⟩, E1, hb1⟩; obtain ⟨c0, c1, c2⟩ := E1.cells; have HB := Lib.hid hb1; have HE1 := Lib.hid E1; clear hb1 E1 hPK c0)
            skip
            first
              | (go_end0; exact ⟨⟨_, rfl, rfl⟩, HE1.out, HB.out⟩)
              | exact ⟨rfl, rfl, HB.out⟩
              | (refine bodyPost_ret (results_none rfl _ _ _) rfl ?_; exact ⟨⟨_, rfl, rfl⟩, HE1.out, HB.out⟩)
        · skip
          simp only [Bool.not_true, Bool.not_false, Bool.and_true, Bool.and_false, Bool.true_and, Bool.false_and, Bool.true_or, Bool.or_true, Bool.false_or, Bool.or_false, hn, if_true, Bool.false_eq_true, if_false]
          try rw [if_pos hn1]
          try rw [if_neg hn1]
          show Calls _ _ _ _ (Po B L A c sb (fun _ => False) o rU w (.bad p 42))
          go_enter Tryz.func35, Tryz.ntmps35
          go_wp2_with (go_at_call 36; refine hPK.out.mono ?_; rintro e w1 ⟨⟨v, rfl, rfl⟩, E1, hb1⟩; obtain ⟨c0, c1, c2⟩ := E1.cells; have HB := Lib.hid hb1; have HE1 := Lib.hid E1; clear hb1 E1 hPK c0)
          skip
          first
            | (go_end0; exact ⟨⟨_, rfl, rfl⟩, HE1.out, HB.out⟩)
            | exact ⟨rfl, rfl, HB.out⟩
            | (refine bodyPost_ret (results_none rfl _ _ _) rfl ?_; exact ⟨⟨_, rfl, rfl⟩, HE1.out, HB.out⟩)
    · skip
      cases ko
      · skip
        by_cases hn1 : (4096 : Int) < (nth : Int)
        · skip
          simp only [Bool.not_true, Bool.not_false, Bool.and_true, Bool.and_false, Bool.true_and, Bool.false_and, Bool.true_or, Bool.or_true, Bool.false_or, Bool.or_false, hn, if_true, Bool.false_eq_true, if_false]
          try rw [if_pos hn1]
          try rw [if_neg hn1]
          show Calls _ _ _ _ (Po B L A c sb (fun _ => False) o rU w (.bad p 3))
          go_enter Tryz.func35, Tryz.ntmps35
          go_wp2_with (go_at_call 36; refine hPK.out.mono ?_; rintro e w1 ⟨⟨v, rfl, rfl⟩, E1, hb1⟩; obtain ⟨c0, c1, c2⟩ := E1.cells; have HB := Lib.hid hb1; have HE1 := Lib.hid E1; clear hb1 E1 hPK c0)
          skip
          first
            | (go_end0; exact ⟨⟨_, rfl, rfl⟩, HE1.out, HB.out⟩)
            | exact ⟨rfl, rfl, HB.out⟩
            | (refine bodyPost_ret (results_none rfl _ _ _) rfl ?_; exact ⟨⟨_, rfl, rfl⟩, HE1.out, HB.out⟩)
        · skip
          simp only [Bool.not_true, Bool.not_false, Bool.and_true, Bool.and_false, Bool.true_and, Bool.false_and, Bool.true_or, Bool.or_true, Bool.false_or, Bool.or_false, hn, if_true, Bool.false_eq_true, if_false]
          try rw [if_pos hn1]
          try rw [if_neg hn1]
          show Calls _ _ _ _ (Po B L A c sb (fun _ => False) o rU w (.ok () p))
          go_enter Tryz.func35, Tryz.ntmps35
          go_wp2_with (go_at_call 36; refine hPK.out.mono ?_; rintro e w1 ⟨⟨v, rfl, rfl⟩, E1, hb1⟩; obtain ⟨c0, c1, c2⟩ := E1.cells; have HB := Lib.hid hb1; have HE1 := Lib.hid E1; clear hb1 E1 hPK c0)
          skip
          first
            | (go_end0; exact ⟨⟨_, rfl, rfl⟩, HE1.out, HB.out⟩)
            | exact ⟨rfl, rfl, HB.out⟩
            | (refine bodyPost_ret (results_none rfl _ _ _) rfl ?_; exact ⟨⟨_, rfl, rfl⟩, HE1.out, HB.out⟩)
      · skip
        simp only [Bool.not_true, Bool.not_false, Bool.and_true, Bool.and_false, Bool.true_and, Bool.false_and, Bool.true_or, Bool.or_true, Bool.false_or, Bool.or_false, hn, if_true, Bool.false_eq_true, if_false]
        try rw [if_pos hn1]
        try rw [if_neg hn1]
        show Calls _ _ _ _ (Po B L A c sb (fun _ => False) o rU w (.bad p 42))
        go_enter Tryz.func35, Tryz.ntmps35
        go_wp2_with (go_at_call 36; refine hPK.out.mono ?_; rintro e w1 ⟨⟨v, rfl, rfl⟩, E1, hb1⟩; obtain ⟨c0, c1, c2⟩ := E1.cells; have HB := Lib.hid hb1; have HE1 := Lib.hid E1; clear hb1 E1 hPK c0)
        skip
        first
          | (go_end0; exact ⟨⟨_, rfl, rfl⟩, HE1.out, HB.out⟩)
          | exact ⟨rfl, rfl, HB.out⟩
          | (refine bodyPost_ret (results_none rfl _ _ _) rfl ?_; exact ⟨⟨_, rfl, rfl⟩, HE1.out, HB.out⟩)
end Go.Proofs.YtpjllcengnolkaaGreatDoor
