/-
  Contract of the closure that reads the items of an object. Under way.
-/
import Derived.Test.YtpjllcengnolkaaGreatDoorPLvl
set_option linter.unusedVariables false
set_option linter.unusedSimpArgs false
namespace Go.Proofs.YtpjllcengnolkaaGreatDoor
open Go.RowKit Go.Lib
variable {B : Nat} {L : List UInt8} {A : Option Addr} {c sb : Nat}

/-- What the closure of an object keeps: where the scan is told, the values so far, the map of the last places. -/
def IO (pb lb mb mm sb N : Nat) (acc : List (ByteArray × VT)) (W : World) : Prop := ∃ (LA : Option Addr) (lc : Nat), W.heap[pb]? = some (.cells #[ptr sb] 66) ∧
  W.heap[lb]? = some (.cells #[.slice LA acc.length lc] 24) ∧ W.heap[mb]? = some (.cells #[.map (some mm)] 79) ∧ Grow N (.slice LA acc.length lc) (acc.map (·.2)) W ∧
  W.ownsMap Tryz.prog 9 (plainElem (H := Unit) Tryz.prog 3) mm acc.length (lastD (acc.map (·.1)) acc.length)
theorem IO.keep {pb lb mb mm N : Nat} {acc : List (ByteArray × VT)} {W W' : World} (h : IO pb lb mb mm sb N acc W) (hb : But (fun k => k = sb) W W') (h1 : pb ≠ sb) (h2 : lb ≠ sb) (h3 : mb ≠ sb) (h4 : mm ≠ sb) (h5 : sb < N) : IO pb lb mb mm sb N acc W' := by
  obtain ⟨LA, lc, a1, a2, a3, a4, a5⟩ := h
  exact ⟨LA, lc, (hb.block pb (Array.getElem?_eq_some_iff.1 a1).1 h1).trans a1, (hb.block lb (Array.getElem?_eq_some_iff.1 a2).1 h2).trans a2, (hb.block mb (Array.getElem?_eq_some_iff.1 a3).1 h3).trans a3, a4.keep hb (fun k hk => by omega), map_keep a5 (hb.block mm a5.lt h4)⟩
theorem lastD_app (ks : List ByteArray) (t : ByteArray) : ∀ n, n ≤ ks.length → lastD (H := Unit) (ks ++ [t]) n = lastD ks n
  | 0, _ => rfl
  | k + 1, h => by
    have h1 : (ks ++ [t]).getD k ⟨#[]⟩ = ks.getD k ⟨#[]⟩ := by simp [List.getD, List.getElem?_append_left (show k < ks.length by omega)]
    unfold lastD
    rw [lastD_app ks t k (by omega), h1]
theorem lastD_push {ks : List ByteArray} {t : ByteArray} {n : Nat} (h : ks.length = n) : lastD (H := Unit) (ks ++ [t]) (n + 1) = (lastD ks n).put (kL t) (.lit (.int .i64 (n : Int))) := by
  have h1 : (ks ++ [t]).getD n ⟨#[]⟩ = t := by simp [List.getD, ← h]
  conv => lhs; unfold lastD
  rw [lastD_app ks t n (by omega), h1]
theorem rKey_size {nth p q : Nat} {key : ByteArray} (h : rKey nth L p = .ok key q) : key.size ≤ 16384 := by
  unfold rKey rAt at h
  cases h1 : rPeek L p with
  | bad a b => rw [h1] at h; simp [RR.bind] at h
  | ok x y =>
    rw [h1] at h
    simp only [RR.bind] at h
    split at h
    · split at h
      · simp [rFail] at h
      · unfold rText at h
        cases h2 : rChars fuelR [] L (y + 1) with
        | bad a b => rw [h2] at h; simp [RR.bind] at h
        | ok t z =>
          rw [h2] at h
          simp only [RR.bind] at h
          split at h
          · simp at h
          · injection h with h3 h4
            subst h3
            show t.toArray.size ≤ 16384
            simp; omega
    · simp [rFail] at h
set_option maxRecDepth 100000 in
set_option maxHeartbeats 4000000 in
theorem object1_c {k : Nat} (ih : ValC k) {pb lb mb mm N o : Nat} (hko : k + (o + 1) = 64) (hcap : L.length ≤ c) (hps : pb ≠ sb) (hls : lb ≠ sb) (hms : mb ≠ sb) (hmms : mm ≠ sb) (hlp : lb ≠ pb) (hlm : lb ≠ mb) (hmmp : mm ≠ pb) (hmml : mm ≠ lb) (hmmb : mm ≠ mb) (hsN : sb < N) (hBl : B ≤ lb) (hBm : B ≤ mm) (hlN : lb < N) (hpN : pb < N) (hmN : mb < N) (hmmN : mm < N) (W : World) (p nth : Nat) (acc : List (ByteArray × VT))
    (E : Env B L A c sb W p (o + 1)) (hI : IO pb lb mb mm sb N acc W) (hal : acc.length + 1 = nth) (hn : nth ≤ 70000) (hNW : N ≤ W.heap.size) :
    Calls Tryz.prog 51 #[.int .i64 (nth : Int), ptr pb, ptr lb, ptr mb] W (PoI B L A c sb (fun j => j = sb ∨ (j = lb ∨ j = mm ∨ N ≤ j)) (o + 1) (fun a W' => IO pb lb mb mm sb N (acc ++ [a]) W') W (rPair k nth L p)) := by
  obtain ⟨R, hR⟩ : ∃ R, rPair k nth L p = R := ⟨_, rfl⟩
  rw [hR]
  unfold rPair rAt at hR
  have hkeep := fun V (hV : But (fun k => k = sb) W V) => hI.keep hV hps hls hms hmms hsN
  have HK := Lib.hid hkeep
  have HE0 := Lib.hid E
  have s0 := cell_at3 (i := 0) hI.choose_spec.choose_spec.1 rfl
  clear hkeep E hI
  go_enter Tryz.func51, Tryz.ntmps51
  go_wp2_with fail
  refine (key_c HE0.out hcap nth (by omega)).mono ?_
  intro e w1 hp
  cases hr : rKey nth L p with
  | bad q x =>
    rw [hr] at hp hR
    obtain ⟨rfl, hb⟩ := hp
    go_wp2_with fail
    rw [← (show (RR.bad q x : RR (ByteArray × VT)) = R from hR)]
    exact ⟨rfl, rfl, hb.mono (fun _ _ h => .inl h)⟩
  | ok key q1 =>
    rw [hr] at hp hR
    obtain ⟨⟨v, rfl, rfl⟩, hE1, hb1⟩ := hp
    have s1 := hb1.cell_some s0 hps
    have HKS := Lib.hid (rKey_size hr)
    have HE1 := Lib.hid hE1
    have HB1 := Lib.hid hb1
    clear hE1 hb1 hr s0 HE0
    simp only [RR.bind, rSkips_ok] at hR
    go_wp2_with fail
    refine (space_c HE1.out).mono ?_
    rintro e w2 ⟨⟨v, rfl, rfl⟩, hE2, hb2⟩
    obtain ⟨q2, hq2⟩ : ∃ q, wsE L q1 = q := ⟨_, rfl⟩
    have hE2 : Env B L A c sb w2 q2 (o + 1) := hq2 ▸ hE2
    rw [hq2] at hR
    have s2 := hb2.cell_some s1 hps
    have HE2 := Lib.hid hE2
    have HB2 := Lib.hid (HB1.out.trans hb2)
    clear hE2 hb2 s1 HE1 HB1 hq2
    have hS2 : ∀ V, But (fun k => k = sb) w2 V → V.cell? ⟨pb, 0, none⟩ = some (ptr sb) := fun V hV => hV.cell_some s2 hps
    have HS2 := Lib.hid hS2
    clear hS2
    go_wp2_with fail
    refine wp_region_held_drew (S := fun V => V.cell? ⟨pb, 0, none⟩ = some (ptr sb)) (by kernel_rfl) (HS2.out w2.drew ((But.refl _ _).drew)) (fun hHeld => ?_)
    (try simp only [List.size_toArray, List.length_cons, List.length_nil, Nat.reduceAdd, Array.replicate_succ, Array.replicate_zero, List.push_toArray, List.append_toArray, List.nil_append, List.cons_append])
    refine wpAnyH_take (i := 0) (oi := ⟨_, _, _, _, _, _⟩) (v := ?_) rfl (by kernel_rfl) (by kernel_rfl) (by kernel_rfl) (fun _ _ _ h => h) (Or.inl ⟨by rfl, ?_⟩) (by assumption) ?_
    rotate_left
    · intro w hSw
      (try dsimp only at hSw)
      go_split_ands
      go_simp
      try with_reducible rfl
    try simp only [Act.put, List.setIfInBounds_toArray, List.set_cons_zero, List.set_cons_succ]
    refine wpAnyH_ready (rs := [1]) (by kernel_rfl) (by simp) (AllReadyH.cons (o := ⟨_, _, _, _, _, _⟩) rfl (fun K hK => ?_) AllReadyH.nil)
    go_simp
    refine (one_c 58 w2.drew).mono ?_
    rintro e' v3 ⟨rfl, hv⟩
    have hBv : But (fun _ => False) w2 v3 := by rw [hv]; exact ((But.refl _ _).drew).alloc _
    have hcl : v3.cell? ⟨w2.drew.heap.size, 0, none⟩ = some (.int .u8 ((58 : UInt8).toNat : Int)) := by rw [hv]; exact cell_at3 (World.alloc_heap_new w2.drew _) rfl
    have hEv := HE2.out.stay hBv (fun _ _ h => h) (fun h => h)
    clear hv
    (try dsimp only)
    refine hK.out _ _ (HS2.out _ hBv.no) (fun hHeld2 => ?_)
    clear hK K hHeld
    try simp only [Act.put, List.setIfInBounds_toArray, List.set_cons_zero, List.set_cons_succ]
    refine wpAnyH_ready (rs := [2]) (by kernel_rfl) (by simp) (AllReadyH.cons (o := ⟨_, _, _, _, _, _⟩) rfl (fun K hK => ?_) AllReadyH.nil)
    go_simp
    refine (needOne_c hEv 58 hcl).mono ?_
    intro e w3 hp
    cases hr : rNeed (· == 58) L q2 with
    | bad q x =>
      rw [hr] at hp hR
      obtain ⟨rfl, hb⟩ := hp
      have h9 : (RR.bad q x : RR (ByteArray × VT)) = R := hR
      subst h9
      exact ⟨rfl, rfl, (HB2.out.trans (hBv.no.trans hb)).mono (fun _ _ h => .inl h)⟩
    | ok u q3 =>
      rw [hr] at hp hR
      obtain ⟨⟨v, rfl, rfl⟩, hE3, hb3⟩ := hp
      have hbb : But (fun k => k = sb) w2 w3 := hBv.no.trans hb3
      have s3 := HS2.out _ hbb
      have HE3 := Lib.hid hE3
      have HB3 := Lib.hid (HB2.out.trans hbb)
      simp only [RR.bind] at hR
      (try dsimp only)
      refine hK.out _ _ s3 (fun hHeld3 => ?_)
      clear hK K hHeld2 hr hE3 hb3 hbb hBv hcl hEv HE2 HB2 HS2 s2
      try simp only [Act.put, List.setIfInBounds_toArray, List.set_cons_zero, List.set_cons_succ]
      refine wpAnyH_done (by kernel_rfl) ?_ _
      go_wp2_with fail
      refine (space_c HE3.out).mono ?_
      rintro e w4 ⟨⟨v, rfl, rfl⟩, hE4, hb4⟩
      obtain ⟨q4, hq4⟩ : ∃ q, wsE L q3 = q := ⟨_, rfl⟩
      have hE4 : Env B L A c sb w4 q4 (o + 1) := hq4 ▸ hE4
      rw [hq4] at hR
      have HE4 := Lib.hid hE4
      have HB4 := Lib.hid (HB3.out.trans hb4)
      have HI4 := Lib.hid (HK.out _ (HB3.out.trans hb4))
      clear hE4 hb4 s3 HE3 HB3 hq4 HK
      obtain ⟨LA, lc, hb1, hb2, hb3, hG, hM⟩ := HI4.out
      obtain ⟨ln, hln⟩ : ∃ ln, acc.length = ln := ⟨_, rfl⟩
      rw [hln] at hb2 hG hM
      have HLN := Lib.hid hln
      have HLM := Lib.hid (show (acc.map (·.2)).length = ln by rw [List.length_map, hln])
      have HLK := Lib.hid (show (acc.map (·.1)).length = ln by rw [List.length_map, hln])
      have HAL2 := Lib.hid (show ln + 1 = nth by omega)
      have hln7 : ln ≤ 70000 := by omega
      obtain ⟨i7, hi7, hp7, hq7, hr7⟩ := info_parts infoV7
      have HNW := Lib.hid (show N ≤ w4.heap.size from Nat.le_trans hNW HB4.out.size)
      obtain ⟨RV, hRV⟩ : ∃ RV, rValue mkObj k nth L q4 = RV := ⟨_, rfl⟩
      rw [hRV] at hR
      have HR := Lib.hid hR
      have hv := fun V (E' : Env B L A c sb V q4 (o + 1)) => ih nth E' hcap hko (by omega)
      rw [hRV] at hv
      have HV := Lib.hid hv
      have HG := Lib.hid hG
      have HM := Lib.hid hM
      have HB1 := Lib.hid hb1
      have HB2 := Lib.hid hb2
      have HB3m := Lib.hid hb3
      have hc5 : w4.cell? ⟨lb, 0, none⟩ = some (.slice LA ln lc) := cell_at3 hb2 rfl
      have hc0 : w4.cell? ⟨pb, 0, none⟩ = some (ptr sb) := cell_at3 hb1 rfl
      have HS := Lib.hid (show ∀ V, But (fun k => k = sb) w4 V → V.cell? ⟨pb, 0, none⟩ = some (ptr sb) from fun V hV => hV.cell_some hc0 hps)
      have HC5 := Lib.hid (show ∀ V, But (fun k => k = sb) w4 V → V.cell? ⟨lb, 0, none⟩ = some (.slice LA ln lc) from fun V hV => hV.cell_some hc5 hls)
      clear hv hG hM hb1 hb2 hb3 hR hRV hc5 hc0 HI4 hln hal
      go_wp2_with fail
      refine wp_region_held_drew (S := fun V => V.cell? ⟨pb, 0, none⟩ = some (ptr sb)) (by kernel_rfl) (HS.out w4.drew ((But.refl _ _).drew)) (fun hHeld => ?_)
      (try simp only [List.size_toArray, List.length_cons, List.length_nil, Nat.reduceAdd, Array.replicate_succ, Array.replicate_zero, List.push_toArray, List.append_toArray, List.nil_append, List.cons_append])
      refine wpAnyH_take (i := 1) (oi := ⟨_, _, _, _, _, _⟩) (v := ?_) rfl (by kernel_rfl) (by kernel_rfl) (by kernel_rfl) (fun _ _ _ h => h) (Or.inl ⟨by rfl, ?_⟩) (by assumption) ?_
      rotate_left
      · intro w hSw
        (try dsimp only at hSw)
        go_split_ands
        go_simp
        try with_reducible rfl
      try simp only [Act.put, List.setIfInBounds_toArray, List.set_cons_zero, List.set_cons_succ]
      refine wpAnyH_take (i := 2) (oi := ⟨_, _, _, _, _, _⟩) (v := ?_) rfl (by kernel_rfl) (by kernel_rfl) (by kernel_rfl) (fun _ _ _ h => h) (Or.inl ⟨by rfl, ?_⟩) (by assumption) ?_
      rotate_left
      · intro w hSw
        (try dsimp only at hSw)
        go_split_ands
        go_simp
        try with_reducible rfl
      try simp only [Act.put, List.setIfInBounds_toArray, List.set_cons_zero, List.set_cons_succ]
      have hbw : But (fun k => k = sb) w4 w4.drew := (But.refl _ _).drew
      refine wpAnyH_ready (rs := [0, 3, 5]) (by kernel_rfl) (by simp) (AllReadyH.cons (o := ⟨_, _, _, _, _, _⟩) rfl (fun K hK => ?_) (AllReadyH.cons (o := ⟨_, _, _, _, _, _⟩) rfl (fun K hK => ?_) (AllReadyH.cons (o := ⟨_, _, _, _, _, _⟩) rfl (fun K hK => ?_) AllReadyH.nil)))
      · have c5 : w4.drew.cell? ⟨lb, 0, none⟩ = some (.slice LA ln lc) := HC5.out _ (hbw)
        go_simp
        refine hK.out _ _ (HS.out _ (hbw)) (fun hHeldL => ?_)
        clear hK K hHeld c5
        try simp only [Act.put, List.setIfInBounds_toArray, List.set_cons_zero, List.set_cons_succ]
        refine wpAnyH_take (i := 4) (oi := ⟨_, _, _, _, _, _⟩) (v := ?_) rfl (by kernel_rfl) (by kernel_rfl) (by kernel_rfl) (fun _ _ _ h => h) (Or.inl ⟨by rfl, ?_⟩) (by assumption) ?_
        rotate_left
        · intro w hSw
          (try dsimp only at hSw)
          go_split_ands
          go_simp
          try with_reducible rfl
        try simp only [Act.put, List.setIfInBounds_toArray, List.set_cons_zero, List.set_cons_succ]
        refine wpAnyH_ready (rs := [3, 5]) (by kernel_rfl) (by simp) (AllReadyH.cons (o := ⟨_, _, _, _, _, _⟩) rfl (fun K hK => ?_) (AllReadyH.cons (o := ⟨_, _, _, _, _, _⟩) rfl (fun K hK => ?_) AllReadyH.nil))
        · go_simp
          refine (HV.out w4.drew (HE4.out.stay (C := fun _ => False) ((But.refl _ _).drew) (fun _ _ h => h) (fun h => h))).mono ?_
          intro e w2 hp
          cases RV with
          | bad q x =>
            obtain ⟨rfl, hb⟩ := hp
            have h9 : (RR.bad q x : RR (ByteArray × VT)) = R := HR.out
            subst h9
            exact ⟨rfl, rfl, (HB4.out.trans ((hbw).trans hb)).mono (fun _ _ h => .inl h)⟩
          | ok a q =>
            obtain ⟨⟨v, rfl, cs, rfl, hva⟩, hE2, hbc⟩ := hp
            have h9 : (RR.ok (key, a) q : RR (ByteArray × VT)) = R := HR.out
            subst h9
            clear HR
            obtain ⟨k1, neg1, xs1, e1, t1, li1, ks1, hak⟩ : ∃ k neg xs e t li ks, a = VT.mk k neg xs e t li ks := by cases a; exact ⟨_, _, _, _, _, _, _, rfl⟩
            have hvb := hva
            rw [hak] at hvb
            obtain ⟨A1, n1, c1, LA1, ln1, lc1, KA1, kn1, kc1, rfl, -⟩ := hvb.parts
            have hb2 : But (fun k => k = sb) w4 w2 := (hbw).trans hbc
            have HVA := Lib.hid (show VIn w2 (fun b => w4.heap.size ≤ b ∧ b < w2.heap.size) a _ from hva.more (fun b hb => ⟨by have h9 := hb.1; simp at h9; omega, hb.2⟩))
            have HE2 := Lib.hid hE2
            clear hvb hak hva hE2
            (try dsimp only)
            refine hK.out _ _ (HS.out _ hb2) (fun hHeldC => ?_)
            clear hK K hHeldL
            try simp only [Act.put, List.setIfInBounds_toArray, List.set_cons_zero, List.set_cons_succ]
            refine wpAnyH_ready (rs := [5]) (by kernel_rfl) (by simp) (AllReadyH.cons (o := ⟨_, _, _, _, _, _⟩) rfl (fun K hK => ?_) AllReadyH.nil)
            · go_simp
              refine hK.out _ _ (HS.out _ ((hb2).alloc (.cells #[.int .i64 0, .bool false, .slice none 0 0, .int .i64 0, .string ⟨#[]⟩, .slice none 0 0, .slice none 0 0] 34))) (fun hHeldB => ?_)
              clear hK K hHeldC
              try simp only [Act.put, List.setIfInBounds_toArray, List.set_cons_zero, List.set_cons_succ]
              have HZ := Lib.hid (new7 w2 (.int .i64 0) (.bool false) (.slice none 0 0) (.int .i64 0) (.string ⟨#[]⟩) (.slice none 0 0) (.slice none 0 0) 34)
              have HBA := Lib.hid ((hb2).alloc (.cells #[.int .i64 0, .bool false, .slice none 0 0, .int .i64 0, .string ⟨#[]⟩, .slice none 0 0, .slice none 0 0] 34))
              have H21 := Lib.hid (show Below w2.heap.size w2 (w2.alloc (.cells #[.int .i64 0, .bool false, .slice none 0 0, .int .i64 0, .string ⟨#[]⟩, .slice none 0 0, .slice none 0 0] 34)) from (Below.refl _ _).alloc (Nat.le_refl _) _)
              try simp only [Act.put, List.setIfInBounds_toArray, List.set_cons_zero, List.set_cons_succ]
              have hgr : Grow N (.slice LA ln lc) (acc.map (·.2)) (w2.alloc (.cells #[.int .i64 0, .bool false, .slice none 0 0, .int .i64 0, .string ⟨#[]⟩, .slice none 0 0, .slice none 0 0] 34)) := HG.out.keep HBA.out (fun k hk => by omega)
              obtain ⟨fs, hown, hf7, hft⟩ := hgr
              rw [HLM.out] at hown
              have hfl : (flatC fs id ln).length = ln * 7 := flatC_length (fun q hq => hf7 q (by rw [HLM.out]; exact hq))
              have HOWN := Lib.hid hown
              have HF7 := Lib.hid (show ∀ i, i < ln → (fs i).length = 7 from fun i hi => hf7 i (by rw [HLM.out]; exact hi))
              have HFT := Lib.hid hft
              have HNA := Lib.hid (show N ≤ (w2.alloc (.cells #[.int .i64 0, .bool false, .slice none 0 0, .int .i64 0, .string ⟨#[]⟩, .slice none 0 0, .slice none 0 0] 34)).heap.size from Nat.le_trans HNW.out HBA.out.size)
              clear hown hf7 hft
              refine wpAnyH_ready (rs := [6]) (by kernel_rfl) (by simp) (AllReadyH.cons (o := ⟨_, _, _, _, _, _⟩) rfl (fun K hK => ?_) AllReadyH.nil)
              refine step_append_at (base := N) (e := 34) (v := .slice LA ln lc) (n := ln) (xs := flatC fs id ln) (news := [.int .i64 0, .bool false, .slice none 0 0, .int .i64 0, .string ⟨#[]⟩, .slice none 0 0, .slice none 0 0]) (m := 1) (c := 1) (ad := ⟨w2.heap.size, 0, none⟩) rfl (.tmp 16) (.tmp 21) 24 rfl Tryz.underlying24 hi7 hp7 hq7 hr7 rfl (by decide) rfl HOWN.out rfl rfl HZ.out (by simp [Value.oneCell']) (by unfold maxLen; omega) (by omega) HNA.out ?_
              intro v' w5 hown5 hg5 _ hat5
              obtain ⟨g', cap', rfl⟩ := ownsRow_succ hown5
              have hbl5 : Below N (w2.alloc (.cells #[.int .i64 0, .bool false, .slice none 0 0, .int .i64 0, .string ⟨#[]⟩, .slice none 0 0, .slice none 0 0] 34)) w5 := (Below.refl N _).grown hg5 HNA.out (fun q e => (ownsRow_lt HOWN.out e).1)
              have hob5 : w5.heap[lb]? = _ := (hbl5.block lb hlN).trans ((HBA.out.block lb (Array.getElem?_eq_some_iff.1 HB2.out).1 hls).trans HB2.out)
              have hpb5 : w5.heap[pb]? = _ := (hbl5.block pb hpN).trans ((HBA.out.block pb (Array.getElem?_eq_some_iff.1 HB1.out).1 hps).trans HB1.out)
              have hc0 : w5.cell? ⟨pb, 0, none⟩ = some (ptr sb) := cell_at3 hpb5 rfl
              have hgN : N ≤ g' := (ownsRow_lt hown5 rfl).1
              have HFL := Lib.hid hfl
              have hz : ∀ j u, [.int .i64 0, .bool false, .slice none 0 0, .int .i64 0, .string ⟨#[]⟩, .slice none 0 0, .slice none 0 0][j]? = some u → w5.cell? ⟨g', ln * 7 + j, none⟩ = some u ∧ w5.frozen? ⟨g', ln * 7 + j, none⟩ = false := fun j u hj => ownsRow_cell hown5 (by rw [List.getElem?_append_right (by rw [HFL.out]; omega), HFL.out, Nat.add_sub_cancel_left]; exact hj)
              obtain ⟨z0, r0⟩ := hz 0 (.int .i64 0) rfl
              obtain ⟨z1, r1⟩ := hz 1 (.bool false) rfl
              obtain ⟨z2, r2⟩ := hz 2 (.slice none 0 0) rfl
              obtain ⟨z3, r3⟩ := hz 3 (.int .i64 0) rfl
              obtain ⟨z4, r4⟩ := hz 4 (.string ⟨#[]⟩) rfl
              obtain ⟨z5, r5⟩ := hz 5 (.slice none 0 0) rfl
              obtain ⟨z6, r6⟩ := hz 6 (.slice none 0 0) rfl
              rw [Nat.add_zero] at z0 r0
              have o5 : w5.cell? ⟨lb, 0, none⟩ = some (.slice LA ln lc) := cell_at3 hob5 rfl
              have p5 : w5.frozen? ⟨lb, 0, none⟩ = false := by simp [World.frozen?, hob5]
              have hgo : ¬ g' = lb := by omega
              have hog : ¬ lb = g' := by omega
              have hpg : ¬ pb = g' := by omega
              have hmb5 : w5.heap[mb]? = _ := (hbl5.block mb hmN).trans ((HBA.out.block mb (Array.getElem?_eq_some_iff.1 HB3m.out).1 hms).trans HB3m.out)
              have hM5 := map_keep HM.out (show w5.heap[mm]? = w4.heap[mm]? from (hbl5.block mm hmmN).trans (HBA.out.block mm HM.out.lt hmms))
              have HM5 := Lib.hid hM5
              have HMB5 := Lib.hid hmb5
              clear hM5 hmb5
              have hl1 : (ln : Int) < (ln : Int) + 1 := by omega
              have hl0 : (0 : Int) ≤ (ln : Int) := by omega
              have hlt : ((ln : Int)).toNat = ln := by omega
              (try dsimp only)
              refine hK.out _ _ hc0 (fun hHeld4 => ?_)
              clear hK K hHeldB hz hfl
              have HOWN5 := Lib.hid hown5
              have HG5 := Lib.hid hg5
              have HAT5 := Lib.hid hat5
              have HBL5 := Lib.hid hbl5
              have HOB5 := Lib.hid hob5
              have HPB5 := Lib.hid hpb5
              clear hown5 hg5 hat5 hbl5 hob5 hpb5
              try simp only [Act.put, List.setIfInBounds_toArray, List.set_cons_zero, List.set_cons_succ]
              refine wpAnyH_take (i := 7) (oi := ⟨_, _, _, _, _, _⟩) (v := ?_) rfl (by kernel_rfl) (by kernel_rfl) (by kernel_rfl) (fun _ _ _ h => h) (Or.inl ⟨by rfl, ?_⟩) (by assumption) ?_
              rotate_left
              · intro w hSw
                (try dsimp only at hSw)
                go_split_ands
                go_simp
                try with_reducible rfl
              try simp only [Act.put, List.setIfInBounds_toArray, List.set_cons_zero, List.set_cons_succ]
              refine wpAnyH_ready (rs := [8, 9]) (by kernel_rfl) (by simp) (AllReadyH.cons (o := ⟨_, _, _, _, _, _⟩) rfl (fun K hK => ?_) (AllReadyH.cons (o := ⟨_, _, _, _, _, _⟩) rfl (fun K hK => ?_) AllReadyH.nil))
              · go_simp
                obtain ⟨hrp, hbp⟩ := row_put7 (a0 := (.int .i64 k1)) (a1 := (.bool neg1)) (a2 := (.slice A1 n1 c1)) (a3 := (.int .i64 e1)) (a4 := (.string t1)) (a5 := (.slice LA1 ln1 lc1)) (a6 := (.slice KA1 kn1 kc1)) HOWN5.out HFL.out
                have hob1 := (hbp.block lb (Array.getElem?_eq_some_iff.1 HOB5.out).1 hog).trans HOB5.out
                have hpc := hbp.cell_some hc0 hpg
                refine hK.out _ _ hpc (fun hHeld5 => ?_)
                clear hK K hHeld4
                try simp only [Act.put, List.setIfInBounds_toArray, List.set_cons_zero, List.set_cons_succ]
                have hob6 := set_heap (i := 0) (u := (.slice (some ⟨g', 0, none⟩) (ln + 1) cap')) hob1
                have hown6 := ownsRow_setCell_other (a := ⟨lb, 0, none⟩) hrp (by show some g' ≠ some lb; intro h; injection h with h; exact hgo h) (.slice (some ⟨g', 0, none⟩) (ln + 1) cap')
                have hb56 : But (fun j => j = g' ∨ j = lb) w5 ((((((((w5.setCell ⟨g', ln * 7, none⟩ (.int .i64 k1)).setCell ⟨g', ln * 7 + 1, none⟩ (.bool neg1)).setCell ⟨g', ln * 7 + 2, none⟩ (.slice A1 n1 c1)).setCell ⟨g', ln * 7 + 3, none⟩ (.int .i64 e1)).setCell ⟨g', ln * 7 + 4, none⟩ (.string t1)).setCell ⟨g', ln * 7 + 5, none⟩ (.slice LA1 ln1 lc1)).setCell ⟨g', ln * 7 + 6, none⟩ (.slice KA1 kn1 kc1)).setCell ⟨lb, 0, none⟩ (.slice (some ⟨g', 0, none⟩) (ln + 1) cap')) := But.setCell (C := fun j => j = g' ∨ j = lb) (p := ⟨lb, 0, none⟩) (hbp.mono (fun _ _ h => .inl h)) (.inl (.inr rfl)) _
                refine wpAnyH_ready (rs := [9]) (by kernel_rfl) (by simp) (AllReadyH.cons (o := ⟨_, _, _, _, _, _⟩) rfl (fun K hK => ?_) AllReadyH.nil)
                go_simp
                refine hK.out _ _ ((World.cell?_setCell_other _ _ _ _ (by first | (simp; done) | (simp; omega))).trans hpc) (fun hHeld6 => ?_)
                clear hK K hHeld5 hob1 hpc hrp hbp
                try simp only [Act.put, List.setIfInBounds_toArray, List.set_cons_zero, List.set_cons_succ]
                have hgo9 : w4.ownsRow N 34 7 (.slice LA ln lc) (acc.map (·.2)).length _ := HG.out.choose_spec.1
                refine wpAnyH_done (by kernel_rfl) ?_ _
                clear z0 z1 z2 z3 z4 z5 z6 r0 r1 r2 r3 r4 r5 r6 o5 p5 hc0
                generalize ((((((((w5.setCell ⟨g', ln * 7, none⟩ (.int .i64 k1)).setCell ⟨g', ln * 7 + 1, none⟩ (.bool neg1)).setCell ⟨g', ln * 7 + 2, none⟩ (.slice A1 n1 c1)).setCell ⟨g', ln * 7 + 3, none⟩ (.int .i64 e1)).setCell ⟨g', ln * 7 + 4, none⟩ (.string t1)).setCell ⟨g', ln * 7 + 5, none⟩ (.slice LA1 ln1 lc1)).setCell ⟨g', ln * 7 + 6, none⟩ (.slice KA1 kn1 kc1)).setCell ⟨lb, 0, none⟩ (.slice (some ⟨g', 0, none⟩) (ln + 1) cap')) = w6 at *
                have hgN' : N ≤ g' := hgN
                have HM6 := Lib.hid (map_keep HM5.out (hb56.block mm HM5.out.lt (by omega)))
                have HPB6 := Lib.hid ((hb56.block pb (Array.getElem?_eq_some_iff.1 HPB5.out).1 (by omega)).trans HPB5.out)
                have hmb6 := (hb56.block mb (Array.getElem?_eq_some_iff.1 HMB5.out).1 (by omega)).trans HMB5.out
                have hmc : w6.cell? ⟨mb, 0, none⟩ = some (.map (some mm)) := cell_at3 hmb6 rfl
                have HMB6 := Lib.hid hmb6
                have HGP := Lib.hid (Grow.push (ob := lb) HLM.out HF7.out HFT.out (fun j hj => (ownsRow_lt hgo9 hj).2) HNW.out H21.out HVA.out rfl HG5.out HAT5.out hb56 hlN hown6)
                have HLB6 := Lib.hid hob6
                have hb26 : But (fun j => j = lb ∨ N ≤ j) w2 w6 := (But.of (C := fun j => j = lb ∨ N ≤ j) H21.out).trans (((⟨HBL5.out.os, HBL5.out.tape, HBL5.out.output, HBL5.out.size, fun j hj hc => HBL5.out.block j (by omega)⟩ : But (fun j => j = lb ∨ N ≤ j) (w2.alloc (.cells #[.int .i64 0, .bool false, .slice none 0 0, .int .i64 0, .string ⟨#[]⟩, .slice none 0 0, .slice none 0 0] 34)) w5)).trans (hb56.mono (fun j _ h => by rcases h with h | h <;> omega)))
                have HB26 := Lib.hid hb26
                have HBW6 := Lib.hid (((HB4.out.trans hb2).mono (fun _ _ h => .inl h)).trans (hb26.mono (fun _ _ h => .inr (by rcases h with h | h; exact .inl h; exact .inr (.inr h)))) : But (fun j => j = sb ∨ (j = lb ∨ j = mm ∨ N ≤ j)) W w6)
                clear hb26 hob6 hown6 hb56 hgo9 hmb6 hb2
                have hkey : keyOf Tryz.prog 9 (.string key) = some (kL key) := Go.WideMaps.keyOf_string_mk Tryz.underlying9 (by have := HKS.out; unfold maxLen; omega)
                have hkw : IntKind.i64.wrap ((nth : Int) - 1) = (ln : Int) := by have h9 := HAL2.out; rw [IntWalk.i64_in _ (by omega)]; omega
                go_wp2_with (at_mapUpdate; refine wpList_mapUpdate_own _ rfl _ _ _ 79 rfl 9 3 keyLaw Tryz.underlying79 _ mm ln _ rfl HM6.out (by unfold maxLen; omega) _ _ _ rfl rfl hkey _ [] (plainElem_int Tryz.underlying3 (WalkArith.wf_i64 (by omega))) ?_; intro w7 hown7 hgrow7)
                first | go_end0 | refine bodyPost_ret (results_none rfl _ _ _) rfl ?_
                have hb67 : But (fun j => j = mm) w6 w7 := ⟨hgrow7.os, hgrow7.tape, hgrow7.output, hgrow7.size, fun j hj hc => hgrow7.block j hj (fun e => by injection e with e; exact hc e)⟩
                refine ⟨rfl, (HE2.out.stay HB26.out (fun j hj h => by have := HE4.out.base; omega) (fun h => by omega)).stay hb67 (fun j hj h => by have := HE4.out.base; omega) (fun h => hmms h.symm), ⟨some ⟨g', 0, none⟩, cap', ?_, ?_, ?_, ?_, ?_⟩, HBW6.out.trans (hb67.mono (fun _ _ h => .inr (.inr (.inl h))))⟩
                · exact (hb67.block pb (Array.getElem?_eq_some_iff.1 HPB6.out).1 (fun h => hmmp h.symm)).trans HPB6.out
                · rw [List.length_append, HLN.out]; exact (hb67.block lb (Array.getElem?_eq_some_iff.1 HLB6.out).1 (fun h => hmml h.symm)).trans HLB6.out
                · exact (hb67.block mb (Array.getElem?_eq_some_iff.1 HMB6.out).1 (fun h => hmmb h.symm)).trans HMB6.out
                · rw [List.length_append, HLN.out, List.map_append]; exact HGP.out.keep hb67 (fun k hk => by omega)
                · rw [List.length_append, HLN.out, List.map_append]
                  show w7.ownsMap _ _ _ mm (ln + 1) (lastD (acc.map (·.1) ++ [key]) (ln + 1))
                  rw [lastD_push HLK.out]
                  exact hown7
              · go_simp
                have hob6' := set_heap (i := 0) (u := (.slice (some ⟨g', 0, none⟩) (ln + 1) cap')) HOB5.out
                have hpc := (World.cell?_setCell_other w5 ⟨lb, 0, none⟩ ⟨pb, 0, none⟩ (.slice (some ⟨g', 0, none⟩) (ln + 1) cap') (by first | (simp; done) | (simp; omega))).trans hc0
                refine hK.out _ _ hpc (fun hHeld5 => ?_)
                clear hK K hHeld4
                try simp only [Act.put, List.setIfInBounds_toArray, List.set_cons_zero, List.set_cons_succ]
                have y0 := (World.cell?_setCell_other w5 ⟨lb, 0, none⟩ ⟨g', ln * 7, none⟩ (.slice (some ⟨g', 0, none⟩) (ln + 1) cap') (by first | (simp; done) | (simp; omega))).trans z0
                have y1 := (World.cell?_setCell_other w5 ⟨lb, 0, none⟩ ⟨g', ln * 7 + 1, none⟩ (.slice (some ⟨g', 0, none⟩) (ln + 1) cap') (by first | (simp; done) | (simp; omega))).trans z1
                have y2 := (World.cell?_setCell_other w5 ⟨lb, 0, none⟩ ⟨g', ln * 7 + 2, none⟩ (.slice (some ⟨g', 0, none⟩) (ln + 1) cap') (by first | (simp; done) | (simp; omega))).trans z2
                have y3 := (World.cell?_setCell_other w5 ⟨lb, 0, none⟩ ⟨g', ln * 7 + 3, none⟩ (.slice (some ⟨g', 0, none⟩) (ln + 1) cap') (by first | (simp; done) | (simp; omega))).trans z3
                have y4 := (World.cell?_setCell_other w5 ⟨lb, 0, none⟩ ⟨g', ln * 7 + 4, none⟩ (.slice (some ⟨g', 0, none⟩) (ln + 1) cap') (by first | (simp; done) | (simp; omega))).trans z4
                have y5 := (World.cell?_setCell_other w5 ⟨lb, 0, none⟩ ⟨g', ln * 7 + 5, none⟩ (.slice (some ⟨g', 0, none⟩) (ln + 1) cap') (by first | (simp; done) | (simp; omega))).trans z5
                have y6 := (World.cell?_setCell_other w5 ⟨lb, 0, none⟩ ⟨g', ln * 7 + 6, none⟩ (.slice (some ⟨g', 0, none⟩) (ln + 1) cap') (by first | (simp; done) | (simp; omega))).trans z6
                have hown5' := ownsRow_setCell_other (a := ⟨lb, 0, none⟩) HOWN5.out (by show some g' ≠ some lb; intro h; injection h with h; exact hgo h) (.slice (some ⟨g', 0, none⟩) (ln + 1) cap')
                obtain ⟨hown6, hbp⟩ := row_put7 (a0 := (.int .i64 k1)) (a1 := (.bool neg1)) (a2 := (.slice A1 n1 c1)) (a3 := (.int .i64 e1)) (a4 := (.string t1)) (a5 := (.slice LA1 ln1 lc1)) (a6 := (.slice KA1 kn1 kc1)) hown5' HFL.out
                have hob6 := (hbp.block lb (by simp [World.setCell]; exact (Array.getElem?_eq_some_iff.1 HOB5.out).1) hog).trans hob6'
                have hb56 : But (fun j => j = g' ∨ j = lb) w5 ((((((((w5.setCell ⟨lb, 0, none⟩ (.slice (some ⟨g', 0, none⟩) (ln + 1) cap')).setCell ⟨g', ln * 7, none⟩ (.int .i64 k1)).setCell ⟨g', ln * 7 + 1, none⟩ (.bool neg1)).setCell ⟨g', ln * 7 + 2, none⟩ (.slice A1 n1 c1)).setCell ⟨g', ln * 7 + 3, none⟩ (.int .i64 e1)).setCell ⟨g', ln * 7 + 4, none⟩ (.string t1)).setCell ⟨g', ln * 7 + 5, none⟩ (.slice LA1 ln1 lc1)).setCell ⟨g', ln * 7 + 6, none⟩ (.slice KA1 kn1 kc1)) := (But.setCell (C := fun j => j = g' ∨ j = lb) (p := ⟨lb, 0, none⟩) (But.refl _ _) (.inl (.inr rfl)) _).trans (hbp.mono (fun _ _ h => .inl h))
                refine wpAnyH_ready (rs := [8]) (by kernel_rfl) (by simp) (AllReadyH.cons (o := ⟨_, _, _, _, _, _⟩) rfl (fun K hK => ?_) AllReadyH.nil)
                go_simp
                refine hK.out _ _ (hbp.cell_some hpc hpg) (fun hHeld6 => ?_)
                clear hK K hHeld5 hob6' hpc hown5' hbp y0 y1 y2 y3 y4 y5 y6
                try simp only [Act.put, List.setIfInBounds_toArray, List.set_cons_zero, List.set_cons_succ]
                have hgo9 : w4.ownsRow N 34 7 (.slice LA ln lc) (acc.map (·.2)).length _ := HG.out.choose_spec.1
                refine wpAnyH_done (by kernel_rfl) ?_ _
                clear z0 z1 z2 z3 z4 z5 z6 r0 r1 r2 r3 r4 r5 r6 o5 p5 hc0
                generalize ((((((((w5.setCell ⟨lb, 0, none⟩ (.slice (some ⟨g', 0, none⟩) (ln + 1) cap')).setCell ⟨g', ln * 7, none⟩ (.int .i64 k1)).setCell ⟨g', ln * 7 + 1, none⟩ (.bool neg1)).setCell ⟨g', ln * 7 + 2, none⟩ (.slice A1 n1 c1)).setCell ⟨g', ln * 7 + 3, none⟩ (.int .i64 e1)).setCell ⟨g', ln * 7 + 4, none⟩ (.string t1)).setCell ⟨g', ln * 7 + 5, none⟩ (.slice LA1 ln1 lc1)).setCell ⟨g', ln * 7 + 6, none⟩ (.slice KA1 kn1 kc1)) = w6 at *
                have hgN' : N ≤ g' := hgN
                have HM6 := Lib.hid (map_keep HM5.out (hb56.block mm HM5.out.lt (by omega)))
                have HPB6 := Lib.hid ((hb56.block pb (Array.getElem?_eq_some_iff.1 HPB5.out).1 (by omega)).trans HPB5.out)
                have hmb6 := (hb56.block mb (Array.getElem?_eq_some_iff.1 HMB5.out).1 (by omega)).trans HMB5.out
                have hmc : w6.cell? ⟨mb, 0, none⟩ = some (.map (some mm)) := cell_at3 hmb6 rfl
                have HMB6 := Lib.hid hmb6
                have HGP := Lib.hid (Grow.push (ob := lb) HLM.out HF7.out HFT.out (fun j hj => (ownsRow_lt hgo9 hj).2) HNW.out H21.out HVA.out rfl HG5.out HAT5.out hb56 hlN hown6)
                have HLB6 := Lib.hid hob6
                have hb26 : But (fun j => j = lb ∨ N ≤ j) w2 w6 := (But.of (C := fun j => j = lb ∨ N ≤ j) H21.out).trans (((⟨HBL5.out.os, HBL5.out.tape, HBL5.out.output, HBL5.out.size, fun j hj hc => HBL5.out.block j (by omega)⟩ : But (fun j => j = lb ∨ N ≤ j) (w2.alloc (.cells #[.int .i64 0, .bool false, .slice none 0 0, .int .i64 0, .string ⟨#[]⟩, .slice none 0 0, .slice none 0 0] 34)) w5)).trans (hb56.mono (fun j _ h => by rcases h with h | h <;> omega)))
                have HB26 := Lib.hid hb26
                have HBW6 := Lib.hid (((HB4.out.trans hb2).mono (fun _ _ h => .inl h)).trans (hb26.mono (fun _ _ h => .inr (by rcases h with h | h; exact .inl h; exact .inr (.inr h)))) : But (fun j => j = sb ∨ (j = lb ∨ j = mm ∨ N ≤ j)) W w6)
                clear hb26 hob6 hown6 hb56 hgo9 hmb6 hb2
                have hkey : keyOf Tryz.prog 9 (.string key) = some (kL key) := Go.WideMaps.keyOf_string_mk Tryz.underlying9 (by have := HKS.out; unfold maxLen; omega)
                have hkw : IntKind.i64.wrap ((nth : Int) - 1) = (ln : Int) := by have h9 := HAL2.out; rw [IntWalk.i64_in _ (by omega)]; omega
                go_wp2_with (at_mapUpdate; refine wpList_mapUpdate_own _ rfl _ _ _ 79 rfl 9 3 keyLaw Tryz.underlying79 _ mm ln _ rfl HM6.out (by unfold maxLen; omega) _ _ _ rfl rfl hkey _ [] (plainElem_int Tryz.underlying3 (WalkArith.wf_i64 (by omega))) ?_; intro w7 hown7 hgrow7)
                first | go_end0 | refine bodyPost_ret (results_none rfl _ _ _) rfl ?_
                have hb67 : But (fun j => j = mm) w6 w7 := ⟨hgrow7.os, hgrow7.tape, hgrow7.output, hgrow7.size, fun j hj hc => hgrow7.block j hj (fun e => by injection e with e; exact hc e)⟩
                refine ⟨rfl, (HE2.out.stay HB26.out (fun j hj h => by have := HE4.out.base; omega) (fun h => by omega)).stay hb67 (fun j hj h => by have := HE4.out.base; omega) (fun h => hmms h.symm), ⟨some ⟨g', 0, none⟩, cap', ?_, ?_, ?_, ?_, ?_⟩, HBW6.out.trans (hb67.mono (fun _ _ h => .inr (.inr (.inl h))))⟩
                · exact (hb67.block pb (Array.getElem?_eq_some_iff.1 HPB6.out).1 (fun h => hmmp h.symm)).trans HPB6.out
                · rw [List.length_append, HLN.out]; exact (hb67.block lb (Array.getElem?_eq_some_iff.1 HLB6.out).1 (fun h => hmml h.symm)).trans HLB6.out
                · exact (hb67.block mb (Array.getElem?_eq_some_iff.1 HMB6.out).1 (fun h => hmmb h.symm)).trans HMB6.out
                · rw [List.length_append, HLN.out, List.map_append]; exact HGP.out.keep hb67 (fun k hk => by omega)
                · rw [List.length_append, HLN.out, List.map_append]
                  show w7.ownsMap _ _ _ mm (ln + 1) (lastD (acc.map (·.1) ++ [key]) (ln + 1))
                  rw [lastD_push HLK.out]
                  exact hown7
        · go_simp
          refine hK.out _ _ (HS.out _ (((But.refl (fun k => k = sb) w4).alloc (.cells #[.int .i64 0, .bool false, .slice none 0 0, .int .i64 0, .string ⟨#[]⟩, .slice none 0 0, .slice none 0 0] 34)).drew)) (fun hHeldB => ?_)
          clear hK K hHeldL
          try simp only [Act.put, List.setIfInBounds_toArray, List.set_cons_zero, List.set_cons_succ]
          refine wpAnyH_ready (rs := [3]) (by kernel_rfl) (by simp) (AllReadyH.cons (o := ⟨_, _, _, _, _, _⟩) rfl (fun K hK => ?_) AllReadyH.nil)
          · go_simp
            refine (HV.out ((w4.alloc (.cells #[.int .i64 0, .bool false, .slice none 0 0, .int .i64 0, .string ⟨#[]⟩, .slice none 0 0, .slice none 0 0] 34)).drew) (HE4.out.stay (C := fun _ => False) (((But.refl _ _).alloc _).drew) (fun _ _ h => h) (fun h => h))).mono ?_
            intro e w2 hp
            cases RV with
            | bad q x =>
              obtain ⟨rfl, hb⟩ := hp
              have h9 : (RR.bad q x : RR (ByteArray × VT)) = R := HR.out
              subst h9
              exact ⟨rfl, rfl, (HB4.out.trans ((((But.refl (fun k => k = sb) w4).alloc (.cells #[.int .i64 0, .bool false, .slice none 0 0, .int .i64 0, .string ⟨#[]⟩, .slice none 0 0, .slice none 0 0] 34)).drew).trans hb)).mono (fun _ _ h => .inl h)⟩
            | ok a q =>
              obtain ⟨⟨v, rfl, cs, rfl, hva⟩, hE2, hbc⟩ := hp
              have h9 : (RR.ok (key, a) q : RR (ByteArray × VT)) = R := HR.out
              subst h9
              clear HR
              obtain ⟨k1, neg1, xs1, e1, t1, li1, ks1, hak⟩ : ∃ k neg xs e t li ks, a = VT.mk k neg xs e t li ks := by cases a; exact ⟨_, _, _, _, _, _, _, rfl⟩
              have hvb := hva
              rw [hak] at hvb
              obtain ⟨A1, n1, c1, LA1, ln1, lc1, KA1, kn1, kc1, rfl, -⟩ := hvb.parts
              have hb2 : But (fun k => k = sb) w4 w2 := (((But.refl (fun k => k = sb) w4).alloc (.cells #[.int .i64 0, .bool false, .slice none 0 0, .int .i64 0, .string ⟨#[]⟩, .slice none 0 0, .slice none 0 0] 34)).drew).trans hbc
              have HVA := Lib.hid (show VIn w2 (fun b => w4.heap.size ≤ b ∧ b < w2.heap.size) a _ from hva.more (fun b hb => ⟨by have h9 := hb.1; simp at h9; omega, hb.2⟩))
              have HE2 := Lib.hid hE2
              clear hvb hak hva hE2
              (try dsimp only)
              refine hK.out _ _ (HS.out _ hb2) (fun hHeldC => ?_)
              clear hK K hHeldB
              try simp only [Act.put, List.setIfInBounds_toArray, List.set_cons_zero, List.set_cons_succ]
              have HZ := Lib.hid (show ∀ j u, [.int .i64 0, .bool false, .slice none 0 0, .int .i64 0, .string ⟨#[]⟩, .slice none 0 0, .slice none 0 0][j]? = some u → w2.cell? ((⟨w4.heap.size, 0, none⟩ : Addr).add j) = some u from fun j u hj => by
                have h9 := new7 w4 (.int .i64 0) (.bool false) (.slice none 0 0) (.int .i64 0) (.string ⟨#[]⟩) (.slice none 0 0) (.slice none 0 0) 34 j u hj
                exact hbc.cell_some h9 (fun h => by rw [Addr.add_lit] at h; have h8 : w4.heap.size = sb := h; have := HE4.out.lt; omega))
              have HBA := Lib.hid (hb2)
              have H21 := Lib.hid (show Below w2.heap.size w2 w2 from Below.refl _ _)
              clear hbc
              try simp only [Act.put, List.setIfInBounds_toArray, List.set_cons_zero, List.set_cons_succ]
              have hgr : Grow N (.slice LA ln lc) (acc.map (·.2)) w2 := HG.out.keep HBA.out (fun k hk => by omega)
              obtain ⟨fs, hown, hf7, hft⟩ := hgr
              rw [HLM.out] at hown
              have hfl : (flatC fs id ln).length = ln * 7 := flatC_length (fun q hq => hf7 q (by rw [HLM.out]; exact hq))
              have HOWN := Lib.hid hown
              have HF7 := Lib.hid (show ∀ i, i < ln → (fs i).length = 7 from fun i hi => hf7 i (by rw [HLM.out]; exact hi))
              have HFT := Lib.hid hft
              have HNA := Lib.hid (show N ≤ w2.heap.size from Nat.le_trans HNW.out HBA.out.size)
              clear hown hf7 hft
              refine wpAnyH_ready (rs := [6]) (by kernel_rfl) (by simp) (AllReadyH.cons (o := ⟨_, _, _, _, _, _⟩) rfl (fun K hK => ?_) AllReadyH.nil)
              refine step_append_at (base := N) (e := 34) (v := .slice LA ln lc) (n := ln) (xs := flatC fs id ln) (news := [.int .i64 0, .bool false, .slice none 0 0, .int .i64 0, .string ⟨#[]⟩, .slice none 0 0, .slice none 0 0]) (m := 1) (c := 1) (ad := ⟨w4.heap.size, 0, none⟩) rfl (.tmp 16) (.tmp 21) 24 rfl Tryz.underlying24 hi7 hp7 hq7 hr7 rfl (by decide) rfl HOWN.out rfl rfl HZ.out (by simp [Value.oneCell']) (by unfold maxLen; omega) (by omega) HNA.out ?_
              intro v' w5 hown5 hg5 _ hat5
              obtain ⟨g', cap', rfl⟩ := ownsRow_succ hown5
              have hbl5 : Below N w2 w5 := (Below.refl N _).grown hg5 HNA.out (fun q e => (ownsRow_lt HOWN.out e).1)
              have hob5 : w5.heap[lb]? = _ := (hbl5.block lb hlN).trans ((HBA.out.block lb (Array.getElem?_eq_some_iff.1 HB2.out).1 hls).trans HB2.out)
              have hpb5 : w5.heap[pb]? = _ := (hbl5.block pb hpN).trans ((HBA.out.block pb (Array.getElem?_eq_some_iff.1 HB1.out).1 hps).trans HB1.out)
              have hc0 : w5.cell? ⟨pb, 0, none⟩ = some (ptr sb) := cell_at3 hpb5 rfl
              have hgN : N ≤ g' := (ownsRow_lt hown5 rfl).1
              have HFL := Lib.hid hfl
              have hz : ∀ j u, [.int .i64 0, .bool false, .slice none 0 0, .int .i64 0, .string ⟨#[]⟩, .slice none 0 0, .slice none 0 0][j]? = some u → w5.cell? ⟨g', ln * 7 + j, none⟩ = some u ∧ w5.frozen? ⟨g', ln * 7 + j, none⟩ = false := fun j u hj => ownsRow_cell hown5 (by rw [List.getElem?_append_right (by rw [HFL.out]; omega), HFL.out, Nat.add_sub_cancel_left]; exact hj)
              obtain ⟨z0, r0⟩ := hz 0 (.int .i64 0) rfl
              obtain ⟨z1, r1⟩ := hz 1 (.bool false) rfl
              obtain ⟨z2, r2⟩ := hz 2 (.slice none 0 0) rfl
              obtain ⟨z3, r3⟩ := hz 3 (.int .i64 0) rfl
              obtain ⟨z4, r4⟩ := hz 4 (.string ⟨#[]⟩) rfl
              obtain ⟨z5, r5⟩ := hz 5 (.slice none 0 0) rfl
              obtain ⟨z6, r6⟩ := hz 6 (.slice none 0 0) rfl
              rw [Nat.add_zero] at z0 r0
              have o5 : w5.cell? ⟨lb, 0, none⟩ = some (.slice LA ln lc) := cell_at3 hob5 rfl
              have p5 : w5.frozen? ⟨lb, 0, none⟩ = false := by simp [World.frozen?, hob5]
              have hgo : ¬ g' = lb := by omega
              have hog : ¬ lb = g' := by omega
              have hpg : ¬ pb = g' := by omega
              have hmb5 : w5.heap[mb]? = _ := (hbl5.block mb hmN).trans ((HBA.out.block mb (Array.getElem?_eq_some_iff.1 HB3m.out).1 hms).trans HB3m.out)
              have hM5 := map_keep HM.out (show w5.heap[mm]? = w4.heap[mm]? from (hbl5.block mm hmmN).trans (HBA.out.block mm HM.out.lt hmms))
              have HM5 := Lib.hid hM5
              have HMB5 := Lib.hid hmb5
              clear hM5 hmb5
              have hl1 : (ln : Int) < (ln : Int) + 1 := by omega
              have hl0 : (0 : Int) ≤ (ln : Int) := by omega
              have hlt : ((ln : Int)).toNat = ln := by omega
              (try dsimp only)
              refine hK.out _ _ hc0 (fun hHeld4 => ?_)
              clear hK K hHeldC hz hfl
              have HOWN5 := Lib.hid hown5
              have HG5 := Lib.hid hg5
              have HAT5 := Lib.hid hat5
              have HBL5 := Lib.hid hbl5
              have HOB5 := Lib.hid hob5
              have HPB5 := Lib.hid hpb5
              clear hown5 hg5 hat5 hbl5 hob5 hpb5
              try simp only [Act.put, List.setIfInBounds_toArray, List.set_cons_zero, List.set_cons_succ]
              refine wpAnyH_take (i := 7) (oi := ⟨_, _, _, _, _, _⟩) (v := ?_) rfl (by kernel_rfl) (by kernel_rfl) (by kernel_rfl) (fun _ _ _ h => h) (Or.inl ⟨by rfl, ?_⟩) (by assumption) ?_
              rotate_left
              · intro w hSw
                (try dsimp only at hSw)
                go_split_ands
                go_simp
                try with_reducible rfl
              try simp only [Act.put, List.setIfInBounds_toArray, List.set_cons_zero, List.set_cons_succ]
              refine wpAnyH_ready (rs := [8, 9]) (by kernel_rfl) (by simp) (AllReadyH.cons (o := ⟨_, _, _, _, _, _⟩) rfl (fun K hK => ?_) (AllReadyH.cons (o := ⟨_, _, _, _, _, _⟩) rfl (fun K hK => ?_) AllReadyH.nil))
              · go_simp
                obtain ⟨hrp, hbp⟩ := row_put7 (a0 := (.int .i64 k1)) (a1 := (.bool neg1)) (a2 := (.slice A1 n1 c1)) (a3 := (.int .i64 e1)) (a4 := (.string t1)) (a5 := (.slice LA1 ln1 lc1)) (a6 := (.slice KA1 kn1 kc1)) HOWN5.out HFL.out
                have hob1 := (hbp.block lb (Array.getElem?_eq_some_iff.1 HOB5.out).1 hog).trans HOB5.out
                have hpc := hbp.cell_some hc0 hpg
                refine hK.out _ _ hpc (fun hHeld5 => ?_)
                clear hK K hHeld4
                try simp only [Act.put, List.setIfInBounds_toArray, List.set_cons_zero, List.set_cons_succ]
                have hob6 := set_heap (i := 0) (u := (.slice (some ⟨g', 0, none⟩) (ln + 1) cap')) hob1
                have hown6 := ownsRow_setCell_other (a := ⟨lb, 0, none⟩) hrp (by show some g' ≠ some lb; intro h; injection h with h; exact hgo h) (.slice (some ⟨g', 0, none⟩) (ln + 1) cap')
                have hb56 : But (fun j => j = g' ∨ j = lb) w5 ((((((((w5.setCell ⟨g', ln * 7, none⟩ (.int .i64 k1)).setCell ⟨g', ln * 7 + 1, none⟩ (.bool neg1)).setCell ⟨g', ln * 7 + 2, none⟩ (.slice A1 n1 c1)).setCell ⟨g', ln * 7 + 3, none⟩ (.int .i64 e1)).setCell ⟨g', ln * 7 + 4, none⟩ (.string t1)).setCell ⟨g', ln * 7 + 5, none⟩ (.slice LA1 ln1 lc1)).setCell ⟨g', ln * 7 + 6, none⟩ (.slice KA1 kn1 kc1)).setCell ⟨lb, 0, none⟩ (.slice (some ⟨g', 0, none⟩) (ln + 1) cap')) := But.setCell (C := fun j => j = g' ∨ j = lb) (p := ⟨lb, 0, none⟩) (hbp.mono (fun _ _ h => .inl h)) (.inl (.inr rfl)) _
                refine wpAnyH_ready (rs := [9]) (by kernel_rfl) (by simp) (AllReadyH.cons (o := ⟨_, _, _, _, _, _⟩) rfl (fun K hK => ?_) AllReadyH.nil)
                go_simp
                refine hK.out _ _ ((World.cell?_setCell_other _ _ _ _ (by first | (simp; done) | (simp; omega))).trans hpc) (fun hHeld6 => ?_)
                clear hK K hHeld5 hob1 hpc hrp hbp
                try simp only [Act.put, List.setIfInBounds_toArray, List.set_cons_zero, List.set_cons_succ]
                have hgo9 : w4.ownsRow N 34 7 (.slice LA ln lc) (acc.map (·.2)).length _ := HG.out.choose_spec.1
                refine wpAnyH_done (by kernel_rfl) ?_ _
                clear z0 z1 z2 z3 z4 z5 z6 r0 r1 r2 r3 r4 r5 r6 o5 p5 hc0
                generalize ((((((((w5.setCell ⟨g', ln * 7, none⟩ (.int .i64 k1)).setCell ⟨g', ln * 7 + 1, none⟩ (.bool neg1)).setCell ⟨g', ln * 7 + 2, none⟩ (.slice A1 n1 c1)).setCell ⟨g', ln * 7 + 3, none⟩ (.int .i64 e1)).setCell ⟨g', ln * 7 + 4, none⟩ (.string t1)).setCell ⟨g', ln * 7 + 5, none⟩ (.slice LA1 ln1 lc1)).setCell ⟨g', ln * 7 + 6, none⟩ (.slice KA1 kn1 kc1)).setCell ⟨lb, 0, none⟩ (.slice (some ⟨g', 0, none⟩) (ln + 1) cap')) = w6 at *
                have hgN' : N ≤ g' := hgN
                have HM6 := Lib.hid (map_keep HM5.out (hb56.block mm HM5.out.lt (by omega)))
                have HPB6 := Lib.hid ((hb56.block pb (Array.getElem?_eq_some_iff.1 HPB5.out).1 (by omega)).trans HPB5.out)
                have hmb6 := (hb56.block mb (Array.getElem?_eq_some_iff.1 HMB5.out).1 (by omega)).trans HMB5.out
                have hmc : w6.cell? ⟨mb, 0, none⟩ = some (.map (some mm)) := cell_at3 hmb6 rfl
                have HMB6 := Lib.hid hmb6
                have HGP := Lib.hid (Grow.push (ob := lb) HLM.out HF7.out HFT.out (fun j hj => (ownsRow_lt hgo9 hj).2) HNW.out H21.out HVA.out rfl HG5.out HAT5.out hb56 hlN hown6)
                have HLB6 := Lib.hid hob6
                have hb26 : But (fun j => j = lb ∨ N ≤ j) w2 w6 := (But.of (C := fun j => j = lb ∨ N ≤ j) H21.out).trans (((⟨HBL5.out.os, HBL5.out.tape, HBL5.out.output, HBL5.out.size, fun j hj hc => HBL5.out.block j (by omega)⟩ : But (fun j => j = lb ∨ N ≤ j) w2 w5)).trans (hb56.mono (fun j _ h => by rcases h with h | h <;> omega)))
                have HB26 := Lib.hid hb26
                have HBW6 := Lib.hid (((HB4.out.trans hb2).mono (fun _ _ h => .inl h)).trans (hb26.mono (fun _ _ h => .inr (by rcases h with h | h; exact .inl h; exact .inr (.inr h)))) : But (fun j => j = sb ∨ (j = lb ∨ j = mm ∨ N ≤ j)) W w6)
                clear hb26 hob6 hown6 hb56 hgo9 hmb6 hb2
                have hkey : keyOf Tryz.prog 9 (.string key) = some (kL key) := Go.WideMaps.keyOf_string_mk Tryz.underlying9 (by have := HKS.out; unfold maxLen; omega)
                have hkw : IntKind.i64.wrap ((nth : Int) - 1) = (ln : Int) := by have h9 := HAL2.out; rw [IntWalk.i64_in _ (by omega)]; omega
                go_wp2_with (at_mapUpdate; refine wpList_mapUpdate_own _ rfl _ _ _ 79 rfl 9 3 keyLaw Tryz.underlying79 _ mm ln _ rfl HM6.out (by unfold maxLen; omega) _ _ _ rfl rfl hkey _ [] (plainElem_int Tryz.underlying3 (WalkArith.wf_i64 (by omega))) ?_; intro w7 hown7 hgrow7)
                first | go_end0 | refine bodyPost_ret (results_none rfl _ _ _) rfl ?_
                have hb67 : But (fun j => j = mm) w6 w7 := ⟨hgrow7.os, hgrow7.tape, hgrow7.output, hgrow7.size, fun j hj hc => hgrow7.block j hj (fun e => by injection e with e; exact hc e)⟩
                refine ⟨rfl, (HE2.out.stay HB26.out (fun j hj h => by have := HE4.out.base; omega) (fun h => by omega)).stay hb67 (fun j hj h => by have := HE4.out.base; omega) (fun h => hmms h.symm), ⟨some ⟨g', 0, none⟩, cap', ?_, ?_, ?_, ?_, ?_⟩, HBW6.out.trans (hb67.mono (fun _ _ h => .inr (.inr (.inl h))))⟩
                · exact (hb67.block pb (Array.getElem?_eq_some_iff.1 HPB6.out).1 (fun h => hmmp h.symm)).trans HPB6.out
                · rw [List.length_append, HLN.out]; exact (hb67.block lb (Array.getElem?_eq_some_iff.1 HLB6.out).1 (fun h => hmml h.symm)).trans HLB6.out
                · exact (hb67.block mb (Array.getElem?_eq_some_iff.1 HMB6.out).1 (fun h => hmmb h.symm)).trans HMB6.out
                · rw [List.length_append, HLN.out, List.map_append]; exact HGP.out.keep hb67 (fun k hk => by omega)
                · rw [List.length_append, HLN.out, List.map_append]
                  show w7.ownsMap _ _ _ mm (ln + 1) (lastD (acc.map (·.1) ++ [key]) (ln + 1))
                  rw [lastD_push HLK.out]
                  exact hown7
              · go_simp
                have hob6' := set_heap (i := 0) (u := (.slice (some ⟨g', 0, none⟩) (ln + 1) cap')) HOB5.out
                have hpc := (World.cell?_setCell_other w5 ⟨lb, 0, none⟩ ⟨pb, 0, none⟩ (.slice (some ⟨g', 0, none⟩) (ln + 1) cap') (by first | (simp; done) | (simp; omega))).trans hc0
                refine hK.out _ _ hpc (fun hHeld5 => ?_)
                clear hK K hHeld4
                try simp only [Act.put, List.setIfInBounds_toArray, List.set_cons_zero, List.set_cons_succ]
                have y0 := (World.cell?_setCell_other w5 ⟨lb, 0, none⟩ ⟨g', ln * 7, none⟩ (.slice (some ⟨g', 0, none⟩) (ln + 1) cap') (by first | (simp; done) | (simp; omega))).trans z0
                have y1 := (World.cell?_setCell_other w5 ⟨lb, 0, none⟩ ⟨g', ln * 7 + 1, none⟩ (.slice (some ⟨g', 0, none⟩) (ln + 1) cap') (by first | (simp; done) | (simp; omega))).trans z1
                have y2 := (World.cell?_setCell_other w5 ⟨lb, 0, none⟩ ⟨g', ln * 7 + 2, none⟩ (.slice (some ⟨g', 0, none⟩) (ln + 1) cap') (by first | (simp; done) | (simp; omega))).trans z2
                have y3 := (World.cell?_setCell_other w5 ⟨lb, 0, none⟩ ⟨g', ln * 7 + 3, none⟩ (.slice (some ⟨g', 0, none⟩) (ln + 1) cap') (by first | (simp; done) | (simp; omega))).trans z3
                have y4 := (World.cell?_setCell_other w5 ⟨lb, 0, none⟩ ⟨g', ln * 7 + 4, none⟩ (.slice (some ⟨g', 0, none⟩) (ln + 1) cap') (by first | (simp; done) | (simp; omega))).trans z4
                have y5 := (World.cell?_setCell_other w5 ⟨lb, 0, none⟩ ⟨g', ln * 7 + 5, none⟩ (.slice (some ⟨g', 0, none⟩) (ln + 1) cap') (by first | (simp; done) | (simp; omega))).trans z5
                have y6 := (World.cell?_setCell_other w5 ⟨lb, 0, none⟩ ⟨g', ln * 7 + 6, none⟩ (.slice (some ⟨g', 0, none⟩) (ln + 1) cap') (by first | (simp; done) | (simp; omega))).trans z6
                have hown5' := ownsRow_setCell_other (a := ⟨lb, 0, none⟩) HOWN5.out (by show some g' ≠ some lb; intro h; injection h with h; exact hgo h) (.slice (some ⟨g', 0, none⟩) (ln + 1) cap')
                obtain ⟨hown6, hbp⟩ := row_put7 (a0 := (.int .i64 k1)) (a1 := (.bool neg1)) (a2 := (.slice A1 n1 c1)) (a3 := (.int .i64 e1)) (a4 := (.string t1)) (a5 := (.slice LA1 ln1 lc1)) (a6 := (.slice KA1 kn1 kc1)) hown5' HFL.out
                have hob6 := (hbp.block lb (by simp [World.setCell]; exact (Array.getElem?_eq_some_iff.1 HOB5.out).1) hog).trans hob6'
                have hb56 : But (fun j => j = g' ∨ j = lb) w5 ((((((((w5.setCell ⟨lb, 0, none⟩ (.slice (some ⟨g', 0, none⟩) (ln + 1) cap')).setCell ⟨g', ln * 7, none⟩ (.int .i64 k1)).setCell ⟨g', ln * 7 + 1, none⟩ (.bool neg1)).setCell ⟨g', ln * 7 + 2, none⟩ (.slice A1 n1 c1)).setCell ⟨g', ln * 7 + 3, none⟩ (.int .i64 e1)).setCell ⟨g', ln * 7 + 4, none⟩ (.string t1)).setCell ⟨g', ln * 7 + 5, none⟩ (.slice LA1 ln1 lc1)).setCell ⟨g', ln * 7 + 6, none⟩ (.slice KA1 kn1 kc1)) := (But.setCell (C := fun j => j = g' ∨ j = lb) (p := ⟨lb, 0, none⟩) (But.refl _ _) (.inl (.inr rfl)) _).trans (hbp.mono (fun _ _ h => .inl h))
                refine wpAnyH_ready (rs := [8]) (by kernel_rfl) (by simp) (AllReadyH.cons (o := ⟨_, _, _, _, _, _⟩) rfl (fun K hK => ?_) AllReadyH.nil)
                go_simp
                refine hK.out _ _ (hbp.cell_some hpc hpg) (fun hHeld6 => ?_)
                clear hK K hHeld5 hob6' hpc hown5' hbp y0 y1 y2 y3 y4 y5 y6
                try simp only [Act.put, List.setIfInBounds_toArray, List.set_cons_zero, List.set_cons_succ]
                have hgo9 : w4.ownsRow N 34 7 (.slice LA ln lc) (acc.map (·.2)).length _ := HG.out.choose_spec.1
                refine wpAnyH_done (by kernel_rfl) ?_ _
                clear z0 z1 z2 z3 z4 z5 z6 r0 r1 r2 r3 r4 r5 r6 o5 p5 hc0
                generalize ((((((((w5.setCell ⟨lb, 0, none⟩ (.slice (some ⟨g', 0, none⟩) (ln + 1) cap')).setCell ⟨g', ln * 7, none⟩ (.int .i64 k1)).setCell ⟨g', ln * 7 + 1, none⟩ (.bool neg1)).setCell ⟨g', ln * 7 + 2, none⟩ (.slice A1 n1 c1)).setCell ⟨g', ln * 7 + 3, none⟩ (.int .i64 e1)).setCell ⟨g', ln * 7 + 4, none⟩ (.string t1)).setCell ⟨g', ln * 7 + 5, none⟩ (.slice LA1 ln1 lc1)).setCell ⟨g', ln * 7 + 6, none⟩ (.slice KA1 kn1 kc1)) = w6 at *
                have hgN' : N ≤ g' := hgN
                have HM6 := Lib.hid (map_keep HM5.out (hb56.block mm HM5.out.lt (by omega)))
                have HPB6 := Lib.hid ((hb56.block pb (Array.getElem?_eq_some_iff.1 HPB5.out).1 (by omega)).trans HPB5.out)
                have hmb6 := (hb56.block mb (Array.getElem?_eq_some_iff.1 HMB5.out).1 (by omega)).trans HMB5.out
                have hmc : w6.cell? ⟨mb, 0, none⟩ = some (.map (some mm)) := cell_at3 hmb6 rfl
                have HMB6 := Lib.hid hmb6
                have HGP := Lib.hid (Grow.push (ob := lb) HLM.out HF7.out HFT.out (fun j hj => (ownsRow_lt hgo9 hj).2) HNW.out H21.out HVA.out rfl HG5.out HAT5.out hb56 hlN hown6)
                have HLB6 := Lib.hid hob6
                have hb26 : But (fun j => j = lb ∨ N ≤ j) w2 w6 := (But.of (C := fun j => j = lb ∨ N ≤ j) H21.out).trans (((⟨HBL5.out.os, HBL5.out.tape, HBL5.out.output, HBL5.out.size, fun j hj hc => HBL5.out.block j (by omega)⟩ : But (fun j => j = lb ∨ N ≤ j) w2 w5)).trans (hb56.mono (fun j _ h => by rcases h with h | h <;> omega)))
                have HB26 := Lib.hid hb26
                have HBW6 := Lib.hid (((HB4.out.trans hb2).mono (fun _ _ h => .inl h)).trans (hb26.mono (fun _ _ h => .inr (by rcases h with h | h; exact .inl h; exact .inr (.inr h)))) : But (fun j => j = sb ∨ (j = lb ∨ j = mm ∨ N ≤ j)) W w6)
                clear hb26 hob6 hown6 hb56 hgo9 hmb6 hb2
                have hkey : keyOf Tryz.prog 9 (.string key) = some (kL key) := Go.WideMaps.keyOf_string_mk Tryz.underlying9 (by have := HKS.out; unfold maxLen; omega)
                have hkw : IntKind.i64.wrap ((nth : Int) - 1) = (ln : Int) := by have h9 := HAL2.out; rw [IntWalk.i64_in _ (by omega)]; omega
                go_wp2_with (at_mapUpdate; refine wpList_mapUpdate_own _ rfl _ _ _ 79 rfl 9 3 keyLaw Tryz.underlying79 _ mm ln _ rfl HM6.out (by unfold maxLen; omega) _ _ _ rfl rfl hkey _ [] (plainElem_int Tryz.underlying3 (WalkArith.wf_i64 (by omega))) ?_; intro w7 hown7 hgrow7)
                first | go_end0 | refine bodyPost_ret (results_none rfl _ _ _) rfl ?_
                have hb67 : But (fun j => j = mm) w6 w7 := ⟨hgrow7.os, hgrow7.tape, hgrow7.output, hgrow7.size, fun j hj hc => hgrow7.block j hj (fun e => by injection e with e; exact hc e)⟩
                refine ⟨rfl, (HE2.out.stay HB26.out (fun j hj h => by have := HE4.out.base; omega) (fun h => by omega)).stay hb67 (fun j hj h => by have := HE4.out.base; omega) (fun h => hmms h.symm), ⟨some ⟨g', 0, none⟩, cap', ?_, ?_, ?_, ?_, ?_⟩, HBW6.out.trans (hb67.mono (fun _ _ h => .inr (.inr (.inl h))))⟩
                · exact (hb67.block pb (Array.getElem?_eq_some_iff.1 HPB6.out).1 (fun h => hmmp h.symm)).trans HPB6.out
                · rw [List.length_append, HLN.out]; exact (hb67.block lb (Array.getElem?_eq_some_iff.1 HLB6.out).1 (fun h => hmml h.symm)).trans HLB6.out
                · exact (hb67.block mb (Array.getElem?_eq_some_iff.1 HMB6.out).1 (fun h => hmmb h.symm)).trans HMB6.out
                · rw [List.length_append, HLN.out, List.map_append]; exact HGP.out.keep hb67 (fun k hk => by omega)
                · rw [List.length_append, HLN.out, List.map_append]
                  show w7.ownsMap _ _ _ mm (ln + 1) (lastD (acc.map (·.1) ++ [key]) (ln + 1))
                  rw [lastD_push HLK.out]
                  exact hown7
      · go_simp
        refine (HV.out w4.drew (HE4.out.stay (C := fun _ => False) ((But.refl _ _).drew) (fun _ _ h => h) (fun h => h))).mono ?_
        intro e w2 hp
        cases RV with
        | bad q x =>
          obtain ⟨rfl, hb⟩ := hp
          have h9 : (RR.bad q x : RR (ByteArray × VT)) = R := HR.out
          subst h9
          exact ⟨rfl, rfl, (HB4.out.trans ((hbw).trans hb)).mono (fun _ _ h => .inl h)⟩
        | ok a q =>
          obtain ⟨⟨v, rfl, cs, rfl, hva⟩, hE2, hbc⟩ := hp
          have h9 : (RR.ok (key, a) q : RR (ByteArray × VT)) = R := HR.out
          subst h9
          clear HR
          obtain ⟨k1, neg1, xs1, e1, t1, li1, ks1, hak⟩ : ∃ k neg xs e t li ks, a = VT.mk k neg xs e t li ks := by cases a; exact ⟨_, _, _, _, _, _, _, rfl⟩
          have hvb := hva
          rw [hak] at hvb
          obtain ⟨A1, n1, c1, LA1, ln1, lc1, KA1, kn1, kc1, rfl, -⟩ := hvb.parts
          have hb2 : But (fun k => k = sb) w4 w2 := (hbw).trans hbc
          have HVA := Lib.hid (show VIn w2 (fun b => w4.heap.size ≤ b ∧ b < w2.heap.size) a _ from hva.more (fun b hb => ⟨by have h9 := hb.1; simp at h9; omega, hb.2⟩))
          have HE2 := Lib.hid hE2
          clear hvb hak hva hE2
          (try dsimp only)
          refine hK.out _ _ (HS.out _ hb2) (fun hHeldC => ?_)
          clear hK K hHeld
          try simp only [Act.put, List.setIfInBounds_toArray, List.set_cons_zero, List.set_cons_succ]
          refine wpAnyH_ready (rs := [0, 5]) (by kernel_rfl) (by simp) (AllReadyH.cons (o := ⟨_, _, _, _, _, _⟩) rfl (fun K hK => ?_) (AllReadyH.cons (o := ⟨_, _, _, _, _, _⟩) rfl (fun K hK => ?_) AllReadyH.nil))
          · have c5 : w2.cell? ⟨lb, 0, none⟩ = some (.slice LA ln lc) := HC5.out _ (hb2)
            go_simp
            refine hK.out _ _ (HS.out _ (hb2)) (fun hHeldL => ?_)
            clear hK K hHeldC c5
            try simp only [Act.put, List.setIfInBounds_toArray, List.set_cons_zero, List.set_cons_succ]
            refine wpAnyH_take (i := 4) (oi := ⟨_, _, _, _, _, _⟩) (v := ?_) rfl (by kernel_rfl) (by kernel_rfl) (by kernel_rfl) (fun _ _ _ h => h) (Or.inl ⟨by rfl, ?_⟩) (by assumption) ?_
            rotate_left
            · intro w hSw
              (try dsimp only at hSw)
              go_split_ands
              go_simp
              try with_reducible rfl
            try simp only [Act.put, List.setIfInBounds_toArray, List.set_cons_zero, List.set_cons_succ]
            refine wpAnyH_ready (rs := [5]) (by kernel_rfl) (by simp) (AllReadyH.cons (o := ⟨_, _, _, _, _, _⟩) rfl (fun K hK => ?_) AllReadyH.nil)
            · go_simp
              refine hK.out _ _ (HS.out _ ((hb2).alloc (.cells #[.int .i64 0, .bool false, .slice none 0 0, .int .i64 0, .string ⟨#[]⟩, .slice none 0 0, .slice none 0 0] 34))) (fun hHeldB => ?_)
              clear hK K hHeldL
              try simp only [Act.put, List.setIfInBounds_toArray, List.set_cons_zero, List.set_cons_succ]
              have HZ := Lib.hid (new7 w2 (.int .i64 0) (.bool false) (.slice none 0 0) (.int .i64 0) (.string ⟨#[]⟩) (.slice none 0 0) (.slice none 0 0) 34)
              have HBA := Lib.hid ((hb2).alloc (.cells #[.int .i64 0, .bool false, .slice none 0 0, .int .i64 0, .string ⟨#[]⟩, .slice none 0 0, .slice none 0 0] 34))
              have H21 := Lib.hid (show Below w2.heap.size w2 (w2.alloc (.cells #[.int .i64 0, .bool false, .slice none 0 0, .int .i64 0, .string ⟨#[]⟩, .slice none 0 0, .slice none 0 0] 34)) from (Below.refl _ _).alloc (Nat.le_refl _) _)
              try simp only [Act.put, List.setIfInBounds_toArray, List.set_cons_zero, List.set_cons_succ]
              have hgr : Grow N (.slice LA ln lc) (acc.map (·.2)) (w2.alloc (.cells #[.int .i64 0, .bool false, .slice none 0 0, .int .i64 0, .string ⟨#[]⟩, .slice none 0 0, .slice none 0 0] 34)) := HG.out.keep HBA.out (fun k hk => by omega)
              obtain ⟨fs, hown, hf7, hft⟩ := hgr
              rw [HLM.out] at hown
              have hfl : (flatC fs id ln).length = ln * 7 := flatC_length (fun q hq => hf7 q (by rw [HLM.out]; exact hq))
              have HOWN := Lib.hid hown
              have HF7 := Lib.hid (show ∀ i, i < ln → (fs i).length = 7 from fun i hi => hf7 i (by rw [HLM.out]; exact hi))
              have HFT := Lib.hid hft
              have HNA := Lib.hid (show N ≤ (w2.alloc (.cells #[.int .i64 0, .bool false, .slice none 0 0, .int .i64 0, .string ⟨#[]⟩, .slice none 0 0, .slice none 0 0] 34)).heap.size from Nat.le_trans HNW.out HBA.out.size)
              clear hown hf7 hft
              refine wpAnyH_ready (rs := [6]) (by kernel_rfl) (by simp) (AllReadyH.cons (o := ⟨_, _, _, _, _, _⟩) rfl (fun K hK => ?_) AllReadyH.nil)
              refine step_append_at (base := N) (e := 34) (v := .slice LA ln lc) (n := ln) (xs := flatC fs id ln) (news := [.int .i64 0, .bool false, .slice none 0 0, .int .i64 0, .string ⟨#[]⟩, .slice none 0 0, .slice none 0 0]) (m := 1) (c := 1) (ad := ⟨w2.heap.size, 0, none⟩) rfl (.tmp 16) (.tmp 21) 24 rfl Tryz.underlying24 hi7 hp7 hq7 hr7 rfl (by decide) rfl HOWN.out rfl rfl HZ.out (by simp [Value.oneCell']) (by unfold maxLen; omega) (by omega) HNA.out ?_
              intro v' w5 hown5 hg5 _ hat5
              obtain ⟨g', cap', rfl⟩ := ownsRow_succ hown5
              have hbl5 : Below N (w2.alloc (.cells #[.int .i64 0, .bool false, .slice none 0 0, .int .i64 0, .string ⟨#[]⟩, .slice none 0 0, .slice none 0 0] 34)) w5 := (Below.refl N _).grown hg5 HNA.out (fun q e => (ownsRow_lt HOWN.out e).1)
              have hob5 : w5.heap[lb]? = _ := (hbl5.block lb hlN).trans ((HBA.out.block lb (Array.getElem?_eq_some_iff.1 HB2.out).1 hls).trans HB2.out)
              have hpb5 : w5.heap[pb]? = _ := (hbl5.block pb hpN).trans ((HBA.out.block pb (Array.getElem?_eq_some_iff.1 HB1.out).1 hps).trans HB1.out)
              have hc0 : w5.cell? ⟨pb, 0, none⟩ = some (ptr sb) := cell_at3 hpb5 rfl
              have hgN : N ≤ g' := (ownsRow_lt hown5 rfl).1
              have HFL := Lib.hid hfl
              have hz : ∀ j u, [.int .i64 0, .bool false, .slice none 0 0, .int .i64 0, .string ⟨#[]⟩, .slice none 0 0, .slice none 0 0][j]? = some u → w5.cell? ⟨g', ln * 7 + j, none⟩ = some u ∧ w5.frozen? ⟨g', ln * 7 + j, none⟩ = false := fun j u hj => ownsRow_cell hown5 (by rw [List.getElem?_append_right (by rw [HFL.out]; omega), HFL.out, Nat.add_sub_cancel_left]; exact hj)
              obtain ⟨z0, r0⟩ := hz 0 (.int .i64 0) rfl
              obtain ⟨z1, r1⟩ := hz 1 (.bool false) rfl
              obtain ⟨z2, r2⟩ := hz 2 (.slice none 0 0) rfl
              obtain ⟨z3, r3⟩ := hz 3 (.int .i64 0) rfl
              obtain ⟨z4, r4⟩ := hz 4 (.string ⟨#[]⟩) rfl
              obtain ⟨z5, r5⟩ := hz 5 (.slice none 0 0) rfl
              obtain ⟨z6, r6⟩ := hz 6 (.slice none 0 0) rfl
              rw [Nat.add_zero] at z0 r0
              have o5 : w5.cell? ⟨lb, 0, none⟩ = some (.slice LA ln lc) := cell_at3 hob5 rfl
              have p5 : w5.frozen? ⟨lb, 0, none⟩ = false := by simp [World.frozen?, hob5]
              have hgo : ¬ g' = lb := by omega
              have hog : ¬ lb = g' := by omega
              have hpg : ¬ pb = g' := by omega
              have hmb5 : w5.heap[mb]? = _ := (hbl5.block mb hmN).trans ((HBA.out.block mb (Array.getElem?_eq_some_iff.1 HB3m.out).1 hms).trans HB3m.out)
              have hM5 := map_keep HM.out (show w5.heap[mm]? = w4.heap[mm]? from (hbl5.block mm hmmN).trans (HBA.out.block mm HM.out.lt hmms))
              have HM5 := Lib.hid hM5
              have HMB5 := Lib.hid hmb5
              clear hM5 hmb5
              have hl1 : (ln : Int) < (ln : Int) + 1 := by omega
              have hl0 : (0 : Int) ≤ (ln : Int) := by omega
              have hlt : ((ln : Int)).toNat = ln := by omega
              (try dsimp only)
              refine hK.out _ _ hc0 (fun hHeld4 => ?_)
              clear hK K hHeldB hz hfl
              have HOWN5 := Lib.hid hown5
              have HG5 := Lib.hid hg5
              have HAT5 := Lib.hid hat5
              have HBL5 := Lib.hid hbl5
              have HOB5 := Lib.hid hob5
              have HPB5 := Lib.hid hpb5
              clear hown5 hg5 hat5 hbl5 hob5 hpb5
              try simp only [Act.put, List.setIfInBounds_toArray, List.set_cons_zero, List.set_cons_succ]
              refine wpAnyH_take (i := 7) (oi := ⟨_, _, _, _, _, _⟩) (v := ?_) rfl (by kernel_rfl) (by kernel_rfl) (by kernel_rfl) (fun _ _ _ h => h) (Or.inl ⟨by rfl, ?_⟩) (by assumption) ?_
              rotate_left
              · intro w hSw
                (try dsimp only at hSw)
                go_split_ands
                go_simp
                try with_reducible rfl
              try simp only [Act.put, List.setIfInBounds_toArray, List.set_cons_zero, List.set_cons_succ]
              refine wpAnyH_ready (rs := [8, 9]) (by kernel_rfl) (by simp) (AllReadyH.cons (o := ⟨_, _, _, _, _, _⟩) rfl (fun K hK => ?_) (AllReadyH.cons (o := ⟨_, _, _, _, _, _⟩) rfl (fun K hK => ?_) AllReadyH.nil))
              · go_simp
                obtain ⟨hrp, hbp⟩ := row_put7 (a0 := (.int .i64 k1)) (a1 := (.bool neg1)) (a2 := (.slice A1 n1 c1)) (a3 := (.int .i64 e1)) (a4 := (.string t1)) (a5 := (.slice LA1 ln1 lc1)) (a6 := (.slice KA1 kn1 kc1)) HOWN5.out HFL.out
                have hob1 := (hbp.block lb (Array.getElem?_eq_some_iff.1 HOB5.out).1 hog).trans HOB5.out
                have hpc := hbp.cell_some hc0 hpg
                refine hK.out _ _ hpc (fun hHeld5 => ?_)
                clear hK K hHeld4
                try simp only [Act.put, List.setIfInBounds_toArray, List.set_cons_zero, List.set_cons_succ]
                have hob6 := set_heap (i := 0) (u := (.slice (some ⟨g', 0, none⟩) (ln + 1) cap')) hob1
                have hown6 := ownsRow_setCell_other (a := ⟨lb, 0, none⟩) hrp (by show some g' ≠ some lb; intro h; injection h with h; exact hgo h) (.slice (some ⟨g', 0, none⟩) (ln + 1) cap')
                have hb56 : But (fun j => j = g' ∨ j = lb) w5 ((((((((w5.setCell ⟨g', ln * 7, none⟩ (.int .i64 k1)).setCell ⟨g', ln * 7 + 1, none⟩ (.bool neg1)).setCell ⟨g', ln * 7 + 2, none⟩ (.slice A1 n1 c1)).setCell ⟨g', ln * 7 + 3, none⟩ (.int .i64 e1)).setCell ⟨g', ln * 7 + 4, none⟩ (.string t1)).setCell ⟨g', ln * 7 + 5, none⟩ (.slice LA1 ln1 lc1)).setCell ⟨g', ln * 7 + 6, none⟩ (.slice KA1 kn1 kc1)).setCell ⟨lb, 0, none⟩ (.slice (some ⟨g', 0, none⟩) (ln + 1) cap')) := But.setCell (C := fun j => j = g' ∨ j = lb) (p := ⟨lb, 0, none⟩) (hbp.mono (fun _ _ h => .inl h)) (.inl (.inr rfl)) _
                refine wpAnyH_ready (rs := [9]) (by kernel_rfl) (by simp) (AllReadyH.cons (o := ⟨_, _, _, _, _, _⟩) rfl (fun K hK => ?_) AllReadyH.nil)
                go_simp
                refine hK.out _ _ ((World.cell?_setCell_other _ _ _ _ (by first | (simp; done) | (simp; omega))).trans hpc) (fun hHeld6 => ?_)
                clear hK K hHeld5 hob1 hpc hrp hbp
                try simp only [Act.put, List.setIfInBounds_toArray, List.set_cons_zero, List.set_cons_succ]
                have hgo9 : w4.ownsRow N 34 7 (.slice LA ln lc) (acc.map (·.2)).length _ := HG.out.choose_spec.1
                refine wpAnyH_done (by kernel_rfl) ?_ _
                clear z0 z1 z2 z3 z4 z5 z6 r0 r1 r2 r3 r4 r5 r6 o5 p5 hc0
                generalize ((((((((w5.setCell ⟨g', ln * 7, none⟩ (.int .i64 k1)).setCell ⟨g', ln * 7 + 1, none⟩ (.bool neg1)).setCell ⟨g', ln * 7 + 2, none⟩ (.slice A1 n1 c1)).setCell ⟨g', ln * 7 + 3, none⟩ (.int .i64 e1)).setCell ⟨g', ln * 7 + 4, none⟩ (.string t1)).setCell ⟨g', ln * 7 + 5, none⟩ (.slice LA1 ln1 lc1)).setCell ⟨g', ln * 7 + 6, none⟩ (.slice KA1 kn1 kc1)).setCell ⟨lb, 0, none⟩ (.slice (some ⟨g', 0, none⟩) (ln + 1) cap')) = w6 at *
                have hgN' : N ≤ g' := hgN
                have HM6 := Lib.hid (map_keep HM5.out (hb56.block mm HM5.out.lt (by omega)))
                have HPB6 := Lib.hid ((hb56.block pb (Array.getElem?_eq_some_iff.1 HPB5.out).1 (by omega)).trans HPB5.out)
                have hmb6 := (hb56.block mb (Array.getElem?_eq_some_iff.1 HMB5.out).1 (by omega)).trans HMB5.out
                have hmc : w6.cell? ⟨mb, 0, none⟩ = some (.map (some mm)) := cell_at3 hmb6 rfl
                have HMB6 := Lib.hid hmb6
                have HGP := Lib.hid (Grow.push (ob := lb) HLM.out HF7.out HFT.out (fun j hj => (ownsRow_lt hgo9 hj).2) HNW.out H21.out HVA.out rfl HG5.out HAT5.out hb56 hlN hown6)
                have HLB6 := Lib.hid hob6
                have hb26 : But (fun j => j = lb ∨ N ≤ j) w2 w6 := (But.of (C := fun j => j = lb ∨ N ≤ j) H21.out).trans (((⟨HBL5.out.os, HBL5.out.tape, HBL5.out.output, HBL5.out.size, fun j hj hc => HBL5.out.block j (by omega)⟩ : But (fun j => j = lb ∨ N ≤ j) (w2.alloc (.cells #[.int .i64 0, .bool false, .slice none 0 0, .int .i64 0, .string ⟨#[]⟩, .slice none 0 0, .slice none 0 0] 34)) w5)).trans (hb56.mono (fun j _ h => by rcases h with h | h <;> omega)))
                have HB26 := Lib.hid hb26
                have HBW6 := Lib.hid (((HB4.out.trans hb2).mono (fun _ _ h => .inl h)).trans (hb26.mono (fun _ _ h => .inr (by rcases h with h | h; exact .inl h; exact .inr (.inr h)))) : But (fun j => j = sb ∨ (j = lb ∨ j = mm ∨ N ≤ j)) W w6)
                clear hb26 hob6 hown6 hb56 hgo9 hmb6 hb2
                have hkey : keyOf Tryz.prog 9 (.string key) = some (kL key) := Go.WideMaps.keyOf_string_mk Tryz.underlying9 (by have := HKS.out; unfold maxLen; omega)
                have hkw : IntKind.i64.wrap ((nth : Int) - 1) = (ln : Int) := by have h9 := HAL2.out; rw [IntWalk.i64_in _ (by omega)]; omega
                go_wp2_with (at_mapUpdate; refine wpList_mapUpdate_own _ rfl _ _ _ 79 rfl 9 3 keyLaw Tryz.underlying79 _ mm ln _ rfl HM6.out (by unfold maxLen; omega) _ _ _ rfl rfl hkey _ [] (plainElem_int Tryz.underlying3 (WalkArith.wf_i64 (by omega))) ?_; intro w7 hown7 hgrow7)
                first | go_end0 | refine bodyPost_ret (results_none rfl _ _ _) rfl ?_
                have hb67 : But (fun j => j = mm) w6 w7 := ⟨hgrow7.os, hgrow7.tape, hgrow7.output, hgrow7.size, fun j hj hc => hgrow7.block j hj (fun e => by injection e with e; exact hc e)⟩
                refine ⟨rfl, (HE2.out.stay HB26.out (fun j hj h => by have := HE4.out.base; omega) (fun h => by omega)).stay hb67 (fun j hj h => by have := HE4.out.base; omega) (fun h => hmms h.symm), ⟨some ⟨g', 0, none⟩, cap', ?_, ?_, ?_, ?_, ?_⟩, HBW6.out.trans (hb67.mono (fun _ _ h => .inr (.inr (.inl h))))⟩
                · exact (hb67.block pb (Array.getElem?_eq_some_iff.1 HPB6.out).1 (fun h => hmmp h.symm)).trans HPB6.out
                · rw [List.length_append, HLN.out]; exact (hb67.block lb (Array.getElem?_eq_some_iff.1 HLB6.out).1 (fun h => hmml h.symm)).trans HLB6.out
                · exact (hb67.block mb (Array.getElem?_eq_some_iff.1 HMB6.out).1 (fun h => hmmb h.symm)).trans HMB6.out
                · rw [List.length_append, HLN.out, List.map_append]; exact HGP.out.keep hb67 (fun k hk => by omega)
                · rw [List.length_append, HLN.out, List.map_append]
                  show w7.ownsMap _ _ _ mm (ln + 1) (lastD (acc.map (·.1) ++ [key]) (ln + 1))
                  rw [lastD_push HLK.out]
                  exact hown7
              · go_simp
                have hob6' := set_heap (i := 0) (u := (.slice (some ⟨g', 0, none⟩) (ln + 1) cap')) HOB5.out
                have hpc := (World.cell?_setCell_other w5 ⟨lb, 0, none⟩ ⟨pb, 0, none⟩ (.slice (some ⟨g', 0, none⟩) (ln + 1) cap') (by first | (simp; done) | (simp; omega))).trans hc0
                refine hK.out _ _ hpc (fun hHeld5 => ?_)
                clear hK K hHeld4
                try simp only [Act.put, List.setIfInBounds_toArray, List.set_cons_zero, List.set_cons_succ]
                have y0 := (World.cell?_setCell_other w5 ⟨lb, 0, none⟩ ⟨g', ln * 7, none⟩ (.slice (some ⟨g', 0, none⟩) (ln + 1) cap') (by first | (simp; done) | (simp; omega))).trans z0
                have y1 := (World.cell?_setCell_other w5 ⟨lb, 0, none⟩ ⟨g', ln * 7 + 1, none⟩ (.slice (some ⟨g', 0, none⟩) (ln + 1) cap') (by first | (simp; done) | (simp; omega))).trans z1
                have y2 := (World.cell?_setCell_other w5 ⟨lb, 0, none⟩ ⟨g', ln * 7 + 2, none⟩ (.slice (some ⟨g', 0, none⟩) (ln + 1) cap') (by first | (simp; done) | (simp; omega))).trans z2
                have y3 := (World.cell?_setCell_other w5 ⟨lb, 0, none⟩ ⟨g', ln * 7 + 3, none⟩ (.slice (some ⟨g', 0, none⟩) (ln + 1) cap') (by first | (simp; done) | (simp; omega))).trans z3
                have y4 := (World.cell?_setCell_other w5 ⟨lb, 0, none⟩ ⟨g', ln * 7 + 4, none⟩ (.slice (some ⟨g', 0, none⟩) (ln + 1) cap') (by first | (simp; done) | (simp; omega))).trans z4
                have y5 := (World.cell?_setCell_other w5 ⟨lb, 0, none⟩ ⟨g', ln * 7 + 5, none⟩ (.slice (some ⟨g', 0, none⟩) (ln + 1) cap') (by first | (simp; done) | (simp; omega))).trans z5
                have y6 := (World.cell?_setCell_other w5 ⟨lb, 0, none⟩ ⟨g', ln * 7 + 6, none⟩ (.slice (some ⟨g', 0, none⟩) (ln + 1) cap') (by first | (simp; done) | (simp; omega))).trans z6
                have hown5' := ownsRow_setCell_other (a := ⟨lb, 0, none⟩) HOWN5.out (by show some g' ≠ some lb; intro h; injection h with h; exact hgo h) (.slice (some ⟨g', 0, none⟩) (ln + 1) cap')
                obtain ⟨hown6, hbp⟩ := row_put7 (a0 := (.int .i64 k1)) (a1 := (.bool neg1)) (a2 := (.slice A1 n1 c1)) (a3 := (.int .i64 e1)) (a4 := (.string t1)) (a5 := (.slice LA1 ln1 lc1)) (a6 := (.slice KA1 kn1 kc1)) hown5' HFL.out
                have hob6 := (hbp.block lb (by simp [World.setCell]; exact (Array.getElem?_eq_some_iff.1 HOB5.out).1) hog).trans hob6'
                have hb56 : But (fun j => j = g' ∨ j = lb) w5 ((((((((w5.setCell ⟨lb, 0, none⟩ (.slice (some ⟨g', 0, none⟩) (ln + 1) cap')).setCell ⟨g', ln * 7, none⟩ (.int .i64 k1)).setCell ⟨g', ln * 7 + 1, none⟩ (.bool neg1)).setCell ⟨g', ln * 7 + 2, none⟩ (.slice A1 n1 c1)).setCell ⟨g', ln * 7 + 3, none⟩ (.int .i64 e1)).setCell ⟨g', ln * 7 + 4, none⟩ (.string t1)).setCell ⟨g', ln * 7 + 5, none⟩ (.slice LA1 ln1 lc1)).setCell ⟨g', ln * 7 + 6, none⟩ (.slice KA1 kn1 kc1)) := (But.setCell (C := fun j => j = g' ∨ j = lb) (p := ⟨lb, 0, none⟩) (But.refl _ _) (.inl (.inr rfl)) _).trans (hbp.mono (fun _ _ h => .inl h))
                refine wpAnyH_ready (rs := [8]) (by kernel_rfl) (by simp) (AllReadyH.cons (o := ⟨_, _, _, _, _, _⟩) rfl (fun K hK => ?_) AllReadyH.nil)
                go_simp
                refine hK.out _ _ (hbp.cell_some hpc hpg) (fun hHeld6 => ?_)
                clear hK K hHeld5 hob6' hpc hown5' hbp y0 y1 y2 y3 y4 y5 y6
                try simp only [Act.put, List.setIfInBounds_toArray, List.set_cons_zero, List.set_cons_succ]
                have hgo9 : w4.ownsRow N 34 7 (.slice LA ln lc) (acc.map (·.2)).length _ := HG.out.choose_spec.1
                refine wpAnyH_done (by kernel_rfl) ?_ _
                clear z0 z1 z2 z3 z4 z5 z6 r0 r1 r2 r3 r4 r5 r6 o5 p5 hc0
                generalize ((((((((w5.setCell ⟨lb, 0, none⟩ (.slice (some ⟨g', 0, none⟩) (ln + 1) cap')).setCell ⟨g', ln * 7, none⟩ (.int .i64 k1)).setCell ⟨g', ln * 7 + 1, none⟩ (.bool neg1)).setCell ⟨g', ln * 7 + 2, none⟩ (.slice A1 n1 c1)).setCell ⟨g', ln * 7 + 3, none⟩ (.int .i64 e1)).setCell ⟨g', ln * 7 + 4, none⟩ (.string t1)).setCell ⟨g', ln * 7 + 5, none⟩ (.slice LA1 ln1 lc1)).setCell ⟨g', ln * 7 + 6, none⟩ (.slice KA1 kn1 kc1)) = w6 at *
                have hgN' : N ≤ g' := hgN
                have HM6 := Lib.hid (map_keep HM5.out (hb56.block mm HM5.out.lt (by omega)))
                have HPB6 := Lib.hid ((hb56.block pb (Array.getElem?_eq_some_iff.1 HPB5.out).1 (by omega)).trans HPB5.out)
                have hmb6 := (hb56.block mb (Array.getElem?_eq_some_iff.1 HMB5.out).1 (by omega)).trans HMB5.out
                have hmc : w6.cell? ⟨mb, 0, none⟩ = some (.map (some mm)) := cell_at3 hmb6 rfl
                have HMB6 := Lib.hid hmb6
                have HGP := Lib.hid (Grow.push (ob := lb) HLM.out HF7.out HFT.out (fun j hj => (ownsRow_lt hgo9 hj).2) HNW.out H21.out HVA.out rfl HG5.out HAT5.out hb56 hlN hown6)
                have HLB6 := Lib.hid hob6
                have hb26 : But (fun j => j = lb ∨ N ≤ j) w2 w6 := (But.of (C := fun j => j = lb ∨ N ≤ j) H21.out).trans (((⟨HBL5.out.os, HBL5.out.tape, HBL5.out.output, HBL5.out.size, fun j hj hc => HBL5.out.block j (by omega)⟩ : But (fun j => j = lb ∨ N ≤ j) (w2.alloc (.cells #[.int .i64 0, .bool false, .slice none 0 0, .int .i64 0, .string ⟨#[]⟩, .slice none 0 0, .slice none 0 0] 34)) w5)).trans (hb56.mono (fun j _ h => by rcases h with h | h <;> omega)))
                have HB26 := Lib.hid hb26
                have HBW6 := Lib.hid (((HB4.out.trans hb2).mono (fun _ _ h => .inl h)).trans (hb26.mono (fun _ _ h => .inr (by rcases h with h | h; exact .inl h; exact .inr (.inr h)))) : But (fun j => j = sb ∨ (j = lb ∨ j = mm ∨ N ≤ j)) W w6)
                clear hb26 hob6 hown6 hb56 hgo9 hmb6 hb2
                have hkey : keyOf Tryz.prog 9 (.string key) = some (kL key) := Go.WideMaps.keyOf_string_mk Tryz.underlying9 (by have := HKS.out; unfold maxLen; omega)
                have hkw : IntKind.i64.wrap ((nth : Int) - 1) = (ln : Int) := by have h9 := HAL2.out; rw [IntWalk.i64_in _ (by omega)]; omega
                go_wp2_with (at_mapUpdate; refine wpList_mapUpdate_own _ rfl _ _ _ 79 rfl 9 3 keyLaw Tryz.underlying79 _ mm ln _ rfl HM6.out (by unfold maxLen; omega) _ _ _ rfl rfl hkey _ [] (plainElem_int Tryz.underlying3 (WalkArith.wf_i64 (by omega))) ?_; intro w7 hown7 hgrow7)
                first | go_end0 | refine bodyPost_ret (results_none rfl _ _ _) rfl ?_
                have hb67 : But (fun j => j = mm) w6 w7 := ⟨hgrow7.os, hgrow7.tape, hgrow7.output, hgrow7.size, fun j hj hc => hgrow7.block j hj (fun e => by injection e with e; exact hc e)⟩
                refine ⟨rfl, (HE2.out.stay HB26.out (fun j hj h => by have := HE4.out.base; omega) (fun h => by omega)).stay hb67 (fun j hj h => by have := HE4.out.base; omega) (fun h => hmms h.symm), ⟨some ⟨g', 0, none⟩, cap', ?_, ?_, ?_, ?_, ?_⟩, HBW6.out.trans (hb67.mono (fun _ _ h => .inr (.inr (.inl h))))⟩
                · exact (hb67.block pb (Array.getElem?_eq_some_iff.1 HPB6.out).1 (fun h => hmmp h.symm)).trans HPB6.out
                · rw [List.length_append, HLN.out]; exact (hb67.block lb (Array.getElem?_eq_some_iff.1 HLB6.out).1 (fun h => hmml h.symm)).trans HLB6.out
                · exact (hb67.block mb (Array.getElem?_eq_some_iff.1 HMB6.out).1 (fun h => hmmb h.symm)).trans HMB6.out
                · rw [List.length_append, HLN.out, List.map_append]; exact HGP.out.keep hb67 (fun k hk => by omega)
                · rw [List.length_append, HLN.out, List.map_append]
                  show w7.ownsMap _ _ _ mm (ln + 1) (lastD (acc.map (·.1) ++ [key]) (ln + 1))
                  rw [lastD_push HLK.out]
                  exact hown7
          · go_simp
            refine hK.out _ _ (HS.out _ ((hb2).alloc (.cells #[.int .i64 0, .bool false, .slice none 0 0, .int .i64 0, .string ⟨#[]⟩, .slice none 0 0, .slice none 0 0] 34))) (fun hHeldB => ?_)
            clear hK K hHeldC
            try simp only [Act.put, List.setIfInBounds_toArray, List.set_cons_zero, List.set_cons_succ]
            refine wpAnyH_ready (rs := [0]) (by kernel_rfl) (by simp) (AllReadyH.cons (o := ⟨_, _, _, _, _, _⟩) rfl (fun K hK => ?_) AllReadyH.nil)
            · have c5 : (w2.alloc (.cells #[.int .i64 0, .bool false, .slice none 0 0, .int .i64 0, .string ⟨#[]⟩, .slice none 0 0, .slice none 0 0] 34)).cell? ⟨lb, 0, none⟩ = some (.slice LA ln lc) := HC5.out _ ((hb2).alloc (.cells #[.int .i64 0, .bool false, .slice none 0 0, .int .i64 0, .string ⟨#[]⟩, .slice none 0 0, .slice none 0 0] 34))
              go_simp
              refine hK.out _ _ (HS.out _ ((hb2).alloc (.cells #[.int .i64 0, .bool false, .slice none 0 0, .int .i64 0, .string ⟨#[]⟩, .slice none 0 0, .slice none 0 0] 34))) (fun hHeldL => ?_)
              clear hK K hHeldB c5
              try simp only [Act.put, List.setIfInBounds_toArray, List.set_cons_zero, List.set_cons_succ]
              refine wpAnyH_take (i := 4) (oi := ⟨_, _, _, _, _, _⟩) (v := ?_) rfl (by kernel_rfl) (by kernel_rfl) (by kernel_rfl) (fun _ _ _ h => h) (Or.inl ⟨by rfl, ?_⟩) (by assumption) ?_
              rotate_left
              · intro w hSw
                (try dsimp only at hSw)
                go_split_ands
                go_simp
                try with_reducible rfl
              try simp only [Act.put, List.setIfInBounds_toArray, List.set_cons_zero, List.set_cons_succ]
              have HZ := Lib.hid (new7 w2 (.int .i64 0) (.bool false) (.slice none 0 0) (.int .i64 0) (.string ⟨#[]⟩) (.slice none 0 0) (.slice none 0 0) 34)
              have HBA := Lib.hid ((hb2).alloc (.cells #[.int .i64 0, .bool false, .slice none 0 0, .int .i64 0, .string ⟨#[]⟩, .slice none 0 0, .slice none 0 0] 34))
              have H21 := Lib.hid (show Below w2.heap.size w2 (w2.alloc (.cells #[.int .i64 0, .bool false, .slice none 0 0, .int .i64 0, .string ⟨#[]⟩, .slice none 0 0, .slice none 0 0] 34)) from (Below.refl _ _).alloc (Nat.le_refl _) _)
              try simp only [Act.put, List.setIfInBounds_toArray, List.set_cons_zero, List.set_cons_succ]
              have hgr : Grow N (.slice LA ln lc) (acc.map (·.2)) (w2.alloc (.cells #[.int .i64 0, .bool false, .slice none 0 0, .int .i64 0, .string ⟨#[]⟩, .slice none 0 0, .slice none 0 0] 34)) := HG.out.keep HBA.out (fun k hk => by omega)
              obtain ⟨fs, hown, hf7, hft⟩ := hgr
              rw [HLM.out] at hown
              have hfl : (flatC fs id ln).length = ln * 7 := flatC_length (fun q hq => hf7 q (by rw [HLM.out]; exact hq))
              have HOWN := Lib.hid hown
              have HF7 := Lib.hid (show ∀ i, i < ln → (fs i).length = 7 from fun i hi => hf7 i (by rw [HLM.out]; exact hi))
              have HFT := Lib.hid hft
              have HNA := Lib.hid (show N ≤ (w2.alloc (.cells #[.int .i64 0, .bool false, .slice none 0 0, .int .i64 0, .string ⟨#[]⟩, .slice none 0 0, .slice none 0 0] 34)).heap.size from Nat.le_trans HNW.out HBA.out.size)
              clear hown hf7 hft
              refine wpAnyH_ready (rs := [6]) (by kernel_rfl) (by simp) (AllReadyH.cons (o := ⟨_, _, _, _, _, _⟩) rfl (fun K hK => ?_) AllReadyH.nil)
              refine step_append_at (base := N) (e := 34) (v := .slice LA ln lc) (n := ln) (xs := flatC fs id ln) (news := [.int .i64 0, .bool false, .slice none 0 0, .int .i64 0, .string ⟨#[]⟩, .slice none 0 0, .slice none 0 0]) (m := 1) (c := 1) (ad := ⟨w2.heap.size, 0, none⟩) rfl (.tmp 16) (.tmp 21) 24 rfl Tryz.underlying24 hi7 hp7 hq7 hr7 rfl (by decide) rfl HOWN.out rfl rfl HZ.out (by simp [Value.oneCell']) (by unfold maxLen; omega) (by omega) HNA.out ?_
              intro v' w5 hown5 hg5 _ hat5
              obtain ⟨g', cap', rfl⟩ := ownsRow_succ hown5
              have hbl5 : Below N (w2.alloc (.cells #[.int .i64 0, .bool false, .slice none 0 0, .int .i64 0, .string ⟨#[]⟩, .slice none 0 0, .slice none 0 0] 34)) w5 := (Below.refl N _).grown hg5 HNA.out (fun q e => (ownsRow_lt HOWN.out e).1)
              have hob5 : w5.heap[lb]? = _ := (hbl5.block lb hlN).trans ((HBA.out.block lb (Array.getElem?_eq_some_iff.1 HB2.out).1 hls).trans HB2.out)
              have hpb5 : w5.heap[pb]? = _ := (hbl5.block pb hpN).trans ((HBA.out.block pb (Array.getElem?_eq_some_iff.1 HB1.out).1 hps).trans HB1.out)
              have hc0 : w5.cell? ⟨pb, 0, none⟩ = some (ptr sb) := cell_at3 hpb5 rfl
              have hgN : N ≤ g' := (ownsRow_lt hown5 rfl).1
              have HFL := Lib.hid hfl
              have hz : ∀ j u, [.int .i64 0, .bool false, .slice none 0 0, .int .i64 0, .string ⟨#[]⟩, .slice none 0 0, .slice none 0 0][j]? = some u → w5.cell? ⟨g', ln * 7 + j, none⟩ = some u ∧ w5.frozen? ⟨g', ln * 7 + j, none⟩ = false := fun j u hj => ownsRow_cell hown5 (by rw [List.getElem?_append_right (by rw [HFL.out]; omega), HFL.out, Nat.add_sub_cancel_left]; exact hj)
              obtain ⟨z0, r0⟩ := hz 0 (.int .i64 0) rfl
              obtain ⟨z1, r1⟩ := hz 1 (.bool false) rfl
              obtain ⟨z2, r2⟩ := hz 2 (.slice none 0 0) rfl
              obtain ⟨z3, r3⟩ := hz 3 (.int .i64 0) rfl
              obtain ⟨z4, r4⟩ := hz 4 (.string ⟨#[]⟩) rfl
              obtain ⟨z5, r5⟩ := hz 5 (.slice none 0 0) rfl
              obtain ⟨z6, r6⟩ := hz 6 (.slice none 0 0) rfl
              rw [Nat.add_zero] at z0 r0
              have o5 : w5.cell? ⟨lb, 0, none⟩ = some (.slice LA ln lc) := cell_at3 hob5 rfl
              have p5 : w5.frozen? ⟨lb, 0, none⟩ = false := by simp [World.frozen?, hob5]
              have hgo : ¬ g' = lb := by omega
              have hog : ¬ lb = g' := by omega
              have hpg : ¬ pb = g' := by omega
              have hmb5 : w5.heap[mb]? = _ := (hbl5.block mb hmN).trans ((HBA.out.block mb (Array.getElem?_eq_some_iff.1 HB3m.out).1 hms).trans HB3m.out)
              have hM5 := map_keep HM.out (show w5.heap[mm]? = w4.heap[mm]? from (hbl5.block mm hmmN).trans (HBA.out.block mm HM.out.lt hmms))
              have HM5 := Lib.hid hM5
              have HMB5 := Lib.hid hmb5
              clear hM5 hmb5
              have hl1 : (ln : Int) < (ln : Int) + 1 := by omega
              have hl0 : (0 : Int) ≤ (ln : Int) := by omega
              have hlt : ((ln : Int)).toNat = ln := by omega
              (try dsimp only)
              refine hK.out _ _ hc0 (fun hHeld4 => ?_)
              clear hK K hHeldL hz hfl
              have HOWN5 := Lib.hid hown5
              have HG5 := Lib.hid hg5
              have HAT5 := Lib.hid hat5
              have HBL5 := Lib.hid hbl5
              have HOB5 := Lib.hid hob5
              have HPB5 := Lib.hid hpb5
              clear hown5 hg5 hat5 hbl5 hob5 hpb5
              try simp only [Act.put, List.setIfInBounds_toArray, List.set_cons_zero, List.set_cons_succ]
              refine wpAnyH_take (i := 7) (oi := ⟨_, _, _, _, _, _⟩) (v := ?_) rfl (by kernel_rfl) (by kernel_rfl) (by kernel_rfl) (fun _ _ _ h => h) (Or.inl ⟨by rfl, ?_⟩) (by assumption) ?_
              rotate_left
              · intro w hSw
                (try dsimp only at hSw)
                go_split_ands
                go_simp
                try with_reducible rfl
              try simp only [Act.put, List.setIfInBounds_toArray, List.set_cons_zero, List.set_cons_succ]
              refine wpAnyH_ready (rs := [8, 9]) (by kernel_rfl) (by simp) (AllReadyH.cons (o := ⟨_, _, _, _, _, _⟩) rfl (fun K hK => ?_) (AllReadyH.cons (o := ⟨_, _, _, _, _, _⟩) rfl (fun K hK => ?_) AllReadyH.nil))
              · go_simp
                obtain ⟨hrp, hbp⟩ := row_put7 (a0 := (.int .i64 k1)) (a1 := (.bool neg1)) (a2 := (.slice A1 n1 c1)) (a3 := (.int .i64 e1)) (a4 := (.string t1)) (a5 := (.slice LA1 ln1 lc1)) (a6 := (.slice KA1 kn1 kc1)) HOWN5.out HFL.out
                have hob1 := (hbp.block lb (Array.getElem?_eq_some_iff.1 HOB5.out).1 hog).trans HOB5.out
                have hpc := hbp.cell_some hc0 hpg
                refine hK.out _ _ hpc (fun hHeld5 => ?_)
                clear hK K hHeld4
                try simp only [Act.put, List.setIfInBounds_toArray, List.set_cons_zero, List.set_cons_succ]
                have hob6 := set_heap (i := 0) (u := (.slice (some ⟨g', 0, none⟩) (ln + 1) cap')) hob1
                have hown6 := ownsRow_setCell_other (a := ⟨lb, 0, none⟩) hrp (by show some g' ≠ some lb; intro h; injection h with h; exact hgo h) (.slice (some ⟨g', 0, none⟩) (ln + 1) cap')
                have hb56 : But (fun j => j = g' ∨ j = lb) w5 ((((((((w5.setCell ⟨g', ln * 7, none⟩ (.int .i64 k1)).setCell ⟨g', ln * 7 + 1, none⟩ (.bool neg1)).setCell ⟨g', ln * 7 + 2, none⟩ (.slice A1 n1 c1)).setCell ⟨g', ln * 7 + 3, none⟩ (.int .i64 e1)).setCell ⟨g', ln * 7 + 4, none⟩ (.string t1)).setCell ⟨g', ln * 7 + 5, none⟩ (.slice LA1 ln1 lc1)).setCell ⟨g', ln * 7 + 6, none⟩ (.slice KA1 kn1 kc1)).setCell ⟨lb, 0, none⟩ (.slice (some ⟨g', 0, none⟩) (ln + 1) cap')) := But.setCell (C := fun j => j = g' ∨ j = lb) (p := ⟨lb, 0, none⟩) (hbp.mono (fun _ _ h => .inl h)) (.inl (.inr rfl)) _
                refine wpAnyH_ready (rs := [9]) (by kernel_rfl) (by simp) (AllReadyH.cons (o := ⟨_, _, _, _, _, _⟩) rfl (fun K hK => ?_) AllReadyH.nil)
                go_simp
                refine hK.out _ _ ((World.cell?_setCell_other _ _ _ _ (by first | (simp; done) | (simp; omega))).trans hpc) (fun hHeld6 => ?_)
                clear hK K hHeld5 hob1 hpc hrp hbp
                try simp only [Act.put, List.setIfInBounds_toArray, List.set_cons_zero, List.set_cons_succ]
                have hgo9 : w4.ownsRow N 34 7 (.slice LA ln lc) (acc.map (·.2)).length _ := HG.out.choose_spec.1
                refine wpAnyH_done (by kernel_rfl) ?_ _
                clear z0 z1 z2 z3 z4 z5 z6 r0 r1 r2 r3 r4 r5 r6 o5 p5 hc0
                generalize ((((((((w5.setCell ⟨g', ln * 7, none⟩ (.int .i64 k1)).setCell ⟨g', ln * 7 + 1, none⟩ (.bool neg1)).setCell ⟨g', ln * 7 + 2, none⟩ (.slice A1 n1 c1)).setCell ⟨g', ln * 7 + 3, none⟩ (.int .i64 e1)).setCell ⟨g', ln * 7 + 4, none⟩ (.string t1)).setCell ⟨g', ln * 7 + 5, none⟩ (.slice LA1 ln1 lc1)).setCell ⟨g', ln * 7 + 6, none⟩ (.slice KA1 kn1 kc1)).setCell ⟨lb, 0, none⟩ (.slice (some ⟨g', 0, none⟩) (ln + 1) cap')) = w6 at *
                have hgN' : N ≤ g' := hgN
                have HM6 := Lib.hid (map_keep HM5.out (hb56.block mm HM5.out.lt (by omega)))
                have HPB6 := Lib.hid ((hb56.block pb (Array.getElem?_eq_some_iff.1 HPB5.out).1 (by omega)).trans HPB5.out)
                have hmb6 := (hb56.block mb (Array.getElem?_eq_some_iff.1 HMB5.out).1 (by omega)).trans HMB5.out
                have hmc : w6.cell? ⟨mb, 0, none⟩ = some (.map (some mm)) := cell_at3 hmb6 rfl
                have HMB6 := Lib.hid hmb6
                have HGP := Lib.hid (Grow.push (ob := lb) HLM.out HF7.out HFT.out (fun j hj => (ownsRow_lt hgo9 hj).2) HNW.out H21.out HVA.out rfl HG5.out HAT5.out hb56 hlN hown6)
                have HLB6 := Lib.hid hob6
                have hb26 : But (fun j => j = lb ∨ N ≤ j) w2 w6 := (But.of (C := fun j => j = lb ∨ N ≤ j) H21.out).trans (((⟨HBL5.out.os, HBL5.out.tape, HBL5.out.output, HBL5.out.size, fun j hj hc => HBL5.out.block j (by omega)⟩ : But (fun j => j = lb ∨ N ≤ j) (w2.alloc (.cells #[.int .i64 0, .bool false, .slice none 0 0, .int .i64 0, .string ⟨#[]⟩, .slice none 0 0, .slice none 0 0] 34)) w5)).trans (hb56.mono (fun j _ h => by rcases h with h | h <;> omega)))
                have HB26 := Lib.hid hb26
                have HBW6 := Lib.hid (((HB4.out.trans hb2).mono (fun _ _ h => .inl h)).trans (hb26.mono (fun _ _ h => .inr (by rcases h with h | h; exact .inl h; exact .inr (.inr h)))) : But (fun j => j = sb ∨ (j = lb ∨ j = mm ∨ N ≤ j)) W w6)
                clear hb26 hob6 hown6 hb56 hgo9 hmb6 hb2
                have hkey : keyOf Tryz.prog 9 (.string key) = some (kL key) := Go.WideMaps.keyOf_string_mk Tryz.underlying9 (by have := HKS.out; unfold maxLen; omega)
                have hkw : IntKind.i64.wrap ((nth : Int) - 1) = (ln : Int) := by have h9 := HAL2.out; rw [IntWalk.i64_in _ (by omega)]; omega
                go_wp2_with (at_mapUpdate; refine wpList_mapUpdate_own _ rfl _ _ _ 79 rfl 9 3 keyLaw Tryz.underlying79 _ mm ln _ rfl HM6.out (by unfold maxLen; omega) _ _ _ rfl rfl hkey _ [] (plainElem_int Tryz.underlying3 (WalkArith.wf_i64 (by omega))) ?_; intro w7 hown7 hgrow7)
                first | go_end0 | refine bodyPost_ret (results_none rfl _ _ _) rfl ?_
                have hb67 : But (fun j => j = mm) w6 w7 := ⟨hgrow7.os, hgrow7.tape, hgrow7.output, hgrow7.size, fun j hj hc => hgrow7.block j hj (fun e => by injection e with e; exact hc e)⟩
                refine ⟨rfl, (HE2.out.stay HB26.out (fun j hj h => by have := HE4.out.base; omega) (fun h => by omega)).stay hb67 (fun j hj h => by have := HE4.out.base; omega) (fun h => hmms h.symm), ⟨some ⟨g', 0, none⟩, cap', ?_, ?_, ?_, ?_, ?_⟩, HBW6.out.trans (hb67.mono (fun _ _ h => .inr (.inr (.inl h))))⟩
                · exact (hb67.block pb (Array.getElem?_eq_some_iff.1 HPB6.out).1 (fun h => hmmp h.symm)).trans HPB6.out
                · rw [List.length_append, HLN.out]; exact (hb67.block lb (Array.getElem?_eq_some_iff.1 HLB6.out).1 (fun h => hmml h.symm)).trans HLB6.out
                · exact (hb67.block mb (Array.getElem?_eq_some_iff.1 HMB6.out).1 (fun h => hmmb h.symm)).trans HMB6.out
                · rw [List.length_append, HLN.out, List.map_append]; exact HGP.out.keep hb67 (fun k hk => by omega)
                · rw [List.length_append, HLN.out, List.map_append]
                  show w7.ownsMap _ _ _ mm (ln + 1) (lastD (acc.map (·.1) ++ [key]) (ln + 1))
                  rw [lastD_push HLK.out]
                  exact hown7
              · go_simp
                have hob6' := set_heap (i := 0) (u := (.slice (some ⟨g', 0, none⟩) (ln + 1) cap')) HOB5.out
                have hpc := (World.cell?_setCell_other w5 ⟨lb, 0, none⟩ ⟨pb, 0, none⟩ (.slice (some ⟨g', 0, none⟩) (ln + 1) cap') (by first | (simp; done) | (simp; omega))).trans hc0
                refine hK.out _ _ hpc (fun hHeld5 => ?_)
                clear hK K hHeld4
                try simp only [Act.put, List.setIfInBounds_toArray, List.set_cons_zero, List.set_cons_succ]
                have y0 := (World.cell?_setCell_other w5 ⟨lb, 0, none⟩ ⟨g', ln * 7, none⟩ (.slice (some ⟨g', 0, none⟩) (ln + 1) cap') (by first | (simp; done) | (simp; omega))).trans z0
                have y1 := (World.cell?_setCell_other w5 ⟨lb, 0, none⟩ ⟨g', ln * 7 + 1, none⟩ (.slice (some ⟨g', 0, none⟩) (ln + 1) cap') (by first | (simp; done) | (simp; omega))).trans z1
                have y2 := (World.cell?_setCell_other w5 ⟨lb, 0, none⟩ ⟨g', ln * 7 + 2, none⟩ (.slice (some ⟨g', 0, none⟩) (ln + 1) cap') (by first | (simp; done) | (simp; omega))).trans z2
                have y3 := (World.cell?_setCell_other w5 ⟨lb, 0, none⟩ ⟨g', ln * 7 + 3, none⟩ (.slice (some ⟨g', 0, none⟩) (ln + 1) cap') (by first | (simp; done) | (simp; omega))).trans z3
                have y4 := (World.cell?_setCell_other w5 ⟨lb, 0, none⟩ ⟨g', ln * 7 + 4, none⟩ (.slice (some ⟨g', 0, none⟩) (ln + 1) cap') (by first | (simp; done) | (simp; omega))).trans z4
                have y5 := (World.cell?_setCell_other w5 ⟨lb, 0, none⟩ ⟨g', ln * 7 + 5, none⟩ (.slice (some ⟨g', 0, none⟩) (ln + 1) cap') (by first | (simp; done) | (simp; omega))).trans z5
                have y6 := (World.cell?_setCell_other w5 ⟨lb, 0, none⟩ ⟨g', ln * 7 + 6, none⟩ (.slice (some ⟨g', 0, none⟩) (ln + 1) cap') (by first | (simp; done) | (simp; omega))).trans z6
                have hown5' := ownsRow_setCell_other (a := ⟨lb, 0, none⟩) HOWN5.out (by show some g' ≠ some lb; intro h; injection h with h; exact hgo h) (.slice (some ⟨g', 0, none⟩) (ln + 1) cap')
                obtain ⟨hown6, hbp⟩ := row_put7 (a0 := (.int .i64 k1)) (a1 := (.bool neg1)) (a2 := (.slice A1 n1 c1)) (a3 := (.int .i64 e1)) (a4 := (.string t1)) (a5 := (.slice LA1 ln1 lc1)) (a6 := (.slice KA1 kn1 kc1)) hown5' HFL.out
                have hob6 := (hbp.block lb (by simp [World.setCell]; exact (Array.getElem?_eq_some_iff.1 HOB5.out).1) hog).trans hob6'
                have hb56 : But (fun j => j = g' ∨ j = lb) w5 ((((((((w5.setCell ⟨lb, 0, none⟩ (.slice (some ⟨g', 0, none⟩) (ln + 1) cap')).setCell ⟨g', ln * 7, none⟩ (.int .i64 k1)).setCell ⟨g', ln * 7 + 1, none⟩ (.bool neg1)).setCell ⟨g', ln * 7 + 2, none⟩ (.slice A1 n1 c1)).setCell ⟨g', ln * 7 + 3, none⟩ (.int .i64 e1)).setCell ⟨g', ln * 7 + 4, none⟩ (.string t1)).setCell ⟨g', ln * 7 + 5, none⟩ (.slice LA1 ln1 lc1)).setCell ⟨g', ln * 7 + 6, none⟩ (.slice KA1 kn1 kc1)) := (But.setCell (C := fun j => j = g' ∨ j = lb) (p := ⟨lb, 0, none⟩) (But.refl _ _) (.inl (.inr rfl)) _).trans (hbp.mono (fun _ _ h => .inl h))
                refine wpAnyH_ready (rs := [8]) (by kernel_rfl) (by simp) (AllReadyH.cons (o := ⟨_, _, _, _, _, _⟩) rfl (fun K hK => ?_) AllReadyH.nil)
                go_simp
                refine hK.out _ _ (hbp.cell_some hpc hpg) (fun hHeld6 => ?_)
                clear hK K hHeld5 hob6' hpc hown5' hbp y0 y1 y2 y3 y4 y5 y6
                try simp only [Act.put, List.setIfInBounds_toArray, List.set_cons_zero, List.set_cons_succ]
                have hgo9 : w4.ownsRow N 34 7 (.slice LA ln lc) (acc.map (·.2)).length _ := HG.out.choose_spec.1
                refine wpAnyH_done (by kernel_rfl) ?_ _
                clear z0 z1 z2 z3 z4 z5 z6 r0 r1 r2 r3 r4 r5 r6 o5 p5 hc0
                generalize ((((((((w5.setCell ⟨lb, 0, none⟩ (.slice (some ⟨g', 0, none⟩) (ln + 1) cap')).setCell ⟨g', ln * 7, none⟩ (.int .i64 k1)).setCell ⟨g', ln * 7 + 1, none⟩ (.bool neg1)).setCell ⟨g', ln * 7 + 2, none⟩ (.slice A1 n1 c1)).setCell ⟨g', ln * 7 + 3, none⟩ (.int .i64 e1)).setCell ⟨g', ln * 7 + 4, none⟩ (.string t1)).setCell ⟨g', ln * 7 + 5, none⟩ (.slice LA1 ln1 lc1)).setCell ⟨g', ln * 7 + 6, none⟩ (.slice KA1 kn1 kc1)) = w6 at *
                have hgN' : N ≤ g' := hgN
                have HM6 := Lib.hid (map_keep HM5.out (hb56.block mm HM5.out.lt (by omega)))
                have HPB6 := Lib.hid ((hb56.block pb (Array.getElem?_eq_some_iff.1 HPB5.out).1 (by omega)).trans HPB5.out)
                have hmb6 := (hb56.block mb (Array.getElem?_eq_some_iff.1 HMB5.out).1 (by omega)).trans HMB5.out
                have hmc : w6.cell? ⟨mb, 0, none⟩ = some (.map (some mm)) := cell_at3 hmb6 rfl
                have HMB6 := Lib.hid hmb6
                have HGP := Lib.hid (Grow.push (ob := lb) HLM.out HF7.out HFT.out (fun j hj => (ownsRow_lt hgo9 hj).2) HNW.out H21.out HVA.out rfl HG5.out HAT5.out hb56 hlN hown6)
                have HLB6 := Lib.hid hob6
                have hb26 : But (fun j => j = lb ∨ N ≤ j) w2 w6 := (But.of (C := fun j => j = lb ∨ N ≤ j) H21.out).trans (((⟨HBL5.out.os, HBL5.out.tape, HBL5.out.output, HBL5.out.size, fun j hj hc => HBL5.out.block j (by omega)⟩ : But (fun j => j = lb ∨ N ≤ j) (w2.alloc (.cells #[.int .i64 0, .bool false, .slice none 0 0, .int .i64 0, .string ⟨#[]⟩, .slice none 0 0, .slice none 0 0] 34)) w5)).trans (hb56.mono (fun j _ h => by rcases h with h | h <;> omega)))
                have HB26 := Lib.hid hb26
                have HBW6 := Lib.hid (((HB4.out.trans hb2).mono (fun _ _ h => .inl h)).trans (hb26.mono (fun _ _ h => .inr (by rcases h with h | h; exact .inl h; exact .inr (.inr h)))) : But (fun j => j = sb ∨ (j = lb ∨ j = mm ∨ N ≤ j)) W w6)
                clear hb26 hob6 hown6 hb56 hgo9 hmb6 hb2
                have hkey : keyOf Tryz.prog 9 (.string key) = some (kL key) := Go.WideMaps.keyOf_string_mk Tryz.underlying9 (by have := HKS.out; unfold maxLen; omega)
                have hkw : IntKind.i64.wrap ((nth : Int) - 1) = (ln : Int) := by have h9 := HAL2.out; rw [IntWalk.i64_in _ (by omega)]; omega
                go_wp2_with (at_mapUpdate; refine wpList_mapUpdate_own _ rfl _ _ _ 79 rfl 9 3 keyLaw Tryz.underlying79 _ mm ln _ rfl HM6.out (by unfold maxLen; omega) _ _ _ rfl rfl hkey _ [] (plainElem_int Tryz.underlying3 (WalkArith.wf_i64 (by omega))) ?_; intro w7 hown7 hgrow7)
                first | go_end0 | refine bodyPost_ret (results_none rfl _ _ _) rfl ?_
                have hb67 : But (fun j => j = mm) w6 w7 := ⟨hgrow7.os, hgrow7.tape, hgrow7.output, hgrow7.size, fun j hj hc => hgrow7.block j hj (fun e => by injection e with e; exact hc e)⟩
                refine ⟨rfl, (HE2.out.stay HB26.out (fun j hj h => by have := HE4.out.base; omega) (fun h => by omega)).stay hb67 (fun j hj h => by have := HE4.out.base; omega) (fun h => hmms h.symm), ⟨some ⟨g', 0, none⟩, cap', ?_, ?_, ?_, ?_, ?_⟩, HBW6.out.trans (hb67.mono (fun _ _ h => .inr (.inr (.inl h))))⟩
                · exact (hb67.block pb (Array.getElem?_eq_some_iff.1 HPB6.out).1 (fun h => hmmp h.symm)).trans HPB6.out
                · rw [List.length_append, HLN.out]; exact (hb67.block lb (Array.getElem?_eq_some_iff.1 HLB6.out).1 (fun h => hmml h.symm)).trans HLB6.out
                · exact (hb67.block mb (Array.getElem?_eq_some_iff.1 HMB6.out).1 (fun h => hmmb h.symm)).trans HMB6.out
                · rw [List.length_append, HLN.out, List.map_append]; exact HGP.out.keep hb67 (fun k hk => by omega)
                · rw [List.length_append, HLN.out, List.map_append]
                  show w7.ownsMap _ _ _ mm (ln + 1) (lastD (acc.map (·.1) ++ [key]) (ln + 1))
                  rw [lastD_push HLK.out]
                  exact hown7
      · go_simp
        refine hK.out _ _ (HS.out _ (((But.refl (fun k => k = sb) w4).alloc (.cells #[.int .i64 0, .bool false, .slice none 0 0, .int .i64 0, .string ⟨#[]⟩, .slice none 0 0, .slice none 0 0] 34)).drew)) (fun hHeldB => ?_)
        clear hK K hHeld
        try simp only [Act.put, List.setIfInBounds_toArray, List.set_cons_zero, List.set_cons_succ]
        refine wpAnyH_ready (rs := [0, 3]) (by kernel_rfl) (by simp) (AllReadyH.cons (o := ⟨_, _, _, _, _, _⟩) rfl (fun K hK => ?_) (AllReadyH.cons (o := ⟨_, _, _, _, _, _⟩) rfl (fun K hK => ?_) AllReadyH.nil))
        · have c5 : ((w4.alloc (.cells #[.int .i64 0, .bool false, .slice none 0 0, .int .i64 0, .string ⟨#[]⟩, .slice none 0 0, .slice none 0 0] 34)).drew).cell? ⟨lb, 0, none⟩ = some (.slice LA ln lc) := HC5.out _ (((But.refl (fun k => k = sb) w4).alloc (.cells #[.int .i64 0, .bool false, .slice none 0 0, .int .i64 0, .string ⟨#[]⟩, .slice none 0 0, .slice none 0 0] 34)).drew)
          go_simp
          refine hK.out _ _ (HS.out _ (((But.refl (fun k => k = sb) w4).alloc (.cells #[.int .i64 0, .bool false, .slice none 0 0, .int .i64 0, .string ⟨#[]⟩, .slice none 0 0, .slice none 0 0] 34)).drew)) (fun hHeldL => ?_)
          clear hK K hHeldB c5
          try simp only [Act.put, List.setIfInBounds_toArray, List.set_cons_zero, List.set_cons_succ]
          refine wpAnyH_take (i := 4) (oi := ⟨_, _, _, _, _, _⟩) (v := ?_) rfl (by kernel_rfl) (by kernel_rfl) (by kernel_rfl) (fun _ _ _ h => h) (Or.inl ⟨by rfl, ?_⟩) (by assumption) ?_
          rotate_left
          · intro w hSw
            (try dsimp only at hSw)
            go_split_ands
            go_simp
            try with_reducible rfl
          try simp only [Act.put, List.setIfInBounds_toArray, List.set_cons_zero, List.set_cons_succ]
          refine wpAnyH_ready (rs := [3]) (by kernel_rfl) (by simp) (AllReadyH.cons (o := ⟨_, _, _, _, _, _⟩) rfl (fun K hK => ?_) AllReadyH.nil)
          · go_simp
            refine (HV.out ((w4.alloc (.cells #[.int .i64 0, .bool false, .slice none 0 0, .int .i64 0, .string ⟨#[]⟩, .slice none 0 0, .slice none 0 0] 34)).drew) (HE4.out.stay (C := fun _ => False) (((But.refl _ _).alloc _).drew) (fun _ _ h => h) (fun h => h))).mono ?_
            intro e w2 hp
            cases RV with
            | bad q x =>
              obtain ⟨rfl, hb⟩ := hp
              have h9 : (RR.bad q x : RR (ByteArray × VT)) = R := HR.out
              subst h9
              exact ⟨rfl, rfl, (HB4.out.trans ((((But.refl (fun k => k = sb) w4).alloc (.cells #[.int .i64 0, .bool false, .slice none 0 0, .int .i64 0, .string ⟨#[]⟩, .slice none 0 0, .slice none 0 0] 34)).drew).trans hb)).mono (fun _ _ h => .inl h)⟩
            | ok a q =>
              obtain ⟨⟨v, rfl, cs, rfl, hva⟩, hE2, hbc⟩ := hp
              have h9 : (RR.ok (key, a) q : RR (ByteArray × VT)) = R := HR.out
              subst h9
              clear HR
              obtain ⟨k1, neg1, xs1, e1, t1, li1, ks1, hak⟩ : ∃ k neg xs e t li ks, a = VT.mk k neg xs e t li ks := by cases a; exact ⟨_, _, _, _, _, _, _, rfl⟩
              have hvb := hva
              rw [hak] at hvb
              obtain ⟨A1, n1, c1, LA1, ln1, lc1, KA1, kn1, kc1, rfl, -⟩ := hvb.parts
              have hb2 : But (fun k => k = sb) w4 w2 := (((But.refl (fun k => k = sb) w4).alloc (.cells #[.int .i64 0, .bool false, .slice none 0 0, .int .i64 0, .string ⟨#[]⟩, .slice none 0 0, .slice none 0 0] 34)).drew).trans hbc
              have HVA := Lib.hid (show VIn w2 (fun b => w4.heap.size ≤ b ∧ b < w2.heap.size) a _ from hva.more (fun b hb => ⟨by have h9 := hb.1; simp at h9; omega, hb.2⟩))
              have HE2 := Lib.hid hE2
              clear hvb hak hva hE2
              (try dsimp only)
              refine hK.out _ _ (HS.out _ hb2) (fun hHeldC => ?_)
              clear hK K hHeldL
              try simp only [Act.put, List.setIfInBounds_toArray, List.set_cons_zero, List.set_cons_succ]
              have HZ := Lib.hid (show ∀ j u, [.int .i64 0, .bool false, .slice none 0 0, .int .i64 0, .string ⟨#[]⟩, .slice none 0 0, .slice none 0 0][j]? = some u → w2.cell? ((⟨w4.heap.size, 0, none⟩ : Addr).add j) = some u from fun j u hj => by
                have h9 := new7 w4 (.int .i64 0) (.bool false) (.slice none 0 0) (.int .i64 0) (.string ⟨#[]⟩) (.slice none 0 0) (.slice none 0 0) 34 j u hj
                exact hbc.cell_some h9 (fun h => by rw [Addr.add_lit] at h; have h8 : w4.heap.size = sb := h; have := HE4.out.lt; omega))
              have HBA := Lib.hid (hb2)
              have H21 := Lib.hid (show Below w2.heap.size w2 w2 from Below.refl _ _)
              clear hbc
              try simp only [Act.put, List.setIfInBounds_toArray, List.set_cons_zero, List.set_cons_succ]
              have hgr : Grow N (.slice LA ln lc) (acc.map (·.2)) w2 := HG.out.keep HBA.out (fun k hk => by omega)
              obtain ⟨fs, hown, hf7, hft⟩ := hgr
              rw [HLM.out] at hown
              have hfl : (flatC fs id ln).length = ln * 7 := flatC_length (fun q hq => hf7 q (by rw [HLM.out]; exact hq))
              have HOWN := Lib.hid hown
              have HF7 := Lib.hid (show ∀ i, i < ln → (fs i).length = 7 from fun i hi => hf7 i (by rw [HLM.out]; exact hi))
              have HFT := Lib.hid hft
              have HNA := Lib.hid (show N ≤ w2.heap.size from Nat.le_trans HNW.out HBA.out.size)
              clear hown hf7 hft
              refine wpAnyH_ready (rs := [6]) (by kernel_rfl) (by simp) (AllReadyH.cons (o := ⟨_, _, _, _, _, _⟩) rfl (fun K hK => ?_) AllReadyH.nil)
              refine step_append_at (base := N) (e := 34) (v := .slice LA ln lc) (n := ln) (xs := flatC fs id ln) (news := [.int .i64 0, .bool false, .slice none 0 0, .int .i64 0, .string ⟨#[]⟩, .slice none 0 0, .slice none 0 0]) (m := 1) (c := 1) (ad := ⟨w4.heap.size, 0, none⟩) rfl (.tmp 16) (.tmp 21) 24 rfl Tryz.underlying24 hi7 hp7 hq7 hr7 rfl (by decide) rfl HOWN.out rfl rfl HZ.out (by simp [Value.oneCell']) (by unfold maxLen; omega) (by omega) HNA.out ?_
              intro v' w5 hown5 hg5 _ hat5
              obtain ⟨g', cap', rfl⟩ := ownsRow_succ hown5
              have hbl5 : Below N w2 w5 := (Below.refl N _).grown hg5 HNA.out (fun q e => (ownsRow_lt HOWN.out e).1)
              have hob5 : w5.heap[lb]? = _ := (hbl5.block lb hlN).trans ((HBA.out.block lb (Array.getElem?_eq_some_iff.1 HB2.out).1 hls).trans HB2.out)
              have hpb5 : w5.heap[pb]? = _ := (hbl5.block pb hpN).trans ((HBA.out.block pb (Array.getElem?_eq_some_iff.1 HB1.out).1 hps).trans HB1.out)
              have hc0 : w5.cell? ⟨pb, 0, none⟩ = some (ptr sb) := cell_at3 hpb5 rfl
              have hgN : N ≤ g' := (ownsRow_lt hown5 rfl).1
              have HFL := Lib.hid hfl
              have hz : ∀ j u, [.int .i64 0, .bool false, .slice none 0 0, .int .i64 0, .string ⟨#[]⟩, .slice none 0 0, .slice none 0 0][j]? = some u → w5.cell? ⟨g', ln * 7 + j, none⟩ = some u ∧ w5.frozen? ⟨g', ln * 7 + j, none⟩ = false := fun j u hj => ownsRow_cell hown5 (by rw [List.getElem?_append_right (by rw [HFL.out]; omega), HFL.out, Nat.add_sub_cancel_left]; exact hj)
              obtain ⟨z0, r0⟩ := hz 0 (.int .i64 0) rfl
              obtain ⟨z1, r1⟩ := hz 1 (.bool false) rfl
              obtain ⟨z2, r2⟩ := hz 2 (.slice none 0 0) rfl
              obtain ⟨z3, r3⟩ := hz 3 (.int .i64 0) rfl
              obtain ⟨z4, r4⟩ := hz 4 (.string ⟨#[]⟩) rfl
              obtain ⟨z5, r5⟩ := hz 5 (.slice none 0 0) rfl
              obtain ⟨z6, r6⟩ := hz 6 (.slice none 0 0) rfl
              rw [Nat.add_zero] at z0 r0
              have o5 : w5.cell? ⟨lb, 0, none⟩ = some (.slice LA ln lc) := cell_at3 hob5 rfl
              have p5 : w5.frozen? ⟨lb, 0, none⟩ = false := by simp [World.frozen?, hob5]
              have hgo : ¬ g' = lb := by omega
              have hog : ¬ lb = g' := by omega
              have hpg : ¬ pb = g' := by omega
              have hmb5 : w5.heap[mb]? = _ := (hbl5.block mb hmN).trans ((HBA.out.block mb (Array.getElem?_eq_some_iff.1 HB3m.out).1 hms).trans HB3m.out)
              have hM5 := map_keep HM.out (show w5.heap[mm]? = w4.heap[mm]? from (hbl5.block mm hmmN).trans (HBA.out.block mm HM.out.lt hmms))
              have HM5 := Lib.hid hM5
              have HMB5 := Lib.hid hmb5
              clear hM5 hmb5
              have hl1 : (ln : Int) < (ln : Int) + 1 := by omega
              have hl0 : (0 : Int) ≤ (ln : Int) := by omega
              have hlt : ((ln : Int)).toNat = ln := by omega
              (try dsimp only)
              refine hK.out _ _ hc0 (fun hHeld4 => ?_)
              clear hK K hHeldC hz hfl
              have HOWN5 := Lib.hid hown5
              have HG5 := Lib.hid hg5
              have HAT5 := Lib.hid hat5
              have HBL5 := Lib.hid hbl5
              have HOB5 := Lib.hid hob5
              have HPB5 := Lib.hid hpb5
              clear hown5 hg5 hat5 hbl5 hob5 hpb5
              try simp only [Act.put, List.setIfInBounds_toArray, List.set_cons_zero, List.set_cons_succ]
              refine wpAnyH_take (i := 7) (oi := ⟨_, _, _, _, _, _⟩) (v := ?_) rfl (by kernel_rfl) (by kernel_rfl) (by kernel_rfl) (fun _ _ _ h => h) (Or.inl ⟨by rfl, ?_⟩) (by assumption) ?_
              rotate_left
              · intro w hSw
                (try dsimp only at hSw)
                go_split_ands
                go_simp
                try with_reducible rfl
              try simp only [Act.put, List.setIfInBounds_toArray, List.set_cons_zero, List.set_cons_succ]
              refine wpAnyH_ready (rs := [8, 9]) (by kernel_rfl) (by simp) (AllReadyH.cons (o := ⟨_, _, _, _, _, _⟩) rfl (fun K hK => ?_) (AllReadyH.cons (o := ⟨_, _, _, _, _, _⟩) rfl (fun K hK => ?_) AllReadyH.nil))
              · go_simp
                obtain ⟨hrp, hbp⟩ := row_put7 (a0 := (.int .i64 k1)) (a1 := (.bool neg1)) (a2 := (.slice A1 n1 c1)) (a3 := (.int .i64 e1)) (a4 := (.string t1)) (a5 := (.slice LA1 ln1 lc1)) (a6 := (.slice KA1 kn1 kc1)) HOWN5.out HFL.out
                have hob1 := (hbp.block lb (Array.getElem?_eq_some_iff.1 HOB5.out).1 hog).trans HOB5.out
                have hpc := hbp.cell_some hc0 hpg
                refine hK.out _ _ hpc (fun hHeld5 => ?_)
                clear hK K hHeld4
                try simp only [Act.put, List.setIfInBounds_toArray, List.set_cons_zero, List.set_cons_succ]
                have hob6 := set_heap (i := 0) (u := (.slice (some ⟨g', 0, none⟩) (ln + 1) cap')) hob1
                have hown6 := ownsRow_setCell_other (a := ⟨lb, 0, none⟩) hrp (by show some g' ≠ some lb; intro h; injection h with h; exact hgo h) (.slice (some ⟨g', 0, none⟩) (ln + 1) cap')
                have hb56 : But (fun j => j = g' ∨ j = lb) w5 ((((((((w5.setCell ⟨g', ln * 7, none⟩ (.int .i64 k1)).setCell ⟨g', ln * 7 + 1, none⟩ (.bool neg1)).setCell ⟨g', ln * 7 + 2, none⟩ (.slice A1 n1 c1)).setCell ⟨g', ln * 7 + 3, none⟩ (.int .i64 e1)).setCell ⟨g', ln * 7 + 4, none⟩ (.string t1)).setCell ⟨g', ln * 7 + 5, none⟩ (.slice LA1 ln1 lc1)).setCell ⟨g', ln * 7 + 6, none⟩ (.slice KA1 kn1 kc1)).setCell ⟨lb, 0, none⟩ (.slice (some ⟨g', 0, none⟩) (ln + 1) cap')) := But.setCell (C := fun j => j = g' ∨ j = lb) (p := ⟨lb, 0, none⟩) (hbp.mono (fun _ _ h => .inl h)) (.inl (.inr rfl)) _
                refine wpAnyH_ready (rs := [9]) (by kernel_rfl) (by simp) (AllReadyH.cons (o := ⟨_, _, _, _, _, _⟩) rfl (fun K hK => ?_) AllReadyH.nil)
                go_simp
                refine hK.out _ _ ((World.cell?_setCell_other _ _ _ _ (by first | (simp; done) | (simp; omega))).trans hpc) (fun hHeld6 => ?_)
                clear hK K hHeld5 hob1 hpc hrp hbp
                try simp only [Act.put, List.setIfInBounds_toArray, List.set_cons_zero, List.set_cons_succ]
                have hgo9 : w4.ownsRow N 34 7 (.slice LA ln lc) (acc.map (·.2)).length _ := HG.out.choose_spec.1
                refine wpAnyH_done (by kernel_rfl) ?_ _
                clear z0 z1 z2 z3 z4 z5 z6 r0 r1 r2 r3 r4 r5 r6 o5 p5 hc0
                generalize ((((((((w5.setCell ⟨g', ln * 7, none⟩ (.int .i64 k1)).setCell ⟨g', ln * 7 + 1, none⟩ (.bool neg1)).setCell ⟨g', ln * 7 + 2, none⟩ (.slice A1 n1 c1)).setCell ⟨g', ln * 7 + 3, none⟩ (.int .i64 e1)).setCell ⟨g', ln * 7 + 4, none⟩ (.string t1)).setCell ⟨g', ln * 7 + 5, none⟩ (.slice LA1 ln1 lc1)).setCell ⟨g', ln * 7 + 6, none⟩ (.slice KA1 kn1 kc1)).setCell ⟨lb, 0, none⟩ (.slice (some ⟨g', 0, none⟩) (ln + 1) cap')) = w6 at *
                have hgN' : N ≤ g' := hgN
                have HM6 := Lib.hid (map_keep HM5.out (hb56.block mm HM5.out.lt (by omega)))
                have HPB6 := Lib.hid ((hb56.block pb (Array.getElem?_eq_some_iff.1 HPB5.out).1 (by omega)).trans HPB5.out)
                have hmb6 := (hb56.block mb (Array.getElem?_eq_some_iff.1 HMB5.out).1 (by omega)).trans HMB5.out
                have hmc : w6.cell? ⟨mb, 0, none⟩ = some (.map (some mm)) := cell_at3 hmb6 rfl
                have HMB6 := Lib.hid hmb6
                have HGP := Lib.hid (Grow.push (ob := lb) HLM.out HF7.out HFT.out (fun j hj => (ownsRow_lt hgo9 hj).2) HNW.out H21.out HVA.out rfl HG5.out HAT5.out hb56 hlN hown6)
                have HLB6 := Lib.hid hob6
                have hb26 : But (fun j => j = lb ∨ N ≤ j) w2 w6 := (But.of (C := fun j => j = lb ∨ N ≤ j) H21.out).trans (((⟨HBL5.out.os, HBL5.out.tape, HBL5.out.output, HBL5.out.size, fun j hj hc => HBL5.out.block j (by omega)⟩ : But (fun j => j = lb ∨ N ≤ j) w2 w5)).trans (hb56.mono (fun j _ h => by rcases h with h | h <;> omega)))
                have HB26 := Lib.hid hb26
                have HBW6 := Lib.hid (((HB4.out.trans hb2).mono (fun _ _ h => .inl h)).trans (hb26.mono (fun _ _ h => .inr (by rcases h with h | h; exact .inl h; exact .inr (.inr h)))) : But (fun j => j = sb ∨ (j = lb ∨ j = mm ∨ N ≤ j)) W w6)
                clear hb26 hob6 hown6 hb56 hgo9 hmb6 hb2
                have hkey : keyOf Tryz.prog 9 (.string key) = some (kL key) := Go.WideMaps.keyOf_string_mk Tryz.underlying9 (by have := HKS.out; unfold maxLen; omega)
                have hkw : IntKind.i64.wrap ((nth : Int) - 1) = (ln : Int) := by have h9 := HAL2.out; rw [IntWalk.i64_in _ (by omega)]; omega
                go_wp2_with (at_mapUpdate; refine wpList_mapUpdate_own _ rfl _ _ _ 79 rfl 9 3 keyLaw Tryz.underlying79 _ mm ln _ rfl HM6.out (by unfold maxLen; omega) _ _ _ rfl rfl hkey _ [] (plainElem_int Tryz.underlying3 (WalkArith.wf_i64 (by omega))) ?_; intro w7 hown7 hgrow7)
                first | go_end0 | refine bodyPost_ret (results_none rfl _ _ _) rfl ?_
                have hb67 : But (fun j => j = mm) w6 w7 := ⟨hgrow7.os, hgrow7.tape, hgrow7.output, hgrow7.size, fun j hj hc => hgrow7.block j hj (fun e => by injection e with e; exact hc e)⟩
                refine ⟨rfl, (HE2.out.stay HB26.out (fun j hj h => by have := HE4.out.base; omega) (fun h => by omega)).stay hb67 (fun j hj h => by have := HE4.out.base; omega) (fun h => hmms h.symm), ⟨some ⟨g', 0, none⟩, cap', ?_, ?_, ?_, ?_, ?_⟩, HBW6.out.trans (hb67.mono (fun _ _ h => .inr (.inr (.inl h))))⟩
                · exact (hb67.block pb (Array.getElem?_eq_some_iff.1 HPB6.out).1 (fun h => hmmp h.symm)).trans HPB6.out
                · rw [List.length_append, HLN.out]; exact (hb67.block lb (Array.getElem?_eq_some_iff.1 HLB6.out).1 (fun h => hmml h.symm)).trans HLB6.out
                · exact (hb67.block mb (Array.getElem?_eq_some_iff.1 HMB6.out).1 (fun h => hmmb h.symm)).trans HMB6.out
                · rw [List.length_append, HLN.out, List.map_append]; exact HGP.out.keep hb67 (fun k hk => by omega)
                · rw [List.length_append, HLN.out, List.map_append]
                  show w7.ownsMap _ _ _ mm (ln + 1) (lastD (acc.map (·.1) ++ [key]) (ln + 1))
                  rw [lastD_push HLK.out]
                  exact hown7
              · go_simp
                have hob6' := set_heap (i := 0) (u := (.slice (some ⟨g', 0, none⟩) (ln + 1) cap')) HOB5.out
                have hpc := (World.cell?_setCell_other w5 ⟨lb, 0, none⟩ ⟨pb, 0, none⟩ (.slice (some ⟨g', 0, none⟩) (ln + 1) cap') (by first | (simp; done) | (simp; omega))).trans hc0
                refine hK.out _ _ hpc (fun hHeld5 => ?_)
                clear hK K hHeld4
                try simp only [Act.put, List.setIfInBounds_toArray, List.set_cons_zero, List.set_cons_succ]
                have y0 := (World.cell?_setCell_other w5 ⟨lb, 0, none⟩ ⟨g', ln * 7, none⟩ (.slice (some ⟨g', 0, none⟩) (ln + 1) cap') (by first | (simp; done) | (simp; omega))).trans z0
                have y1 := (World.cell?_setCell_other w5 ⟨lb, 0, none⟩ ⟨g', ln * 7 + 1, none⟩ (.slice (some ⟨g', 0, none⟩) (ln + 1) cap') (by first | (simp; done) | (simp; omega))).trans z1
                have y2 := (World.cell?_setCell_other w5 ⟨lb, 0, none⟩ ⟨g', ln * 7 + 2, none⟩ (.slice (some ⟨g', 0, none⟩) (ln + 1) cap') (by first | (simp; done) | (simp; omega))).trans z2
                have y3 := (World.cell?_setCell_other w5 ⟨lb, 0, none⟩ ⟨g', ln * 7 + 3, none⟩ (.slice (some ⟨g', 0, none⟩) (ln + 1) cap') (by first | (simp; done) | (simp; omega))).trans z3
                have y4 := (World.cell?_setCell_other w5 ⟨lb, 0, none⟩ ⟨g', ln * 7 + 4, none⟩ (.slice (some ⟨g', 0, none⟩) (ln + 1) cap') (by first | (simp; done) | (simp; omega))).trans z4
                have y5 := (World.cell?_setCell_other w5 ⟨lb, 0, none⟩ ⟨g', ln * 7 + 5, none⟩ (.slice (some ⟨g', 0, none⟩) (ln + 1) cap') (by first | (simp; done) | (simp; omega))).trans z5
                have y6 := (World.cell?_setCell_other w5 ⟨lb, 0, none⟩ ⟨g', ln * 7 + 6, none⟩ (.slice (some ⟨g', 0, none⟩) (ln + 1) cap') (by first | (simp; done) | (simp; omega))).trans z6
                have hown5' := ownsRow_setCell_other (a := ⟨lb, 0, none⟩) HOWN5.out (by show some g' ≠ some lb; intro h; injection h with h; exact hgo h) (.slice (some ⟨g', 0, none⟩) (ln + 1) cap')
                obtain ⟨hown6, hbp⟩ := row_put7 (a0 := (.int .i64 k1)) (a1 := (.bool neg1)) (a2 := (.slice A1 n1 c1)) (a3 := (.int .i64 e1)) (a4 := (.string t1)) (a5 := (.slice LA1 ln1 lc1)) (a6 := (.slice KA1 kn1 kc1)) hown5' HFL.out
                have hob6 := (hbp.block lb (by simp [World.setCell]; exact (Array.getElem?_eq_some_iff.1 HOB5.out).1) hog).trans hob6'
                have hb56 : But (fun j => j = g' ∨ j = lb) w5 ((((((((w5.setCell ⟨lb, 0, none⟩ (.slice (some ⟨g', 0, none⟩) (ln + 1) cap')).setCell ⟨g', ln * 7, none⟩ (.int .i64 k1)).setCell ⟨g', ln * 7 + 1, none⟩ (.bool neg1)).setCell ⟨g', ln * 7 + 2, none⟩ (.slice A1 n1 c1)).setCell ⟨g', ln * 7 + 3, none⟩ (.int .i64 e1)).setCell ⟨g', ln * 7 + 4, none⟩ (.string t1)).setCell ⟨g', ln * 7 + 5, none⟩ (.slice LA1 ln1 lc1)).setCell ⟨g', ln * 7 + 6, none⟩ (.slice KA1 kn1 kc1)) := (But.setCell (C := fun j => j = g' ∨ j = lb) (p := ⟨lb, 0, none⟩) (But.refl _ _) (.inl (.inr rfl)) _).trans (hbp.mono (fun _ _ h => .inl h))
                refine wpAnyH_ready (rs := [8]) (by kernel_rfl) (by simp) (AllReadyH.cons (o := ⟨_, _, _, _, _, _⟩) rfl (fun K hK => ?_) AllReadyH.nil)
                go_simp
                refine hK.out _ _ (hbp.cell_some hpc hpg) (fun hHeld6 => ?_)
                clear hK K hHeld5 hob6' hpc hown5' hbp y0 y1 y2 y3 y4 y5 y6
                try simp only [Act.put, List.setIfInBounds_toArray, List.set_cons_zero, List.set_cons_succ]
                have hgo9 : w4.ownsRow N 34 7 (.slice LA ln lc) (acc.map (·.2)).length _ := HG.out.choose_spec.1
                refine wpAnyH_done (by kernel_rfl) ?_ _
                clear z0 z1 z2 z3 z4 z5 z6 r0 r1 r2 r3 r4 r5 r6 o5 p5 hc0
                generalize ((((((((w5.setCell ⟨lb, 0, none⟩ (.slice (some ⟨g', 0, none⟩) (ln + 1) cap')).setCell ⟨g', ln * 7, none⟩ (.int .i64 k1)).setCell ⟨g', ln * 7 + 1, none⟩ (.bool neg1)).setCell ⟨g', ln * 7 + 2, none⟩ (.slice A1 n1 c1)).setCell ⟨g', ln * 7 + 3, none⟩ (.int .i64 e1)).setCell ⟨g', ln * 7 + 4, none⟩ (.string t1)).setCell ⟨g', ln * 7 + 5, none⟩ (.slice LA1 ln1 lc1)).setCell ⟨g', ln * 7 + 6, none⟩ (.slice KA1 kn1 kc1)) = w6 at *
                have hgN' : N ≤ g' := hgN
                have HM6 := Lib.hid (map_keep HM5.out (hb56.block mm HM5.out.lt (by omega)))
                have HPB6 := Lib.hid ((hb56.block pb (Array.getElem?_eq_some_iff.1 HPB5.out).1 (by omega)).trans HPB5.out)
                have hmb6 := (hb56.block mb (Array.getElem?_eq_some_iff.1 HMB5.out).1 (by omega)).trans HMB5.out
                have hmc : w6.cell? ⟨mb, 0, none⟩ = some (.map (some mm)) := cell_at3 hmb6 rfl
                have HMB6 := Lib.hid hmb6
                have HGP := Lib.hid (Grow.push (ob := lb) HLM.out HF7.out HFT.out (fun j hj => (ownsRow_lt hgo9 hj).2) HNW.out H21.out HVA.out rfl HG5.out HAT5.out hb56 hlN hown6)
                have HLB6 := Lib.hid hob6
                have hb26 : But (fun j => j = lb ∨ N ≤ j) w2 w6 := (But.of (C := fun j => j = lb ∨ N ≤ j) H21.out).trans (((⟨HBL5.out.os, HBL5.out.tape, HBL5.out.output, HBL5.out.size, fun j hj hc => HBL5.out.block j (by omega)⟩ : But (fun j => j = lb ∨ N ≤ j) w2 w5)).trans (hb56.mono (fun j _ h => by rcases h with h | h <;> omega)))
                have HB26 := Lib.hid hb26
                have HBW6 := Lib.hid (((HB4.out.trans hb2).mono (fun _ _ h => .inl h)).trans (hb26.mono (fun _ _ h => .inr (by rcases h with h | h; exact .inl h; exact .inr (.inr h)))) : But (fun j => j = sb ∨ (j = lb ∨ j = mm ∨ N ≤ j)) W w6)
                clear hb26 hob6 hown6 hb56 hgo9 hmb6 hb2
                have hkey : keyOf Tryz.prog 9 (.string key) = some (kL key) := Go.WideMaps.keyOf_string_mk Tryz.underlying9 (by have := HKS.out; unfold maxLen; omega)
                have hkw : IntKind.i64.wrap ((nth : Int) - 1) = (ln : Int) := by have h9 := HAL2.out; rw [IntWalk.i64_in _ (by omega)]; omega
                go_wp2_with (at_mapUpdate; refine wpList_mapUpdate_own _ rfl _ _ _ 79 rfl 9 3 keyLaw Tryz.underlying79 _ mm ln _ rfl HM6.out (by unfold maxLen; omega) _ _ _ rfl rfl hkey _ [] (plainElem_int Tryz.underlying3 (WalkArith.wf_i64 (by omega))) ?_; intro w7 hown7 hgrow7)
                first | go_end0 | refine bodyPost_ret (results_none rfl _ _ _) rfl ?_
                have hb67 : But (fun j => j = mm) w6 w7 := ⟨hgrow7.os, hgrow7.tape, hgrow7.output, hgrow7.size, fun j hj hc => hgrow7.block j hj (fun e => by injection e with e; exact hc e)⟩
                refine ⟨rfl, (HE2.out.stay HB26.out (fun j hj h => by have := HE4.out.base; omega) (fun h => by omega)).stay hb67 (fun j hj h => by have := HE4.out.base; omega) (fun h => hmms h.symm), ⟨some ⟨g', 0, none⟩, cap', ?_, ?_, ?_, ?_, ?_⟩, HBW6.out.trans (hb67.mono (fun _ _ h => .inr (.inr (.inl h))))⟩
                · exact (hb67.block pb (Array.getElem?_eq_some_iff.1 HPB6.out).1 (fun h => hmmp h.symm)).trans HPB6.out
                · rw [List.length_append, HLN.out]; exact (hb67.block lb (Array.getElem?_eq_some_iff.1 HLB6.out).1 (fun h => hmml h.symm)).trans HLB6.out
                · exact (hb67.block mb (Array.getElem?_eq_some_iff.1 HMB6.out).1 (fun h => hmmb h.symm)).trans HMB6.out
                · rw [List.length_append, HLN.out, List.map_append]; exact HGP.out.keep hb67 (fun k hk => by omega)
                · rw [List.length_append, HLN.out, List.map_append]
                  show w7.ownsMap _ _ _ mm (ln + 1) (lastD (acc.map (·.1) ++ [key]) (ln + 1))
                  rw [lastD_push HLK.out]
                  exact hown7
        · go_simp
          refine (HV.out ((w4.alloc (.cells #[.int .i64 0, .bool false, .slice none 0 0, .int .i64 0, .string ⟨#[]⟩, .slice none 0 0, .slice none 0 0] 34)).drew) (HE4.out.stay (C := fun _ => False) (((But.refl _ _).alloc _).drew) (fun _ _ h => h) (fun h => h))).mono ?_
          intro e w2 hp
          cases RV with
          | bad q x =>
            obtain ⟨rfl, hb⟩ := hp
            have h9 : (RR.bad q x : RR (ByteArray × VT)) = R := HR.out
            subst h9
            exact ⟨rfl, rfl, (HB4.out.trans ((((But.refl (fun k => k = sb) w4).alloc (.cells #[.int .i64 0, .bool false, .slice none 0 0, .int .i64 0, .string ⟨#[]⟩, .slice none 0 0, .slice none 0 0] 34)).drew).trans hb)).mono (fun _ _ h => .inl h)⟩
          | ok a q =>
            obtain ⟨⟨v, rfl, cs, rfl, hva⟩, hE2, hbc⟩ := hp
            have h9 : (RR.ok (key, a) q : RR (ByteArray × VT)) = R := HR.out
            subst h9
            clear HR
            obtain ⟨k1, neg1, xs1, e1, t1, li1, ks1, hak⟩ : ∃ k neg xs e t li ks, a = VT.mk k neg xs e t li ks := by cases a; exact ⟨_, _, _, _, _, _, _, rfl⟩
            have hvb := hva
            rw [hak] at hvb
            obtain ⟨A1, n1, c1, LA1, ln1, lc1, KA1, kn1, kc1, rfl, -⟩ := hvb.parts
            have hb2 : But (fun k => k = sb) w4 w2 := (((But.refl (fun k => k = sb) w4).alloc (.cells #[.int .i64 0, .bool false, .slice none 0 0, .int .i64 0, .string ⟨#[]⟩, .slice none 0 0, .slice none 0 0] 34)).drew).trans hbc
            have HVA := Lib.hid (show VIn w2 (fun b => w4.heap.size ≤ b ∧ b < w2.heap.size) a _ from hva.more (fun b hb => ⟨by have h9 := hb.1; simp at h9; omega, hb.2⟩))
            have HE2 := Lib.hid hE2
            clear hvb hak hva hE2
            (try dsimp only)
            refine hK.out _ _ (HS.out _ hb2) (fun hHeldC => ?_)
            clear hK K hHeldB
            try simp only [Act.put, List.setIfInBounds_toArray, List.set_cons_zero, List.set_cons_succ]
            refine wpAnyH_ready (rs := [0]) (by kernel_rfl) (by simp) (AllReadyH.cons (o := ⟨_, _, _, _, _, _⟩) rfl (fun K hK => ?_) AllReadyH.nil)
            · have c5 : w2.cell? ⟨lb, 0, none⟩ = some (.slice LA ln lc) := HC5.out _ (hb2)
              go_simp
              refine hK.out _ _ (HS.out _ (hb2)) (fun hHeldL => ?_)
              clear hK K hHeldC c5
              try simp only [Act.put, List.setIfInBounds_toArray, List.set_cons_zero, List.set_cons_succ]
              refine wpAnyH_take (i := 4) (oi := ⟨_, _, _, _, _, _⟩) (v := ?_) rfl (by kernel_rfl) (by kernel_rfl) (by kernel_rfl) (fun _ _ _ h => h) (Or.inl ⟨by rfl, ?_⟩) (by assumption) ?_
              rotate_left
              · intro w hSw
                (try dsimp only at hSw)
                go_split_ands
                go_simp
                try with_reducible rfl
              try simp only [Act.put, List.setIfInBounds_toArray, List.set_cons_zero, List.set_cons_succ]
              have HZ := Lib.hid (show ∀ j u, [.int .i64 0, .bool false, .slice none 0 0, .int .i64 0, .string ⟨#[]⟩, .slice none 0 0, .slice none 0 0][j]? = some u → w2.cell? ((⟨w4.heap.size, 0, none⟩ : Addr).add j) = some u from fun j u hj => by
                have h9 := new7 w4 (.int .i64 0) (.bool false) (.slice none 0 0) (.int .i64 0) (.string ⟨#[]⟩) (.slice none 0 0) (.slice none 0 0) 34 j u hj
                exact hbc.cell_some h9 (fun h => by rw [Addr.add_lit] at h; have h8 : w4.heap.size = sb := h; have := HE4.out.lt; omega))
              have HBA := Lib.hid (hb2)
              have H21 := Lib.hid (show Below w2.heap.size w2 w2 from Below.refl _ _)
              clear hbc
              try simp only [Act.put, List.setIfInBounds_toArray, List.set_cons_zero, List.set_cons_succ]
              have hgr : Grow N (.slice LA ln lc) (acc.map (·.2)) w2 := HG.out.keep HBA.out (fun k hk => by omega)
              obtain ⟨fs, hown, hf7, hft⟩ := hgr
              rw [HLM.out] at hown
              have hfl : (flatC fs id ln).length = ln * 7 := flatC_length (fun q hq => hf7 q (by rw [HLM.out]; exact hq))
              have HOWN := Lib.hid hown
              have HF7 := Lib.hid (show ∀ i, i < ln → (fs i).length = 7 from fun i hi => hf7 i (by rw [HLM.out]; exact hi))
              have HFT := Lib.hid hft
              have HNA := Lib.hid (show N ≤ w2.heap.size from Nat.le_trans HNW.out HBA.out.size)
              clear hown hf7 hft
              refine wpAnyH_ready (rs := [6]) (by kernel_rfl) (by simp) (AllReadyH.cons (o := ⟨_, _, _, _, _, _⟩) rfl (fun K hK => ?_) AllReadyH.nil)
              refine step_append_at (base := N) (e := 34) (v := .slice LA ln lc) (n := ln) (xs := flatC fs id ln) (news := [.int .i64 0, .bool false, .slice none 0 0, .int .i64 0, .string ⟨#[]⟩, .slice none 0 0, .slice none 0 0]) (m := 1) (c := 1) (ad := ⟨w4.heap.size, 0, none⟩) rfl (.tmp 16) (.tmp 21) 24 rfl Tryz.underlying24 hi7 hp7 hq7 hr7 rfl (by decide) rfl HOWN.out rfl rfl HZ.out (by simp [Value.oneCell']) (by unfold maxLen; omega) (by omega) HNA.out ?_
              intro v' w5 hown5 hg5 _ hat5
              obtain ⟨g', cap', rfl⟩ := ownsRow_succ hown5
              have hbl5 : Below N w2 w5 := (Below.refl N _).grown hg5 HNA.out (fun q e => (ownsRow_lt HOWN.out e).1)
              have hob5 : w5.heap[lb]? = _ := (hbl5.block lb hlN).trans ((HBA.out.block lb (Array.getElem?_eq_some_iff.1 HB2.out).1 hls).trans HB2.out)
              have hpb5 : w5.heap[pb]? = _ := (hbl5.block pb hpN).trans ((HBA.out.block pb (Array.getElem?_eq_some_iff.1 HB1.out).1 hps).trans HB1.out)
              have hc0 : w5.cell? ⟨pb, 0, none⟩ = some (ptr sb) := cell_at3 hpb5 rfl
              have hgN : N ≤ g' := (ownsRow_lt hown5 rfl).1
              have HFL := Lib.hid hfl
              have hz : ∀ j u, [.int .i64 0, .bool false, .slice none 0 0, .int .i64 0, .string ⟨#[]⟩, .slice none 0 0, .slice none 0 0][j]? = some u → w5.cell? ⟨g', ln * 7 + j, none⟩ = some u ∧ w5.frozen? ⟨g', ln * 7 + j, none⟩ = false := fun j u hj => ownsRow_cell hown5 (by rw [List.getElem?_append_right (by rw [HFL.out]; omega), HFL.out, Nat.add_sub_cancel_left]; exact hj)
              obtain ⟨z0, r0⟩ := hz 0 (.int .i64 0) rfl
              obtain ⟨z1, r1⟩ := hz 1 (.bool false) rfl
              obtain ⟨z2, r2⟩ := hz 2 (.slice none 0 0) rfl
              obtain ⟨z3, r3⟩ := hz 3 (.int .i64 0) rfl
              obtain ⟨z4, r4⟩ := hz 4 (.string ⟨#[]⟩) rfl
              obtain ⟨z5, r5⟩ := hz 5 (.slice none 0 0) rfl
              obtain ⟨z6, r6⟩ := hz 6 (.slice none 0 0) rfl
              rw [Nat.add_zero] at z0 r0
              have o5 : w5.cell? ⟨lb, 0, none⟩ = some (.slice LA ln lc) := cell_at3 hob5 rfl
              have p5 : w5.frozen? ⟨lb, 0, none⟩ = false := by simp [World.frozen?, hob5]
              have hgo : ¬ g' = lb := by omega
              have hog : ¬ lb = g' := by omega
              have hpg : ¬ pb = g' := by omega
              have hmb5 : w5.heap[mb]? = _ := (hbl5.block mb hmN).trans ((HBA.out.block mb (Array.getElem?_eq_some_iff.1 HB3m.out).1 hms).trans HB3m.out)
              have hM5 := map_keep HM.out (show w5.heap[mm]? = w4.heap[mm]? from (hbl5.block mm hmmN).trans (HBA.out.block mm HM.out.lt hmms))
              have HM5 := Lib.hid hM5
              have HMB5 := Lib.hid hmb5
              clear hM5 hmb5
              have hl1 : (ln : Int) < (ln : Int) + 1 := by omega
              have hl0 : (0 : Int) ≤ (ln : Int) := by omega
              have hlt : ((ln : Int)).toNat = ln := by omega
              (try dsimp only)
              refine hK.out _ _ hc0 (fun hHeld4 => ?_)
              clear hK K hHeldL hz hfl
              have HOWN5 := Lib.hid hown5
              have HG5 := Lib.hid hg5
              have HAT5 := Lib.hid hat5
              have HBL5 := Lib.hid hbl5
              have HOB5 := Lib.hid hob5
              have HPB5 := Lib.hid hpb5
              clear hown5 hg5 hat5 hbl5 hob5 hpb5
              try simp only [Act.put, List.setIfInBounds_toArray, List.set_cons_zero, List.set_cons_succ]
              refine wpAnyH_take (i := 7) (oi := ⟨_, _, _, _, _, _⟩) (v := ?_) rfl (by kernel_rfl) (by kernel_rfl) (by kernel_rfl) (fun _ _ _ h => h) (Or.inl ⟨by rfl, ?_⟩) (by assumption) ?_
              rotate_left
              · intro w hSw
                (try dsimp only at hSw)
                go_split_ands
                go_simp
                try with_reducible rfl
              try simp only [Act.put, List.setIfInBounds_toArray, List.set_cons_zero, List.set_cons_succ]
              refine wpAnyH_ready (rs := [8, 9]) (by kernel_rfl) (by simp) (AllReadyH.cons (o := ⟨_, _, _, _, _, _⟩) rfl (fun K hK => ?_) (AllReadyH.cons (o := ⟨_, _, _, _, _, _⟩) rfl (fun K hK => ?_) AllReadyH.nil))
              · go_simp
                obtain ⟨hrp, hbp⟩ := row_put7 (a0 := (.int .i64 k1)) (a1 := (.bool neg1)) (a2 := (.slice A1 n1 c1)) (a3 := (.int .i64 e1)) (a4 := (.string t1)) (a5 := (.slice LA1 ln1 lc1)) (a6 := (.slice KA1 kn1 kc1)) HOWN5.out HFL.out
                have hob1 := (hbp.block lb (Array.getElem?_eq_some_iff.1 HOB5.out).1 hog).trans HOB5.out
                have hpc := hbp.cell_some hc0 hpg
                refine hK.out _ _ hpc (fun hHeld5 => ?_)
                clear hK K hHeld4
                try simp only [Act.put, List.setIfInBounds_toArray, List.set_cons_zero, List.set_cons_succ]
                have hob6 := set_heap (i := 0) (u := (.slice (some ⟨g', 0, none⟩) (ln + 1) cap')) hob1
                have hown6 := ownsRow_setCell_other (a := ⟨lb, 0, none⟩) hrp (by show some g' ≠ some lb; intro h; injection h with h; exact hgo h) (.slice (some ⟨g', 0, none⟩) (ln + 1) cap')
                have hb56 : But (fun j => j = g' ∨ j = lb) w5 ((((((((w5.setCell ⟨g', ln * 7, none⟩ (.int .i64 k1)).setCell ⟨g', ln * 7 + 1, none⟩ (.bool neg1)).setCell ⟨g', ln * 7 + 2, none⟩ (.slice A1 n1 c1)).setCell ⟨g', ln * 7 + 3, none⟩ (.int .i64 e1)).setCell ⟨g', ln * 7 + 4, none⟩ (.string t1)).setCell ⟨g', ln * 7 + 5, none⟩ (.slice LA1 ln1 lc1)).setCell ⟨g', ln * 7 + 6, none⟩ (.slice KA1 kn1 kc1)).setCell ⟨lb, 0, none⟩ (.slice (some ⟨g', 0, none⟩) (ln + 1) cap')) := But.setCell (C := fun j => j = g' ∨ j = lb) (p := ⟨lb, 0, none⟩) (hbp.mono (fun _ _ h => .inl h)) (.inl (.inr rfl)) _
                refine wpAnyH_ready (rs := [9]) (by kernel_rfl) (by simp) (AllReadyH.cons (o := ⟨_, _, _, _, _, _⟩) rfl (fun K hK => ?_) AllReadyH.nil)
                go_simp
                refine hK.out _ _ ((World.cell?_setCell_other _ _ _ _ (by first | (simp; done) | (simp; omega))).trans hpc) (fun hHeld6 => ?_)
                clear hK K hHeld5 hob1 hpc hrp hbp
                try simp only [Act.put, List.setIfInBounds_toArray, List.set_cons_zero, List.set_cons_succ]
                have hgo9 : w4.ownsRow N 34 7 (.slice LA ln lc) (acc.map (·.2)).length _ := HG.out.choose_spec.1
                refine wpAnyH_done (by kernel_rfl) ?_ _
                clear z0 z1 z2 z3 z4 z5 z6 r0 r1 r2 r3 r4 r5 r6 o5 p5 hc0
                generalize ((((((((w5.setCell ⟨g', ln * 7, none⟩ (.int .i64 k1)).setCell ⟨g', ln * 7 + 1, none⟩ (.bool neg1)).setCell ⟨g', ln * 7 + 2, none⟩ (.slice A1 n1 c1)).setCell ⟨g', ln * 7 + 3, none⟩ (.int .i64 e1)).setCell ⟨g', ln * 7 + 4, none⟩ (.string t1)).setCell ⟨g', ln * 7 + 5, none⟩ (.slice LA1 ln1 lc1)).setCell ⟨g', ln * 7 + 6, none⟩ (.slice KA1 kn1 kc1)).setCell ⟨lb, 0, none⟩ (.slice (some ⟨g', 0, none⟩) (ln + 1) cap')) = w6 at *
                have hgN' : N ≤ g' := hgN
                have HM6 := Lib.hid (map_keep HM5.out (hb56.block mm HM5.out.lt (by omega)))
                have HPB6 := Lib.hid ((hb56.block pb (Array.getElem?_eq_some_iff.1 HPB5.out).1 (by omega)).trans HPB5.out)
                have hmb6 := (hb56.block mb (Array.getElem?_eq_some_iff.1 HMB5.out).1 (by omega)).trans HMB5.out
                have hmc : w6.cell? ⟨mb, 0, none⟩ = some (.map (some mm)) := cell_at3 hmb6 rfl
                have HMB6 := Lib.hid hmb6
                have HGP := Lib.hid (Grow.push (ob := lb) HLM.out HF7.out HFT.out (fun j hj => (ownsRow_lt hgo9 hj).2) HNW.out H21.out HVA.out rfl HG5.out HAT5.out hb56 hlN hown6)
                have HLB6 := Lib.hid hob6
                have hb26 : But (fun j => j = lb ∨ N ≤ j) w2 w6 := (But.of (C := fun j => j = lb ∨ N ≤ j) H21.out).trans (((⟨HBL5.out.os, HBL5.out.tape, HBL5.out.output, HBL5.out.size, fun j hj hc => HBL5.out.block j (by omega)⟩ : But (fun j => j = lb ∨ N ≤ j) w2 w5)).trans (hb56.mono (fun j _ h => by rcases h with h | h <;> omega)))
                have HB26 := Lib.hid hb26
                have HBW6 := Lib.hid (((HB4.out.trans hb2).mono (fun _ _ h => .inl h)).trans (hb26.mono (fun _ _ h => .inr (by rcases h with h | h; exact .inl h; exact .inr (.inr h)))) : But (fun j => j = sb ∨ (j = lb ∨ j = mm ∨ N ≤ j)) W w6)
                clear hb26 hob6 hown6 hb56 hgo9 hmb6 hb2
                have hkey : keyOf Tryz.prog 9 (.string key) = some (kL key) := Go.WideMaps.keyOf_string_mk Tryz.underlying9 (by have := HKS.out; unfold maxLen; omega)
                have hkw : IntKind.i64.wrap ((nth : Int) - 1) = (ln : Int) := by have h9 := HAL2.out; rw [IntWalk.i64_in _ (by omega)]; omega
                go_wp2_with (at_mapUpdate; refine wpList_mapUpdate_own _ rfl _ _ _ 79 rfl 9 3 keyLaw Tryz.underlying79 _ mm ln _ rfl HM6.out (by unfold maxLen; omega) _ _ _ rfl rfl hkey _ [] (plainElem_int Tryz.underlying3 (WalkArith.wf_i64 (by omega))) ?_; intro w7 hown7 hgrow7)
                first | go_end0 | refine bodyPost_ret (results_none rfl _ _ _) rfl ?_
                have hb67 : But (fun j => j = mm) w6 w7 := ⟨hgrow7.os, hgrow7.tape, hgrow7.output, hgrow7.size, fun j hj hc => hgrow7.block j hj (fun e => by injection e with e; exact hc e)⟩
                refine ⟨rfl, (HE2.out.stay HB26.out (fun j hj h => by have := HE4.out.base; omega) (fun h => by omega)).stay hb67 (fun j hj h => by have := HE4.out.base; omega) (fun h => hmms h.symm), ⟨some ⟨g', 0, none⟩, cap', ?_, ?_, ?_, ?_, ?_⟩, HBW6.out.trans (hb67.mono (fun _ _ h => .inr (.inr (.inl h))))⟩
                · exact (hb67.block pb (Array.getElem?_eq_some_iff.1 HPB6.out).1 (fun h => hmmp h.symm)).trans HPB6.out
                · rw [List.length_append, HLN.out]; exact (hb67.block lb (Array.getElem?_eq_some_iff.1 HLB6.out).1 (fun h => hmml h.symm)).trans HLB6.out
                · exact (hb67.block mb (Array.getElem?_eq_some_iff.1 HMB6.out).1 (fun h => hmmb h.symm)).trans HMB6.out
                · rw [List.length_append, HLN.out, List.map_append]; exact HGP.out.keep hb67 (fun k hk => by omega)
                · rw [List.length_append, HLN.out, List.map_append]
                  show w7.ownsMap _ _ _ mm (ln + 1) (lastD (acc.map (·.1) ++ [key]) (ln + 1))
                  rw [lastD_push HLK.out]
                  exact hown7
              · go_simp
                have hob6' := set_heap (i := 0) (u := (.slice (some ⟨g', 0, none⟩) (ln + 1) cap')) HOB5.out
                have hpc := (World.cell?_setCell_other w5 ⟨lb, 0, none⟩ ⟨pb, 0, none⟩ (.slice (some ⟨g', 0, none⟩) (ln + 1) cap') (by first | (simp; done) | (simp; omega))).trans hc0
                refine hK.out _ _ hpc (fun hHeld5 => ?_)
                clear hK K hHeld4
                try simp only [Act.put, List.setIfInBounds_toArray, List.set_cons_zero, List.set_cons_succ]
                have y0 := (World.cell?_setCell_other w5 ⟨lb, 0, none⟩ ⟨g', ln * 7, none⟩ (.slice (some ⟨g', 0, none⟩) (ln + 1) cap') (by first | (simp; done) | (simp; omega))).trans z0
                have y1 := (World.cell?_setCell_other w5 ⟨lb, 0, none⟩ ⟨g', ln * 7 + 1, none⟩ (.slice (some ⟨g', 0, none⟩) (ln + 1) cap') (by first | (simp; done) | (simp; omega))).trans z1
                have y2 := (World.cell?_setCell_other w5 ⟨lb, 0, none⟩ ⟨g', ln * 7 + 2, none⟩ (.slice (some ⟨g', 0, none⟩) (ln + 1) cap') (by first | (simp; done) | (simp; omega))).trans z2
                have y3 := (World.cell?_setCell_other w5 ⟨lb, 0, none⟩ ⟨g', ln * 7 + 3, none⟩ (.slice (some ⟨g', 0, none⟩) (ln + 1) cap') (by first | (simp; done) | (simp; omega))).trans z3
                have y4 := (World.cell?_setCell_other w5 ⟨lb, 0, none⟩ ⟨g', ln * 7 + 4, none⟩ (.slice (some ⟨g', 0, none⟩) (ln + 1) cap') (by first | (simp; done) | (simp; omega))).trans z4
                have y5 := (World.cell?_setCell_other w5 ⟨lb, 0, none⟩ ⟨g', ln * 7 + 5, none⟩ (.slice (some ⟨g', 0, none⟩) (ln + 1) cap') (by first | (simp; done) | (simp; omega))).trans z5
                have y6 := (World.cell?_setCell_other w5 ⟨lb, 0, none⟩ ⟨g', ln * 7 + 6, none⟩ (.slice (some ⟨g', 0, none⟩) (ln + 1) cap') (by first | (simp; done) | (simp; omega))).trans z6
                have hown5' := ownsRow_setCell_other (a := ⟨lb, 0, none⟩) HOWN5.out (by show some g' ≠ some lb; intro h; injection h with h; exact hgo h) (.slice (some ⟨g', 0, none⟩) (ln + 1) cap')
                obtain ⟨hown6, hbp⟩ := row_put7 (a0 := (.int .i64 k1)) (a1 := (.bool neg1)) (a2 := (.slice A1 n1 c1)) (a3 := (.int .i64 e1)) (a4 := (.string t1)) (a5 := (.slice LA1 ln1 lc1)) (a6 := (.slice KA1 kn1 kc1)) hown5' HFL.out
                have hob6 := (hbp.block lb (by simp [World.setCell]; exact (Array.getElem?_eq_some_iff.1 HOB5.out).1) hog).trans hob6'
                have hb56 : But (fun j => j = g' ∨ j = lb) w5 ((((((((w5.setCell ⟨lb, 0, none⟩ (.slice (some ⟨g', 0, none⟩) (ln + 1) cap')).setCell ⟨g', ln * 7, none⟩ (.int .i64 k1)).setCell ⟨g', ln * 7 + 1, none⟩ (.bool neg1)).setCell ⟨g', ln * 7 + 2, none⟩ (.slice A1 n1 c1)).setCell ⟨g', ln * 7 + 3, none⟩ (.int .i64 e1)).setCell ⟨g', ln * 7 + 4, none⟩ (.string t1)).setCell ⟨g', ln * 7 + 5, none⟩ (.slice LA1 ln1 lc1)).setCell ⟨g', ln * 7 + 6, none⟩ (.slice KA1 kn1 kc1)) := (But.setCell (C := fun j => j = g' ∨ j = lb) (p := ⟨lb, 0, none⟩) (But.refl _ _) (.inl (.inr rfl)) _).trans (hbp.mono (fun _ _ h => .inl h))
                refine wpAnyH_ready (rs := [8]) (by kernel_rfl) (by simp) (AllReadyH.cons (o := ⟨_, _, _, _, _, _⟩) rfl (fun K hK => ?_) AllReadyH.nil)
                go_simp
                refine hK.out _ _ (hbp.cell_some hpc hpg) (fun hHeld6 => ?_)
                clear hK K hHeld5 hob6' hpc hown5' hbp y0 y1 y2 y3 y4 y5 y6
                try simp only [Act.put, List.setIfInBounds_toArray, List.set_cons_zero, List.set_cons_succ]
                have hgo9 : w4.ownsRow N 34 7 (.slice LA ln lc) (acc.map (·.2)).length _ := HG.out.choose_spec.1
                refine wpAnyH_done (by kernel_rfl) ?_ _
                clear z0 z1 z2 z3 z4 z5 z6 r0 r1 r2 r3 r4 r5 r6 o5 p5 hc0
                generalize ((((((((w5.setCell ⟨lb, 0, none⟩ (.slice (some ⟨g', 0, none⟩) (ln + 1) cap')).setCell ⟨g', ln * 7, none⟩ (.int .i64 k1)).setCell ⟨g', ln * 7 + 1, none⟩ (.bool neg1)).setCell ⟨g', ln * 7 + 2, none⟩ (.slice A1 n1 c1)).setCell ⟨g', ln * 7 + 3, none⟩ (.int .i64 e1)).setCell ⟨g', ln * 7 + 4, none⟩ (.string t1)).setCell ⟨g', ln * 7 + 5, none⟩ (.slice LA1 ln1 lc1)).setCell ⟨g', ln * 7 + 6, none⟩ (.slice KA1 kn1 kc1)) = w6 at *
                have hgN' : N ≤ g' := hgN
                have HM6 := Lib.hid (map_keep HM5.out (hb56.block mm HM5.out.lt (by omega)))
                have HPB6 := Lib.hid ((hb56.block pb (Array.getElem?_eq_some_iff.1 HPB5.out).1 (by omega)).trans HPB5.out)
                have hmb6 := (hb56.block mb (Array.getElem?_eq_some_iff.1 HMB5.out).1 (by omega)).trans HMB5.out
                have hmc : w6.cell? ⟨mb, 0, none⟩ = some (.map (some mm)) := cell_at3 hmb6 rfl
                have HMB6 := Lib.hid hmb6
                have HGP := Lib.hid (Grow.push (ob := lb) HLM.out HF7.out HFT.out (fun j hj => (ownsRow_lt hgo9 hj).2) HNW.out H21.out HVA.out rfl HG5.out HAT5.out hb56 hlN hown6)
                have HLB6 := Lib.hid hob6
                have hb26 : But (fun j => j = lb ∨ N ≤ j) w2 w6 := (But.of (C := fun j => j = lb ∨ N ≤ j) H21.out).trans (((⟨HBL5.out.os, HBL5.out.tape, HBL5.out.output, HBL5.out.size, fun j hj hc => HBL5.out.block j (by omega)⟩ : But (fun j => j = lb ∨ N ≤ j) w2 w5)).trans (hb56.mono (fun j _ h => by rcases h with h | h <;> omega)))
                have HB26 := Lib.hid hb26
                have HBW6 := Lib.hid (((HB4.out.trans hb2).mono (fun _ _ h => .inl h)).trans (hb26.mono (fun _ _ h => .inr (by rcases h with h | h; exact .inl h; exact .inr (.inr h)))) : But (fun j => j = sb ∨ (j = lb ∨ j = mm ∨ N ≤ j)) W w6)
                clear hb26 hob6 hown6 hb56 hgo9 hmb6 hb2
                have hkey : keyOf Tryz.prog 9 (.string key) = some (kL key) := Go.WideMaps.keyOf_string_mk Tryz.underlying9 (by have := HKS.out; unfold maxLen; omega)
                have hkw : IntKind.i64.wrap ((nth : Int) - 1) = (ln : Int) := by have h9 := HAL2.out; rw [IntWalk.i64_in _ (by omega)]; omega
                go_wp2_with (at_mapUpdate; refine wpList_mapUpdate_own _ rfl _ _ _ 79 rfl 9 3 keyLaw Tryz.underlying79 _ mm ln _ rfl HM6.out (by unfold maxLen; omega) _ _ _ rfl rfl hkey _ [] (plainElem_int Tryz.underlying3 (WalkArith.wf_i64 (by omega))) ?_; intro w7 hown7 hgrow7)
                first | go_end0 | refine bodyPost_ret (results_none rfl _ _ _) rfl ?_
                have hb67 : But (fun j => j = mm) w6 w7 := ⟨hgrow7.os, hgrow7.tape, hgrow7.output, hgrow7.size, fun j hj hc => hgrow7.block j hj (fun e => by injection e with e; exact hc e)⟩
                refine ⟨rfl, (HE2.out.stay HB26.out (fun j hj h => by have := HE4.out.base; omega) (fun h => by omega)).stay hb67 (fun j hj h => by have := HE4.out.base; omega) (fun h => hmms h.symm), ⟨some ⟨g', 0, none⟩, cap', ?_, ?_, ?_, ?_, ?_⟩, HBW6.out.trans (hb67.mono (fun _ _ h => .inr (.inr (.inl h))))⟩
                · exact (hb67.block pb (Array.getElem?_eq_some_iff.1 HPB6.out).1 (fun h => hmmp h.symm)).trans HPB6.out
                · rw [List.length_append, HLN.out]; exact (hb67.block lb (Array.getElem?_eq_some_iff.1 HLB6.out).1 (fun h => hmml h.symm)).trans HLB6.out
                · exact (hb67.block mb (Array.getElem?_eq_some_iff.1 HMB6.out).1 (fun h => hmmb h.symm)).trans HMB6.out
                · rw [List.length_append, HLN.out, List.map_append]; exact HGP.out.keep hb67 (fun k hk => by omega)
                · rw [List.length_append, HLN.out, List.map_append]
                  show w7.ownsMap _ _ _ mm (ln + 1) (lastD (acc.map (·.1) ++ [key]) (ln + 1))
                  rw [lastD_push HLK.out]
                  exact hown7
end Go.Proofs.YtpjllcengnolkaaGreatDoor
