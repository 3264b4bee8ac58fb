/-
  The walk of bolterlaw07.ReaderSpaces.
-/
import Derived.Test.YtpjllcengnolkaaGreatDoorPLapk
set_option linter.unusedVariables false
set_option linter.unusedSimpArgs false
namespace Go.Proofs.YtpjllcengnolkaaGreatDoor
open Go.RowKit Go.Lib
variable {L : List UInt8} {A : Option Addr} {c : Nat}

def W20 : List UInt8 := [32, 9, 10, 13, 32, 9, 10, 13, 32, 9, 10, 13, 32, 9, 10, 13, 32, 9, 10, 13]
theorem W20_ws : ∀ c ∈ W20, isWs c = true := by decide
theorem rRead_place (mk : List (ByteArray × VT) → VT) (b : List UInt8) : (rRead mk b).2.1 ≤ b.length := by
  unfold rRead
  split
  · exact Nat.zero_le _
  · cases hN : rNext mk b 0 with
    | bad q e =>
      unfold rNext at hN
      have hw := twB_le (f := isWs) (b.drop 0)
      rw [List.length_drop] at hw
      split at hN
      · cases hN
      · cases hv : rValue mk 64 1 b (0 + ((b.drop 0).takeWhile isWs).length) with
        | ok v q2 => rw [hv] at hN; cases hN
        | bad q2 e2 =>
          rw [hv] at hN
          simp only [RR.bind] at hN
          injection hN with h1 h2
          subst h1 h2
          exact ((Good.value mk 64 1).dn b _ q2 e2 (by omega) hv).1
    | ok o q =>
      cases o with
      | none => exact Nat.le_refl _
      | some v =>
        simp only
        split
        · rename_i h; exact Nat.le_of_lt h
        · exact Nat.le_refl _
theorem rRead_nil (mk : List (ByteArray × VT) → VT) : rRead mk [] = (noV, 0, 8) := rfl
/-- A row that was appended to still reads as it did. -/
theorem RowV.elder {w w' : World} {base n c n' c' : Nat} {A A' : Option Addr} {vs us : List Value} {t : TypeId} (h : RowV w base t A n c vs) (h' : RowV w' base t A' n' c' (vs ++ us)) (hg : w.grownBy w' (Value.slice A n c).ownBlock)
    (hat : (Value.slice A' n' c').ownBlock = (Value.slice A n c).ownBlock ∨ ((Value.slice A' n' c').ownBlock = some w.heap.size ∧ w.grownBy w' none)) : RdV w' (fun b => base ≤ b ∧ b < w'.heap.size) A n vs := by
  rcases hat with h1 | ⟨-, h1⟩
  · refine ⟨h.len, fun h0 => ?_⟩
    obtain ⟨b, off, hA, hb, hc⟩ := h.rd.cells h0
    subst hA
    rcases h'.form with ⟨h2, -⟩ | ⟨g, h2, h3, h4⟩
    · subst h2; simp [Value.ownBlock] at h1
    · subst h2
      have hg2 : g = b := by injection h1
      subst hg2
      rcases h.form with ⟨h5, -⟩ | ⟨g2, h5, -⟩
      · cases h5
      · injection h5 with h5
        injection h5 with _ h6
        subst h6
        refine ⟨g, 0, rfl, ⟨h3, h4⟩, fun j v hv => ?_⟩
        obtain ⟨b2, off2, e2, -, hc2⟩ := h'.rd.at_ (k := j) (v := v) (by rw [List.getElem?_append_left (List.getElem?_eq_some_iff.1 hv).1]; exact hv)
        injection e2 with e2
        injection e2 with e3 e4
        subst e3
        subst e4
        exact hc2
  · exact (h.rd.grown h1 (fun b hb => ⟨hb.2, by simp⟩)).more fun b hb => ⟨hb.1, Nat.lt_of_lt_of_le hb.2 h1.size⟩

set_option maxRecDepth 100000 in
set_option maxHeartbeats 8000000 in
theorem readerSpaces_c (hW25 : Word25) {w : World} (z : Int) (hz : -9223372036854775808 ≤ z ∧ z ≤ 9223372036854775807) (ho : Oct w.heap.size L A w) (hT : Tabs w) (hcap : L.length ≤ c) (hlen : L.length ≤ 140737488355328) :
    Calls Tryz.prog 6 #[.slice A L.length c, .int .i64 z] w fun e w' => e = .returned (.bool true) ∧ Below w.heap.size w w' := by
  have HA := alive7_c hW25 w hT
  obtain ⟨m, hm1, hm2, hm3, hm4⟩ := place_in z 20 (by decide)
  have hm2 : (z.tmod 20 + 20).tmod 20 = (m : Int) := hm2
  have hm3 : -(20 : Int) < z.tmod 20 := hm3
  have hm4 : z.tmod 20 < 20 := hm4
  obtain ⟨r1, hr1⟩ : ∃ r1, z.tmod 20 = r1 := ⟨_, rfl⟩
  rw [hr1] at hm2 hm3 hm4
  have hrw : IntKind.i64.wrap (r1 + 20) = r1 + 20 := IntWalk.i64_in _ (by omega)
  have HO := Lib.hid ho
  have HT := Lib.hid hT
  obtain ⟨n, hn⟩ : ∃ n, L.length = n := ⟨_, rfl⟩
  obtain ⟨V, P, E, hRR⟩ : ∃ V P E, rRead mkObj L = (V, P, E) := ⟨_, _, _, rfl⟩
  have hPn : P ≤ n := by have := rRead_place mkObj L; rw [hRR, hn] at this; exact this
  have HN := Lib.hid hn
  have HRR := Lib.hid hRR
  have HRD := Lib.hid (fun W (hW : Below w.heap.size w W) => Read_c (valC 64) (ho.stay hW hW.size) (hT.below hW) hcap hlen)
  rw [hn] at HRD hcap hlen ⊢
  clear ho hT hn hRR
  have hPi : (P : Int) ≤ (n : Int) := by omega
  go_enter Tryz.func6, Tryz.ntmps6
  go_wp2_with fail
  refine HA.mono ?_
  rintro e w1 ⟨rfl, hb1⟩
  have HB1 := Lib.hid hb1
  clear HA hb1
  go_wp2_with fail
  refine (HRD.out w1 HB1.out).mono ?_
  rintro e w2 ⟨hpo, hb2⟩
  obtain ⟨k1, neg1, A1, n1, c1, ex1, t1, LA1, ln1, lc1, KA1, kn1, kc1, rfl, -, hv1⟩ := hpo.seven
  rw [HRR.out] at hv1 ⊢
  dsimp only at hv1 ⊢
  have HB2 := Lib.hid (HB1.out.trans (hb2.mono HB1.out.size))
  have HV1 := Lib.hid hv1
  clear hb2 hpo hv1
  obtain ⟨EI, hEI⟩ : ∃ EI : Int, (E : Int) = EI := ⟨_, rfl⟩
  rw [hEI]
  have HEI := Lib.hid hEI
  clear hEI
  have HB3 := Lib.hid (HB2.out.alloc HB2.out.size (.cells #[.int .i64 k1, .bool neg1, .slice A1 n1 c1, .int .i64 ex1, .string t1, .slice LA1 ln1 lc1, .slice KA1 kn1 kc1] 34))
  by_cases h60 : 60000 < n
  · have h60i : (60000 : Int) < (n : Int) := by omega
    go_wp2_with (go_at_call 10; refine (lnum7_c _ _).mono ?_; rintro e w' ⟨rfl, rfl⟩)
    go_ret
    exact ⟨by first | rfl | simp, HB3.out⟩
  · have h60i : ¬ (60000 : Int) < (n : Int) := by omega
    by_cases hE8 : EI = 8
    · subst hE8
      go_wp2_with (go_at_call 10; refine (lnum7_c _ _).mono ?_; rintro e w' ⟨rfl, rfl⟩)
      go_ret
      exact ⟨by first | rfl | simp, HB3.out⟩
    · have hE8b : (EI == 8) = false := by simpa using hE8
      have hn0 : 0 < n := by
        rcases Nat.eq_zero_or_pos n with h | h
        · exfalso
          have h2 : L = [] := List.eq_nil_of_length_eq_zero (HN.out.trans h)
          have h3 := HRR.out
          rw [h2, rRead_nil] at h3
          simp only [Prod.mk.injEq] at h3
          have := HEI.out
          omega
        · exact h
      obtain ⟨g, off, hAe, -, -⟩ := HO.out 0 _ (List.getElem?_eq_getElem (show 0 < L.length by rw [HN.out]; exact hn0))
      subst hAe
      have hbx1 := World.alloc_heap_new w2 (.cells #[.int .i64 k1, .bool neg1, .slice A1 n1 c1, .int .i64 ex1, .string t1, .slice LA1 ln1 lc1, .slice KA1 kn1 kc1] 34)
      have HS3 := Lib.hid (show (w2.alloc (.cells #[.int .i64 k1, .bool neg1, .slice A1 n1 c1, .int .i64 ex1, .string t1, .slice LA1 ln1 lc1, .slice KA1 kn1 kc1] 34)).heap.size = w2.heap.size + 1 from by simp)
      have HV13 := Lib.hid ((HV1.out.stay ((Below.refl w2.heap.size w2).alloc (Nat.le_refl _) (.cells #[.int .i64 k1, .bool neg1, .slice A1 n1 c1, .int .i64 ex1, .string t1, .slice LA1 ln1 lc1, .slice KA1 kn1 kc1] 34)) (fun b h => h.2)).more (fun b h => (show b < w2.heap.size from h.2)))
      have HBX1 := Lib.hid hbx1
      clear hbx1 HV1
      have hmm : (0 : Int) ≤ (m : Int) := by omega
      have hm20 : (m : Int) ≤ 20 := by omega
      have hmt : ((m : Int)).toNat = m := by omega
      go_upto_region 7 with (go_at_call 10; refine (lnum7_c _ _).mono ?_; rintro e w' ⟨rfl, rfl⟩)
      generalize (w2.alloc (.cells #[.int .i64 k1, .bool neg1, .slice A1 n1 c1, .int .i64 ex1, .string t1, .slice LA1 ln1 lc1, .slice KA1 kn1 kc1] 34)) = w3 at *
      have kc := Lib.run_convert_bytes_const (P := Tryz.prog) w3 22 5 #[.int .u8 32, .int .u8 9, .int .u8 10, .int .u8 13, .int .u8 32, .int .u8 9, .int .u8 10, .int .u8 13, .int .u8 32, .int .u8 9, .int .u8 10, .int .u8 13, .int .u8 32, .int .u8 9, .int .u8 10, .int .u8 13, .int .u8 32, .int .u8 9, .int .u8 10, .int .u8 13] 20 20 Tryz.underlying22 Tryz.underlying5
      have h4b : Below w.heap.size w (w3.alloc (.cells #[.int .u8 32, .int .u8 9, .int .u8 10, .int .u8 13, .int .u8 32, .int .u8 9, .int .u8 10, .int .u8 13, .int .u8 32, .int .u8 9, .int .u8 10, .int .u8 13, .int .u8 32, .int .u8 9, .int .u8 10, .int .u8 13, .int .u8 32, .int .u8 9, .int .u8 10, .int .u8 13] 5 (20, 21))) := HB3.out.alloc HB3.out.size _
      have h34 : Below w3.heap.size w3 (w3.alloc (.cells #[.int .u8 32, .int .u8 9, .int .u8 10, .int .u8 13, .int .u8 32, .int .u8 9, .int .u8 10, .int .u8 13, .int .u8 32, .int .u8 9, .int .u8 10, .int .u8 13, .int .u8 32, .int .u8 9, .int .u8 10, .int .u8 13, .int .u8 32, .int .u8 9, .int .u8 10, .int .u8 13] 5 (20, 21))) := (Below.refl _ _).alloc (Nat.le_refl _) _
      have hs4 : (w3.alloc (.cells #[.int .u8 32, .int .u8 9, .int .u8 10, .int .u8 13, .int .u8 32, .int .u8 9, .int .u8 10, .int .u8 13, .int .u8 32, .int .u8 9, .int .u8 10, .int .u8 13, .int .u8 32, .int .u8 9, .int .u8 10, .int .u8 13, .int .u8 32, .int .u8 9, .int .u8 10, .int .u8 13] 5 (20, 21))).heap.size = w3.heap.size + 1 := by simp
      have hw20 : RdV (w3.alloc (.cells #[.int .u8 32, .int .u8 9, .int .u8 10, .int .u8 13, .int .u8 32, .int .u8 9, .int .u8 10, .int .u8 13, .int .u8 32, .int .u8 9, .int .u8 10, .int .u8 13, .int .u8 32, .int .u8 9, .int .u8 10, .int .u8 13, .int .u8 32, .int .u8 9, .int .u8 10, .int .u8 13] 5 (20, 21))) (fun b => b < w3.heap.size + 1) (some ⟨w3.heap.size, 0, none⟩) m (bs8 (W20.take m)) := by
        have hl : (W20.take m).length = m := by rw [List.length_take]; have : W20.length = 20 := rfl; omega
        refine ⟨by rw [bs8_length, hl], fun _ => ⟨w3.heap.size, 0, rfl, by omega, fun j v hv => ?_⟩⟩
        have hj : j < m := by have := (List.getElem?_eq_some_iff.1 hv).1; rwa [bs8_length, hl] at this
        have hj20 : j < 20 := by omega
        rw [World.cell?_alloc_mark, Nat.zero_add]
        have hx : (W20.take m)[j]? = W20[j]? := by rw [List.getElem?_take, if_pos hj]
        have hv2 : (bs8 W20)[j]? = some v := by
          rw [← hv]
          unfold bs8
          rw [List.getElem?_map, List.getElem?_map, hx]
        have hcell : ∀ j, j < 20 → (#[.int .u8 32, .int .u8 9, .int .u8 10, .int .u8 13, .int .u8 32, .int .u8 9, .int .u8 10, .int .u8 13, .int .u8 32, .int .u8 9, .int .u8 10, .int .u8 13, .int .u8 32, .int .u8 9, .int .u8 10, .int .u8 13, .int .u8 32, .int .u8 9, .int .u8 10, .int .u8 13] : Array Value)[j]? = (bs8 W20)[j]? := by
          intro j hj
          match j, hj with
          | 0, _ => rfl
          | 1, _ => rfl
          | 2, _ => rfl
          | 3, _ => rfl
          | 4, _ => rfl
          | 5, _ => rfl
          | 6, _ => rfl
          | 7, _ => rfl
          | 8, _ => rfl
          | 9, _ => rfl
          | 10, _ => rfl
          | 11, _ => rfl
          | 12, _ => rfl
          | 13, _ => rfl
          | 14, _ => rfl
          | 15, _ => rfl
          | 16, _ => rfl
          | 17, _ => rfl
          | 18, _ => rfl
          | 19, _ => rfl
          | k + 20, h => omega
        rw [← hv2, ← hcell j hj20]
      have HW := Lib.hid hw20
      have H4B := Lib.hid h4b
      have H34 := Lib.hid h34
      have HS4 := Lib.hid hs4
      clear hw20 h4b h34 hs4
      go_wp2_with fail
      generalize (w3.alloc (.cells #[.int .u8 32, .int .u8 9, .int .u8 10, .int .u8 13, .int .u8 32, .int .u8 9, .int .u8 10, .int .u8 13, .int .u8 32, .int .u8 9, .int .u8 10, .int .u8 13, .int .u8 32, .int .u8 9, .int .u8 10, .int .u8 13, .int .u8 32, .int .u8 9, .int .u8 10, .int .u8 13] 5 (20, 21))) = w4 at *
      clear kc
      obtain ⟨X, hX⟩ : ∃ X, W20.take m = X := ⟨_, rfl⟩
      rw [hX] at HW
      have HXW := Lib.hid (show ∀ d ∈ X, isWs d = true from fun d hd => W20_ws d (List.mem_of_mem_take (hX ▸ hd)))
      have HXL := Lib.hid (show X.length = m from by rw [← hX, List.length_take]; have : W20.length = 20 := rfl; omega)
      clear hX
      have HLV := Lib.hid (fun W (hW : Below w.heap.size w W) => HO.out.rdv.below hW (fun b h => h))
      obtain ⟨i0, hi, hz0, hz1, hz2⟩ := info_parts uinfo8
      obtain ⟨Q, hQ⟩ : ∃ Q, m + P = Q := ⟨_, rfl⟩
      have hQi : (P : Int) + (m : Int) = (Q : Int) := by omega
      have hQw : IntKind.i64.wrap (Q : Int) = (Q : Int) := IntWalk.i64_in _ (by omega)
      have hah := rRead_ahead mkObj (b := L) HXW.out (by rw [HXL.out, HN.out]; omega)
      rw [HRR.out, HXL.out] at hah
      dsimp only at hah
      rw [hQ] at hah
      have HAH := Lib.hid hah
      clear hah hQ
      have HNL := Lib.hid HN.out
      refine (CopyBytes_c (c := 20) w4 HW.out (by omega)).mono ?_
      rintro e w5 ⟨A5, c5, rfl, hrow5, hb5⟩
      have HB5 := Lib.hid (H4B.out.trans (hb5.mono H4B.out.size))
      have HB35 := Lib.hid (H34.out.trans (hb5.mono H34.out.size))
      have HROW5 := Lib.hid hrow5
      have HSZ45 := Lib.hid hb5.size
      clear hb5 hrow5 HW
      go_wp2_with (at_builtin; refine wpList_append_own_new _ rfl (.tmp 50) (.tmp 51) _ rfl w4.heap.size 5 i0 (.int .u8 0) 1 1 Tryz.underlying22 hi hz0 hz1 hz2 rfl (by decide) (.slice A5 m c5) m (bs8 X) rfl HROW5.out.own ⟨g, off, none⟩ n c (bs8 L) rfl (by rw [bs8_length, HN.out, Nat.mul_one]) (by have h9 := HLV.out w5 HB5.out; rw [HN.out] at h9; exact h9.cellsAt) (bs8_one L) (by unfold maxLen; omega) (by omega) HSZ45.out ?_; intro v6 w6 hown6 hg6 hat6; obtain ⟨A6, c6, rfl, hrow6⟩ := RowV.of_row (by rw [List.length_append, bs8_length, bs8_length, HN.out, HXL.out]) hown6; have HROW6 := Lib.hid hrow6; have HX6 := Lib.hid (HROW5.out.elder hrow6 hg6 hat6); have HG6 := Lib.hid hg6; clear hown6 hg6 hat6 hrow6)
      have HB6 := Lib.hid (HB5.out.trans (show Below w.heap.size w5 w6 from (Below.refl _ _).grown HG6.out HB5.out.size (fun k hk => by have := (ownsRow_lt HROW5.out.own hk).1; have := H4B.out.size; omega)))
      have HB36 := Lib.hid (HB35.out.trans (show Below w3.heap.size w5 w6 from (Below.refl _ _).grown HG6.out HB35.out.size (fun k hk => by have := (ownsRow_lt HROW5.out.own hk).1; have := H34.out.size; omega)))
      have hcat : bs8 X ++ bs8 L = bs8 (X ++ L) := by simp [bs8]
      have hrow6 := HROW6.out
      rw [hcat] at hrow6
      obtain ⟨q1, q2, q3⟩ := hrow6.oct
      have hrd6 := Read_c (L := X ++ L) (c := c6) (w := w6) (valC 64) q3 (HT.out.below HB6.out) (by omega) (by omega)
      rw [q1] at hrd6
      have HRD6 := Lib.hid hrd6
      clear hcat hrow6 q1 q2 q3 hrd6 HG6
      refine HRD6.out.mono ?_
      rintro e w7 ⟨hpo7, hb7⟩
      clear HRD6
      obtain ⟨k2, neg2, A2, n2, c2, ex2, t2, LA2, ln2, lc2, KA2, kn2, kc2, rfl, -, hv2⟩ := hpo7.seven
      rw [HAH.out] at hv2 ⊢
      dsimp only at hv2 ⊢
      rw [HEI.out]
      have HB8 := Lib.hid ((HB6.out.trans (hb7.mono HB6.out.size)).alloc (by have := HB6.out.size; have := hb7.size; omega) (.cells #[.int .i64 k2, .bool neg2, .slice A2 n2 c2, .int .i64 ex2, .string t2, .slice LA2 ln2 lc2, .slice KA2 kn2 kc2] 34))
      have HB38 := Lib.hid ((HB36.out.trans (hb7.mono HB36.out.size)).alloc (by have := HB36.out.size; have := hb7.size; omega) (.cells #[.int .i64 k2, .bool neg2, .slice A2 n2 c2, .int .i64 ex2, .string t2, .slice LA2 ln2 lc2, .slice KA2 kn2 kc2] 34))
      have HB68 := Lib.hid (hb7.alloc hb7.size (.cells #[.int .i64 k2, .bool neg2, .slice A2 n2 c2, .int .i64 ex2, .string t2, .slice LA2 ln2 lc2, .slice KA2 kn2 kc2] 34))
      have HBX2 := Lib.hid (World.alloc_heap_new w7 (.cells #[.int .i64 k2, .bool neg2, .slice A2 n2 c2, .int .i64 ex2, .string t2, .slice LA2 ln2 lc2, .slice KA2 kn2 kc2] 34))
      have HS8 := Lib.hid (show (w7.alloc (.cells #[.int .i64 k2, .bool neg2, .slice A2 n2 c2, .int .i64 ex2, .string t2, .slice LA2 ln2 lc2, .slice KA2 kn2 kc2] 34)).heap.size = w7.heap.size + 1 from by simp)
      have HV28 := Lib.hid ((hv2.stay ((Below.refl w7.heap.size w7).alloc (Nat.le_refl _) (.cells #[.int .i64 k2, .bool neg2, .slice A2 n2 c2, .int .i64 ex2, .string t2, .slice LA2 ln2 lc2, .slice KA2 kn2 kc2] 34)) (fun b h => h.2)).more (fun b h => (show b < w7.heap.size from h.2)))
      clear hb7 hv2 hpo7
      go_wp2_with fail
      generalize (w7.alloc (.cells #[.int .i64 k2, .bool neg2, .slice A2 n2 c2, .int .i64 ex2, .string t2, .slice LA2 ln2 lc2, .slice KA2 kn2 kc2] 34)) = w8 at *
      refine (CopyBytes_c (c := c) w8 (by have h9 := HLV.out w8 HB8.out; rw [HN.out] at h9; exact h9) (by omega)).mono ?_
      rintro e w9 ⟨A9, c9, rfl, hrow9, hb9⟩
      have HB9 := Lib.hid (HB8.out.trans (hb9.mono HB8.out.size))
      have HB39 := Lib.hid (HB38.out.trans (hb9.mono HB38.out.size))
      have HB89 := Lib.hid hb9
      have HB69 := Lib.hid (HB68.out.trans (hb9.mono HB68.out.size))
      have HROW9 := Lib.hid (hrow9.alloc (.cells #[.int .u8 32] 5))
      have HSZ9 := Lib.hid (show w8.heap.size ≤ (w9.alloc (.cells #[.int .u8 32] 5)).heap.size from by have := hb9.size; simp; omega)
      have HC1 := Lib.hid (cell_one_new w9 (.int .u8 32) 5)
      clear hb9 hrow9
      have HX9 := Lib.hid ((HX6.out.below HB69.out (fun b h => h.2)).below (B := w9.heap.size) ((Below.refl w9.heap.size w9).alloc (Nat.le_refl _) (.cells #[.int .u8 32] 5)) (fun b h => Nat.lt_of_lt_of_le h.2 HB69.out.size))
      have HB9A := Lib.hid (HB9.out.alloc HB9.out.size (.cells #[.int .u8 32] 5))
      have HB39A := Lib.hid (HB39.out.alloc HB39.out.size (.cells #[.int .u8 32] 5))
      have HB89A := Lib.hid (HB89.out.alloc HB89.out.size (.cells #[.int .u8 32] 5))
      have HW68 := Lib.hid HB68.out.size
      have HW08 := Lib.hid HB8.out.size
      have HW38 := Lib.hid HB38.out.size
      have HGO := Lib.hid (fun (W' : World) (A' : Option Addr) (n' c' : Nat) (us : List Value) (W'' : World) (hr : RowV W' w8.heap.size 5 A' n' c' us) (hg : W'.grownBy W'' (Value.slice A' n' c').ownBlock) (hb : Below w8.heap.size w8 W') => show Below w8.heap.size W' W'' from (Below.refl _ _).grown hg hb.size (fun k hk => (ownsRow_lt hr.own hk).1))
      have HHC := Lib.hid (show ∀ k, EI = 0 → k = L ++ 32 :: X → rRead mkObj k = (V, n + 1 + m, 0) from fun k h1 h2 => by
        subst h2
        have h3 := HRR.out
        rw [show E = 0 by have := HEI.out; omega] at h3
        have h4 := rRead_behind mkObj (c := 32) (r := X) (by decide) HXW.out h3 (by rw [HN.out, HXL.out]; omega)
        rwa [HN.out, HXL.out] at h4)
      obtain ⟨R3, hR3⟩ : ∃ R3, rRead mkObj (L ++ 32 :: X) = R3 := ⟨_, rfl⟩
      have HR3 := Lib.hid hR3
      clear hR3
      have HC3 := Lib.hid (show EI = 0 → R3 = (V, n + 1 + m, 0) from fun h => by rw [← HR3.out]; exact HHC.out _ h rfl)
      have HRD3 := Lib.hid (fun (W : World) (A' : Option Addr) (c' : Nat) (hr : RowV W w8.heap.size 5 A' (n + 1 + m) c' (bs8 (L ++ 32 :: X))) (hW : Below w.heap.size w W) => show Calls Tryz.prog 13 #[.slice A' (n + 1 + m) c'] W (fun e w' => PoR (L ++ 32 :: X) W.heap.size e w' ∧ Below W.heap.size W w') from by
        obtain ⟨q1, q2, q3⟩ := hr.oct
        have h := Read_c (L := L ++ 32 :: X) (c := c') (w := W) (valC 64) q3 (HT.out.below hW) (by omega) (by omega)
        rw [q1] at h
        exact h)
      have HAP := Lib.hid (show (bs8 L ++ [.int .u8 32]) ++ bs8 X = bs8 (L ++ 32 :: X) from by simp [bs8])
      clear HB69 HHC HN HRR
      rcases HROW5.out.form with ⟨h5a, h5b, h5c⟩ | ⟨g5, h5a, -, -⟩
      · subst h5a
        subst h5c
        obtain rfl : X = [] := List.eq_nil_of_length_eq_zero (HXL.out.trans h5b)
        subst h5b
        obtain rfl : Q = P := by omega
        go_wp2_with (first
          | (at_builtin; refine wpList_append_own _ rfl (.tmp 59) (.tmp 60) _ rfl w8.heap.size 5 i0 (.int .u8 0) 1 1 Tryz.underlying22 hi hz0 hz1 hz2 rfl (by decide) (.slice A9 n c9) n (bs8 L) rfl HROW9.out.own ⟨w9.heap.size, 0, none⟩ 1 1 [.int .u8 32] rfl rfl HC1.out (by simp [Value.oneCell']) (by unfold maxLen; omega) (by omega) HSZ9.out ?_; intro v10 w10 hown10 hg10 _; obtain ⟨A10, c10, rfl, hrow10⟩ := RowV.of_row (by rw [List.length_append, bs8_length, HNL.out]; rfl) hown10; have HROW10 := Lib.hid hrow10; have HX10 := Lib.hid (HX9.out.grown hg10 (fun b hb => ⟨by have := HB89A.out.size; have := HW68.out; omega, fun h => by have := (ownsRow_lt HROW9.out.own h.symm).1; have := HW68.out; omega⟩)); have HB910 := Lib.hid (HGO.out _ A9 n c9 _ w10 HROW9.out hg10 HB89A.out); have HB810 := Lib.hid (HB89A.out.trans (HB910.out.mono (Nat.le_refl _))); have HB10 := Lib.hid (HB9A.out.trans (HB910.out.mono HW08.out)); have HB310 := Lib.hid (HB39A.out.trans (HB910.out.mono HW38.out)); clear hown10 hg10 hrow10)
          | (at_builtin; refine wpList_append_own_none rfl (.tmp 61) (.tmp 62) _ rfl w8.heap.size 5 i0 1 Tryz.underlying22 hi (.slice A10 (n + 1) c10) (n + 1) (bs8 L ++ [.int .u8 32]) rfl HROW10.out.own rfl ?_))
        have HROW11 := Lib.hid (show RowV w10 w8.heap.size 5 A10 (n + 1 + 0) c10 (bs8 (L ++ 32 :: [])) from by rw [← HAP.out]; simpa [bs8] using HROW10.out)
        have HB811 := Lib.hid HB810.out
        have HB11 := Lib.hid HB10.out
        have HB311 := Lib.hid HB310.out
        refine (HRD3.out w10 A10 c10 HROW11.out HB11.out).mono ?_
        rintro e w12 ⟨hpo3, hb12⟩
        obtain ⟨k3, neg3, A3, n3, c3, ex3, t3, LA3, ln3, lc3, KA3, kn3, kc3, rfl, -, hv3⟩ := hpo3.seven
        rw [HR3.out] at hv3 ⊢
        have HB13 := Lib.hid ((HB11.out.trans (hb12.mono HB11.out.size)).alloc (by have := HB11.out.size; have := hb12.size; omega) (.cells #[.int .i64 k3, .bool neg3, .slice A3 n3 c3, .int .i64 ex3, .string t3, .slice LA3 ln3 lc3, .slice KA3 kn3 kc3] 34))
        have HB313 := Lib.hid ((HB311.out.trans (hb12.mono HB311.out.size)).alloc (by have := HB311.out.size; have := hb12.size; omega) (.cells #[.int .i64 k3, .bool neg3, .slice A3 n3 c3, .int .i64 ex3, .string t3, .slice LA3 ln3 lc3, .slice KA3 kn3 kc3] 34))
        have HB813 := Lib.hid ((HB811.out.trans (hb12.mono HB811.out.size)).alloc (by have := HB811.out.size; have := hb12.size; omega) (.cells #[.int .i64 k3, .bool neg3, .slice A3 n3 c3, .int .i64 ex3, .string t3, .slice LA3 ln3 lc3, .slice KA3 kn3 kc3] 34))
        have HBX3 := Lib.hid (World.alloc_heap_new w12 (.cells #[.int .i64 k3, .bool neg3, .slice A3 n3 c3, .int .i64 ex3, .string t3, .slice LA3 ln3 lc3, .slice KA3 kn3 kc3] 34))
        have HS13 := Lib.hid (show (w12.alloc (.cells #[.int .i64 k3, .bool neg3, .slice A3 n3 c3, .int .i64 ex3, .string t3, .slice LA3 ln3 lc3, .slice KA3 kn3 kc3] 34)).heap.size = w12.heap.size + 1 from by simp)
        have HV313 := Lib.hid ((hv3.stay ((Below.refl w12.heap.size w12).alloc (Nat.le_refl _) (.cells #[.int .i64 k3, .bool neg3, .slice A3 n3 c3, .int .i64 ex3, .string t3, .slice LA3 ln3 lc3, .slice KA3 kn3 kc3] 34)) (fun b h => h.2)).more (fun b h => (show b < w12.heap.size from h.2)))
        clear hb12 hv3 hpo3
        by_cases hE0 : EI = 0
        · subst hE0
          have hr3 := HC3.out rfl
          rw [hr3] at HV313 ⊢
          dsimp only at HV313 ⊢
          obtain ⟨T, hT⟩ : ∃ T, n + 1 + 0 = T := ⟨_, rfl⟩
          rw [hT]
          have hn1 : IntKind.i64.wrap ((n : Int) + 1) = (n : Int) + 1 := IntWalk.i64_in _ (by omega)
          have hTi : (n : Int) + 1 = (T : Int) := by omega
          have hTw : IntKind.i64.wrap (T : Int) = (T : Int) := IntWalk.i64_in _ (by omega)
          clear hT hr3
          go_upto_region 12 with (go_at_call 10; refine (lnum7_c _ _).mono ?_; rintro e w' ⟨rfl, rfl⟩)
          generalize (w12.alloc (.cells #[.int .i64 k3, .bool neg3, .slice A3 n3 c3, .int .i64 ex3, .string t3, .slice LA3 ln3 lc3, .slice KA3 kn3 kc3] 34)) = w13 at *
          have hbx1 := fun W (h : Below w13.heap.size w13 W) => (h.block w2.heap.size (by have := HS3.out; have := HB313.out.size; omega)).trans ((HB313.out.block w2.heap.size (by have := HS3.out; omega)).trans HBX1.out)
          have hbx2 := fun W (h : Below w13.heap.size w13 W) => (h.block w7.heap.size (by have := HS8.out; have := HB813.out.size; omega)).trans ((HB813.out.block w7.heap.size (by have := HS8.out; omega)).trans HBX2.out)
          have hbx3 := fun W (h : Below w13.heap.size w13 W) => (h.block w12.heap.size (by have := HS13.out; omega)).trans HBX3.out
          have HSA := Lib.hid (fun W (h : Below w13.heap.size w13 W) => same_c V V (fun b => b < w2.heap.size) (fun b => b < w7.heap.size) _ _ W ((HV13.out.stay HB313.out (fun b hb => by have := HS3.out; omega)).stay h (fun b hb => by have := HS3.out; have := HB313.out.size; omega)) ((HV28.out.stay HB813.out (fun b hb => by have := HS8.out; omega)).stay h (fun b hb => by have := HS8.out; have := HB813.out.size; omega)) (fun b hb => by have := HS3.out; have := HB313.out.size; have := h.size; omega) (fun b hb => by have := HS8.out; have := HB813.out.size; have := h.size; omega))
          have HSB := Lib.hid (fun W (h : Below w13.heap.size w13 W) => same_c V V (fun b => b < w2.heap.size) (fun b => b < w12.heap.size) _ _ W ((HV13.out.stay HB313.out (fun b hb => by have := HS3.out; omega)).stay h (fun b hb => by have := HS3.out; have := HB313.out.size; omega)) (HV313.out.stay h (fun b hb => by have := HS13.out; omega)) (fun b hb => by have := HS3.out; have := HB313.out.size; have := h.size; omega) (fun b hb => by have := HS13.out; have := h.size; omega))
          rw [show sameV V V = true from sameV_iff.2 rfl] at HSA HSB
          have H1 := Lib.hid hbx1
          have H2 := Lib.hid hbx2
          have H3 := Lib.hid hbx3
          obtain ⟨x0, x1, x2, x3, x4, x5, x6⟩ := box7_of (H1.out w13 (Below.refl _ _))
          obtain ⟨y0, y1, y2, y3, y4, y5, y6⟩ := box7_of (H2.out w13 (Below.refl _ _))
          clear hbx1 hbx2 hbx3 HBX1 HBX2 HBX3 HV13 HV28 HV313
          go_wp2_with (go_at_call 10; refine (lnum7_c _ _).mono ?_; rintro e w' ⟨rfl, rfl⟩)
          refine (HSA.out w13 (Below.refl _ _)).mono ?_
          rintro e w14 ⟨rfl, hb14⟩
          have HB14 := Lib.hid hb14
          clear x0 x1 x2 x3 x4 x5 x6 y0 y1 y2 y3 y4 y5 y6 hb14
          obtain ⟨x0, x1, x2, x3, x4, x5, x6⟩ := box7_of (H1.out w14 HB14.out)
          obtain ⟨y0, y1, y2, y3, y4, y5, y6⟩ := box7_of (H3.out w14 HB14.out)
          go_wp2_with fail
          refine (HSB.out w14 HB14.out).mono ?_
          rintro e w15 ⟨rfl, hb15⟩
          have HB15 := Lib.hid (HB13.out.trans ((HB14.out.trans (hb15.mono HB14.out.size)).mono HB13.out.size))
          clear x0 x1 x2 x3 x4 x5 x6 y0 y1 y2 y3 y4 y5 y6 hb15
          go_wp2_with fail
          go_ret
          exact ⟨by first | rfl | simp, HB15.out⟩
        · have hE0b : (EI == 0) = false := by simpa using hE0
          go_wp2_with (go_at_call 10; refine (lnum7_c _ _).mono ?_; rintro e w' ⟨rfl, rfl⟩)
          go_ret
          exact ⟨by first | rfl | simp, HB13.out⟩
      · subst h5a
        go_wp2_with (first
          | (at_builtin; refine wpList_append_own _ rfl (.tmp 59) (.tmp 60) _ rfl w8.heap.size 5 i0 (.int .u8 0) 1 1 Tryz.underlying22 hi hz0 hz1 hz2 rfl (by decide) (.slice A9 n c9) n (bs8 L) rfl HROW9.out.own ⟨w9.heap.size, 0, none⟩ 1 1 [.int .u8 32] rfl rfl HC1.out (by simp [Value.oneCell']) (by unfold maxLen; omega) (by omega) HSZ9.out ?_; intro v10 w10 hown10 hg10 _; obtain ⟨A10, c10, rfl, hrow10⟩ := RowV.of_row (by rw [List.length_append, bs8_length, HNL.out]; rfl) hown10; have HROW10 := Lib.hid hrow10; have HX10 := Lib.hid (HX9.out.grown hg10 (fun b hb => ⟨by have := HB89A.out.size; have := HW68.out; omega, fun h => by have := (ownsRow_lt HROW9.out.own h.symm).1; have := HW68.out; omega⟩)); have HB910 := Lib.hid (HGO.out _ A9 n c9 _ w10 HROW9.out hg10 HB89A.out); have HB810 := Lib.hid (HB89A.out.trans (HB910.out.mono (Nat.le_refl _))); have HB10 := Lib.hid (HB9A.out.trans (HB910.out.mono HW08.out)); have HB310 := Lib.hid (HB39A.out.trans (HB910.out.mono HW38.out)); clear hown10 hg10 hrow10)
          | (at_builtin; refine wpList_append_own _ rfl (.tmp 61) (.tmp 62) _ rfl w8.heap.size 5 i0 (.int .u8 0) 1 1 Tryz.underlying22 hi hz0 hz1 hz2 rfl (by decide) (.slice A10 (n + 1) c10) (n + 1) (bs8 L ++ [.int .u8 32]) rfl HROW10.out.own ⟨g5, 0, none⟩ m c5 (bs8 X) rfl (by rw [bs8_length, HXL.out, Nat.mul_one]) HX10.out.cellsAt (bs8_one X) (by unfold maxLen; omega) (by omega) HB810.out.size ?_; intro v11 w11 hown11 hg11 _; rw [HAP.out] at hown11; obtain ⟨A11, c11, rfl, hrow11⟩ := RowV.of_row (by rw [bs8_length, List.length_append, List.length_cons, HXL.out, HNL.out]; omega) hown11; have HROW11 := Lib.hid hrow11; have HB1011 := Lib.hid (HGO.out w10 A10 (n + 1) c10 _ w11 HROW10.out hg11 HB810.out); clear hown11 hg11 hrow11))
        have HB811 := Lib.hid (HB810.out.trans (HB1011.out.mono (Nat.le_refl _)))
        have HB11 := Lib.hid (HB10.out.trans (HB1011.out.mono HW08.out))
        have HB311 := Lib.hid (HB310.out.trans (HB1011.out.mono HW38.out))
        refine (HRD3.out w11 A11 c11 HROW11.out HB11.out).mono ?_
        rintro e w12 ⟨hpo3, hb12⟩
        obtain ⟨k3, neg3, A3, n3, c3, ex3, t3, LA3, ln3, lc3, KA3, kn3, kc3, rfl, -, hv3⟩ := hpo3.seven
        rw [HR3.out] at hv3 ⊢
        have HB13 := Lib.hid ((HB11.out.trans (hb12.mono HB11.out.size)).alloc (by have := HB11.out.size; have := hb12.size; omega) (.cells #[.int .i64 k3, .bool neg3, .slice A3 n3 c3, .int .i64 ex3, .string t3, .slice LA3 ln3 lc3, .slice KA3 kn3 kc3] 34))
        have HB313 := Lib.hid ((HB311.out.trans (hb12.mono HB311.out.size)).alloc (by have := HB311.out.size; have := hb12.size; omega) (.cells #[.int .i64 k3, .bool neg3, .slice A3 n3 c3, .int .i64 ex3, .string t3, .slice LA3 ln3 lc3, .slice KA3 kn3 kc3] 34))
        have HB813 := Lib.hid ((HB811.out.trans (hb12.mono HB811.out.size)).alloc (by have := HB811.out.size; have := hb12.size; omega) (.cells #[.int .i64 k3, .bool neg3, .slice A3 n3 c3, .int .i64 ex3, .string t3, .slice LA3 ln3 lc3, .slice KA3 kn3 kc3] 34))
        have HBX3 := Lib.hid (World.alloc_heap_new w12 (.cells #[.int .i64 k3, .bool neg3, .slice A3 n3 c3, .int .i64 ex3, .string t3, .slice LA3 ln3 lc3, .slice KA3 kn3 kc3] 34))
        have HS13 := Lib.hid (show (w12.alloc (.cells #[.int .i64 k3, .bool neg3, .slice A3 n3 c3, .int .i64 ex3, .string t3, .slice LA3 ln3 lc3, .slice KA3 kn3 kc3] 34)).heap.size = w12.heap.size + 1 from by simp)
        have HV313 := Lib.hid ((hv3.stay ((Below.refl w12.heap.size w12).alloc (Nat.le_refl _) (.cells #[.int .i64 k3, .bool neg3, .slice A3 n3 c3, .int .i64 ex3, .string t3, .slice LA3 ln3 lc3, .slice KA3 kn3 kc3] 34)) (fun b h => h.2)).more (fun b h => (show b < w12.heap.size from h.2)))
        clear hb12 hv3 hpo3
        by_cases hE0 : EI = 0
        · subst hE0
          have hr3 := HC3.out rfl
          rw [hr3] at HV313 ⊢
          dsimp only at HV313 ⊢
          obtain ⟨T, hT⟩ : ∃ T, n + 1 + m = T := ⟨_, rfl⟩
          rw [hT]
          have hn1 : IntKind.i64.wrap ((n : Int) + 1) = (n : Int) + 1 := IntWalk.i64_in _ (by omega)
          have hTi : (n : Int) + 1 + (m : Int) = (T : Int) := by omega
          have hTw : IntKind.i64.wrap (T : Int) = (T : Int) := IntWalk.i64_in _ (by omega)
          clear hT hr3
          go_upto_region 12 with (go_at_call 10; refine (lnum7_c _ _).mono ?_; rintro e w' ⟨rfl, rfl⟩)
          generalize (w12.alloc (.cells #[.int .i64 k3, .bool neg3, .slice A3 n3 c3, .int .i64 ex3, .string t3, .slice LA3 ln3 lc3, .slice KA3 kn3 kc3] 34)) = w13 at *
          have hbx1 := fun W (h : Below w13.heap.size w13 W) => (h.block w2.heap.size (by have := HS3.out; have := HB313.out.size; omega)).trans ((HB313.out.block w2.heap.size (by have := HS3.out; omega)).trans HBX1.out)
          have hbx2 := fun W (h : Below w13.heap.size w13 W) => (h.block w7.heap.size (by have := HS8.out; have := HB813.out.size; omega)).trans ((HB813.out.block w7.heap.size (by have := HS8.out; omega)).trans HBX2.out)
          have hbx3 := fun W (h : Below w13.heap.size w13 W) => (h.block w12.heap.size (by have := HS13.out; omega)).trans HBX3.out
          have HSA := Lib.hid (fun W (h : Below w13.heap.size w13 W) => same_c V V (fun b => b < w2.heap.size) (fun b => b < w7.heap.size) _ _ W ((HV13.out.stay HB313.out (fun b hb => by have := HS3.out; omega)).stay h (fun b hb => by have := HS3.out; have := HB313.out.size; omega)) ((HV28.out.stay HB813.out (fun b hb => by have := HS8.out; omega)).stay h (fun b hb => by have := HS8.out; have := HB813.out.size; omega)) (fun b hb => by have := HS3.out; have := HB313.out.size; have := h.size; omega) (fun b hb => by have := HS8.out; have := HB813.out.size; have := h.size; omega))
          have HSB := Lib.hid (fun W (h : Below w13.heap.size w13 W) => same_c V V (fun b => b < w2.heap.size) (fun b => b < w12.heap.size) _ _ W ((HV13.out.stay HB313.out (fun b hb => by have := HS3.out; omega)).stay h (fun b hb => by have := HS3.out; have := HB313.out.size; omega)) (HV313.out.stay h (fun b hb => by have := HS13.out; omega)) (fun b hb => by have := HS3.out; have := HB313.out.size; have := h.size; omega) (fun b hb => by have := HS13.out; have := h.size; omega))
          rw [show sameV V V = true from sameV_iff.2 rfl] at HSA HSB
          have H1 := Lib.hid hbx1
          have H2 := Lib.hid hbx2
          have H3 := Lib.hid hbx3
          obtain ⟨x0, x1, x2, x3, x4, x5, x6⟩ := box7_of (H1.out w13 (Below.refl _ _))
          obtain ⟨y0, y1, y2, y3, y4, y5, y6⟩ := box7_of (H2.out w13 (Below.refl _ _))
          clear hbx1 hbx2 hbx3 HBX1 HBX2 HBX3 HV13 HV28 HV313
          go_wp2_with (go_at_call 10; refine (lnum7_c _ _).mono ?_; rintro e w' ⟨rfl, rfl⟩)
          refine (HSA.out w13 (Below.refl _ _)).mono ?_
          rintro e w14 ⟨rfl, hb14⟩
          have HB14 := Lib.hid hb14
          clear x0 x1 x2 x3 x4 x5 x6 y0 y1 y2 y3 y4 y5 y6 hb14
          obtain ⟨x0, x1, x2, x3, x4, x5, x6⟩ := box7_of (H1.out w14 HB14.out)
          obtain ⟨y0, y1, y2, y3, y4, y5, y6⟩ := box7_of (H3.out w14 HB14.out)
          go_wp2_with fail
          refine (HSB.out w14 HB14.out).mono ?_
          rintro e w15 ⟨rfl, hb15⟩
          have HB15 := Lib.hid (HB13.out.trans ((HB14.out.trans (hb15.mono HB14.out.size)).mono HB13.out.size))
          clear x0 x1 x2 x3 x4 x5 x6 y0 y1 y2 y3 y4 y5 y6 hb15
          go_wp2_with fail
          go_ret
          exact ⟨by first | rfl | simp, HB15.out⟩
        · have hE0b : (EI == 0) = false := by simpa using hE0
          go_wp2_with (go_at_call 10; refine (lnum7_c _ _).mono ?_; rintro e w' ⟨rfl, rfl⟩)
          go_ret
          exact ⟨by first | rfl | simp, HB13.out⟩
end Go.Proofs.YtpjllcengnolkaaGreatDoor
