/-
  Contract of the reference's Read, where nothing is wrong; octets out of a text.
  The walk of the law PrinterQuotes: it returns true, whatever the text is.
-/
import Derived.Test.YtcanfiaooabocaaGreatDoorQWnx
import Derived.Lib.ConvBytes
import Derived.Test.YtcanfiaooabocaaGreatDoorQWal
set_option linter.unusedVariables false
set_option linter.unusedSimpArgs false
namespace Go.Proofs.YtcanfiaooabocaaGreatDoor
open Go.RowKit Go.Lib

theorem textBelow (w : World) (s : ByteArray) : Below w.heap.size w (Go.Lib.bytesWorld w 5 s) :=
  ⟨rfl, rfl, rfl, by rw [Go.Lib.bytesWorld_size]; omega, fun k hk => Go.Lib.bytesWorld_at_old _ _ _ _ hk⟩
theorem textOct (w : World) (L : List UInt8) : ∀ k x, L[k]? = some x → ∃ g off, (some ⟨w.heap.size, 0, none⟩ : Option Addr) = some ⟨g, off, none⟩ ∧ g < w.heap.size + 1 ∧ (Go.Lib.bytesWorld w 5 ⟨L.toArray⟩).cell? ⟨g, off + k, none⟩ = some (.int .u8 (x.toNat : Int)) := fun k x hk => by
  have hl := (List.getElem?_eq_some_iff.1 hk).1
  refine ⟨_, _, rfl, by omega, ?_⟩
  have h := Go.Lib.bytesWorld_cell w 5 ⟨L.toArray⟩ k (by show k < L.toArray.size; rw [List.size_toArray]; exact hl)
  rw [Nat.zero_add, h]
  show some (Value.int .u8 (((L.toArray.toList).getD k 0).toNat : Int)) = _
  rw [List.toList_toArray, List.getD_eq_getElem?_getD, hk]
  rfl
theorem textConv (w : World) (L : List UInt8) : (convert 9 38 (.string ⟨L.toArray⟩)).run Tryz.prog w = .ok (.slice (some ⟨w.heap.size, 0, none⟩) L.length (grownCap w L.length 0 5)) (Go.Lib.bytesWorld w 5 ⟨L.toArray⟩) := by
  have h := Go.Lib.run_convert_string_bytes (P := Tryz.prog) w 9 38 5 ⟨L.toArray⟩ Tryz.underlying9 Tryz.underlying38 Tryz.underlying5
  have hs : (⟨L.toArray⟩ : ByteArray).size = L.length := by show L.toArray.size = _; simp
  rw [hs] at h
  exact h
set_option maxRecDepth 4000000 in
set_option maxHeartbeats 4000000 in
theorem rReadOk_c {B : Nat} {L : List UInt8} {A : Option Addr} {c P q : Nat} {a : VT} (w : World) (hoct : ∀ k x, L[k]? = some x → ∃ g off, A = some ⟨g, off, none⟩ ∧ g < B ∧ w.cell? ⟨g, off + k, none⟩ = some (.int .u8 (x.toNat : Int))) (hB : B ≤ w.heap.size)
    (hfit : L.length ≤ 65536) (hcap : L.length ≤ c) (hP : (L.takeWhile isWs).length = P) (hne : P < L.length) (hv : RvOk L P q a) (hGd : Gd a) (hsz : (partsV a).length ≤ 16384) (hqL : q ≤ L.length) (hend : q + ((L.drop q).takeWhile isWs).length = L.length) :
    Calls Tryz.prog 14 #[.slice A L.length c] w fun e w' => ∃ cs : List Value, e = .returned (.tuple #[.agg cs.toArray, .int .i64 (L.length : Int), .int .i64 0]) ∧ VIn w' (fun b => w.heap.size ≤ b ∧ b < w'.heap.size) a cs ∧ Below w.heap.size w w' := by
  obtain ⟨rs, hrs⟩ : ∃ b, w.heap.size = b := ⟨_, rfl⟩
  have hb0 : Below w.heap.size w (w.alloc (.cells #[.int .i64 0, .bool false, .slice none 0 0, .int .i64 0, .string ⟨#[]⟩, .slice none 0 0, .slice none 0 0] 28)) := (Below.refl _ w).alloc (Nat.le_refl _) _
  have hm := World.alloc_heap_new w (.cells #[.int .i64 0, .bool false, .slice none 0 0, .int .i64 0, .string ⟨#[]⟩, .slice none 0 0, .slice none 0 0] 28)
  have hs0 : (w.alloc (.cells #[.int .i64 0, .bool false, .slice none 0 0, .int .i64 0, .string ⟨#[]⟩, .slice none 0 0, .slice none 0 0] 28)).heap.size = rs + 1 := by rw [World.size_alloc, hrs]
  have ho0 : ∀ k x, L[k]? = some x → ∃ g off, A = some ⟨g, off, none⟩ ∧ g < B ∧ (w.alloc (.cells #[.int .i64 0, .bool false, .slice none 0 0, .int .i64 0, .string ⟨#[]⟩, .slice none 0 0, .slice none 0 0] 28)).cell? ⟨g, off + k, none⟩ = some (.int .u8 (x.toNat : Int)) := fun k x hk => by
    obtain ⟨g, off, h1, h2, h3⟩ := hoct k x hk
    exact ⟨g, off, h1, h2, (hb0.cell (p := ⟨g, off + k, none⟩) (by show g < _; omega)).trans h3⟩
  rw [hrs] at hm hB hb0 ⊢
  have HM := Lib.hid hm
  have HB0 := Lib.hid hb0
  have HO0 := Lib.hid ho0
  have HS0 := Lib.hid hs0
  have HV := Lib.hid hv
  have HP := Lib.hid hP
  have HE := Lib.hid hend
  clear hm hb0 ho0 hoct hs0 hv hP hend
  go_enter Tryz.func14, Tryz.ntmps14
  go_wp2_with fail
  try rw [hrs]
  clear hrs
  generalize (w.alloc (.cells #[.int .i64 0, .bool false, .slice none 0 0, .int .i64 0, .string ⟨#[]⟩, .slice none 0 0, .slice none 0 0] 28)) = w0 at *
  refine (rNextOk_c (p := 0) w0 HO0.out (by rw [HS0.out]; omega) hfit hcap (by omega) (P := P) (by rw [List.drop_zero, HP.out]; omega) hne HV.out hGd hsz).mono ?_
  rintro e9 w1 ⟨cs, rfl, hx, hb1⟩
  rw [HS0.out] at hx hb1
  obtain ⟨k1, neg1, xs1, e1, t1, li1, ks1, hak⟩ : ∃ k neg xs e t li ks, a = VT.mk k neg xs e t li ks := by cases a; exact ⟨_, _, _, _, _, _, _, rfl⟩
  have hvb := hx
  rw [hak] at hvb
  obtain ⟨A1, n1, c1, LA1, ln1, lc1, KA1, kn1, kc1, rfl, -⟩ := hvb.parts
  clear hvb hak
  obtain ⟨tb, htb⟩ : ∃ b, w1.heap.size = b := ⟨_, rfl⟩
  have hsz1 : rs + 1 ≤ tb := by have := hb1.size; rw [HS0.out] at this; omega
  have hb2 : Below tb w1 (w1.alloc (.cells #[.int .i64 k1, .bool neg1, .slice A1 n1 c1, .int .i64 e1, .string t1, .slice LA1 ln1 lc1, .slice KA1 kn1 kc1] 28)) := (Below.refl _ w1).alloc (Nat.le_of_eq htb.symm) _
  have hm2 := World.alloc_heap_new w1 (.cells #[.int .i64 k1, .bool neg1, .slice A1 n1 c1, .int .i64 e1, .string t1, .slice LA1 ln1 lc1, .slice KA1 kn1 kc1] 28)
  rw [htb] at hm2
  have hmr := (hb2.block rs (by omega)).trans ((hb1.block rs (by omega)).trans HM.out)
  have HB2 := Lib.hid hb2
  have HB1 := Lib.hid hb1
  have HX := Lib.hid hx
  have HSZ := Lib.hid hsz1
  have HTB := Lib.hid htb
  clear hb1 hb2 hx hsz1
  go_wp2_with fail
  try rw [htb]
  clear htb
  generalize (w1.alloc (.cells #[.int .i64 k1, .bool neg1, .slice A1 n1 c1, .int .i64 e1, .string t1, .slice LA1 ln1 lc1, .slice KA1 kn1 kc1] 28)) = w2 at *
  obtain ⟨z0, z1, z2, z3, z4, z5, z6⟩ := box7_of hm2
  obtain ⟨y0, y1, y2, y3, y4, y5, y6⟩ := box7_of hmr
  have fy : ∀ j, w2.frozen? ⟨rs, j, none⟩ = false := fun j => frozen_of_row w2 _ j _ _ hmr
  have HMR := Lib.hid hmr
  have hrt : ¬ rs = tb := by have := HSZ.out; omega
  have htr : ¬ tb = rs := by have := HSZ.out; omega
  clear hm2 hmr
  refine (rSpace_c w2 (fun j x h => by
    obtain ⟨g, off, h1, h2, h3⟩ := HO0.out j x h
    have := HSZ.out
    exact ⟨g, off, h1, (HB2.out.cell (p := ⟨g, off + j, none⟩) (by show g < tb; omega)).trans ((HB1.out.cell (p := ⟨g, off + j, none⟩) (by show g < rs + 1; omega)).trans h3)⟩) hfit hqL).mono ?_
  rintro e9 w3 ⟨rfl, rfl⟩
  rw [HE.out]
  go_wp2_with fail
  have hset : But (fun k => k = rs) w2 (((((((w2.setCell ⟨rs, 0, none⟩ (.int .i64 k1)).setCell ⟨rs, 1, none⟩ (.bool neg1)).setCell ⟨rs, 2, none⟩ (.slice A1 n1 c1)).setCell ⟨rs, 3, none⟩ (.int .i64 e1)).setCell ⟨rs, 4, none⟩ (.string t1)).setCell ⟨rs, 5, none⟩ (.slice LA1 ln1 lc1)).setCell ⟨rs, 6, none⟩ (.slice KA1 kn1 kc1)) := But.setCell (C := fun k => k = rs) (p := ⟨rs, 6, none⟩) (But.setCell (C := fun k => k = rs) (p := ⟨rs, 5, none⟩) (But.setCell (C := fun k => k = rs) (p := ⟨rs, 4, none⟩) (But.setCell (C := fun k => k = rs) (p := ⟨rs, 3, none⟩) (But.setCell (C := fun k => k = rs) (p := ⟨rs, 2, none⟩) (But.setCell (C := fun k => k = rs) (p := ⟨rs, 1, none⟩) (But.setCell (C := fun k => k = rs) (p := ⟨rs, 0, none⟩) (But.refl (fun k => k = rs) w2) (.inl rfl) _) (.inl rfl) _) (.inl rfl) _) (.inl rfl) _) (.inl rfl) _) (.inl rfl) _) (.inl rfl) _
  have h7 := set_heap (i := 6) (u := .slice KA1 kn1 kc1) (set_heap (i := 5) (u := .slice LA1 ln1 lc1) (set_heap (i := 4) (u := .string t1) (set_heap (i := 3) (u := .int .i64 e1) (set_heap (i := 2) (u := .slice A1 n1 c1) (set_heap (i := 1) (u := .bool neg1) (set_heap (i := 0) (u := .int .i64 k1) HMR.out))))))
  simp only [List.setIfInBounds_toArray, List.set_cons_zero, List.set_cons_succ] at h7
  generalize (((((((w2.setCell ⟨rs, 0, none⟩ (.int .i64 k1)).setCell ⟨rs, 1, none⟩ (.bool neg1)).setCell ⟨rs, 2, none⟩ (.slice A1 n1 c1)).setCell ⟨rs, 3, none⟩ (.int .i64 e1)).setCell ⟨rs, 4, none⟩ (.string t1)).setCell ⟨rs, 5, none⟩ (.slice LA1 ln1 lc1)).setCell ⟨rs, 6, none⟩ (.slice KA1 kn1 kc1)) = w5 at *
  clear y0 y1 y2 y3 y4 y5 y6
  obtain ⟨y0, y1, y2, y3, y4, y5, y6⟩ := box7_of h7
  refine bodyPost_ret (v := .tuple #[.agg #[.int .i64 k1, .bool neg1, .slice A1 n1 c1, .int .i64 e1, .string t1, .slice LA1 ln1 lc1, .slice KA1 kn1 kc1], .int .i64 (L.length : Int), .int .i64 0]) (by simp [results, Tryz.results14, go_sem, y0, y1, y2, y3, y4, y5, y6]) rfl ?_
  have hsz1 := HSZ.out
  have hs2 := HB2.out.size
  have hs5 := hset.size
  have htb := HTB.out
  refine ⟨_, rfl, ((HX.out.keep (w' := w2) fun p hp => HB2.out.cell (p := p) (by have := hp.2; omega)).keep (w' := w5) fun p hp => hset.cell (p := p) (by have := hp.2; omega) (fun e => by have := hp.1; omega)).more fun b h => ⟨by omega, by have := h.2; omega⟩, ?_⟩
  exact ((HB0.out.trans (HB1.out.mono (by omega))).trans (HB2.out.mono (by omega))).trans (hset.below (by omega) (fun k hk e => by omega))
end Go.Proofs.YtcanfiaooabocaaGreatDoor

namespace Go.Proofs.YtcanfiaooabocaaGreatDoor
open Go.RowKit Go.Lib

theorem takeWs_quote (r : List UInt8) : (34 :: r).takeWhile isWs = [] := by rw [List.takeWhile_cons_of_neg (by decide)]
theorem parts_text (t : ByteArray) : partsV (.mk 4 false [] 0 t [] []) = [.mk 4 false [] 0 t [] []] := by
  rw [parts_eq, inner_mk]; rfl
theorem gd_text {t : ByteArray} (h1 : isT t.data.toList = true) (h2 : t.size ≤ 16384) : Gd (.mk 4 false [] 0 t [] []) := fun y hy => by
  rw [parts_text] at hy
  obtain rfl := List.mem_singleton.1 hy
  unfold alone ownT
  simp only [VT.kind, VT.inner, fitV, VT.neg, VT.num, VT.exp, VT.text, VT.list, VT.keys, Proofs.YtcanfiaooabocaaGreatDoor.hold]
  simp [h1]
  omega
set_option maxRecDepth 4000000 in
set_option maxHeartbeats 4000000 in
theorem printerQuotes_c (s : ByteArray) (w : World) (hG : Gl w.heap.size w) (hs : s.size ≤ 1048576) :
    Calls Tryz.prog 5 #[.string s] w fun e w' => e = .returned (.bool true) ∧ Below w.heap.size w w' := by
  have HG := Lib.hid hG
  clear hG
  go_enter Tryz.func5, Tryz.ntmps5
  go_wp2_with fail
  refine (alive9_c w HG.out).mono ?_
  rintro e9 w1 ⟨rfl, hb1⟩
  have hG1 : Gl w1.heap.size w1 := ((HG.out).low hb1).up hb1.size
  have HB1 := Lib.hid hb1
  have hq := quote_c s w1 hG1 (by omega)
  have HQ := Lib.hid hq
  clear hb1 hG1 hq
  go_wp2_with fail
  refine HQ.out.mono ?_
  rintro e9 w2 ⟨he, hb2⟩
  have HB2 := Lib.hid (HB1.out.trans (hb2.mono HB1.out.size))
  clear hb2 HQ
  unfold QuoE at he
  by_cases h0 : errT s.data.toList = 0
  · rw [if_neg (fun h => h h0)] at he
    subst he
    have hT : isT s.data.toList = true := by
      unfold errT at h0
      by_cases h : isT s.data.toList = true
      · exact h
      · rw [if_neg h] at h0; omega
    obtain ⟨L, hL⟩ : ∃ L, txtL quoteC s = L := ⟨_, rfl⟩
    obtain ⟨Q, hQ⟩ : ∃ Q : ByteArray, (⟨L.toArray⟩ : ByteArray) = Q := ⟨_, rfl⟩
    have hQs : Q.size = L.length := by rw [← hQ]; show L.toArray.size = _; simp
    rw [hL, hQ]
    have HL := Lib.hid hL
    have HQ2 := Lib.hid hQ
    have HT := Lib.hid hT
    clear hL hQ hT h0
    by_cases h1 : 16384 < s.size
    · go_wp2_with (go_at_call 12; refine (lnum9_c _ _).mono ?_; rintro e w' ⟨rfl, rfl⟩)
      go_ret
      exact ⟨rfl, HB2.out⟩
    · have h1' : s.size ≤ 16384 := by omega
      clear h1
      by_cases h2 : 65536 < Q.size
      · go_wp2_with (go_at_call 12; refine (lnum9_c _ _).mono ?_; rintro e w' ⟨rfl, rfl⟩)
        go_ret
        exact ⟨rfl, HB2.out⟩
      · have h2' : Q.size ≤ 65536 := by omega
        clear h2
        have hcv : ∀ W : World, (convert 9 38 (.string Q)).run Tryz.prog W = .ok (.slice (some ⟨W.heap.size, 0, none⟩) L.length (grownCap W L.length 0 5)) (Go.Lib.bytesWorld W 5 Q) := fun W => by
          rw [← HQ2.out]; exact textConv W L
        have htx := textQ Qc_plain HT.out h1' []
        rw [List.append_nil, HL.out] at htx
        have hL0 : ∃ r, L = 34 :: r := ⟨_, HL.out.symm⟩
        obtain ⟨r, hr⟩ := hL0
        have hx : L[0]? = some 34 := by rw [hr]; rfl
        have hfit : L.length ≤ 65536 := by omega
        have hpos : 0 < L.length := by rw [hr]; simp
        have hrd := fun W : World => rReadOk_c (A := some ⟨W.heap.size, 0, none⟩) (c := grownCap W L.length 0 5) (P := 0) (q := L.length) (Go.Lib.bytesWorld W 5 Q) (by rw [← HQ2.out]; exact textOct W L) (by rw [Go.Lib.bytesWorld_size]; omega) hfit (grownCap_ge _ _ _ _) (by rw [hr, takeWs_quote]; rfl) hpos (rvText hx htx (Nat.le_refl _) (by omega)) (gd_text HT.out h1') (by rw [parts_text]; simp) (Nat.le_refl _) (by simp)
        have HR := Lib.hid hrd
        have HTQ := Lib.hid htx
        clear hrd hx htx hr hfit hpos
        go_wp2_with (go_at_call 12; refine (lnum9_c _ _).mono ?_; rintro e w' ⟨rfl, rfl⟩)
        refine (HR.out w2).mono ?_
        rintro e9 w3 ⟨cs, rfl, hx, hb3⟩
        obtain ⟨A1, n1, c1, LA1, ln1, lc1, KA1, kn1, kc1, rfl, -⟩ := hx.parts
        have HB3 := Lib.hid (HB2.out.trans (((textBelow w2 Q).trans (hb3.mono (by rw [Go.Lib.bytesWorld_size]; omega))).mono HB2.out.size))
        have hss : (s.toList == s.toList) = true := by simp
        clear hb3 hx
        go_wp2_with fail
        go_ret
        exact ⟨rfl, HB3.out.alloc HB3.out.size _⟩
  · rw [if_pos h0] at he
    subst he
    have hne : ¬ ((errT s.data.toList : Nat) : Int) = 0 := by omega
    generalize ((errT s.data.toList : Nat) : Int) = E at *
    go_wp2_with (go_at_call 12; refine (lnum9_c _ _).mono ?_; rintro e w' ⟨rfl, rfl⟩)
    go_ret
    exact ⟨rfl, HB2.out⟩
end Go.Proofs.YtcanfiaooabocaaGreatDoor
