/-
  Contract of the scan's object, over that of its values. Under way.
-/
import Derived.Test.YtpjllcengnolkaaGreatDoorPLob
set_option linter.unusedVariables false
set_option linter.unusedSimpArgs false
namespace Go.Proofs.YtpjllcengnolkaaGreatDoor
open Go.RowKit Go.Lib
variable {B : Nat} {L : List UInt8} {A : Option Addr} {c sb : Nat}
theorem list7' {α : Type} {l : List α} (h : l.length = 7) : ∃ a b c d e f g, l = [a, b, c, d, e, f, g] := by
  match l, h with
  | [a, b, c, d, e, f, g], _ => exact ⟨a, b, c, d, e, f, g, rfl⟩
theorem pair_up {k nth p q : Nat} {a : ByteArray × VT} (hp : p ≤ L.length) (h : rPair k nth L p = .ok a q) : p < q := by
  rcases Nat.lt_or_ge p L.length with h1 | h1
  · exact Up1.pair mkObj k nth L p a q h1 h
  · obtain rfl : p = L.length := by omega
    have h2 : L[L.length]? = none := List.getElem?_eq_none (Nat.le_refl _)
    unfold rPair rAt rKey rAt rPeek at h
    rw [h2] at h
    exact absurd h (by simp [RR.bind])
theorem rPair_size {k nth p q : Nat} {a : ByteArray × VT} (h : rPair k nth L p = .ok a q) : a.1.size ≤ 16384 := by
  unfold rPair rAt at h
  cases h1 : rKey nth L p with
  | bad x y => rw [h1] at h; simp [RR.bind] at h
  | ok key q1 =>
    rw [h1] at h
    simp only [RR.bind, rSkips_ok] at h
    cases h2 : rNeed (· == 58) L (wsE L q1) with
    | bad x y => rw [h2] at h; simp [RR.bind] at h
    | ok u q2 =>
      rw [h2] at h
      simp only [RR.bind, rSkips_ok] at h
      cases h3 : rValue mkObj k nth L (wsE L q2) with
      | bad x y => rw [h3] at h; simp [RR.bind] at h
      | ok v q3 =>
        rw [h3] at h
        injection h with h4 h5
        subst h4
        exact rKey_size h1
set_option maxRecDepth 100000 in
set_option maxHeartbeats 4000000 in
theorem robject_c {k : Nat} (ih : ValC k) {w : World} {p o : Nat} (E : Env B L A c sb w p o) (hko : k + (o + 1) = 64) (hcap : L.length ≤ c) (hpl : p < L.length) :
    Calls Tryz.prog 38 #[ptr sb] w (Po B L A c sb (fun k => k = sb) o (rV w.heap.size) w ((rItems 125 (rPair k) L p).bind fun l q => rHeld p (mkObj l) L q)) := by
  have hmf : ∀ (fn : Fn) (first cap : Array Value) (w : World), (Instr.makeFunc fn first cap).run Tryz.prog w = .ok (.func fn first cap) w := fun _ _ _ _ => rfl
  have hmm := @run_makeMap Tryz.prog
  obtain ⟨RI, hRI⟩ : ∃ R, rItems 125 (rPair k) L p = R := ⟨_, rfl⟩
  rw [hRI]
  obtain ⟨RW, hRW⟩ : ∃ R, (RI.bind fun l q => rHeld p (mkObj l) L q) = R := ⟨_, rfl⟩
  rw [hRW]
  have HRW := Lib.hid hRW
  clear hRW
  have hlt := E.lt
  have hbase := E.base
  have hfit := E.fits
  obtain ⟨pb, hpb⟩ : ∃ b, w.heap.size = b := ⟨_, rfl⟩
  have hb0 : But (fun _ => False) w ((w.alloc (.cells #[ptr sb] 66)).alloc (.cells #[.int .i64 0, .bool false, .slice none 0 0, .int .i64 0, .string ⟨#[]⟩, .slice none 0 0, .slice none 0 0] 34)) := ((But.refl _ _).alloc _).alloc _
  have hE0 := E.stay hb0 (fun _ _ h => h) (fun h => h)
  have hs0 : ((w.alloc (.cells #[ptr sb] 66)).alloc (.cells #[.int .i64 0, .bool false, .slice none 0 0, .int .i64 0, .string ⟨#[]⟩, .slice none 0 0, .slice none 0 0] 34)).heap.size = pb + 2 := by rw [← hpb]; simp
  have hp0 : ((w.alloc (.cells #[ptr sb] 66)).alloc (.cells #[.int .i64 0, .bool false, .slice none 0 0, .int .i64 0, .string ⟨#[]⟩, .slice none 0 0, .slice none 0 0] 34)).heap[pb]? = some (.cells #[ptr sb] 66) := by
    rw [← hpb, Below.heap_alloc _ _ _ (by simp)]; exact World.alloc_heap_new w _
  have hr0 : ((w.alloc (.cells #[ptr sb] 66)).alloc (.cells #[.int .i64 0, .bool false, .slice none 0 0, .int .i64 0, .string ⟨#[]⟩, .slice none 0 0, .slice none 0 0] 34)).heap[pb + 1]? = some (.cells #[.int .i64 0, .bool false, .slice none 0 0, .int .i64 0, .string ⟨#[]⟩, .slice none 0 0, .slice none 0 0] 34) := by
    have := World.alloc_heap_new (w.alloc (.cells #[ptr sb] 66)) (.cells #[.int .i64 0, .bool false, .slice none 0 0, .int .i64 0, .string ⟨#[]⟩, .slice none 0 0, .slice none 0 0] 34)
    rwa [World.size_alloc, hpb] at this
  have hlp : sb < pb := by omega
  go_enter Tryz.func38, Tryz.ntmps38
  go_upto_region 1 with fail
  try rw [hpb]
  generalize ((w.alloc (.cells #[ptr sb] 66)).alloc (.cells #[.int .i64 0, .bool false, .slice none 0 0, .int .i64 0, .string ⟨#[]⟩, .slice none 0 0, .slice none 0 0] 34)) = w00 at *
  obtain ⟨c0, c1, c2⟩ := hE0.cells
  have s0 := cell_at3 (i := 0) hp0 rfl
  go_upto_region 3 with fail
  go_upto_region 4 with fail
  clear c0 c1 c2 s0 hmm
  obtain ⟨lb, hlb⟩ : ∃ b, pb + 2 = b := ⟨_, rfl⟩
  obtain ⟨mm, hm1⟩ : ∃ b, lb + 1 = b := ⟨_, rfl⟩
  obtain ⟨mb, hm2⟩ : ∃ b, mm + 1 = b := ⟨_, rfl⟩
  rw [hlb, hm1, hm2]
  have hb1 : But (fun _ => False) w00 (((w00.alloc (.cells #[.slice none 0 0] 24)).alloc (.map #[] 0)).alloc (.cells #[.map (some mm)] 79)) := (((But.refl _ _).alloc _).alloc _).alloc _
  have hE1 := hE0.stay hb1 (fun _ _ h => h) (fun h => h)
  have hp1 := (hb1.block pb (by omega) (fun h => h)).trans hp0
  have hr1 := (hb1.block (pb + 1) (by omega) (fun h => h)).trans hr0
  have hl1 : (((w00.alloc (.cells #[.slice none 0 0] 24)).alloc (.map #[] 0)).alloc (.cells #[.map (some mm)] 79)).heap[lb]? = some (.cells #[.slice none 0 0] 24) := by
    have h9 := World.alloc_heap_new w00 (.cells #[.slice none 0 0] 24)
    rw [hs0, hlb] at h9
    exact (Below.heap_alloc _ _ _ (by simp; omega)).trans ((Below.heap_alloc _ _ _ (by simp; omega)).trans h9)
  have hq1 : (((w00.alloc (.cells #[.slice none 0 0] 24)).alloc (.map #[] 0)).alloc (.cells #[.map (some mm)] 79)).heap[mb]? = some (.cells #[.map (some mm)] 79) := by
    have h9 := World.alloc_heap_new ((w00.alloc (.cells #[.slice none 0 0] 24)).alloc (.map #[] 0)) (.cells #[.map (some mm)] 79)
    rw [World.size_alloc, World.size_alloc, hs0, hlb, hm1, hm2] at h9
    exact h9
  have hM1 : (((w00.alloc (.cells #[.slice none 0 0] 24)).alloc (.map #[] 0)).alloc (.cells #[.map (some mm)] 79)).ownsMap Tryz.prog 9 (plainElem (H := Unit) Tryz.prog 3) mm 0 (lastD [] 0) := by
    have h9 := World.ownsMap_made (w00.alloc (.cells #[.slice none 0 0] 24)) Tryz.prog 9 (plainElem (H := Unit) Tryz.prog 3)
    rw [World.size_alloc, hs0, hlb, hm1] at h9
    exact h9.alloc _
  have hs1 : (((w00.alloc (.cells #[.slice none 0 0] 24)).alloc (.map #[] 0)).alloc (.cells #[.map (some mm)] 79)).heap.size = pb + 5 := by simp [hs0]
  have hbw : But (fun _ => False) w (((w00.alloc (.cells #[.slice none 0 0] 24)).alloc (.map #[] 0)).alloc (.cells #[.map (some mm)] 79)) := hb0.trans hb1
  generalize (((w00.alloc (.cells #[.slice none 0 0] 24)).alloc (.map #[] 0)).alloc (.cells #[.map (some mm)] 79)) = w0 at *
  have HE1 := Lib.hid hE1
  have HP1 := Lib.hid hp1
  have HR1 := Lib.hid hr1
  have HB1 := Lib.hid hbw
  have HS1 := Lib.hid hs1
  have HPB := Lib.hid hpb
  have HRI := Lib.hid hRI
  have hIO0 : IO pb lb mb mm sb (pb + 5) [] w0 := ⟨none, 0, hp1, hl1, hq1, Grow.nil _ _, hM1⟩
  have HIO := Lib.hid hIO0
  have s0 := cell_at3 (i := 0) hp1 rfl
  clear hE0 hE1 hp0 hp1 hr0 hr1 hl1 hq1 hM1 hb0 hb1 hbw hs0 hs1 hpb hRI E hIO0
  have hit := itemsO_c pb lb mb HE1.out hpl (by omega) 125 (rPair k) (fun acc W => IO pb lb mb mm sb (pb + 5) acc W ∧ acc.length ≤ 70000 ∧ ∀ x ∈ acc, x.1.size ≤ 16384) (fun j => j = lb ∨ j = mm ∨ pb + 5 ≤ j)
    ⟨HIO.out, by simp, by simp⟩ (fun acc W W' h hb => ⟨h.1.keep hb (by omega) (by omega) (by omega) (by omega) (by omega), h.2⟩) (fun j hj => by omega) (fun nth p a q hp h => pair_up hp h)
    (fun W p nth acc hE hI hal hn hW => (object1_c ih hko hcap (by omega) (by omega) (by omega) (by omega) (by omega) (by omega) (by omega) (by omega) (by omega) (by omega) (by omega) (by omega) (by omega) (by omega) (by omega) (by omega) W p nth acc hE hI.1 hal hn (by have := HS1.out; omega)).mono (fun e w' h => by
      cases hr : rPair k nth L p with
      | bad q x => rw [hr] at h; exact h
      | ok a q => rw [hr] at h; exact ⟨h.1, h.2.1, ⟨h.2.2.1, by rw [List.length_append]; show acc.length + 1 ≤ _; omega, fun x hx => by rcases List.mem_append.1 hx with hx | hx; exact hI.2.2 x hx; rw [List.mem_singleton.1 hx]; exact rPair_size hr⟩, h.2.2.2⟩))
  rw [HRI.out] at hit
  have HIT := Lib.hid hit
  clear hit
  have HLT := Lib.hid (show pb + 2 = lb ∧ lb + 1 = mm ∧ mm + 1 = mb ∧ sb < pb from ⟨hlb, hm1, hm2, hlp⟩)
  clear hlb hm1 hm2
  go_wp2_with fail
  refine HIT.out.mono ?_
  intro e w2 hp
  cases RI with
  | bad q x =>
    obtain ⟨rfl, hb⟩ := hp
    go_wp2_with fail
    rw [← (show RR.bad q x = RW from HRW.out)]
    exact ⟨rfl, rfl, ⟨hb.os.trans HB1.out.os, hb.tape.trans HB1.out.tape, hb.output.trans HB1.out.output, Nat.le_trans HB1.out.size hb.size, fun j hj hc => (hb.block j (Nat.lt_of_lt_of_le hj HB1.out.size) (by have := HPB.out; have := HLT.out; omega)).trans (HB1.out.block j hj (fun h => h))⟩⟩
  | ok l q =>
    obtain ⟨rfl, hE2, ⟨hIO2, hl7, hsz⟩, hb2⟩ := hp
    have hr2 := (hb2.block (pb + 1) (Array.getElem?_eq_some_iff.1 HR1.out).1 (by have := HLT.out; omega)).trans HR1.out
    have hbw2 : But (fun j => j = sb) w w2 := ⟨hb2.os.trans HB1.out.os, hb2.tape.trans HB1.out.tape, hb2.output.trans HB1.out.output, Nat.le_trans HB1.out.size hb2.size, fun j hj hc => (hb2.block j (Nat.lt_of_lt_of_le hj HB1.out.size) (by have := HPB.out; have := HLT.out; omega)).trans (HB1.out.block j hj (fun h => h))⟩
    obtain ⟨LA, lc, hp2, hl2, hq2, hG2, hM2⟩ := hIO2
    obtain ⟨n, hn⟩ : ∃ n, l.length = n := ⟨_, rfl⟩
    rw [hn] at hl2 hG2 hM2 hl7
    obtain ⟨ks, hks⟩ : ∃ ks, l.map (·.1) = ks := ⟨_, rfl⟩
    rw [hks] at hM2
    have hkl : ks.length = n := by rw [← hks, List.length_map, hn]
    have HE2 := Lib.hid hE2
    have HR2 := Lib.hid hr2
    have HBW2 := Lib.hid hbw2
    have HL2 := Lib.hid hl2
    have HQ2 := Lib.hid hq2
    have HG2 := Lib.hid hG2
    have HOW := Lib.hid hM2
    have HKS := Lib.hid hks
    have HN := Lib.hid hn
    have HSZ := Lib.hid (show ∀ s ∈ ks, s.size ≤ 16384 from fun s hs => by rw [← hks] at hs; obtain ⟨x, hx, rfl⟩ := List.mem_map.1 hs; exact hsz x hx)
    have HLM := Lib.hid (show (l.map (·.2)).length = n by rw [List.length_map, hn])
    clear hsz
    have m0 := cell_at3 (i := 0) hq2 rfl
    have hC1 := callsIn_wide.1 (Tryz.maps_Keys_57 (some mm) w2)
    have hC2 := callsIn_wide.1 (Tryz.slices_Sorted_keys_56_57 mm n (lastD ks n) _ w2 HOW.out (by have := lastD_size (H := Unit) ks n; unfold maxLen; omega) (by have := lastD_size (H := Unit) ks n; omega))
    clear hE2 hr2 hbw2 hl2 hq2 hG2 hM2 hks hn hb2 hp2 s0
    go_upto_region 5 with fail
    go_wp2_with fail
    refine hC1.mono ?_
    rintro e' w3 ⟨rfl, rfl⟩
    go_wp2_with fail
    refine hC2.mono ?_
    rintro e' w4 ⟨v, ss, rfl, hperm, hrow, hnil, hb4⟩
    have hrow2 := keys_row (n := n) (by rw [hkl]; exact hperm) hrow
    have hkb := keysB_length ks
    obtain ⟨kn, hkn3⟩ : ∃ kn, (keysB ks).length = kn := ⟨_, rfl⟩
    rw [hkn3] at hrow2 hkb
    rw [hkl] at hkb
    obtain ⟨K1, kc1, hv, hkc⟩ : ∃ K1 kc1, v = .slice K1 kn kc1 ∧ kn ≤ kc1 := by
      rcases hrow2.2 with ⟨e1, e2⟩ | ⟨g, cap, cur, e1, _, _, h4, _⟩
      · exact ⟨none, 0, by rw [e1, e2], by omega⟩
      · exact ⟨_, _, e1, h4⟩
    subst hv
    have HKN := Lib.hid hkn3
    clear hkn3
    have hlt0 := HOW.out.lt
    have hb24 : Below w2.heap.size w2 w4 := ((Below.refl _ w2).alloc (Nat.le_refl _) _).trans (hb4.mono (by simp))
    have HM4 := Lib.hid (map_keep HOW.out (hb24.block _ hlt0))
    have HB24 := Lib.hid hb24
    have hsz2 := hb4.size
    have hszr : w2.heap.size + 1 ≤ w4.heap.size := by simpa using hsz2
    have HRW4 := Lib.hid (own_mono (base' := w2.heap.size) hrow2 (by simp))
    have HLL := Lib.hid ((hb24.block lb (Array.getElem?_eq_some_iff.1 HL2.out).1).trans HL2.out)
    have HMB := Lib.hid ((hb24.block mb (Array.getElem?_eq_some_iff.1 HQ2.out).1).trans HQ2.out)
    clear hrow hrow2 hperm hnil hb4 hb24 hC1 hC2 hsz2 m0
    obtain ⟨cs, hcr, hcs7, hcv⟩ := HG2.out
    rw [HLM.out] at hcr hcs7
    have hixa : ∀ q, q < kn → ∃ i, lastAt ks ((keysB ks).getD q ⟨#[]⟩) ks.length = some i ∧ i < n := fun q hq => by
      have h1 : (keysB ks).getD q ⟨#[]⟩ ∈ keysB ks := by
        have h2 := HKN.out
        rw [List.getD_eq_getElem?_getD, List.getElem?_eq_getElem (by omega)]
        exact List.getElem_mem _
      obtain ⟨i, hi⟩ := Option.isSome_iff_exists.1 (keysB_mem.1 h1)
      exact ⟨i, hi, by have := (lastAt_some hi).1; omega⟩
    obtain ⟨ix, hix0⟩ : ∃ ix : Nat → Nat, ∀ q, q < kn → lastAt ks ((keysB ks).getD q ⟨#[]⟩) ks.length = some (ix q) ∧ ix q < n := by
      refine ⟨fun q => (lastAt ks ((keysB ks).getD q ⟨#[]⟩) ks.length).getD 0, fun q hq => ?_⟩
      obtain ⟨i, h1, h2⟩ := hixa q hq
      show _ = some ((lastAt ks ((keysB ks).getD q ⟨#[]⟩) ks.length).getD 0) ∧ (lastAt ks ((keysB ks).getD q ⟨#[]⟩) ks.length).getD 0 < n
      rw [h1]; exact ⟨rfl, h2⟩
    have HIX := Lib.hid hix0
    have HCR := Lib.hid hcr
    have HCV := Lib.hid hcv
    have HC7 := Lib.hid hcs7
    clear hix0 hixa hcr hcv hcs7
    obtain ⟨i7, hi7, hp7, hq7, hr7⟩ := info_parts infoV7
    go_upto_region 6 with fail
    have hbx := World.alloc_heap_new w4 (.cells #[.int .i64 6, .bool false, .slice none 0 0, .int .i64 0, .string ⟨#[]⟩, .slice none 0 0, .slice K1 kn kc1] 34)
    have hb3 : Below w4.heap.size w4 (w4.alloc (.cells #[.int .i64 6, .bool false, .slice none 0 0, .int .i64 0, .string ⟨#[]⟩, .slice none 0 0, .slice K1 kn kc1] 34)) := (Below.refl _ w4).alloc (Nat.le_refl _) _
    generalize (w4.alloc (.cells #[.int .i64 6, .bool false, .slice none 0 0, .int .i64 0, .string ⟨#[]⟩, .slice none 0 0, .slice K1 kn kc1] 34)) = w5 at *
    obtain ⟨x0, x1, x2, x3, x4, x5, x6⟩ := box7_of hbx
    go_upto_region 7 with fail
    clear x0 x1 x2 x3 x4 x5 x6
    go_loopw [24] (fun i wr => ∃ (j : Nat) (L1 : Option Addr) (lc1 : Nat) (t8 : Value), j ≤ kn ∧ i = .int .i64 (j : Int) ∧ wr.heap[w4.heap.size]? = some (.cells #[.int .i64 6, .bool false, .slice none 0 0, .int .i64 0, .string ⟨#[]⟩, .slice L1 j lc1, .slice K1 kn kc1] 34) ∧ wr.ownsRow (w4.heap.size + 1) 34 7 (.slice L1 j lc1) j (flatC cs ix j) ∧ Below w4.heap.size w4 wr ∧ w4.heap.size + 1 ≤ wr.heap.size) (fun i _ => kn - (RowKit.intOf i).toNat)
    case atStart => exact ⟨0, none, 0, undef, Nat.zero_le _, rfl, hbx, World.ownsRow_nil _ _ _ _, hb3, (Array.getElem?_eq_some_iff.1 hbx).1⟩
    case round =>
      clear hbx hb3
      obtain ⟨j, L1, lc1, _, hjk, rfl, hbx, hown, hbel, hszw⟩ := hrel
      have HBX := Lib.hid hbx
      have HOWN := Lib.hid hown
      have HBEL := Lib.hid hbel
      clear hbx hown hbel
      by_cases hjn : j < kn
      · obtain ⟨hix, hixk⟩ := HIX.out j hjn
        obtain ⟨s, hs⟩ : ∃ s, (keysB ks).getD j ⟨#[]⟩ = s := ⟨_, rfl⟩
        rw [hs] at hix
        have hssz : s.size ≤ maxLen := by
          obtain ⟨h1, h2, _⟩ := lastAt_some hix
          have h3 : ks.getD (ix j) ⟨#[]⟩ ∈ ks := by rw [List.getD_eq_getElem?_getD, List.getElem?_eq_getElem (by omega)]; exact List.getElem_mem _
          have h4 := HSZ.out _ h3
          rw [h2] at h4
          unfold maxLen; omega
        rw [hkl] at hix
        obtain ⟨i0, hi0⟩ : ∃ i0, ix j = i0 := ⟨_, rfl⟩
        rw [hi0] at hix hixk
        obtain ⟨g, hgK, hgb⟩ : ∃ g, K1 = some ⟨g, 0, none⟩ ∧ g < w4.heap.size := by
          rcases HRW4.out.2 with ⟨e1, e2⟩ | ⟨g, cap, cur, e1, _, e3, _⟩
          · have := HRW4.out.1; rw [e2] at this; simp at this; omega
          · injection e1 with e4; exact ⟨g, e4, (Array.getElem?_eq_some_iff.1 e3).1⟩
        subst hgK
        have hst : (strs (keysB ks))[j]? = some (.string s) := by
          have h2 := HKN.out
          unfold strs
          rw [List.getElem?_map, List.getElem?_eq_getElem (by omega)]
          rw [List.getD_eq_getElem?_getD, List.getElem?_eq_getElem (by omega)] at hs
          simp at hs
          simp [hs]
        have hck : wr.cell? ⟨g, j, none⟩ = some (.string s) := (HBEL.out.cell (p := ⟨g, j, none⟩) hgb).trans ((HRW4.out.cellAt j (by omega)).trans hst)
        obtain ⟨b, hLA⟩ : ∃ b, LA = some ⟨b, 0, none⟩ := by
          rcases HCR.out.2 with ⟨e1, e2⟩ | ⟨g9, cap, cur, e1, _, e3, _⟩
          · injection e1 with _ e5; omega
          · injection e1 with e4; exact ⟨g9, e4⟩
        subst hLA
        have hbw2 : b < w2.heap.size := (ownsRow_lt HCR.out rfl).2
        have hl7' := HC7.out i0 hixk
        obtain ⟨a0, a1, a2, a3, a4, a5, a6, he7⟩ := list7' hl7'
        have hce : ∀ t u, [a0, a1, a2, a3, a4, a5, a6][t]? = some u → wr.cell? ⟨b, i0 * 7 + t, none⟩ = some u := fun t u ht => by
          have ht7 : t < 7 := (List.getElem?_eq_some_iff.1 ht).1
          rw [← he7] at ht
          have h8 := (flatC_get (cs := cs) (ix := id) (j := n) (fun q hq => HC7.out q hq) i0 t hixk ht7).trans ht
          exact (HBEL.out.cell (p := ⟨b, i0 * 7 + t, none⟩) (by show b < w4.heap.size; omega)).trans ((HB24.out.cell (p := ⟨b, i0 * 7 + t, none⟩) hbw2).trans (ownsRow_cell HCR.out h8).1)
        have d0 : wr.cell? ⟨b, i0 * 7, none⟩ = some a0 := hce 0 a0 rfl
        have d1 : wr.cell? ⟨b, i0 * 7 + 1, none⟩ = some a1 := hce 1 a1 rfl
        have d2 : wr.cell? ⟨b, i0 * 7 + 2, none⟩ = some a2 := hce 2 a2 rfl
        have d3 : wr.cell? ⟨b, i0 * 7 + 3, none⟩ = some a3 := hce 3 a3 rfl
        have d4 : wr.cell? ⟨b, i0 * 7 + 4, none⟩ = some a4 := hce 4 a4 rfl
        have d5 : wr.cell? ⟨b, i0 * 7 + 5, none⟩ = some a5 := hce 5 a5 rfl
        have d6 : wr.cell? ⟨b, i0 * 7 + 6, none⟩ = some a6 := hce 6 a6 rfl
        have hlb4 : lb < w4.heap.size := (Array.getElem?_eq_some_iff.1 HLL.out).1
        have hmb4 : mb < w4.heap.size := (Array.getElem?_eq_some_iff.1 HMB.out).1
        have u0 : wr.cell? ⟨lb, 0, none⟩ = some (.slice (some ⟨b, 0, none⟩) n lc) := cell_at3 ((HBEL.out.block lb hlb4).trans HLL.out) rfl
        have v0 : wr.cell? ⟨mb, 0, none⟩ = some (.map (some mm)) := cell_at3 ((HBEL.out.block mb hmb4).trans HMB.out) rfl
        have hmm4 : mm < w4.heap.size := by omega
        have HMR := Lib.hid (map_keep HM4.out (HBEL.out.block _ hmm4))
        have HST := Lib.hid hst
        have HI0 := Lib.hid hi0
        have HE7 := Lib.hid he7
        have hvi := HCV.out i0 ((l.map (·.2)).getD i0 VT0) (by rw [List.getD_eq_getElem?_getD, List.getElem?_eq_getElem (by rw [HLM.out]; exact hixk)]; rfl)
        have hone : ∀ u ∈ [a0, a1, a2, a3, a4, a5, a6], u.oneCell' = true := by rw [← he7]; exact hvi.one.2
        have hob : ∀ q, (Value.slice L1 j lc1).ownBlock = some q → w4.heap.size + 1 ≤ q := fun q e => by
          rcases HOWN.out.2 with ⟨e1, _⟩ | ⟨g2, cap, cur, e1, e2, _⟩
          · rw [e1] at e; simp [Value.ownBlock] at e
          · rw [e1] at e; simp [Value.ownBlock] at e; omega
        have HONE := Lib.hid hone
        have HOB := Lib.hid hob
        have hlt' : (j : Int) < (kn : Int) := by omega
        have hj0 : (0 : Int) ≤ (j : Int) := by omega
        have hjt : ((j : Int)).toNat = j := by omega
        have hjw : IntKind.i64.wrap ((j : Int) + 1) = (j : Int) + 1 := IntWalk.i64_in _ (by omega)
        have hi0a : (0 : Int) ≤ (i0 : Int) := by omega
        have hi0b : (i0 : Int) < (n : Int) := by omega
        have hi0t : ((i0 : Int)).toNat = i0 := by omega
        have hi0w : IntKind.i64.wrap (i0 : Int) = (i0 : Int) := IntWalk.i64_in _ (by omega)
        obtain ⟨y0, y1, y2, y3, y4, y5, y6⟩ := box7_of HBX.out
        clear hs hst hce hl7' he7 hi0 hone hob hvi y0 y1 y2 y3 y4 y6
        go_upto_region 9 with fail
        refine wp_region_held_drew (S := fun w' => w'.ownsMap Tryz.prog 9 (plainElem (H := Unit) Tryz.prog 3) mm n (lastD ks n) ∧ w'.cell? ⟨lb, 0, none⟩ = some (.slice (some ⟨b, 0, none⟩) n lc) ∧ w'.cell? ⟨mb, 0, none⟩ = some (.map (some mm)) ∧ w'.cell? ⟨b, i0 * 7, none⟩ = some a0 ∧ w'.cell? ⟨b, i0 * 7 + 1, none⟩ = some a1 ∧ w'.cell? ⟨b, i0 * 7 + 2, none⟩ = some a2 ∧ w'.cell? ⟨b, i0 * 7 + 3, none⟩ = some a3 ∧ w'.cell? ⟨b, i0 * 7 + 4, none⟩ = some a4 ∧ w'.cell? ⟨b, i0 * 7 + 5, none⟩ = some a5 ∧ w'.cell? ⟨b, i0 * 7 + 6, none⟩ = some a6) (by kernel_rfl) ⟨HMR.out, u0, v0, d0, d1, d2, d3, d4, d5, d6⟩ (fun hHeld => ?_)
        (try simp only [List.size_toArray, List.length_cons, List.length_nil, Nat.reduceAdd, Array.replicate_succ, Array.replicate_zero, List.push_toArray, List.append_toArray, List.nil_append, List.cons_append])
        refine wpAnyH_take (i := 0) (oi := ⟨_, _, _, _, _, _⟩) (v := ?_) rfl (by kernel_rfl) (by kernel_rfl) (by kernel_rfl) (fun _ _ _ h => h) (Or.inl ⟨by rfl, ?_⟩) (by assumption) ?_
        rotate_left
        · intro w hSw
          (try dsimp only at hSw)
          go_split_ands
          go_simp
          try with_reducible rfl
        try simp only [Act.put, List.setIfInBounds_toArray, List.set_cons_zero, List.set_cons_succ]
        refine wpAnyH_take (i := 2) (oi := ⟨_, _, _, _, _, _⟩) (v := ?_) rfl (by kernel_rfl) (by kernel_rfl) (by kernel_rfl) (fun _ _ _ h => h) (Or.inl ⟨by rfl, ?_⟩) (by assumption) ?_
        rotate_left
        · intro w hSw
          (try dsimp only at hSw)
          go_split_ands
          go_simp
          try with_reducible rfl
        try simp only [Act.put, List.setIfInBounds_toArray, List.set_cons_zero, List.set_cons_succ]
        refine wpAnyH_take (i := 3) (oi := ⟨_, _, _, _, _, _⟩) (v := ?_) rfl (by kernel_rfl) (by kernel_rfl) (by kernel_rfl) (fun _ _ _ h => h) (Or.inl ⟨by rfl, ?_⟩) (by assumption) ?_
        rotate_left
        · intro w hSw
          (try dsimp only at hSw)
          go_split_ands
          go_simp
          try with_reducible rfl
        try simp only [Act.put, List.setIfInBounds_toArray, List.set_cons_zero, List.set_cons_succ]
        refine wpAnyH_take (i := 4) (oi := ⟨_, _, _, _, _, _⟩) (v := ?_) rfl (by kernel_rfl) (by kernel_rfl) (by kernel_rfl) (fun _ _ _ h => h) (Or.inl ⟨by rfl, ?_⟩) (by assumption) ?_
        rotate_left
        · intro w hSw
          (try dsimp only at hSw)
          go_split_ands
          go_simp
          try with_reducible rfl
        try simp only [Act.put, List.setIfInBounds_toArray, List.set_cons_zero, List.set_cons_succ]
        refine wpAnyH_take (i := 5) (oi := ⟨_, _, _, _, _, _⟩) (v := ?_) rfl (by kernel_rfl) (by kernel_rfl) (by kernel_rfl) (fun _ _ _ h => h) (Or.inl ⟨by rfl, ?_⟩) (by assumption) ?_
        rotate_left
        · intro w hSw
          (try dsimp only at hSw)
          go_split_ands
          have hlk := look_last (by assumption) hssz hix
          go_simp
          try with_reducible rfl
        try simp only [Act.put, List.setIfInBounds_toArray, List.set_cons_zero, List.set_cons_succ]
        refine wpAnyH_take (i := 6) (oi := ⟨_, _, _, _, _, _⟩) (v := ?_) rfl (by kernel_rfl) (by kernel_rfl) (by kernel_rfl) (fun _ _ _ h => h) (Or.inl ⟨by rfl, ?_⟩) (by assumption) ?_
        rotate_left
        · intro w hSw
          (try dsimp only at hSw)
          go_split_ands
          go_simp
          try with_reducible rfl
        try simp only [Act.put, List.setIfInBounds_toArray, List.set_cons_zero, List.set_cons_succ]
        refine wpAnyH_take (i := 7) (oi := ⟨_, _, _, _, _, _⟩) (v := ?_) rfl (by kernel_rfl) (by kernel_rfl) (by kernel_rfl) (fun _ _ _ h => h) (Or.inl ⟨by rfl, ?_⟩) (by assumption) ?_
        rotate_left
        · intro w hSw
          (try dsimp only at hSw)
          go_split_ands
          go_simp
          try with_reducible rfl
        try simp only [Act.put, List.setIfInBounds_toArray, List.set_cons_zero, List.set_cons_succ]
        have hdw : Below w4.heap.size w4 wr.drew := HBEL.out.drew
        have hal : ∀ o, Below wr.heap.size wr.drew (wr.drew.alloc o) := fun o => (Below.refl wr.heap.size wr.drew).alloc (Nat.le_refl _) o
        have hbb : b < wr.heap.size := by omega
        have hlbr : lb < wr.heap.size := by omega
        have hmbr : mb < wr.heap.size := by omega
        have hSal : ∀ o, (wr.drew.alloc o).ownsMap Tryz.prog 9 (plainElem (H := Unit) Tryz.prog 3) mm n (lastD ks n) ∧ (wr.drew.alloc o).cell? ⟨lb, 0, none⟩ = some (.slice (some ⟨b, 0, none⟩) n lc) ∧ (wr.drew.alloc o).cell? ⟨mb, 0, none⟩ = some (.map (some mm)) ∧ (wr.drew.alloc o).cell? ⟨b, i0 * 7, none⟩ = some a0 ∧ (wr.drew.alloc o).cell? ⟨b, i0 * 7 + 1, none⟩ = some a1 ∧ (wr.drew.alloc o).cell? ⟨b, i0 * 7 + 2, none⟩ = some a2 ∧ (wr.drew.alloc o).cell? ⟨b, i0 * 7 + 3, none⟩ = some a3 ∧ (wr.drew.alloc o).cell? ⟨b, i0 * 7 + 4, none⟩ = some a4 ∧ (wr.drew.alloc o).cell? ⟨b, i0 * 7 + 5, none⟩ = some a5 ∧ (wr.drew.alloc o).cell? ⟨b, i0 * 7 + 6, none⟩ = some a6 := fun o =>
          ⟨HMR.out.drew.alloc o, ((hal o).cell (p := ⟨lb, 0, none⟩) hlbr).trans u0, ((hal o).cell (p := ⟨mb, 0, none⟩) hmbr).trans v0, ((hal o).cell (p := ⟨b, i0 * 7, none⟩) hbb).trans d0, ((hal o).cell (p := ⟨b, i0 * 7 + 1, none⟩) hbb).trans d1, ((hal o).cell (p := ⟨b, i0 * 7 + 2, none⟩) hbb).trans d2, ((hal o).cell (p := ⟨b, i0 * 7 + 3, none⟩) hbb).trans d3, ((hal o).cell (p := ⟨b, i0 * 7 + 4, none⟩) hbb).trans d4, ((hal o).cell (p := ⟨b, i0 * 7 + 5, none⟩) hbb).trans d5, ((hal o).cell (p := ⟨b, i0 * 7 + 6, none⟩) hbb).trans d6⟩
        have y5a : ∀ o, (wr.drew.alloc o).cell? ⟨w4.heap.size, 5, none⟩ = some (.slice L1 j lc1) := fun o => ((hal o).cell (p := ⟨w4.heap.size, 5, none⟩) (by show w4.heap.size < wr.heap.size; omega)).trans y5
        refine wpAnyH_ready (rs := [1, 8]) (by kernel_rfl) (by simp) (AllReadyH.cons (o := ⟨_, _, _, _, _, _⟩) rfl (fun K hK => ?ga) (AllReadyH.cons (o := ⟨_, _, _, _, _, _⟩) rfl (fun K hK => ?gb) AllReadyH.nil))
        case' ga =>
          go_simp
          refine hK.out _ _ ⟨HMR.out, u0, v0, d0, d1, d2, d3, d4, d5, d6⟩ (fun hHeld2 => ?_)
          clear hK K
          try simp only [Act.put, List.setIfInBounds_toArray, List.set_cons_zero, List.set_cons_succ]
          refine wpAnyH_ready (rs := [8]) (by kernel_rfl) (by simp) (AllReadyH.cons (o := ⟨_, _, _, _, _, _⟩) rfl (fun K hK => ?_) AllReadyH.nil)
          go_simp
          refine hK.out _ _ (hSal _) (fun hHeld3 => ?_)
          clear hK K hHeld2
        case' gb =>
          go_simp
          refine hK.out _ _ (hSal _) (fun hHeld2 => ?_)
          clear hK K
          try simp only [Act.put, List.setIfInBounds_toArray, List.set_cons_zero, List.set_cons_succ]
          refine wpAnyH_ready (rs := [1]) (by kernel_rfl) (by simp) (AllReadyH.cons (o := ⟨_, _, _, _, _, _⟩) rfl (fun K hK => ?_) AllReadyH.nil)
          have y5b : (wr.alloc (.cells #[a0, a1, a2, a3, a4, a5, a6] 34)).drew.cell? ⟨w4.heap.size, 5, none⟩ = some (.slice L1 j lc1) := y5a (.cells #[a0, a1, a2, a3, a4, a5, a6] 34)
          go_simp
          refine hK.out _ _ (hSal _) (fun hHeld3 => ?_)
          clear hK K hHeld2 y5b
        all_goals
          try simp only [Act.put, List.setIfInBounds_toArray, List.set_cons_zero, List.set_cons_succ]
          refine wpAnyH_ready (rs := [9]) (by kernel_rfl) (by simp) (AllReadyH.cons (o := ⟨_, _, _, _, _, _⟩) rfl (fun K hK => ?_) AllReadyH.nil)
          refine step_append_at (base := w4.heap.size + 1) (e := 34) (v := .slice L1 j lc1) (n := j) (xs := flatC cs ix j) (news := [a0, a1, a2, a3, a4, a5, a6]) (m := 1) (c := 1) (ad := ⟨wr.heap.size, 0, none⟩) rfl (.tmp 29) (.tmp 36) 24 rfl Tryz.underlying24 hi7 hp7 hq7 hr7 rfl (by decide) rfl (HOWN.out.drew.alloc _) rfl rfl (new7 wr a0 a1 a2 a3 a4 a5 a6 34) HONE.out (by unfold maxLen; omega) (by omega) (by simp; omega) ?_
          intro v' w6 hown5 hg5 _ _
          obtain ⟨g', cap', rfl⟩ := ownsRow_succ hown5
          have hb5 : Below (w4.heap.size + 1) wr w6 := ((Below.refl (w4.heap.size + 1) wr).drew.alloc (by simpa using hszw) _).grown hg5 (by simp; omega) (fun q e => HOB.out q e)
          have hbx5 := (hb5.block _ (by omega)).trans HBX.out
          have fz : ∀ j, w6.frozen? ⟨w4.heap.size, j, none⟩ = false := fun j => frozen_of_row w6 _ j _ _ hbx5
          have hm5 := map_keep HMR.out (hb5.block _ (by omega))
          have hbb5 : b < w4.heap.size + 1 := by omega
          have e8 := (hb5.cell (p := ⟨lb, 0, none⟩) (by show lb < w4.heap.size + 1; omega)).trans u0
          have e9 := (hb5.cell (p := ⟨mb, 0, none⟩) (by show mb < w4.heap.size + 1; omega)).trans v0
          have e0 := (hb5.cell (p := ⟨b, i0 * 7, none⟩) hbb5).trans d0
          have e1 := (hb5.cell (p := ⟨b, i0 * 7 + 1, none⟩) hbb5).trans d1
          have e2 := (hb5.cell (p := ⟨b, i0 * 7 + 2, none⟩) hbb5).trans d2
          have e3 := (hb5.cell (p := ⟨b, i0 * 7 + 3, none⟩) hbb5).trans d3
          have e4 := (hb5.cell (p := ⟨b, i0 * 7 + 4, none⟩) hbb5).trans d4
          have e5 := (hb5.cell (p := ⟨b, i0 * 7 + 5, none⟩) hbb5).trans d5
          have e6 := (hb5.cell (p := ⟨b, i0 * 7 + 6, none⟩) hbb5).trans d6
          refine hK.out _ _ ⟨hm5, e8, e9, e0, e1, e2, e3, e4, e5, e6⟩ (fun hHeld4 => ?_)
          clear hK K
          try simp only [Act.put, List.setIfInBounds_toArray, List.set_cons_zero, List.set_cons_succ]
          refine wpAnyH_take (i := 10) (oi := ⟨_, _, _, _, _, _⟩) (v := ?_) rfl (by kernel_rfl) (by kernel_rfl) (by kernel_rfl) (fun _ _ _ h => h) (Or.inl ⟨by rfl, ?_⟩) (by assumption) ?_
          rotate_left
          · intro w hSw
            (try dsimp only at hSw)
            go_split_ands
            go_simp
            try with_reducible rfl
          try simp only [Act.put, List.setIfInBounds_toArray, List.set_cons_zero, List.set_cons_succ]
          obtain ⟨x0, x1, x2, x3, x4, x5, x6⟩ := box7_of hbx5
          refine wpAnyH_ready (rs := [11]) (by kernel_rfl) (by simp) (AllReadyH.cons (o := ⟨_, _, _, _, _, _⟩) rfl (fun K hK => ?_) AllReadyH.nil)
          go_simp
          have hne : ∀ p : Addr, p.block < w4.heap.size → (w6.setCell ⟨w4.heap.size, 5, none⟩ (.slice (some ⟨g', 0, none⟩) (j + 1) cap')).cell? p = w6.cell? p := fun p hp => World.cell?_of_block (Below.heap_setCell _ _ _ _ (by show p.block ≠ w4.heap.size; omega))
          have hbw4 : b < w4.heap.size := by omega
          refine hK.out _ _ ⟨map_keep hm5 (Below.heap_setCell _ _ _ _ (by show mm ≠ w4.heap.size; omega)), (hne _ hlb4).trans e8, (hne _ hmb4).trans e9, (hne _ hbw4).trans e0, (hne _ hbw4).trans e1, (hne _ hbw4).trans e2, (hne _ hbw4).trans e3, (hne _ hbw4).trans e4, (hne _ hbw4).trans e5, (hne _ hbw4).trans e6⟩ (fun hHeld5 => ?_)
          clear hK K
          try simp only [Act.put, List.setIfInBounds_toArray, List.set_cons_zero, List.set_cons_succ]
          refine wpAnyH_done (by kernel_rfl) ?_ _
          have n1 := ownsRow_setCell_below hown5 (a := ⟨w4.heap.size, 5, none⟩) (by show w4.heap.size < w4.heap.size + 1; omega) (.slice (some ⟨g', 0, none⟩) (j + 1) cap')
          rw [← HE7.out, ← HI0.out, ← flatC_succ] at n1
          have n2 : (w6.setCell ⟨w4.heap.size, 5, none⟩ (.slice (some ⟨g', 0, none⟩) (j + 1) cap')).heap[w4.heap.size]? = some (.cells #[.int .i64 6, .bool false, .slice none 0 0, .int .i64 0, .string ⟨#[]⟩, (.slice (some ⟨g', 0, none⟩) (j + 1) cap'), .slice (some ⟨g, 0, none⟩) kn kc1] 34) := set_heap (i := 5) (u := (.slice (some ⟨g', 0, none⟩) (j + 1) cap')) hbx5
          have n3 : Below w4.heap.size w4 (w6.setCell ⟨w4.heap.size, 5, none⟩ (.slice (some ⟨g', 0, none⟩) (j + 1) cap')) := (HBEL.out.trans (hb5.mono (by omega))).setCell (Nat.le_refl _) _
          have n4 : w4.heap.size + 1 ≤ (w6.setCell ⟨w4.heap.size, 5, none⟩ (.slice (some ⟨g', 0, none⟩) (j + 1) cap')).heap.size := by have := hb5.size; simp [World.setCell]; omega
          generalize (w6.setCell ⟨w4.heap.size, 5, none⟩ (.slice (some ⟨g', 0, none⟩) (j + 1) cap')) = W7 at *
          have N1 := Lib.hid n1
          have N2 := Lib.hid n2
          clear n1 n2 hHeld hHeld3 hHeld4 hHeld5 hne e0 e1 e2 e3 e4 e5 e6 e8 e9 u0 v0 x0 x1 x2 x3 x4 x5 x6 hbx5 hm5 hSal y5a y5 d0 d1 d2 d3 d4 d5 d6 hal hdw hg5 hown5 fz
          go_wp2_with fail
          go_roundw
          case rel => exact ⟨j + 1, _, _, undef, by omega, by go_num, N2.out, N1.out, n3, n4⟩
          case measure => first | (simp [intOf]; omega) | (simp [RowKit.intOf]; omega) | (show _ - _ < _ - _; simp only [RowKit.intOf]; omega)
      · have hge : ¬ (j : Int) < (kn : Int) := by omega
        obtain rfl : j = kn := by omega
        have hpw2 : pb + 2 ≤ w2.heap.size := by have h9 : mb < w2.heap.size := (Array.getElem?_eq_some_iff.1 HQ2.out).1; have := HLT.out; omega
        have hw4r := HBEL.out.size
        have hobj : VIn wr (fun b => pb + 2 ≤ b ∧ b < wr.heap.size) (objV ks (l.map (·.2))) [.int .i64 6, .bool false, .slice none 0 0, .int .i64 0, .string ⟨#[]⟩, .slice L1 j lc1, .slice K1 j kc1] := by
          refine .mk (cs := fun i => cs (ix i)) (Rd.nil _ _ _) (by omega) (by decide) ⟨HKN.out, fun h0 => ?_⟩ (by omega) (by rw [List.length_map]; exact HKN.out) (by omega) ?_ (fun h0 => ?_) (fun i x hi => ?_)
          · rcases HRW4.out.2 with ⟨e1, e2⟩ | ⟨g, cap, cur, e1, e9, e3, _⟩
            · have := HRW4.out.1; rw [e2] at this; simp at this; omega
            · injection e1 with e4
              subst e4
              have hgb := (Array.getElem?_eq_some_iff.1 e3).1
              have e9' : w2.heap.size ≤ g := e9
              refine ⟨g, 0, rfl, ⟨by omega, by show g < wr.heap.size; omega⟩, fun i s hi => ?_⟩
              have h2 := HKN.out
              have hil := (List.getElem?_eq_some_iff.1 hi).1
              have hst : (strs (keysB ks))[i]? = some (.string s) := by unfold strs; rw [List.getElem?_map, hi]; rfl
              rw [Nat.zero_add]
              refine ⟨(HBEL.out.cell (p := ⟨g, i, none⟩) hgb).trans ((HRW4.out.cellAt i (by omega)).trans hst), ?_⟩
              have hmem : s ∈ keysB ks := List.mem_of_getElem? hi
              obtain ⟨q, hq⟩ := Option.isSome_iff_exists.1 (keysB_mem.1 hmem)
              obtain ⟨h5, h6, _⟩ := lastAt_some hq
              have h3 : ks.getD q ⟨#[]⟩ ∈ ks := by rw [List.getD_eq_getElem?_getD, List.getElem?_eq_getElem (by omega)]; exact List.getElem_mem _
              have h4 := HSZ.out _ h3
              rw [h6] at h4
              omega
          · rcases HOWN.out.2 with ⟨e1, e2⟩ | ⟨g, cap, cur, e1, _, _, h4, _⟩
            · injection e1 with e3 e4 e5; omega
            · injection e1 with e3 e4 e5; omega
          · rcases HOWN.out.2 with ⟨e1, e2⟩ | ⟨g, cap, cur, e1, e9, e3, _⟩
            · injection e1 with e3 e4 e5; omega
            · injection e1 with e4 e5 e6
              subst e4
              have e9' : w4.heap.size + 1 ≤ g := e9
              refine ⟨g, 0, rfl, ⟨by omega, (Array.getElem?_eq_some_iff.1 e3).1⟩, fun i hi => ⟨HC7.out _ (HIX.out i hi).2, fun t ht => ?_⟩⟩
              rw [Nat.zero_add]
              have h7 : ∀ q, q < j → (cs (ix q)).length = 7 := fun q hq => HC7.out _ (HIX.out q hq).2
              exact (HOWN.out.cellAt (i * 7 + t) (by omega)).trans (flatC_get h7 i t hi ht)
          · rw [List.getElem?_map, Option.map_eq_some_iff] at hi
            obtain ⟨s, hs, rfl⟩ := hi
            have h2 := HKN.out
            have hil := (List.getElem?_eq_some_iff.1 hs).1
            obtain ⟨h3, h4⟩ := HIX.out i (by omega)
            rw [List.getD_eq_getElem?_getD, hs] at h3
            have h5 : lastV ks (l.map (·.2)) s = (l.map (·.2)).getD (ix i) VT0 := by
              unfold lastV
              have h6 : lastAt ks s ks.length = some (ix i) := h3
              rw [h6]
            have h6 : (l.map (·.2))[ix i]? = some (lastV ks (l.map (·.2)) s) := by rw [h5, List.getD_eq_getElem?_getD, List.getElem?_eq_getElem (by rw [HLM.out]; omega)]; rfl
            exact ((HCV.out _ _ h6).keep fun p hp => (HBEL.out.cell (by have := hp.2.1; omega)).trans (HB24.out.cell hp.2.1)).more fun b hb => ⟨by have := hb.1; omega, by have := hb.2.1; omega⟩
        have hbb : But (fun _ => False) w2 wr := (But.of (C := fun _ => False) HB24.out).trans (But.of HBEL.out)
        have hr2 := (hbb.block (pb + 1) (Array.getElem?_eq_some_iff.1 HR2.out).1 (fun h => h)).trans HR2.out
        have HEr := Lib.hid (HE2.out.stay hbb (fun _ _ h => h) (fun h => h))
        have HBWr := Lib.hid (HBW2.out.trans (hbb.no (C := fun j => j = sb)))
        have HRr := Lib.hid hr2
        obtain ⟨t0, t1, t2, t3, t4, t5, t6⟩ := box7_of HBX.out
        have hmk : mkObj l = objV ks (l.map (·.2)) := by unfold mkObj; rw [HKS.out]
        have hhd := held_c wr p hobj (fun b hb => hb.2)
        obtain ⟨V, hV⟩ : ∃ V : VT, objV ks (l.map (·.2)) = V := ⟨_, rfl⟩
        rw [hV] at hhd hobj hmk
        have HHD := Lib.hid hhd
        have HVI := Lib.hid hobj
        have hq : (if 16384 < (seen V).length then RR.bad p 3 else RR.ok V q) = RW := by
          rw [← HRW.out, ← hmk]; rfl
        have HQ := Lib.hid hq
        clear hhd hobj hbb hr2 hV hq hmk HIT HRW HE2 HBW2 HR2
        by_cases h16 : 16384 < (seen V).length
        · have hhd := HHD.out
          rw [if_pos h16] at hhd
          have hq := HQ.out
          rw [if_pos h16] at hq
          clear h16 HQ HHD
          go_wp2_with fail
          refine hhd.mono ?_
          rintro e w3 ⟨rfl, hb3⟩
          go_wp2_with fail
          rw [← hq]
          exact ⟨rfl, rfl, HBWr.out.trans hb3.no⟩
        · have hhd := HHD.out
          rw [if_neg h16] at hhd
          have hq := HQ.out
          rw [if_neg h16] at hq
          have HQ2' := Lib.hid hq
          clear h16 HQ HHD hq
          go_wp2_with fail
          refine hhd.mono ?_
          rintro e w3 ⟨rfl, hb3⟩
          have hr3 := (hb3.block (pb + 1) (Array.getElem?_eq_some_iff.1 HRr.out).1 (fun h => h)).trans HRr.out
          have hvi3 := HVI.out.keep (w' := w3) (fun p hp => hb3.cell hp.2 (fun h => h))
          obtain ⟨y0, y1, y2, y3, y4, y5, y6⟩ := box7_of hr3
          have f0 : ∀ j, w3.frozen? ⟨pb + 1, j, none⟩ = false := fun j => by simp [World.frozen?, hr3]
          have HE3 := Lib.hid (HEr.out.stay hb3 (fun _ _ h => h) (fun h => h))
          have HBW3 := Lib.hid (HBWr.out.trans (hb3.no (C := fun j => j = sb)))
          have HVI3 := Lib.hid hvi3
          have HSZ3 := Lib.hid hb3.size
          clear hr3 hvi3 hb3 hhd t0 t1 t2 t3 t4 t5 t6
          go_wp2_with fail
          have hC : But (fun j => j = pb + 1) w3 (((((((w3.setCell ⟨pb + 1, 0, none⟩ (.int .i64 6)).setCell ⟨pb + 1, 1, none⟩ (.bool false)).setCell ⟨pb + 1, 2, none⟩ (.slice none 0 0)).setCell ⟨pb + 1, 3, none⟩ (.int .i64 0)).setCell ⟨pb + 1, 4, none⟩ (.string ⟨#[]⟩)).setCell ⟨pb + 1, 5, none⟩ (.slice L1 j lc1)).setCell ⟨pb + 1, 6, none⟩ (.slice K1 j kc1)) := (But.setCell (C := fun j => j = pb + 1) (But.setCell (C := fun j => j = pb + 1) (But.setCell (C := fun j => j = pb + 1) (But.setCell (C := fun j => j = pb + 1) (But.setCell (C := fun j => j = pb + 1) (But.setCell (C := fun j => j = pb + 1) (But.setCell (C := fun j => j = pb + 1) (But.refl _ _) (p := ⟨pb + 1, 0, none⟩) (.inl rfl) _) (p := ⟨pb + 1, 1, none⟩) (.inl rfl) _) (p := ⟨pb + 1, 2, none⟩) (.inl rfl) _) (p := ⟨pb + 1, 3, none⟩) (.inl rfl) _) (p := ⟨pb + 1, 4, none⟩) (.inl rfl) _) (p := ⟨pb + 1, 5, none⟩) (.inl rfl) _) (p := ⟨pb + 1, 6, none⟩) (.inl rfl) _)
          refine bodyPost_ret (v := .agg #[.int .i64 6, .bool false, .slice none 0 0, .int .i64 0, .string ⟨#[]⟩, .slice L1 j lc1, .slice K1 j kc1]) (by simp [results, Tryz.results38, go_sem, y0, y1, y2, y3, y4, y5, y6]) rfl ?_
          rw [← HQ2'.out]
          refine ⟨⟨_, rfl, _, rfl, ?_⟩, HE3.out.stay hC (fun j hj h => by have := HLT.out; omega) (fun h => by have := HLT.out; omega), ⟨hC.os.trans HBW3.out.os, hC.tape.trans HBW3.out.tape, hC.output.trans HBW3.out.output, Nat.le_trans HBW3.out.size hC.size, fun j hj hc => (hC.block j (Nat.lt_of_lt_of_le hj HBW3.out.size) (by have := HPB.out; omega)).trans (HBW3.out.block j hj hc)⟩⟩
          exact (HVI3.out.keep fun p hp => hC.cell (Nat.lt_of_lt_of_le hp.2 HSZ3.out) (fun h => by have := hp.1; omega)).more fun b hb => ⟨by have := hb.1; have := HPB.out; omega, Nat.lt_of_lt_of_le hb.2 (Nat.le_trans HSZ3.out hC.size)⟩
end Go.Proofs.YtpjllcengnolkaaGreatDoor
