/-
  Contract of cut.
-/
import Derived.Test.YtdacdppmgcaioaaDoorLTcp
import Derived.Maps.AppendAt
import Derived.Laws.EntriesVeiled
set_option linter.unusedVariables false
set_option linter.unusedSimpArgs false
namespace Go.Proofs.YtdacdppmgcaioaaDoor
open Go.RowKit Go.Lib

theorem NextP.later {fn : Nat} {caps : Array Value} {B B' : Nat} {w w' : World} {nx : List UInt8 → Option (Nat × Nat)} (h : NextP fn caps B w nx) (hb : Below B w w') (hB : B ≤ B') : NextP fn caps B' w' nx := fun s W hs hW hBW => h s W hs (hb.trans (hW.mono hB)) (by omega)
theorem infoStr : (Tryd.prog.info? 9).map (fun i => (i.zero, i.size, i.bytes)) = some (some (.string ⟨#[]⟩), 1, 16) := by kernel_rfl
theorem ext_take (s : ByteArray) (a : Nat) : (s.extract 0 a).data.toList = s.data.toList.take a := by
  rw [ByteArray.data_extract, Array.toList_extract]; simp
theorem ext_drop (s : ByteArray) (a : Nat) : (s.extract a s.size).data.toList = s.data.toList.drop a := by
  rw [ByteArray.data_extract, Array.toList_extract]
  show (s.data.toList.drop a).take (s.data.size - a) = _
  rw [List.take_of_length_le (by rw [List.length_drop, Array.length_toList]; omega)]
theorem sizeT_list (s : ByteArray) : s.size = s.data.toList.length := by rw [Array.length_toList]; rfl

/-- What cut tells of parts. -/
def CutE (ps : List (List UInt8)) (w0 : Nat) (e : Ending) (w' : World) : Prop :=
  ((∀ p ∈ ps, p.length ≤ 16384) ∧ ∃ (g c : Nat) (xs : List ByteArray), xs.map (fun x => x.data.toList) = ps ∧ w0 ≤ g ∧ g < w'.heap.size ∧ e = .returned (.tuple #[.slice (some ⟨g, 0, none⟩) xs.length c, .int .i64 0]) ∧ xs.length ≤ c ∧ RdX w' (g + 1) (some ⟨g, 0, none⟩) xs) ∨
    ((∃ p ∈ ps, 16384 < p.length) ∧ e = .returned (.tuple #[.slice none 0 0, .int .i64 5]))
set_option maxHeartbeats 1000000 in
set_option maxRecDepth 100000 in
theorem cut1_c {B b1 : Nat} (s : ByteArray) (w : World) (hs : s.size ≤ 140737488355328) (h1 : w.heap[b1]? = some (.cells #[.string s] 9)) (hb1 : b1 < B) (hBw : B ≤ w.heap.size) :
    Puts 75 #[.pointer (some ⟨b1, 0, none⟩)] B w s.data.toList := by
  intro pb W hp hS hb
  have c1 : W.cell? ⟨b1, 0, none⟩ = some (.string s) := (hb.cell (p := ⟨b1, 0, none⟩) hb1).trans (cellT h1 rfl)
  have hput := put_c W hS s hs (by have := hb.size; omega)
  have HP := Lib.hid hput
  clear hS hput h1 hb
  go_enter Tryd.func75, Tryd.ntmps75
  go_wp2_with fail
  refine HP.out.mono ?_
  rintro e w3 ⟨rfl, hS3, hM3⟩
  go_wp2_with fail
  first | go_end0 | refine bodyPost_ret (results_none rfl _ _ _) rfl ?_
  exact ⟨rfl, by simpa using hS3, mid_loose hM3 hp⟩
/-- A row of texts of the call's own reads as texts. -/
theorem rdx_own {w : World} {B g c n : Nat} {xs : List ByteArray} (h : w.ownsRow B 9 1 (.slice (some ⟨g, 0, none⟩) n c) n (xs.map Value.string)) (hn : n = xs.length) (hg : g < w.heap.size) : RdX w (g + 1) (some ⟨g, 0, none⟩) xs := fun i x hx => by
  refine ⟨g, 0, rfl, by omega, ?_⟩
  have := h.cells (g := g) rfl i (.string x) (by rw [List.getElem?_map, hx]; rfl)
  by_cases h0 : i = 0
  · subst h0; simpa [Addr.add] using this
  · simpa [Addr.add, h0] using this
/-- How much is left on the walk in a block. -/
def restSz (wb : Nat) (w : World) : Nat := match w.cell? ⟨wb, 0, none⟩ with | some (.string r) => r.size | _ => 0
theorem restSz_of {wb : Nat} {w : World} {r : ByteArray} {f : Value} {t : TypeId} (h : w.heap[wb]? = some (.cells #[.string r, f] t)) : restSz wb w = r.size := by
  have h2 : w.cell? ⟨wb, 0, none⟩ = some (.string r) := cellT (i := 0) h rfl
  unfold restSz; rw [h2]
set_option maxHeartbeats 8000000 in
set_option maxRecDepth 100000 in
theorem cut_c {fn : Nat} {caps : Array Value} {nx : List UInt8 → Option (Nat × Nat)} (hg : GoesT nx) (s : ByteArray) (w : World) (hT : Tabs w) (hs : s.size ≤ 4294967280)
    (hcf : ∀ (ar : Array Value) (W : World), (callFunc fn ar).run Tryd.prog W = .ok (.enter fn ar) W) (hN : NextP fn caps w.heap.size w nx) :
    Calls Tryd.prog 46 #[.string s, .func (.func fn) #[] caps] w fun e w' => CutE (cutP nx s.data.toList) w.heap.size e w' ∧ Below w.heap.size w w' := by
  obtain ⟨i0, hi, hz0, hz1, hz2⟩ := info_parts infoStr
  obtain ⟨wb, hwb⟩ : ∃ b, w.heap.size = b := ⟨_, rfl⟩
  have hb0 : Below wb w (w.alloc (.cells #[.string s, .func (.func fn) #[] caps] 74)) := by rw [← hwb]; exact (Below.refl _ w).alloc (Nat.le_refl _) _
  have hnew := World.alloc_heap_new w (.cells #[.string s, .func (.func fn) #[] caps] 74)
  have hs0 : (w.alloc (.cells #[.string s, .func (.func fn) #[] caps] 74)).heap.size = wb + 1 := by rw [World.size_alloc, hwb]
  rw [hwb] at hnew hN ⊢
  have HN := Lib.hid hN
  have HT := Lib.hid hT
  have HB0 := Lib.hid hb0
  have HNEW := Lib.hid hnew
  have HS0 := Lib.hid hs0
  have HS := Lib.hid hs
  have HWB := Lib.hid hwb
  clear hT hN hb0 hnew hs0 hs
  go_enter Tryd.func46, Tryd.ntmps46
  go_upto_region 2 with fail
  try rw [hwb]
  clear hwb
  generalize (w.alloc (.cells #[.string s, .func (.func fn) #[] caps] 74)) = w0 at *
  go_wp2_with fail
  go_loopw [7] (fun v0 wr => ∃ (v : Value) (done : List ByteArray) (r : ByteArray), v = v0 ∧ Hid (wr.ownsRow wb 9 1 v done.length (done.map Value.string)) ∧ Hid (wr.heap[wb]? = some (.cells #[.string r, .func (.func fn) #[] caps] 74)) ∧ Hid (cutP nx s.data.toList = done.map (fun x => x.data.toList) ++ cutP nx r.data.toList) ∧ Hid (∀ d ∈ done, d.size ≤ 16384) ∧ Hid (done.length + r.size ≤ s.size) ∧ Hid (Below wb w wr) ∧ Hid (wb + 1 ≤ wr.heap.size)) (fun _ wr => restSz wb wr)
  case atStart => exact ⟨_, [], s, rfl, ⟨rfl, .inl ⟨rfl, rfl⟩⟩, HNEW.out, by show _ = _; simp, by show ∀ d ∈ [], _; simp, by show _ ≤ _; simp, HB0.out, by show _ ≤ _; rw [HS0.out]; omega⟩
  case round =>
    obtain ⟨v, done, r, rfl, hrow, hbox, hcut, hdone, hlen, hbel, hsz⟩ := hrel
    have hrs : r.size ≤ 4294967280 := by have h1 := hlen.out; have h2 := HS.out; omega
    have hmeas := restSz_of hbox.out
    have hbr : Below wr.heap.size wr wr := Below.refl _ _
    have hpast := past_c r wr hrs hbox.out rfl rfl hcf (HN.out.later hbel.out (by have := hsz.out; omega))
    have HP := Lib.hid hpast
    have HROW := Lib.hid hrow.out
    have HBOX := Lib.hid hbox.out
    have HCUT := Lib.hid hcut.out
    have HDN := Lib.hid hdone.out
    have HLEN := Lib.hid hlen.out
    have HBEL := Lib.hid hbel.out
    have HSZ := Lib.hid hsz.out
    have HME := Lib.hid hmeas
    clear hpast hrow hbox hcut hdone hlen hbel hsz hmeas HNEW HB0 HS0
    go_wp2_with fail
    refine HP.out.mono ?_
    rintro e w1 hE
    obtain ⟨p, q, is, rfl, hbox1, hrow1, hbel1, hsz1, hps, hcs⟩ : ∃ (p q : ByteArray) (is : Bool), e = .returned (.tuple #[.string p, .bool is]) ∧ w1.heap[wb]? = some (.cells #[.string q, .func (.func fn) #[] caps] 74) ∧ w1.ownsRow wb 9 1 v done.length (done.map Value.string) ∧ Below wb w w1 ∧ wb + 1 ≤ w1.heap.size ∧ p.size ≤ r.size ∧ ((is = false ∧ cutP nx r.data.toList = [p.data.toList]) ∨ (is = true ∧ cutP nx r.data.toList = p.data.toList :: cutP nx q.data.toList ∧ q.size + 1 ≤ r.size)) := by
      have hltw : wb < wr.heap.size := by have := HSZ.out; omega
      rcases hE with ⟨hn, rfl, hb1⟩ | ⟨a, z, w2, hn, haz, rfl, hb2, rfl⟩
      · refine ⟨r, r, false, rfl, (hb1.block _ hltw).trans HBOX.out, row_stayT HROW.out (fun g vs hg _ => hb1.block g (Array.getElem?_eq_some_iff.1 hg).1), HBEL.out.trans (hb1.mono (by omega)), by have := hb1.size; omega, Nat.le_refl _, .inl ⟨rfl, cutP_none hn⟩⟩
      · have hbx := (hb2.block _ hltw).trans HBOX.out
        have hgo := hg _ _ _ hn
        have hM : But (fun k => k = wb) wr (w2.setCell ⟨wb, 0, none⟩ (.string (r.extract (a + z) r.size))) := But.setCell (C := fun k => k = wb) (p := ⟨wb, 0, none⟩) (But.of hb2) (.inl rfl) _
        refine ⟨r.extract 0 a, r.extract (a + z) r.size, true, rfl, by simpa using set_pageT (i := 0) (.string (r.extract (a + z) r.size)) hbx, row_stayT HROW.out (fun g vs hg2 _ => hM.block g (Array.getElem?_eq_some_iff.1 hg2).1 (by rintro rfl; rw [HBOX.out] at hg2; injection hg2 with hg2; injection hg2 with _ h2 _; exact absurd h2 (by decide))), HBEL.out.trans (hM.below (by omega) (fun k hk e => by omega)), by have := hM.size; omega, by rw [sizeT_list (r.extract 0 a), ext_take, List.length_take, ← sizeT_list]; omega, .inr ⟨rfl, ?_, ?_⟩⟩
        · rw [ext_take, ext_drop]; exact cutP_some hg hn
        · rw [sizeT_list (r.extract _ _), ext_drop, List.length_drop, ← sizeT_list]; omega
    have HB1 := Lib.hid hbox1
    have HR1 := Lib.hid hrow1
    have HL1 := Lib.hid hbel1
    have HS1 := Lib.hid hsz1
    have HCS := Lib.hid hcs
    clear hE hbox1 hrow1 hbel1 hsz1 hcs HP hbr
    go_upto_region 4 with fail
    have hltw : wb < w1.heap.size := by have := HS1.out; omega
    obtain ⟨pb, hpb⟩ : ∃ b, w1.heap.size = b := ⟨_, rfl⟩
    have hnew2 := World.alloc_heap_new w1 (.cells #[.string p] 9)
    have hbel2 : Below w1.heap.size w1 (w1.alloc (.cells #[.string p] 9)) := (Below.refl _ w1).alloc (Nat.le_refl _) _
    have hs2 : (w1.alloc (.cells #[.string p] 9)).heap.size = pb + 1 := by rw [World.size_alloc, hpb]
    try rw [hpb]
    rw [hpb] at hnew2 hbel2
    have HPB := Lib.hid hpb
    clear hpb
    generalize (w1.alloc (.cells #[.string p] 9)) = W2 at *
    have hT2 : Tabs W2 := HT.out.below (by rw [HWB.out]; exact HL1.out.trans (hbel2.mono (by have := HPB.out; omega)))
    have hwr := written_c (fn := 75) (caps := #[.pointer (some ⟨pb, 0, none⟩)]) (A := none) (c := 0) (xs := []) (out := p.data.toList) W2 hT2 (fun i x hx => by simp at hx) (fun x hx => by simp at hx) (by simp) (fun ar W => by kernel_rfl)
      (fun _ => cut1_c p W2 (by omega) hnew2 (by omega) (Nat.le_refl _))
    rw [wrote_ok errX_nil] at hwr
    have HWR := Lib.hid hwr
    have HB2 := Lib.hid hbel2
    have HS2 := Lib.hid hs2
    clear hwr hbel2 hs2 hnew2 hT2
    by_cases hpl : p.data.toList.length ≤ 16384
    · rw [tell_ok hpl] at HWR
      obtain ⟨T, hT⟩ : ∃ T : ByteArray, (⟨p.data.toList.toArray⟩ : ByteArray) = T := ⟨_, rfl⟩
      have hTL : T.data.toList = p.data.toList := by rw [← hT]
      rw [hT] at HWR
      have HTL := Lib.hid hTL
      have HPL := Lib.hid hpl
      clear hT hTL hpl
      go_wp2_with fail
      refine HWR.out.mono ?_
      rintro e3 w3 ⟨rfl, hb3⟩
      have hpb2 : pb ≤ W2.heap.size := by have := HS2.out; omega
      have hb13 : Below w1.heap.size w1 w3 := by rw [HPB.out]; exact HB2.out.trans (hb3.mono hpb2)
      have hrow3 : w3.ownsRow wb 9 1 v done.length (done.map Value.string) := row_stayT HR1.out (fun g vs hg _ => hb13.block g (Array.getElem?_eq_some_iff.1 hg).1)
      have hbox3 := (hb13.block wb hltw).trans HB1.out
      have hbel3 : Below wb w w3 := HL1.out.trans (hb13.mono (by omega))
      have hs3 : wb + 1 ≤ w3.heap.size := by have := hb13.size; omega
      have hro : ∀ o, (w3.alloc o).ownsRow wb 9 1 v done.length (done.map Value.string) := fun o => row_stayT hrow3 (fun g vs hg _ => Below.heap_alloc _ _ _ (Array.getElem?_eq_some_iff.1 hg).1)
      have hne : v.ownBlock ≠ some wb := fun e => by
        rcases hrow3.2 with ⟨rfl, _⟩ | ⟨g, cap, cur, rfl, e2, e3, _⟩
        · simp [Value.ownBlock] at e
        · simp only [Value.ownBlock, Option.some.injEq] at e
          subst e
          rw [hbox3] at e3; injection e3 with e3; injection e3 with _ h2 _; exact absurd h2 (by decide)
      have hgrb : ∀ g, v.ownBlock = some g → wb ≤ g := fun g e => by
        rcases hrow3.2 with ⟨rfl, _⟩ | ⟨g2, cap, cur, rfl, e2, e3, _⟩
        · simp [Value.ownBlock] at e
        · simp only [Value.ownBlock, Option.some.injEq] at e
          omega
      have hdl : done.length ≤ 4294967280 := by have h1 := HLEN.out; have h2 := HS.out; omega
      have HBX3 := Lib.hid hbox3
      have HBL3 := Lib.hid hbel3
      have HSZ3 := Lib.hid hs3
      clear hb3 hb13 hrow3 hbox3 hbel3
      rcases HCS.out with ⟨rfl, hc⟩ | ⟨rfl, hc, hq⟩
      · have HC := Lib.hid hc
        clear hc
        go_wp2_with (at_builtin; refine wpList_append_own_at _ rfl (.tmp 27) (.tmp 29) _ rfl wb 9 i0 (.string ⟨#[]⟩) 1 16 Tryd.underlying22 hi hz0 hz1 hz2 rfl (by decide) v done.length (done.map Value.string) rfl (hro _) ⟨w3.heap.size, 0, none⟩ 1 1 [.string T] rfl rfl (cell_one_new _ _ _) (by simp [Value.oneCell']) (by unfold maxLen; omega) (by omega) (by simp; omega) ?_; intro v1 w4 hown1 hg1 _ hat1)
        rw [show done.map Value.string ++ [.string T] = (done ++ [T]).map Value.string by simp] at hown1
        obtain ⟨g, c, rfl, hgb, hgl, hcap⟩ : ∃ g c, v1 = .slice (some ⟨g, 0, none⟩) (done.length + 1) c ∧ wb ≤ g ∧ g < w4.heap.size ∧ done.length + 1 ≤ c := by
          rcases hown1.2 with ⟨_, hz⟩ | ⟨g, cap, cur, h1, h2, h3, h5⟩
          · omega
          · exact ⟨g, cap, h1, h2, (Array.getElem?_eq_some_iff.1 h3).1, h5.1⟩
        have hrd := rdx_own hown1 (by simp) hgl
        have hbel4 : Below wb w w4 := (HBL3.out.alloc (by have := HSZ3.out; omega) (.cells #[.string T] 9)).grown hg1 (by have := HSZ3.out; simp; omega) (fun k hk => hgrb k hk)
        have HRD := Lib.hid hrd
        have HB4 := Lib.hid hbel4
        clear hrd hbel4 hown1 hg1
        go_wp2_with fail
        go_ret2
        refine ⟨.inl ⟨?_, g, c, done ++ [T], ?_, hgb, hgl, by simp, by simpa using hcap, HRD.out⟩, HB4.out⟩
        · rw [HCUT.out, HC.out]
          intro y hy
          rcases List.mem_append.1 hy with hy | hy
          · obtain ⟨d, hd, rfl⟩ := List.mem_map.1 hy
            rw [← sizeT_list]; exact HDN.out d hd
          · rw [show y = p.data.toList by simpa using hy]; exact HPL.out
        · rw [HCUT.out, HC.out, List.map_append]
          simp [HTL.out]
      · have HC := Lib.hid hc
        have HQ := Lib.hid hq
        clear hc hq
        go_wp2_with (at_builtin; refine wpList_append_own_at _ rfl (.tmp 27) (.tmp 29) _ rfl wb 9 i0 (.string ⟨#[]⟩) 1 16 Tryd.underlying22 hi hz0 hz1 hz2 rfl (by decide) v done.length (done.map Value.string) rfl (hro _) ⟨w3.heap.size, 0, none⟩ 1 1 [.string T] rfl rfl (cell_one_new _ _ _) (by simp [Value.oneCell']) (by unfold maxLen; omega) (by omega) (by simp; omega) ?_; intro v1 w4 hown1 hg1 _ hat1)
        go_roundw
        case rel =>
          have hbel4 : Below wb w w4 := (HBL3.out.alloc (by have := HSZ3.out; omega) (.cells #[.string T] 9)).grown hg1 (by have := HSZ3.out; simp; omega) (fun k hk => hgrb k hk)
          have hbx4 : w4.heap[wb]? = some (.cells #[.string q, .func (.func fn) #[] caps] 74) := (hg1.block wb (by have := HSZ3.out; simp; omega) (fun e => hne e.symm)).trans ((Below.heap_alloc _ _ _ (by have := HSZ3.out; omega)).trans HBX3.out)
          refine ⟨v1, done ++ [T], q, rfl, ?_, hbx4, ?_, ?_, ?_, hbel4, ?_⟩
          · show _ = _ ∧ _
            rw [show (done ++ [T]).length = done.length + 1 by simp, show (done ++ [T]).map Value.string = done.map Value.string ++ [.string T] by simp]
            exact hown1
          · show _ = _
            rw [HCUT.out, HC.out, List.map_append]
            simp [HTL.out]
          · show ∀ d ∈ done ++ [T], _
            intro d hd
            rcases List.mem_append.1 hd with hd | hd
            · exact HDN.out d hd
            · rw [show d = T by simpa using hd, sizeT_list, HTL.out]; exact HPL.out
          · show _ ≤ _
            have h1 := HLEN.out
            have h2 := HQ.out
            simp; omega
          · show _ ≤ _
            have h1 := HSZ3.out
            have h2 := hg1.size
            simp at h2; omega
        case measure =>
          have hbx4 : w4.heap[wb]? = some (.cells #[.string q, .func (.func fn) #[] caps] 74) := (hg1.block wb (by have := HSZ3.out; simp; omega) (fun e => hne e.symm)).trans ((Below.heap_alloc _ _ _ (by have := HSZ3.out; omega)).trans HBX3.out)
          rw [restSz_of hbx4, HME.out]
          have := HQ.out
          omega
    · rw [tell_no (by omega)] at HWR
      have HPL := Lib.hid (show 16384 < p.data.toList.length by omega)
      clear hpl
      go_wp2_with fail
      refine HWR.out.mono ?_
      rintro e3 w3 ⟨rfl, hb3⟩
      have hpb2 : pb ≤ W2.heap.size := by have := HS2.out; omega
      have hb13 : Below w1.heap.size w1 w3 := by rw [HPB.out]; exact HB2.out.trans (hb3.mono hpb2)
      have hbel3 : Below wb w w3 := HL1.out.trans (hb13.mono (by omega))
      have HBL3 := Lib.hid hbel3
      clear hb3 hb13 hbel3
      go_wp2_with fail
      go_ret2
      refine ⟨.inr ⟨⟨p.data.toList, ?_, HPL.out⟩, rfl⟩, HBL3.out⟩
      rw [HCUT.out]
      rcases HCS.out with ⟨rfl, hc⟩ | ⟨rfl, hc, hq⟩ <;> rw [hc] <;> simp
end Go.Proofs.YtdacdppmgcaioaaDoor
