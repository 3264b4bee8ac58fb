/-
  Contract of replace.
-/
import Derived.Test.YtdacdppmgcaioaaDoorETjp
import Derived.Test.YtdacdppmgcaioaaDoorETcu
set_option linter.unusedVariables false
set_option linter.unusedSimpArgs false
namespace Go.Proofs.YtdacdppmgcaioaaDoor
open Go.RowKit Go.Lib

theorem Sh.more {B pb : Nat} {out : List UInt8} {w : World} (h : Sh B pb out w) (m : List UInt8) (hf : w.cell? ⟨pb, 2, none⟩ = some (.bool true)) : Sh B pb (out ++ m) w := by
  obtain ⟨bs, f, h1, h2, h3⟩ := h
  have h4 := h1.flag.1
  rw [hf] at h4
  injection h4 with h4; injection h4 with h4
  subst h4
  rcases h3 with ⟨h3, -⟩ | ⟨-, h3⟩
  · cases h3
  · exact ⟨bs, true, h1, h2, .inr ⟨rfl, by rw [List.length_append]; omega⟩⟩
theorem Sh.flag2 {B pb : Nat} {out : List UInt8} {w : World} (h : Sh B pb out w) : ∃ f, w.cell? ⟨pb, 2, none⟩ = some (.bool f) := by
  obtain ⟨bs, f, h1, -, -⟩ := h
  exact ⟨f, h1.flag.1⟩
abbrev rwO (r : ByteArray) (tb pb : Nat) : Obj := .cells #[.string r, .func (.func 71) #[] #[.pointer (some ⟨tb, 0, none⟩)], .pointer (some ⟨pb, 0, none⟩)] 76
theorem restSz_of3 {wb : Nat} {w : World} {r : ByteArray} {vs : Array Value} {t : TypeId} (h : w.heap[wb]? = some (.cells vs t)) (h0 : vs[0]? = some (.string r)) : restSz wb w = r.size := by
  have h2 : w.cell? ⟨wb, 0, none⟩ = some (.string r) := cellT (i := 0) h h0
  unfold restSz; rw [h2]
set_option maxHeartbeats 8000000 in
set_option maxRecDepth 100000 in
theorem replace_c {B rb tb pb : Nat} {m : Int} {out : List UInt8} (s t by' : ByteArray) (w : World) (hSh : Sh B pb out w) (hs : s.size ≤ 4294967280) (ht : t.size ≤ 140737488355328) (hby : by'.size ≤ 140737488355328)
    (hrb : w.heap[rb]? = some (rwO s tb pb)) (htb : w.heap[tb]? = some (.cells #[.string t] 9)) (hm : w.cell? ⟨0, 0, none⟩ = some (.int .i64 m)) (hB : B ≤ rb) (hmB : 0 < B) :
    Calls Tryd.prog 64 #[.pointer (some ⟨rb, 0, none⟩), .string by'] w fun e w' => e = .returned (.tuple #[]) ∧ Sh B pb (out ++ joinB by'.data.toList (cutP (nxOf t.data.toList) s.data.toList)) w' ∧ Mid B (fun k => k = pb ∨ k = rb) w w' := by
  obtain ⟨total, htot⟩ : ∃ T, out ++ joinB by'.data.toList (cutP (nxOf t.data.toList) s.data.toList) = T := ⟨_, rfl⟩
  rw [htot]
  have hBp := hSh.base
  have hBw : B ≤ w.heap.size := by have := hSh.lt; omega
  have HSH := Lib.hid hSh
  have HRB := Lib.hid hrb
  have HTB := Lib.hid htb
  have HM := Lib.hid hm
  have HTO := Lib.hid htot
  clear hSh hrb htb hm htot
  go_enter Tryd.func64, Tryd.ntmps64
  go_wp2_with fail
  go_loopw [] (fun wr => ∃ (done : List UInt8) (r : ByteArray), Hid (Sh B pb done wr) ∧ Hid (wr.heap[rb]? = some (rwO r tb pb)) ∧ Hid (done ++ joinB by'.data.toList (cutP (nxOf t.data.toList) r.data.toList) = total) ∧ Hid (r.size ≤ s.size) ∧ Hid (Mid B (fun k => k = pb ∨ k = rb) w wr)) (fun wr => restSz rb wr)
  case atStart => exact ⟨out, s, HSH.out, HRB.out, HTO.out, Nat.le_refl _, Mid.refl _ _ _⟩
  case round =>
    obtain ⟨done, r, hS, hR, hT, hrs, hMid⟩ := hrel
    obtain ⟨f, hf⟩ := hS.out.flag2
    have hpb := hS.out.lt
    have hr0 : wr.cell? ⟨rb, 0, none⟩ = some (.string r) := cellT hR.out rfl
    have hr2 : wr.cell? ⟨rb, 2, none⟩ = some (.pointer (some ⟨pb, 0, none⟩)) := cellT hR.out rfl
    have HME := Lib.hid (restSz_of3 hR.out rfl)
    have hRlt := (Array.getElem?_eq_some_iff.1 hR.out).1
    cases f with
    | true =>
      have hfin := hS.out.more (joinB by'.data.toList (cutP (nxOf t.data.toList) r.data.toList)) hf
      rw [hT.out] at hfin
      have HF := Lib.hid hfin
      have HMI := Lib.hid hMid.out
      clear hfin hS hR hT hrs hMid
      go_wp2_with fail
      first | go_end0 | refine bodyPost_ret (results_none rfl _ _ _) rfl ?_
      exact ⟨rfl, HF.out, HMI.out⟩
    | false =>
      have hne : rb ≠ pb := by
        rintro rfl
        obtain ⟨bs, g, h1, -, -⟩ := hS.out
        obtain ⟨p, v, -, hb, -⟩ := h1.box
        rw [hR.out] at hb; injection hb with hb; injection hb with _ h2 _; exact absurd h2 (by decide)
      have htr : tb ≠ rb ∧ tb ≠ pb := by
        constructor
        · rintro rfl
          have := HTB.out
          rw [HRB.out] at this; injection this with this; injection this with _ h2 _; exact absurd h2 (by decide)
        · rintro rfl
          obtain ⟨bs, g, h1, -, -⟩ := HSH.out
          obtain ⟨p, v, -, hb, -⟩ := h1.box
          rw [HTB.out] at hb; injection hb with hb; injection hb with _ h2 _; exact absurd h2 (by decide)
      have htw : wr.heap[tb]? = some (.cells #[.string t] 9) := hMid.out.keep HTB.out (by rintro (h | h); exact htr.2 h; exact htr.1 h) (by decide)
      have hmw : wr.cell? ⟨0, 0, none⟩ = some (.int .i64 m) := ((hMid.out.below hBw (by rintro k hk (h | h) <;> omega)).cell (p := ⟨0, 0, none⟩) hmB).trans HM.out
      have hsz := hMid.out.size
      have hBwr : B ≤ wr.heap.size := by omega
      have hrs' : r.size ≤ 4294967280 := by have := hrs.out; omega
      have hpast := past_c r wr hrs' hR.out rfl rfl (fun ar W => by kernel_rfl) (placeOf1_c t wr ht hmw htw (Array.getElem?_eq_some_iff.1 htw).1 (Nat.le_refl _) (by omega))
      have HP := Lib.hid hpast
      have HS := Lib.hid hS.out
      have HR := Lib.hid hR.out
      have HT := Lib.hid hT.out
      have HRS := Lib.hid hrs.out
      have HMI := Lib.hid hMid.out
      clear hpast hS hR hT hrs hMid htw hmw htr
      go_wp2_with fail
      refine HP.out.mono ?_
      rintro e w1 hE
      obtain ⟨p, q, is, rfl, hbox1, hM1, hps, hqs, hcs⟩ : ∃ (p q : ByteArray) (is : Bool), e = .returned (.tuple #[.string p, .bool is]) ∧ w1.heap[rb]? = some (rwO q tb pb) ∧ But (fun k => k = rb) wr w1 ∧ p.size ≤ r.size ∧ q.size ≤ r.size ∧ ((is = false ∧ cutP (nxOf t.data.toList) r.data.toList = [p.data.toList]) ∨ (is = true ∧ cutP (nxOf t.data.toList) r.data.toList = p.data.toList :: cutP (nxOf t.data.toList) q.data.toList ∧ q.size + 1 ≤ r.size)) := by
        rcases hE with ⟨hn, rfl, hb1⟩ | ⟨a, z, w2, hn, haz, rfl, hb2, rfl⟩
        · exact ⟨r, r, false, rfl, (hb1.block _ hRlt).trans HR.out, But.of hb1, Nat.le_refl _, Nat.le_refl _, .inl ⟨rfl, cutP_none hn⟩⟩
        · have hbx := (hb2.block _ hRlt).trans HR.out
          have hgo := nxOf_goes _ _ _ _ hn
          have hM : But (fun k => k = rb) wr (w2.setCell ⟨rb, 0, none⟩ (.string (r.extract (a + z) r.size))) := But.setCell (C := fun k => k = rb) (p := ⟨rb, 0, none⟩) (But.of hb2) (.inl rfl) _
          have hps : (r.extract 0 a).size ≤ r.size := by rw [sizeT_list (r.extract 0 a), ext_take, List.length_take, ← sizeT_list]; omega
          have hqs : (r.extract (a + z) r.size).size + 1 ≤ r.size := by rw [sizeT_list (r.extract _ _), ext_drop, List.length_drop, ← sizeT_list]; omega
          refine ⟨r.extract 0 a, r.extract (a + z) r.size, true, rfl, by simpa using set_pageT (i := 0) (.string (r.extract (a + z) r.size)) hbx, hM, hps, by omega, .inr ⟨rfl, ?_, hqs⟩⟩
          rw [ext_take, ext_drop]; exact cutP_some (nxOf_goes _) hn
      have hS1 : Sh B pb done w1 := HS.out.stay hM1 (fun k hk vs t2 fr hv => by
        have hk : k = rb := hk
        subst hk
        rw [HR.out] at hv; injection hv with hv; injection hv with _ h2 _
        subst h2; decide)
      have hsz1 := hM1.size
      have hput1 := put_c w1 hS1 p (by omega) (by omega)
      have hMM1 : Mid B (fun k => k = pb ∨ k = rb) w w1 := HMI.out.trans ⟨hM1.os, hM1.tape, hM1.output, hM1.size, fun k hk hc _ => hM1.block k hk (fun h => hc (.inr h))⟩
      have d2 : w1.cell? ⟨rb, 2, none⟩ = some (.pointer (some ⟨pb, 0, none⟩)) := cellT hbox1 rfl
      have HPU := Lib.hid hput1
      have HB1 := Lib.hid hbox1
      have HMM1 := Lib.hid hMM1
      have HCS := Lib.hid hcs
      have HQS := Lib.hid hqs
      clear hE hbox1 hM1 hcs hS1 hput1 hMM1 hr0 hr2 hf HP hqs
      go_wp2_with fail
      refine HPU.out.mono ?_
      rintro e w3 ⟨rfl, hS3, hM3⟩
      have hbox3 := hM3.keep HB1.out hne (by decide)
      have hMM3 : Mid B (fun k => k = pb ∨ k = rb) w w3 := HMM1.out.trans (hM3.mono fun k _ h => .inl h)
      have hsz3 := hM3.size
      have HS3 := Lib.hid hS3
      have HB3 := Lib.hid hbox3
      have HMM3 := Lib.hid hMM3
      have d3 : w3.cell? ⟨rb, 2, none⟩ = some (.pointer (some ⟨pb, 0, none⟩)) := cellT hbox3 rfl
      clear hS3 hM3 hbox3 hMM3 d2
      rcases HCS.out with ⟨rfl, hc⟩ | ⟨rfl, hc, hq⟩
      · have HC := Lib.hid hc
        clear hc
        go_wp2_with fail
        first | go_end0 | refine bodyPost_ret (results_none rfl _ _ _) rfl ?_
        refine ⟨rfl, ?_, HMM3.out⟩
        have h1 := HT.out
        rw [HC.out] at h1
        rw [← h1]
        exact HS3.out
      · have HC := Lib.hid hc
        have HQ := Lib.hid hq
        have hput3 := put_c w3 HS3.out by' hby (by omega)
        have HPU3 := Lib.hid hput3
        clear hc hq hput3
        go_wp2_with fail
        refine HPU3.out.mono ?_
        rintro e w4 ⟨rfl, hS4, hM4⟩
        have hbox4 := hM4.keep HB3.out hne (by decide)
        have hMM4 : Mid B (fun k => k = pb ∨ k = rb) w w4 := HMM3.out.trans (hM4.mono fun k _ h => .inl h)
        have HS4 := Lib.hid hS4
        have HB4 := Lib.hid hbox4
        have HMM4 := Lib.hid hMM4
        clear hS4 hM4 hbox4 hMM4
        go_wp2_with fail
        go_roundw
        case rel =>
          refine ⟨_, q, HS4.out, HB4.out, ?_, ?_, HMM4.out⟩
          · show _ = _
            have h1 := HT.out
            rw [HC.out, joinB_cons (cutP_ne _ _)] at h1
            rw [← h1]
            simp
          · show _ ≤ _
            have h1 := HRS.out
            have h2 := HQS.out
            omega
        case measure =>
          rw [restSz_of3 HB4.out rfl, HME.out]
          have := HQ.out
          omega
end Go.Proofs.YtdacdppmgcaioaaDoor
