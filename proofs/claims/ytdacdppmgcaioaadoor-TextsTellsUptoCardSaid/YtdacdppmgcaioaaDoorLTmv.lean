/-
  The reference: moved, Lower, Upper.
-/
import Derived.Test.YtdacdppmgcaioaaDoorLTlr
import Derived.Test.YtdacdppmgcaioaaDoorLTlt
set_option linter.unusedVariables false
set_option linter.unusedSimpArgs false
namespace Go.Proofs.YtdacdppmgcaioaaDoor
open Go.RowKit Go.Lib

/-- The first i octets are moved, the others are as they were. -/
structure MvR (g : Nat) (a b : Int) (L : List UInt8) (i : Nat) (w : World) : Prop where
  box : ∃ (arr : Array Value) (fz : Nat × Nat), w.heap[g]? = some (.cells arr 5 fz) ∧ L.length ≤ arr.size ∧ fz.1 = arr.size ∧ (∀ j x, L[j]? = some x → arr[j]? = some (Value.int .u8 ((if j < i then lt8 a b x else x).toNat : Int)))
theorem MvR.cell {g : Nat} {a b : Int} {L : List UInt8} {i : Nat} {w : World} (h : MvR g a b L i w) {j : Nat} {x : UInt8} (hx : L[j]? = some x) : w.cell? ⟨g, j, none⟩ = some (.int .u8 ((if j < i then lt8 a b x else x).toNat : Int)) := by
  obtain ⟨arr, fz, h1, h2, h3, h4⟩ := h.box
  simp [World.cell?, h1, h4 j x hx]
theorem MvR.frozen {g : Nat} {a b : Int} {L : List UInt8} {i : Nat} {w : World} (h : MvR g a b L i w) {j : Nat} (hj : j < L.length) : w.frozen? ⟨g, j, none⟩ = false := by
  obtain ⟨arr, fz, h1, h2, h3, h4⟩ := h.box
  simp [World.frozen?, h1]
  omega
theorem MvR.step {g : Nat} {a b : Int} {L : List UInt8} {i : Nat} {w : World} (h : MvR g a b L i w) {x : UInt8} (hx : L[i]? = some x) : MvR g a b L (i + 1) (w.setCell ⟨g, i, none⟩ (.int .u8 ((lt8 a b x).toNat : Int))) := by
  obtain ⟨arr, fz, h1, h2, h3, h4⟩ := h.box
  refine ⟨arr.set! i (.int .u8 ((lt8 a b x).toNat : Int)), fz, ?_, by simpa using h2, by simpa using h3, fun j y hy => ?_⟩
  · have hlt := (Array.getElem?_eq_some_iff.1 h1).1
    rw [Array.getElem?_eq_getElem hlt] at h1
    injection h1 with h1
    show (w.heap.modify g _)[g]? = _
    rw [Array.getElem?_modify, if_pos rfl, Array.getElem?_eq_getElem hlt, h1]
    rfl
  · have hil : i < L.length := (List.getElem?_eq_some_iff.1 hx).1
    by_cases hji : j = i
    · subst hji
      rw [hx] at hy
      injection hy with hy
      subst hy
      rw [if_pos (by omega)]
      simp [Array.getElem?_setIfInBounds]
      omega
    · have := h4 j y hy
      simp only [Array.set!_eq_setIfInBounds, Array.getElem?_setIfInBounds]
      rw [if_neg (fun e => hji e.symm), this]
      by_cases h5 : j < i
      · rw [if_pos h5, if_pos (by omega)]
      · rw [if_neg h5, if_neg (by omega)]
theorem MvR.skip {g : Nat} {a b : Int} {L : List UInt8} {i : Nat} {w : World} (h : MvR g a b L i w) {x : UInt8} (hx : L[i]? = some x) (he : lt8 a b x = x) : MvR g a b L (i + 1) w := by
  obtain ⟨arr, fz, h1, h2, h3, h4⟩ := h.box
  refine ⟨arr, fz, h1, h2, h3, fun j y hy => ?_⟩
  have := h4 j y hy
  by_cases hji : j = i
  · subst hji
    rw [hx] at hy
    injection hy with hy
    subst hy
    rw [this, if_neg (by omega), if_pos (by omega), he]
  · rw [this]
    by_cases h5 : j < i
    · rw [if_pos h5, if_pos (by omega)]
    · rw [if_neg h5, if_neg (by omega)]
theorem mv_new (W : World) (S : ByteArray) (a b : Int) : MvR W.heap.size a b S.data.toList 0 (Go.Lib.bytesWorld W 5 S) := by
  refine ⟨_, _, Go.Lib.bytesWorld_at_new W 5 S, ?_, rfl, fun j x hx => ?_⟩
  · unfold Go.Lib.bytesCells
    simp
  · rw [if_neg (by omega)]
    unfold Go.Lib.bytesCells
    have hj := (List.getElem?_eq_some_iff.1 hx).1
    rw [Array.length_toList] at hj
    rw [Array.getElem?_append_left (by simpa using hj), Array.getElem?_map]
    have : S.data[j]? = some x := by rw [← Array.getElem?_toList]; exact hx
    rw [this]
    rfl
theorem mv_rdo {g : Nat} {a b : Int} {L : List UInt8} {w : World} (h : MvR g a b L L.length w) : RdO w (some ⟨g, 0, none⟩) (L.map (lt8 a b)) := fun k x hx => by
  rw [List.getElem?_map] at hx
  cases hy : L[k]? with
  | none => rw [hy] at hx; cases hx
  | some y =>
    rw [hy] at hx
    injection hx with hx
    subst hx
    have hk := (List.getElem?_eq_some_iff.1 hy).1
    refine ⟨g, 0, rfl, ?_⟩
    rw [Nat.zero_add, h.cell hy, if_pos hk]
set_option maxHeartbeats 8000000 in
set_option maxRecDepth 100000 in
theorem moved_c {a b : Int} (hab : (a = 65 ∧ b = 97) ∨ (a = 97 ∧ b = 65)) (s : ByteArray) (w : World) (hs : s.size ≤ 1048576) :
    Calls Tryd.prog 50 #[.string s, .int .u8 a, .int .i64 (b - a)] w fun e w' => e = .returned (.tuple #[.string (wrote [s] (s.data.toList.map (lt8 a b))).1, .int .i64 (wrote [s] (s.data.toList.map (lt8 a b))).2]) ∧ Below w.heap.size w w' := by
  have hck := rChecks1_c s w (by omega)
  obtain ⟨E, hE⟩ : ∃ E, errX [s] = E := ⟨_, rfl⟩
  have hc := errX_cases [s]
  rw [hE] at hck hc
  have HC := Lib.hid hck
  clear hck
  rcases hc with rfl | rfl
  · rw [wrote_ok hE]
    have hcv := hcvT s
    obtain ⟨L, hL⟩ : ∃ L, s.data.toList = L := ⟨_, rfl⟩
    obtain ⟨n, hn⟩ : ∃ n, s.size = n := ⟨_, rfl⟩
    have hLn : L.length = n := by rw [← hL, ← sizeT_list, hn]
    have hw26 : IntKind.u8.wrap (a + 26) = a + 26 := by rcases hab with ⟨rfl, -⟩ | ⟨rfl, -⟩ <;> rfl
    rw [hL]
    obtain ⟨d, hd⟩ : ∃ d, b - a = d := ⟨_, rfl⟩
    rw [hd]
    have hmv := fun W => mv_new W s a b
    rw [hL] at hmv
    rw [hn] at hcv hs
    have HLN := Lib.hid hLn
    have HMV := Lib.hid hmv
    clear hE hL hmv
    go_enter Tryd.func50, Tryd.ntmps50
    go_wp2_with fail
    refine HC.out.mono ?_
    rintro e w1 ⟨rfl, hb1⟩
    have HB := Lib.hid hb1
    clear hb1
    go_upto_region 5 with fail
    have HB2 := Lib.hid (HB.out.trans ((bytesBelowT w1 s).mono HB.out.size))
    have HM1 := Lib.hid (HMV.out w1)
    have hg0 : w.heap.size ≤ w1.heap.size := HB.out.size
    have hsz2 : (Go.Lib.bytesWorld w1 5 s).heap.size = w1.heap.size + 1 := Go.Lib.bytesWorld_size w1 5 s
    obtain ⟨g, hg⟩ : ∃ g, w1.heap.size = g := ⟨_, rfl⟩
    rw [hg] at HM1 hg0 hsz2
    try rw [hg]
    obtain ⟨cap, hcap⟩ : ∃ cap, grownCap w1 n 0 5 = cap := ⟨_, rfl⟩
    try rw [hcap]
    clear hg hcap HB hcv
    generalize Go.Lib.bytesWorld w1 5 s = W2 at *
    have HS2 := Lib.hid hsz2
    clear hsz2
    go_wp2_with fail
    go_loopw [10] (fun iv wr => ∃ i : Nat, i ≤ n ∧ iv = .int .i64 (i : Int) ∧ Hid (MvR g a b L i wr) ∧ Hid (But (fun k => k = g) W2 wr)) (fun iv _ => n - (RowKit.intOf iv).toNat)
    case atStart => exact ⟨0, Nat.zero_le _, rfl, HM1.out, But.refl _ _⟩
    case round =>
      obtain ⟨i, hin, rfl, hmv, hbut⟩ := hrel
      by_cases hi : i < n
      · have hilt : (i : Int) < (n : Int) := by omega
        have hi0 : (0 : Int) ≤ (i : Int) := by omega
        have hit : ((i : Int)).toNat = i := by omega
        have hiw : IntKind.i64.wrap ((i : Int) + 1) = (i : Int) + 1 := IntWalk.i64_in _ (by omega)
        obtain ⟨x, hxi⟩ : ∃ x, L[i]? = some x := ⟨_, List.getElem?_eq_getElem (by rw [HLN.out]; exact hi)⟩
        have d0 : wr.cell? ⟨g, i, none⟩ = some (.int .u8 (x.toNat : Int)) := by
          have := hmv.out.cell hxi
          rwa [if_neg (by omega)] at this
        have f0 : wr.frozen? ⟨g, i, none⟩ = false := hmv.out.frozen (by rw [HLN.out]; exact hi)
        have hxlt : x.toNat < 256 := x.toNat_lt
        have HBU := Lib.hid hbut.out
        by_cases hr : a ≤ (x.toNat : Int) ∧ (x.toNat : Int) < a + 26
        · obtain ⟨h1, h2⟩ := hr
          have e1 : decide (a ≤ (x.toNat : Int)) = true := decide_eq_true h1
          have e2 : decide ((x.toNat : Int) < a + 26) = true := decide_eq_true h2
          have hlt8 : ((lt8 a b x).toNat : Int) = (x.toNat : Int) + d := by
            unfold lt8 ltF
            rw [if_neg (by omega), u8n (by rcases hab with ⟨rfl, rfl⟩ | ⟨rfl, rfl⟩ <;> omega)]
            rcases hab with ⟨rfl, rfl⟩ | ⟨rfl, rfl⟩ <;> omega
          have hwd : IntKind.i64.wrap ((x.toNat : Int) + d) = (x.toNat : Int) + d := by
            rcases hab with ⟨rfl, rfl⟩ | ⟨rfl, rfl⟩ <;> exact IntWalk.i64_in _ (by omega)
          have hw8 : IntKind.u8.wrap ((x.toNat : Int) + d) = (x.toNat : Int) + d := by
            rw [← hlt8]
            exact IntWalk.u8_in _ (by have := (lt8 a b x).toNat_lt; omega)
          have hst := hmv.out.step hxi
          rw [hlt8] at hst
          have HST := Lib.hid hst
          have HB3 := Lib.hid (But.setCell (C := fun k => k = g) (p := ⟨g, i, none⟩) HBU.out (.inl rfl) (.int .u8 ((x.toNat : Int) + d)))
          clear hst hmv hbut hlt8
          go_wp2_with fail
          go_roundw
          case rel => exact ⟨i + 1, by omega, by go_num, HST.out, HB3.out⟩
          case measure => simp [RowKit.intOf]; omega
        · have hsk := hmv.out.skip hxi (lt8_out (by omega))
          have HST := Lib.hid hsk
          clear hsk hmv hbut
          by_cases h1 : a ≤ (x.toNat : Int)
          · have e1 : decide (a ≤ (x.toNat : Int)) = true := decide_eq_true h1
            have e2 : decide ((x.toNat : Int) < a + 26) = false := decide_eq_false (by omega)
            go_wp2_with fail
            go_roundw
            case rel => exact ⟨i + 1, by omega, by go_num, HST.out, HBU.out⟩
            case measure => simp [RowKit.intOf]; omega
          · have e1 : decide (a ≤ (x.toNat : Int)) = false := decide_eq_false h1
            go_wp2_with fail
            go_roundw
            case rel => exact ⟨i + 1, by omega, by go_num, HST.out, HBU.out⟩
            case measure => simp [RowKit.intOf]; omega
      · have hni : ¬ (i : Int) < (n : Int) := by omega
        have hfin := hmv.out
        rw [show i = L.length by rw [HLN.out]; omega] at hfin
        have hwh := whole_c (c := cap) wr (mv_rdo hfin)
        rw [List.length_map, HLN.out] at hwh
        have HW := Lib.hid hwh
        have HBU := Lib.hid hbut.out
        clear hwh hfin hmv hbut
        go_wp2_with fail
        refine HW.out.mono ?_
        rintro e w5 ⟨rfl, rfl⟩
        go_wp2_with fail
        go_ret2
        exact ⟨rfl, HB2.out.trans (HBU.out.below (by rw [HS2.out]; omega) (fun k hk e => by omega))⟩
  · rw [wrote_no hE]
    clear hE
    go_enter Tryd.func50, Tryd.ntmps50
    go_wp2_with fail
    refine HC.out.mono ?_
    rintro e w1 ⟨rfl, hb1⟩
    have HB := Lib.hid hb1
    clear hb1
    go_wp2_with fail
    go_ret2
    exact ⟨rfl, HB.out⟩
theorem rLower_c (s : ByteArray) (w : World) (hs : s.size ≤ 1048576) :
    Calls Tryd.prog 14 #[.string s] w fun e w' => e = .returned (.tuple #[.string (wrote [s] (s.data.toList.map (lt8 65 97))).1, .int .i64 (wrote [s] (s.data.toList.map (lt8 65 97))).2]) ∧ Below w.heap.size w w' := by
  have h := moved_c (a := 65) (b := 97) (.inl ⟨rfl, rfl⟩) s w hs
  rw [show (97 : Int) - 65 = 32 from rfl] at h
  have H := Lib.hid h
  clear h
  go_enter Tryd.func14, Tryd.ntmps14
  go_wp2_with fail
  refine H.out.mono ?_
  rintro e w1 ⟨rfl, hb⟩
  go_wp2_with fail
  go_ret2
  exact ⟨rfl, hb⟩
theorem rUpper_c (s : ByteArray) (w : World) (hs : s.size ≤ 1048576) :
    Calls Tryd.prog 16 #[.string s] w fun e w' => e = .returned (.tuple #[.string (wrote [s] (s.data.toList.map (lt8 97 65))).1, .int .i64 (wrote [s] (s.data.toList.map (lt8 97 65))).2]) ∧ Below w.heap.size w w' := by
  have h := moved_c (a := 97) (b := 65) (.inr ⟨rfl, rfl⟩) s w hs
  rw [show (65 : Int) - 97 = -32 from rfl] at h
  have H := Lib.hid h
  clear h
  go_enter Tryd.func16, Tryd.ntmps16
  go_wp2_with fail
  refine H.out.mono ?_
  rintro e w1 ⟨rfl, hb⟩
  go_wp2_with fail
  go_ret2
  exact ⟨rfl, hb⟩
end Go.Proofs.YtdacdppmgcaioaaDoor
