/-
  The reference: Repeat.
-/
import Derived.Test.YtdacdppmgcaioaaDoorETrd
import Derived.Test.YtdacdppmgcaioaaDoorETrp
set_option linter.unusedVariables false
set_option linter.unusedSimpArgs false
namespace Go.Proofs.YtdacdppmgcaioaaDoor
open Go.RowKit Go.Lib

theorem repT_nil (n : Nat) : repT n [] = [] := by
  induction n with
  | zero => rfl
  | succ n ih => rw [repT, ih]; rfl
theorem tell_rep {L : List UInt8} {n : Int} {i : Nat} (hi : (i : Int) ≤ n ∨ i = 0) (hx : ¬ (i : Int) < n ∨ L = [] ∨ 16384 < (repT i L).length) : tell (repT i L) = tell (repT (timesT n).toNat L) := by
  by_cases hL : L = []
  · rw [hL, repT_nil, repT_nil]
  · have hl : 1 ≤ L.length := by
      rcases Nat.eq_zero_or_pos L.length with h | h
      · exact absurd (List.length_eq_zero_iff.1 h) hL
      · exact h
    have h1 := repT_len i L
    have h2 := repT_len (timesT n).toNat L
    by_cases hn : (16385 : Int) < n
    · have ht : timesT n = 16385 := if_pos hn
      rw [ht] at h2 ⊢
      have h3 : 16384 < (repT (Int.toNat 16385) L).length := by
        rw [h2]
        exact Nat.lt_of_lt_of_le (by decide) (Nat.mul_le_mul (Nat.le_refl 16385) hl)
      have h4 : 16384 < (repT i L).length := by
        rcases hx with hx | hx | hx
        · rw [h1]
          have : 16385 ≤ i := by omega
          exact Nat.lt_of_lt_of_le (by decide) (Nat.mul_le_mul this hl)
        · exact absurd hx hL
        · exact hx
      rw [tell_no h3, tell_no h4]
    · have ht : timesT n = n := if_neg hn
      rw [ht] at h2 ⊢
      by_cases hlt : (i : Int) < n
      · rcases hx with hx | hx | hx
        · exact absurd hlt hx
        · exact absurd hx hL
        · have h3 : (repT i L).length ≤ (repT n.toNat L).length := by
            rw [h1, h2]; exact Nat.mul_le_mul_right _ (by omega)
          rw [tell_no hx, tell_no (by omega)]
      · rw [show n.toNat = i by omega]
set_option maxHeartbeats 4000000 in
set_option maxRecDepth 100000 in
theorem rRepeat_c (s : ByteArray) (n : Int) (w : World) (hs : s.size ≤ 1048576) (hn : n ≤ 9223372036854775807) :
    Calls Tryd.prog 31 #[.string s, .int .i64 n] w fun e w' => e = .returned (.tuple #[.string (wrote [s] (repT (timesT n).toNat s.data.toList)).1, .int .i64 (wrote [s] (repT (timesT n).toNat s.data.toList)).2]) ∧ Below w.heap.size w w' := by
  obtain ⟨i0, hi, hz0, hz1, hz2⟩ := info_parts infoU8
  have hck := rChecks1_c s w (by omega)
  obtain ⟨E, hE⟩ : ∃ E, errX [s] = E := ⟨_, rfl⟩
  have hc := errX_cases [s]
  rw [hE] at hck hc
  have HC := Lib.hid hck
  clear hck
  rcases hc with rfl | rfl
  · rw [wrote_ok hE]
    obtain ⟨B, hB⟩ : ∃ B, w.heap.size = B := ⟨_, rfl⟩
    have HB := Lib.hid hB
    obtain ⟨RR, hRR⟩ : ∃ RR, tell (repT (timesT n).toNat s.data.toList) = RR := ⟨_, rfl⟩
    rw [hRR]
    have HRR := Lib.hid hRR
    clear hE hB hRR
    go_enter Tryd.func31, Tryd.ntmps31
    go_wp2_with fail
    refine HC.out.mono ?_
    rintro e w1 ⟨rfl, hb1⟩
    rw [HB.out] at hb1 ⊢
    have HB1 := Lib.hid hb1
    have hs1 : B ≤ w1.heap.size := by have := hb1.size; rw [HB.out] at this; exact this
    clear hb1
    go_wp2_with fail
    go_loopw [7, 8] (fun v0 iv wr => ∃ (v : Value) (i k : Nat), v = v0 ∧ iv = .int .i64 (i : Int) ∧ ((i : Int) ≤ n ∨ i = 0) ∧ Hid ((repT i s.data.toList).length = k) ∧ Hid (wr.ownsRow B 5 1 v k (byteCells (repT i s.data.toList))) ∧ Hid (Below B w wr) ∧ Hid (B ≤ wr.heap.size)) (fun _ iv _ => n.toNat - (RowKit.intOf iv).toNat)
    case atStart => exact ⟨_, 0, 0, rfl, rfl, .inr rfl, rfl, ⟨rfl, .inl ⟨rfl, rfl⟩⟩, HB1.out, hs1⟩
    case round =>
      obtain ⟨v, i, k, rfl, rfl, hin, hk, hrow, hbel, hsz⟩ := hrel
      obtain ⟨ao, cap, rfl⟩ : ∃ ao cap, v = .slice ao k cap := by
        rcases hrow.out.2 with ⟨hv, h0⟩ | ⟨g, cap, cur, hv, _⟩
        · exact ⟨none, 0, by rw [hv, h0]⟩
        · exact ⟨_, _, hv⟩
      by_cases hgo : (i : Int) < n ∧ 0 < s.size ∧ k ≤ 16384
      · obtain ⟨g1, g2, g3⟩ := hgo
        have d1 : decide ((i : Int) < n) = true := decide_eq_true g1
        have d2 : decide ((0 : Int) < (s.size : Int)) = true := decide_eq_true (by omega)
        have d3 : decide ((k : Int) ≤ 16384) = true := decide_eq_true (by omega)
        have hiw : IntKind.i64.wrap ((i : Int) + 1) = (i : Int) + 1 := IntWalk.i64_in _ (by omega)
        have HK := Lib.hid hk.out
        have HRW := Lib.hid hrow.out
        have HBE := Lib.hid hbel.out
        have HSZ := Lib.hid hsz.out
        have hgrb : ∀ g, (Value.slice ao k cap).ownBlock = some g → B ≤ g := fun g e => by
          rcases hrow.out.2 with ⟨h, _⟩ | ⟨g2, cap, cur, h, e2, e3, _⟩
          · rw [h] at e; simp [Value.ownBlock] at e
          · rw [h] at e; simp only [Value.ownBlock, Option.some.injEq] at e
            omega
        clear hk hrow hbel hsz
        go_wp2_with (at_builtin; refine Lib.wpList_append_own_string _ rfl (.tmp 30) (.tmp 31) 62 9 rfl B 5 i0 Tryd.underlying62 Tryd.underlying9 hi hz0 hz1 hz2 _ k (byteCells (repT i s.data.toList)) rfl HRW.out s rfl (by unfold maxLen; omega) (by omega) HSZ.out ?_; intro v1 w4 hown1 hg1 _)
        go_roundw
        case rel =>
          have hbel4 : Below B w w4 := HBE.out.grown hg1 HSZ.out (fun k hk => hgrb k hk)
          refine ⟨v1, i + 1, k + s.size, rfl, by go_num, .inl (by omega), ?_, ?_, hbel4, by show _ ≤ _; have := hg1.size; have := HSZ.out; omega⟩
          · show _ = _
            rw [repT, List.length_append, HK.out, ← sizeT_list]
          · show _ ∧ _
            rw [repT, byteCells_appT, ← strCells_bytesT]
            exact hown1
        case measure => simp [RowKit.intOf]; omega
      · have hfin := tell_rep (L := s.data.toList) (n := n) (i := i) hin (by
          by_cases g1 : (i : Int) < n
          · by_cases g2 : 0 < s.size
            · exact .inr (.inr (by rw [hk.out]; omega))
            · exact .inr (.inl (List.length_eq_zero_iff.1 (by rw [← sizeT_list]; omega)))
          · exact .inl g1)
        have hwh := whole_c (c := cap) wr (rdo_own hrow.out hk.out.symm)
        rw [hfin, hk.out, HRR.out] at hwh
        have HW := Lib.hid hwh
        have HBE := Lib.hid hbel.out
        clear hwh hk hrow hbel hsz hfin
        by_cases g1 : (i : Int) < n
        · have d1 : decide ((i : Int) < n) = true := decide_eq_true g1
          by_cases g2 : 0 < s.size
          · have d2 : decide ((0 : Int) < (s.size : Int)) = true := decide_eq_true (by omega)
            have d3 : decide ((k : Int) ≤ 16384) = false := decide_eq_false (by omega)
            go_wp2_with fail
            refine HW.out.mono ?_
            rintro e w5 ⟨rfl, rfl⟩
            go_wp2_with fail
            go_ret2
            exact ⟨rfl, by rw [HB.out]; exact HBE.out⟩
          · have d2 : decide ((0 : Int) < (s.size : Int)) = false := decide_eq_false (by omega)
            go_wp2_with fail
            refine HW.out.mono ?_
            rintro e w5 ⟨rfl, rfl⟩
            go_wp2_with fail
            go_ret2
            exact ⟨rfl, by rw [HB.out]; exact HBE.out⟩
        · have d1 : decide ((i : Int) < n) = false := decide_eq_false g1
          go_wp2_with fail
          refine HW.out.mono ?_
          rintro e w5 ⟨rfl, rfl⟩
          go_wp2_with fail
          go_ret2
          exact ⟨rfl, by rw [HB.out]; exact HBE.out⟩
  · rw [wrote_no hE]
    clear hE
    go_enter Tryd.func31, Tryd.ntmps31
    go_wp2_with fail
    refine HC.out.mono ?_
    rintro e w1 ⟨rfl, hb1⟩
    have HB := Lib.hid hb1
    clear hb1
    go_wp2_with fail
    go_ret2
    exact ⟨rfl, HB.out⟩
end Go.Proofs.YtdacdppmgcaioaaDoor
