/-
  Contract of toOctets.
-/
import Derived.Test.YtnfeifafocemaaaDoorCFdg
set_option linter.unusedVariables false
set_option linter.unusedSimpArgs false
namespace Go.Proofs.YtnfeifafocemaaaDoor
open Go.RowKit Go.Lib

theorem dig_at {d : UInt8} (h : d ∈ digF) : ∃ n : Nat, n < 64 ∧ indexByte digF d = (n : Int) := by
  obtain ⟨i, hi, rfl⟩ := List.mem_iff_getElem.1 h
  have h64 : i < 64 := hi
  obtain ⟨-, -, -, e⟩ := at64_ok i h64
  refine ⟨i, h64, ?_⟩
  unfold at64 at e
  rw [List.getD_eq_getElem?_getD, List.getElem?_eq_getElem hi] at e
  exact e
theorem qv_lt (d : List UInt8) (hd : ∀ x ∈ d, x ∈ digF) : ∀ k, qvF d k < 64 ^ k
  | 0 => by simp [qvF]
  | k + 1 => by
    have h := qv_lt d hd k
    show qvF d k * 64 + (if k < d.length then (indexByte digF (d.getD k 0)).toNat else 0) < _
    rw [Nat.pow_succ]
    split
    · rename_i hk
      obtain ⟨n, hn, e⟩ := dig_at (hd (d.getD k 0) (by rw [List.getD_eq_getElem?_getD, List.getElem?_eq_getElem hk]; exact List.getElem_mem hk))
      rw [e, Int.toNat_natCast]
      omega
    · omega
set_option maxRecDepth 100000 in
set_option maxHeartbeats 2000000 in
theorem toOctets_c (d : List UInt8) (w : World) (h4 : d.length ≤ 4) (hd : ∀ x ∈ d, x ∈ digF) :
    Calls Tryd.prog 20 #[.string (mk8 d)] w fun e w' => e = .returned (.string (mk8 (oct3 d))) ∧ Below w.heap.size w w' := by
  obtain ⟨s, hs⟩ : ∃ s, mk8 d = s := ⟨_, rfl⟩
  have hsz : s.size = d.length := by rw [← hs]; exact mk8_size d
  have hget : ∀ (i : Nat) (h : i < s.size), s[i] = d.getD i 0 := by subst hs; exact mk8_getF d
  rw [hs]
  have HS := Lib.hid hs
  have HG := Lib.hid hget
  have HB := Lib.hid (qv_lt d hd)
  have HD := Lib.hid hd
  have HIB := Lib.hid (fun (z : Int) (W : World) => Tryd.strings_IndexByte (mk8 digF) z W)
  clear hs hget hd
  have hdl : (⟨#[65, 66, 67, 68, 69, 70, 71, 72, 73, 74, 75, 76, 77, 78, 79, 80, 81, 82, 83, 84, 85, 86, 87, 88, 89, 90, 97, 98, 99, 100, 101, 102, 103, 104, 105, 106, 107, 108, 109, 110, 111, 112, 113, 114, 115, 116, 117, 118, 119, 120, 121, 122, 48, 49, 50, 51, 52, 53, 54, 55, 56, 57, 43, 47]⟩ : ByteArray) = mk8 digF := rfl
  have HDL := Lib.hid hdl
  clear hdl
  go_enter Tryd.func20, Tryd.ntmps20
  go_upto_region 3 with fail
  go_loopw [3, 4, 6] (fun bv _ iv wr => ∃ i : Nat, i ≤ 4 ∧ iv = .int .i64 (i : Int) ∧ bv = .int .i64 (qvF d i : Int) ∧ w = wr) (fun _ _ iv _ => 4 - (RowKit.intOf iv).toNat)
  case atStart => exact ⟨0, by omega, rfl, rfl, rfl⟩
  case round =>
    obtain ⟨i, hi, rfl, rfl, rfl⟩ := hrel
    by_cases hlt : i < 4
    · have hltz : (i : Int) < 4 := by omega
      have hbi : qvF d i < 16777216 := by
        have := HB.out i
        have h2 : (64 : Nat) ^ i ≤ 64 ^ 4 := Nat.pow_le_pow_right (by omega) (by omega)
        omega
      have hbz : 0 ≤ (qvF d i : Int) ∧ (qvF d i : Int) < 16777216 := by omega
      by_cases hic : i < d.length
      · have hicz : (i : Int) < (d.length : Int) := by omega
        have hgi := HG.out i (by omega)
        obtain ⟨n, hn, hix⟩ := dig_at (HD.out (d.getD i 0) (by rw [List.getD_eq_getElem?_getD, List.getElem?_eq_getElem hic]; exact List.getElem_mem hic))
        have hcall := HIB.out ((d.getD i 0).toNat : Int) w
        have e8 : ((d.getD i 0).toNat : Int).toNat.toUInt8 = d.getD i 0 := by simp
        rw [e8, mk8_L, hix] at hcall
        have hce : d.getD i 0 = d[i] := by rw [List.getD_eq_getElem?_getD, List.getElem?_eq_getElem hic]; rfl
        rw [hce] at hcall
        have HC := Lib.hid hcall
        have HX := Lib.hid hix
        clear hcall hix e8
        go_wp2_with (refine HC.out.mono ?_; rintro e w' ⟨rfl, rfl⟩)
        refine ⟨⟨i + 1, by omega, rfl, ?_, trivial⟩, by simp [RowKit.intOf]; omega⟩
        show _ = Value.int IntKind.i64 ((qvF d i * 64 + (if i < d.length then (indexByte digF (d.getD i 0)).toNat else 0) : Nat) : Int)
        rw [if_pos hic, HX.out, Int.toNat_natCast, show (qvF d i : Int) * 64 = ((qvF d i * 2 ^ 6 : Nat) : Int) by omega]
        rw [or_i64F _ _ _ (by omega) (by omega)]
      · have hicz : ¬ (i : Int) < (d.length : Int) := by omega
        go_wp2_with fail
        refine ⟨⟨i + 1, by omega, rfl, ?_, trivial⟩, by simp [RowKit.intOf]; omega⟩
        show _ = Value.int IntKind.i64 ((qvF d i * 64 + (if i < d.length then (indexByte digF (d.getD i 0)).toNat else 0) : Nat) : Int)
        rw [if_neg hic]
        simp
    · obtain rfl : i = 4 := by omega
      have hbi : qvF d 4 < 16777216 := HB.out 4
      obtain ⟨b, hb⟩ : ∃ b, qvF d 4 = b := ⟨_, rfl⟩
      rw [hb] at hbi ⊢
      obtain ⟨x0, hx0⟩ : ∃ x, UInt8.ofNat (b / 65536) = x := ⟨_, rfl⟩
      obtain ⟨x1, hx1⟩ : ∃ x, UInt8.ofNat (b / 256) = x := ⟨_, rfl⟩
      obtain ⟨x2, hx2⟩ : ∃ x, UInt8.ofNat b = x := ⟨_, rfl⟩
      have e0 : IntKind.u8.wrap ((b : Int) / 65536) = (x0.toNat : Int) := by rw [IntKind.wrap_u8', ← hx0, UInt8.toNat_ofNat']; omega
      have e1 : IntKind.u8.wrap ((b : Int) / 256) = (x1.toNat : Int) := by rw [IntKind.wrap_u8', ← hx1, UInt8.toNat_ofNat']; omega
      have e2 : IntKind.u8.wrap (b : Int) = (x2.toNat : Int) := by rw [IntKind.wrap_u8', ← hx2, UInt8.toNat_ofNat']; omega
      obtain ⟨k, hk⟩ : ∃ k, d.length * 6 / 8 = k := ⟨_, rfl⟩
      have hk3 : k ≤ 3 := by omega
      have hkz : (d.length : Int) * 6 / 8 = (k : Int) := by omega
      have hkw : ((d.length : Int) * 6).tdiv 8 = (k : Int) := by rw [← hkz]; exact Int.tdiv_eq_ediv_of_nonneg (by omega)
      have hnew := World.alloc_heap_new w (.cells #[.int .u8 (x0.toNat : Int), .int .u8 (x1.toNat : Int), .int .u8 (x2.toNat : Int)] 5)
      have hrd : RdV (w.alloc (.cells #[.int .u8 (x0.toNat : Int), .int .u8 (x1.toNat : Int), .int .u8 (x2.toNat : Int)] 5)) (fun _ => True) (some ⟨w.heap.size, 0, none⟩) k (bs8 ([x0, x1, x2].take k)) := by
        refine ⟨by rw [bs8_length, List.length_take]; show min k 3 = k; omega, fun _ => ⟨_, 0, rfl, trivial, fun j v hv => ?_⟩⟩
        have hj : j < k := by
          have := (List.getElem?_eq_some_iff.1 hv).1
          rw [bs8_length, List.length_take] at this; omega
        have hv2 : (bs8 [x0, x1, x2])[j]? = some v := by
          rw [← hv]; unfold bs8
          rw [List.getElem?_map, List.getElem?_map, List.getElem?_take_of_lt hj]
        rw [Nat.zero_add]
        have hj3 : j < 3 := by omega
        match j, hj3 with
        | 0, _ => simp [bs8] at hv2; subst hv2; exact cell_at3 hnew rfl
        | 1, _ => simp [bs8] at hv2; subst hv2; exact cell_at3 hnew rfl
        | 2, _ => simp [bs8] at hv2; subst hv2; exact cell_at3 hnew rfl
      have hconv := hrd.conv (c := 3)
      have HE : Hid (mk8 ([x0, x1, x2].take k) = mk8 (oct3 d)) := by
        show _ = mk8 _
        unfold oct3
        rw [hb, hx0, hx1, hx2, hk]
      clear hrd hnew hx0 hx1 hx2 hb hk
      go_wp2_with fail
      go_ret
      rw [HE.out]
      exact ⟨rfl, (Below.refl _ w).alloc (Nat.le_refl _) _⟩
end Go.Proofs.YtnfeifafocemaaaDoor
