/-
  Contracts of the scan's digits and word.
  Contracts of the scan's hex, low, coded and escape.
-/
import Derived.Test.YtpjllcengnolkaaGreatDoorPLspc
set_option linter.unusedVariables false
set_option linter.unusedSimpArgs false
namespace Go.Proofs.YtpjllcengnolkaaGreatDoor
open Go.RowKit Go.Lib
variable {B : Nat} {L : List UInt8} {A : Option Addr} {c sb : Nat}

/-- Where the scan stands, off the memory: for a loop's measure. -/
def atOf (sb : Nat) (w : World) : Nat := (RowKit.intOf ((w.cell? ⟨sb, 1, none⟩).getD (.bool false))).toNat
theorem Env.at_of {w : World} {p o : Nat} (E : Env B L A c sb w p o) : atOf sb w = p := by
  unfold atOf; rw [E.cells.2.1]; simp [RowKit.intOf]
/-- Where digits end. -/
def dgE (L : List UInt8) (p : Nat) : Nat := p + ((L.drop p).takeWhile isDg).length
theorem dgE_go {L : List UInt8} {p : Nat} {x : UInt8} (hx : L[p]? = some x) (h : isDg x = true) : dgE L p = dgE L (p + 1) := by
  obtain ⟨h1, h2⟩ := List.getElem?_eq_some_iff.1 hx
  unfold dgE
  rw [List.drop_eq_getElem_cons h1, h2, List.takeWhile_cons, h]
  simp; omega
theorem dgE_stop {L : List UInt8} {p : Nat} (h : ∀ x, L[p]? = some x → isDg x = false) : dgE L p = p := by
  unfold dgE
  rcases Nat.lt_or_ge p L.length with h1 | h1
  · rw [List.drop_eq_getElem_cons h1, List.takeWhile_cons, h _ (List.getElem?_eq_getElem h1)]; rfl
  · rw [List.drop_eq_nil_of_le h1]; rfl
set_option maxRecDepth 100000 in
theorem digits_c {w : World} {p o : Nat} (E : Env B L A c sb w p o) :
    Calls Tryz.prog 64 #[ptr sb] w (Po B L A c sb (fun k => k = sb) o rU w (rDigits L p)) := by
  have hND := Lib.hid (needDg_c E)
  have hb0 := E.base
  obtain ⟨R, hR⟩ : ∃ R, rNeed isDg L p = R := ⟨_, rfl⟩
  show Calls _ _ _ _ (Po B L A c sb (fun k => k = sb) o rU w ((rNeed isDg L p).bind fun _ q => .ok () (dgE L q)))
  rw [hR] at hND ⊢
  clear E hR
  cases R with
  | bad q x =>
    show Calls _ _ _ _ (Po B L A c sb (fun k => k = sb) o rU w (.bad q x))
    go_enter Tryz.func64, Tryz.ntmps64
    go_wp2_with (go_at_call 54; refine hND.out.mono ?_; rintro e w1 ⟨rfl, hb⟩)
    exact ⟨rfl, rfl, hb⟩
  | ok u q =>
    show Calls _ _ _ _ (Po B L A c sb (fun k => k = sb) o rU w (.ok () (dgE L q)))
    go_enter Tryz.func64, Tryz.ntmps64
    go_wp2_with (go_at_call 54; refine hND.out.mono ?_; rintro e w1 ⟨⟨v, rfl, rfl⟩, E1, hb1⟩)
    go_loopw [5] (fun _ wr => ∃ k : Nat, Hid (Env B L A c sb wr k o) ∧ Hid (But (fun k => k = sb) w wr) ∧ Hid (dgE L q = dgE L k)) (fun _ wr => L.length - atOf sb wr)
    case atStart => exact ⟨q, E1, hb1, rfl⟩
    case round =>
      obtain ⟨k, hE, hB, hq⟩ := hrel
      have hsk := skipDg_c hE.out
      unfold rSkip at hsk
      have hk := hE.out.here
      have hat := hE.out.at_of
      cases hx : L[k]? with
      | none =>
        rw [hx] at hsk
        have HSK := Lib.hid hsk
        have HST : Hid (dgE L q = k) := by show _ = _; rw [hq.out]; exact dgE_stop (fun x h => by rw [hx] at h; exact absurd h (by simp))
        clear hsk hx hND hq
        go_wp2_with (go_at_call 63; refine HSK.out.mono ?_; rintro e w2 ⟨⟨v, rfl, rfl⟩, E2, hb2⟩)
        first | go_end0 | refine bodyPost_ret (results_none rfl _ _ _) rfl ?_
        exact ⟨⟨_, rfl, rfl⟩, by rw [HST.out]; exact E2, hB.out.trans hb2⟩
      | some x =>
        rw [hx] at hsk
        have hkl : k < L.length := (List.getElem?_eq_some_iff.1 hx).1
        cases hd : isDg x with
        | false =>
          simp only [hd, Bool.false_eq_true, if_false] at hsk
          have HSK := Lib.hid hsk
          have HST : Hid (dgE L q = k) := by show _ = _; rw [hq.out]; exact dgE_stop (fun y h => by rw [hx] at h; injection h with h; rw [← h]; exact hd)
          clear hsk hx hND hq hd
          go_wp2_with (go_at_call 63; refine HSK.out.mono ?_; rintro e w2 ⟨⟨v, rfl, rfl⟩, E2, hb2⟩)
          first | go_end0 | refine bodyPost_ret (results_none rfl _ _ _) rfl ?_
          exact ⟨⟨_, rfl, rfl⟩, by rw [HST.out]; exact E2, hB.out.trans hb2⟩
        | true =>
          simp only [hd, if_true] at hsk
          have HSK := Lib.hid hsk
          have HST : Hid (dgE L q = dgE L (k + 1)) := by show _ = _; rw [hq.out]; exact dgE_go hx hd
          clear hsk hx hND hq hd
          go_wp2_with (go_at_call 63; refine HSK.out.mono ?_; rintro e w2 ⟨⟨v, rfl, rfl⟩, E2, hb2⟩)
          go_roundw
          case rel => exact ⟨k + 1, E2, hB.out.trans hb2, HST⟩
          case measure => rw [E2.at_of, hat]; omega
end Go.Proofs.YtpjllcengnolkaaGreatDoor

namespace Go.Proofs.YtpjllcengnolkaaGreatDoor
open Go.RowKit Go.Lib
variable {B : Nat} {L : List UInt8} {A : Option Addr} {c sb : Nat}

abbrev rN : Nat → World → Value → Prop := fun n _ v => v = .int .i32 (n : Int)
abbrev rI : Int → World → Value → Prop := fun n _ v => v = .int .i32 n
def hexT : ByteArray := ⟨#[48, 49, 50, 51, 52, 53, 54, 55, 56, 57, 97, 98, 99, 100, 101, 102, 65, 66, 67, 68, 69, 70]⟩
theorem hex_ib (x : UInt8) : hexOf x = (if indexByte hexT.data.toList x < 0 then none else if 15 < indexByte hexT.data.toList x then some (indexByte hexT.data.toList x - 6).toNat else some (indexByte hexT.data.toList x).toNat) ∧ indexByte hexT.data.toList x < 22 := by
  have := forall_u8 (p := fun x => hexOf x == (if indexByte hexT.data.toList x < 0 then none else if 15 < indexByte hexT.data.toList x then some (indexByte hexT.data.toList x - 6).toNat else some (indexByte hexT.data.toList x).toNat) && decide (indexByte hexT.data.toList x < 22)) (by kernel_rfl) x
  rw [Bool.and_eq_true] at this
  exact ⟨eq_of_beq this.1, of_decide_eq_true this.2⟩
theorem hexOf_ltL {x : UInt8} {d : Nat} (h : hexOf x = some d) : d < 16 := by
  have := forall_u8 (p := fun x => (hexOf x).all (fun d => decide (d < 16))) (by kernel_rfl) x
  rw [h] at this
  exact of_decide_eq_true this
theorem rHex_lt : ∀ (k n : Nat) {p m q : Nat}, rHex k n L p = .ok m q → m < (n + 1) * 16 ^ k
  | 0, n, p, m, q, h => by
    injection h with h1 h2
    subst h1; simp
  | k + 1, n, p, m, q, h => by
    unfold rHex rAt rPeek at h
    cases hx : L[p]? with
    | none => rw [hx] at h; exact absurd h (by simp [RR.bind])
    | some x =>
      rw [hx] at h
      simp only [RR.bind] at h
      cases hd : hexOf x with
      | none => rw [hd] at h; exact absurd h (by simp [rFail])
      | some d =>
        rw [hd] at h
        have h1 := rHex_lt k (n * 16 + d) h
        have h2 := hexOf_ltL hd
        have h3 : (n * 16 + d + 1) * 16 ^ k ≤ (n + 1) * 16 * 16 ^ k := Nat.mul_le_mul_right _ (by omega)
        rw [Nat.pow_succ, Nat.mul_comm (16 ^ k) 16, ← Nat.mul_assoc]
        omega

theorem lofInt (n a : Nat) (h : a < 2 ^ n) : (BitVec.ofInt n (a : Int)).toNat = a := by
  rw [BitVec.ofInt_natCast, BitVec.toNat_ofNat, Nat.mod_eq_of_lt h]
theorem li64_or_nat (a b : Nat) (ha : a < 9223372036854775808) (hb : b < 9223372036854775808) : bits .or .i64 (a : Int) (b : Int) = ((a ||| b : Nat) : Int) := by
  have hx : a ||| b < 2 ^ 63 := Nat.or_lt_two_pow (by omega) (by omega)
  show IntKind.i64.wrap ((BitVec.ofInt 64 (a : Int) ||| BitVec.ofInt 64 (b : Int)).toNat : Int) = _
  rw [BitVec.toNat_or, lofInt 64 a (by omega), lofInt 64 b (by omega), IntWalk.i64_in _ (by omega)]
theorem li32_or_nat (a b : Nat) (ha : a < 2147483648) (hb : b < 2147483648) : bits .or .i32 (a : Int) (b : Int) = ((a ||| b : Nat) : Int) := by
  have hx : a ||| b < 2 ^ 31 := Nat.or_lt_two_pow (by omega) (by omega)
  show IntKind.i32.wrap ((BitVec.ofInt 32 (a : Int) ||| BitVec.ofInt 32 (b : Int)).toNat : Int) = _
  rw [BitVec.toNat_or, lofInt 32 a (by omega), lofInt 32 b (by omega), IntWalk.i32_in _ (by omega)]
theorem or16 (a d : Nat) (k : Nat) (hd : d < 2 ^ k) : a * 2 ^ k ||| d = a * 2 ^ k + d := by
  rw [← Nat.shiftLeft_eq, Nat.shiftLeft_add_eq_or_of_lt hd]
theorem lwrap64 (x : Int) : IntKind.i64.wrap x = wrap64 x := by rw [IntKind.wrap_i64, wrap64]
theorem lwrap32 (x : Int) : IntKind.i32.wrap x = wrap32 x := by rw [IntKind.wrap_i32, wrap32]
theorem hexor {n d : Nat} (hn : n < 65536) (hd : d < 16) : bits .or .i64 (wrap64 ((n : Int) * 16)) (d : Int) = ((n * 16 + d : Nat) : Int) := by
  have h1 : wrap64 ((n : Int) * 16) = ((n * 16 : Nat) : Int) := by
    rw [← lwrap64, IntWalk.i64_in _ (by omega), Int.natCast_mul]; rfl
  rw [h1, li64_or_nat (n * 16) d (by omega) (by omega)]
  rw [or16 n d 4 hd]
set_option maxRecDepth 100000 in
set_option maxHeartbeats 1000000 in
theorem hex_c {w : World} {p o : Nat} (E : Env B L A c sb w p o) (K : Nat) (hK : K ≤ 4) :
    Calls Tryz.prog 115 #[ptr sb, .int .i64 (K : Int)] w (Po B L A c sb (fun k => k = sb) o rN w (rHex K 0 L p)) := by
  have hpn : ∀ (T : Nat) (v : Value) (w : World), (Instr.panic (.iface T v)).run Tryz.prog w = .halt (.panic (.iface T v)) w := fun _ _ _ => rfl
  obtain ⟨R, hR⟩ : ∃ R, rHex K 0 L p = R := ⟨_, rfl⟩
  rw [hR]
  have HR := Lib.hid hR
  have HE := Lib.hid E
  clear hR E
  go_enter Tryz.func115, Tryz.ntmps115
  go_wp2
  go_loopw [8, 5] (fun i t wr => ∃ j n q : Nat, i = .int .i64 (j : Int) ∧ t = .int .i64 (n : Int) ∧ j ≤ K ∧ Hid (n < 16 ^ j) ∧ Hid (rHex (K - j) n L q = R) ∧ Hid (Env B L A c sb wr q o) ∧ Hid (But (fun k => k = sb) w wr)) (fun i _ _ => K - (RowKit.intOf i).toNat)
  case atStart => exact ⟨0, 0, p, rfl, rfl, by omega, by show 0 < _; simp, HR, HE, But.refl _ _⟩
  case round =>
    obtain ⟨j, n, q, rfl, rfl, hj, hn, hr, hE, hB⟩ := hrel
    have hn4 : Hid (n < 65536) := Nat.lt_of_lt_of_le hn.out (Nat.pow_le_pow_right (by omega) (show j ≤ 4 by omega))
    by_cases hjK : j < K
    · have hlt : (j : Int) < (K : Int) := by omega
      have hjw : IntKind.i64.wrap ((j : Int) + 1) = (j : Int) + 1 := IntWalk.i64_in _ (by omega)
      have hPK := Lib.hid (peek_c hE.out)
      obtain ⟨m, hm⟩ : ∃ m, K - j = m + 1 := ⟨K - j - 1, by omega⟩
      have hr1 := hr.out
      rw [hm] at hr1
      unfold rHex rAt at hr1
      unfold rPeek at hPK hr1
      cases hx : L[q]? with
      | none =>
        rw [hx] at hPK hr1
        have HR1 := Lib.hid (show RR.bad q 8 = R from hr1)
        clear hr1 hx HE HR hr hm
        go_wp2_with (go_at_call 36; refine hPK.out.mono ?_; rintro e w1 ⟨rfl, hb⟩)
        rw [← HR1.out]
        exact ⟨rfl, rfl, hB.out.trans (hb.mono (fun _ _ h => h.elim))⟩
      | some x =>
        rw [hx] at hPK hr1
        have hq : q < L.length := (List.getElem?_eq_some_iff.1 hx).1
        have hqw : IntKind.i64.wrap ((q : Int) + 1) = (q : Int) + 1 := IntWalk.i64_in _ (by have := hE.out.fits; omega)
        have hix := fun V => idx_c hexT x V
        obtain ⟨hh1, hh2⟩ := hex_ib x
        obtain ⟨Z, hZ⟩ : ∃ Z, indexByte hexT.data.toList x = Z := ⟨_, rfl⟩
        rw [hZ] at hix hh1 hh2
        have HIX := Lib.hid hix
        clear hix hx hZ
        by_cases hz : Z < 0
        · rw [if_pos hz] at hh1
          simp only [RR.bind, hh1] at hr1
          have HR1 := Lib.hid (show RR.bad q 33 = R from hr1)
          clear hr1 HE HR hr hm hh1
          go_wp2_with (first | (go_at_call 36; refine hPK.out.mono ?_; rintro e w1 ⟨⟨v, rfl, rfl⟩, E1, hb1⟩; obtain ⟨c0, c1, c2⟩ := E1.cells; have HB1 := Lib.hid hb1; clear hb1) | (go_at_call 21; refine (HIX.out _).mono ?_; rintro e w2 ⟨rfl, rfl⟩))
          rw [← HR1.out]
          exact ⟨rfl, rfl, hB.out.trans (HB1.out.mono (fun _ _ h => h.elim))⟩
        · obtain ⟨d, hd, hd2⟩ : ∃ d : Nat, d < 16 ∧ (if 15 < Z then (d : Int) = Z - 6 else (d : Int) = Z) := by
            by_cases h15 : 15 < Z
            · exact ⟨(Z - 6).toNat, by omega, by rw [if_pos h15]; omega⟩
            · exact ⟨Z.toNat, by omega, by rw [if_neg h15]; omega⟩
          have hh3 : hexOf x = some d := by
            rw [hh1, if_neg hz]
            by_cases h15 : 15 < Z
            · rw [if_pos h15] at hd2 ⊢; congr 1; omega
            · rw [if_neg h15] at hd2 ⊢; congr 1; omega
          simp only [RR.bind, hh3] at hr1
          have hor : IntKind.i64.wrap ((n : Int) * 2 ^ 4) = ((n * 16 : Nat) : Int) := by
            rw [IntWalk.i64_in _ (by have := hn4.out; omega)]; omega
          have hn2 : n * 16 + d < 16 ^ (j + 1) := by
            have := hn.out; rw [Nat.pow_succ]; omega
          have HR1 := Lib.hid (show rHex m (n * 16 + d) L (q + 1) = R from hr1)
          have hm2 : K - (j + 1) = m := by omega
          rw [← hm2] at HR1
          have HN2 := Lib.hid hn2
          have HOR := Lib.hid (hexor hn4.out hd)
          clear hr1 HE HR hr hm hh1 hh3 hn2 hm2 hn hn4
          by_cases h15 : 15 < Z
          · rw [if_pos h15] at hd2
            have HD2 := Lib.hid hd2
            clear hd2
            go_wp2_with (first | (go_at_call 36; refine hPK.out.mono ?_; rintro e w1 ⟨⟨v, rfl, rfl⟩, E1, hb1⟩; obtain ⟨c0, c1, c2⟩ := E1.cells; have f1 := E1.frozen 1 (by omega); have HB1 := Lib.hid hb1; have HE1 := Lib.hid E1; clear hb1 E1) | (go_at_call 21; refine (HIX.out _).mono ?_; rintro e w2 ⟨rfl, rfl⟩))
            go_roundw
            case rel => exact ⟨j + 1, n * 16 + d, q + 1, by go_num, (by rw [← HD2.out]; rw [HOR.out]), by omega, HN2.out, HR1, HE1.out.move (q := q + 1) (by omega), hB.out.trans (But.setCell (C := fun k => k = sb) (p := ⟨sb, 1, none⟩) (HB1.out.mono (fun _ _ h => h.elim)) (.inl rfl) _)⟩
            case measure => simp [RowKit.intOf]; omega
          · rw [if_neg h15] at hd2
            have HD2 := Lib.hid hd2
            clear hd2
            go_wp2_with (first | (go_at_call 36; refine hPK.out.mono ?_; rintro e w1 ⟨⟨v, rfl, rfl⟩, E1, hb1⟩; obtain ⟨c0, c1, c2⟩ := E1.cells; have f1 := E1.frozen 1 (by omega); have HB1 := Lib.hid hb1; have HE1 := Lib.hid E1; clear hb1 E1) | (go_at_call 21; refine (HIX.out _).mono ?_; rintro e w2 ⟨rfl, rfl⟩))
            go_roundw
            case rel => exact ⟨j + 1, n * 16 + d, q + 1, by go_num, (by rw [← HD2.out]; rw [HOR.out]), by omega, HN2.out, HR1, HE1.out.move (q := q + 1) (by omega), hB.out.trans (But.setCell (C := fun k => k = sb) (p := ⟨sb, 1, none⟩) (HB1.out.mono (fun _ _ h => h.elim)) (.inl rfl) _)⟩
            case measure => simp [RowKit.intOf]; omega
    · obtain rfl : j = K := by omega
      have hlt : ¬ (j : Int) < (j : Int) := by omega
      have hr1 := hr.out
      rw [Nat.sub_self] at hr1
      have HR1 := Lib.hid (show RR.ok n q = R from hr1)
      have hcv : Hid (wrap32 (n : Int) = (n : Int)) := (lwrap32 (n : Int)).symm.trans (IntWalk.i32_in _ (by have := hn4.out; omega))
      clear hr1 HE HR hr hn hn4
      go_wp2
      go_ret
      rw [← HR1.out]
      exact ⟨⟨_, rfl, by show Value.int _ _ = _; first | rfl | rw [hcv.out] | (congr 1; exact hcv.out)⟩, hE.out, hB.out⟩
end Go.Proofs.YtpjllcengnolkaaGreatDoor
