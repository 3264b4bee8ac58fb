/-
  Contract of the reference's escape, where no half of a character stands.
-/
import Derived.Test.YtcanfiaooabocaaGreatDoorQWrl
set_option linter.unusedVariables false
set_option linter.unusedSimpArgs false
namespace Go.Proofs.YtcanfiaooabocaaGreatDoor
open Go.RowKit Go.Lib

set_option maxRecDepth 100000 in
set_option maxHeartbeats 4000000 in
theorem rescN_c {B : Nat} {L : List UInt8} {A : Option Addr} {c rb : Nat} {w : World} {p : Nat} {d : UInt8} (E : REnv B L A c rb w p) (hd : L[p + 1]? = some d) {z : Int} (hx : ∃ i, i < 8 ∧ nth escN i = d.toNat ∧ (nth escO i : Int) = z ∧ ∀ j, j < i → nth escN j ≠ d.toNat) :
    Calls Tryz.prog 113 #[.pointer (some ⟨rb, 0, none⟩)] w fun e w' => ∃ g m, e = .returned (.slice (some ⟨g, 0, none⟩) m m) ∧ w.heap.size ≤ g ∧ RowV w' w.heap.size 5 (some ⟨g, 0, none⟩) m m (bs8 (encodeRune z)) ∧ REnv B L A c rb w' (p + 2) ∧ But (fun k => k = rb) w w' := by
  have mixed : Tryz.prog.follows .mixedOrders = true := by kernel_rfl
  obtain ⟨c0, c1, -⟩ := E.cells
  have hfit := E.fits
  have hcap := E.cap
  have hlt : p + 1 < L.length := (List.getElem?_eq_some_iff.1 hd).1
  have HE := Lib.hid E
  clear E
  go_enter Tryz.func113, Tryz.ntmps113
  go_upto_region 1 with fail
  go_region_o
  go_wp2_with fail
  obtain ⟨NS, hNS⟩ : ∃ NS, (⟨#[34, 92, 47, 98, 102, 110, 114, 116]⟩ : ByteArray) = NS := ⟨_, rfl⟩
  obtain ⟨OS, hOS⟩ : ∃ OS, (⟨#[34, 92, 47, 8, 12, 10, 13, 9]⟩ : ByteArray) = OS := ⟨_, rfl⟩
  have hns : NS.size = 8 := by rw [← hNS]; rfl
  have hos : OS.size = 8 := by rw [← hOS]; rfl
  have hnk : ∀ j (h : j < NS.size), NS[j].toNat = nth escN j := by subst hNS; decide
  have hok : ∀ j (h : j < OS.size), OS[j].toNat = nth escO j := by subst hOS; decide
  rw [hNS, hOS]
  have HNK := Lib.hid hnk
  have HOK := Lib.hid hok
  clear hNS hOS hnk hok c0 c1
  have hE0 : REnv B L A c rb w.drew p := HE.out.stay (C := fun _ => False) (But.refl _ w).drew (fun k h => h.elim)
  have hb0 : But (fun _ => False) w w.drew := (But.refl _ w).drew
  go_loopw [5] (fun iv wr => ∃ k : Nat, k ≤ 8 ∧ iv = .int .i64 (k : Int) ∧ Hid (∀ j, j < k → nth escN j ≠ d.toNat) ∧ Hid (REnv B L A c rb wr p) ∧ Hid (But (fun _ => False) w wr)) (fun iv _ => 8 - (RowKit.intOf iv).toNat)
  case atStart => exact ⟨0, by omega, rfl, fun j hj => absurd hj (by omega), hE0, hb0⟩
  case round =>
    clear hE0 hb0
    obtain ⟨k, hk, rfl, hno, hE, hB⟩ := hrel
    obtain ⟨c0, c1, -⟩ := hE.out.cells
    have f1 := hE.out.frozen 1
    obtain ⟨g, off, rfl, -, hcd⟩ := hE.out.oct (p + 1) d hd
    by_cases hn2 : nth escN k = d.toNat
    · have hk8 : k < 8 := by
        rcases Nat.lt_or_ge k 8 with h | h
        · exact h
        · exfalso
          obtain ⟨i, hi, h1, -, -⟩ := hx
          exact hno.out i (by omega) h1
      have hkn : k < NS.size := by omega
      have hko : k < OS.size := by omega
      have hnv := HNK.out k hkn
      have hov := HOK.out k hko
      have heq : ((d.toNat : Int) == (NS[k].toNat : Int)) = true := by rw [beq_iff_eq, hnv, hn2]
      have hz : (nth escO k : Int) = z := by
        obtain ⟨i, hi, h1, h2, h3⟩ := hx
        have hik : i = k := by
          rcases Nat.lt_trichotomy i k with h | h | h
          · exact absurd h1 (hno.out i h)
          · exact h
          · exact absurd hn2 (h3 k h)
        rw [← hik]; exact h2
      have hnk8 : (k : Int) < 8 := by omega
      clear hx hno
      go_upto_region 8 with fail
      go_region_o
      have hE2 := hE.out.to (q := p + 2) (by omega)
      have e2 : ((p + 2 : Nat) : Int) = (p : Int) + 2 := by omega
      rw [e2] at hE2
      have HE2 := Lib.hid hE2
      have hzr : 0 ≤ z ∧ z < 128 := by
        have h9 : ∀ k, k < 8 → nth escO k < 128 := by decide
        have := h9 k hk8
        omega
      have hbs : bs8 (encodeRune z) = [.int .u8 z] := by
        rw [enc_low hzr.1 hzr.2]
        unfold bs8
        rw [List.map_cons, List.map_nil, u8_of hzr.1 (by omega)]
        rw [show ((z.toNat : Nat) : Int) = z by omega]
      have hsz : (wr.setCell ⟨rb, 1, none⟩ (.int .i64 ((p : Int) + 2))).heap.size = wr.heap.size := by simp [World.setCell]
      have HBS := Lib.hid hbs
      clear hE2 e2 hbs
      go_wp2
      go_ret
      rw [HBS.out]
      have hlit := RowV.lit (wr.setCell ⟨rb, 1, none⟩ (.int .i64 ((p : Int) + 2))) 5 [.int .u8 z] 1 rfl (by omega)
      rw [hsz] at hlit
      have hbA : But (fun _ => False) (wr.setCell ⟨rb, 1, none⟩ (.int .i64 ((p : Int) + 2))) (((wr.setCell ⟨rb, 1, none⟩ (.int .i64 ((p : Int) + 2))).alloc (.cells #[.int .u8 z] 5)).drew) := ((But.refl _ _).alloc _).drew
      refine ⟨_, 1, rfl, hB.out.size, hlit.drew.more hB.out.size, HE2.out.stay hbA (fun k h => h.elim), ?_⟩
      have hb1 : But (fun k => k = rb) wr (wr.setCell ⟨rb, 1, none⟩ (.int .i64 ((p : Int) + 2))) := But.setCell (C := fun k => k = rb) (p := ⟨rb, 1, none⟩) (But.refl _ _) (.inl rfl) _
      exact ((hB.out.mono (fun _ _ h => h.elim)).trans hb1).trans (hbA.mono (fun _ _ h => h.elim))
    · have hk8 : k < 8 := by
        rcases Nat.lt_or_ge k 8 with h | h
        · exact h
        · exfalso
          obtain ⟨i, hi, h1, -, -⟩ := hx
          exact hno.out i (by omega) h1
      have hkn : k < NS.size := by omega
      have hnv := HNK.out k hkn
      have hne : ((d.toNat : Int) == (NS[k].toNat : Int)) = false := by rw [beq_eq_false_iff_ne, hnv]; intro e; exact hn2 (by omega)
      have hno2 : Hid (∀ j, j < k + 1 → nth escN j ≠ d.toNat) := fun j hj => by
        rcases Nat.lt_or_ge j k with h | h
        · exact hno.out j h
        · have : j = k := by omega
          subst this; exact hn2
      have hnk8 : (k : Int) < 8 := by omega
      go_upto_region 8 with fail
      go_region_o
      go_wp2
      go_roundw
      case rel => exact ⟨k + 1, by omega, by go_num, hno2, hE.out.stay (C := fun _ => False) (But.refl _ _).drew (fun k h => h.elim), hB.out.drew⟩
      case measure => simp [RowKit.intOf]; omega

set_option maxRecDepth 100000 in
set_option maxHeartbeats 4000000 in
theorem rescG_c {B : Nat} {L : List UInt8} {A : Option Addr} {c rb : Nat} {w : World} {p : Nat} {d : UInt8} (E : REnv B L A c rb w p) (hd : L[p + 1]? = some d) {z : Int} {q : Nat} (h117 : d.toNat = 117) (hu : ∀ w1, REnv B L A c rb w1 p → Calls Tryz.prog 138 #[.pointer (some ⟨rb, 0, none⟩)] w1 fun e w2 => ∃ g m, e = .returned (.slice (some ⟨g, 0, none⟩) m m) ∧ w1.heap.size ≤ g ∧ RowV w2 w1.heap.size 5 (some ⟨g, 0, none⟩) m m (bs8 (encodeRune z)) ∧ REnv B L A c rb w2 q ∧ But (fun k => k = rb) w1 w2) :
    Calls Tryz.prog 113 #[.pointer (some ⟨rb, 0, none⟩)] w fun e w' => ∃ g m, e = .returned (.slice (some ⟨g, 0, none⟩) m m) ∧ w.heap.size ≤ g ∧ RowV w' w.heap.size 5 (some ⟨g, 0, none⟩) m m (bs8 (encodeRune z)) ∧ REnv B L A c rb w' (q) ∧ But (fun k => k = rb) w w' := by
  have mixed : Tryz.prog.follows .mixedOrders = true := by kernel_rfl
  obtain ⟨c0, c1, -⟩ := E.cells
  have hfit := E.fits
  have hcap := E.cap
  have hlt : p + 1 < L.length := (List.getElem?_eq_some_iff.1 hd).1
  have HE := Lib.hid E
  clear E
  go_enter Tryz.func113, Tryz.ntmps113
  go_upto_region 1 with fail
  go_region_o
  go_wp2_with fail
  obtain ⟨NS, hNS⟩ : ∃ NS, (⟨#[34, 92, 47, 98, 102, 110, 114, 116]⟩ : ByteArray) = NS := ⟨_, rfl⟩
  obtain ⟨OS, hOS⟩ : ∃ OS, (⟨#[34, 92, 47, 8, 12, 10, 13, 9]⟩ : ByteArray) = OS := ⟨_, rfl⟩
  have hns : NS.size = 8 := by rw [← hNS]; rfl
  have hos : OS.size = 8 := by rw [← hOS]; rfl
  have hnk : ∀ j (h : j < NS.size), NS[j].toNat = nth escN j := by subst hNS; decide
  have hok : ∀ j (h : j < OS.size), OS[j].toNat = nth escO j := by subst hOS; decide
  rw [hNS, hOS]
  have HNK := Lib.hid hnk
  have HOK := Lib.hid hok
  clear hNS hOS hnk hok c0 c1
  have hE0 : REnv B L A c rb w.drew p := HE.out.stay (C := fun _ => False) (But.refl _ w).drew (fun k h => h.elim)
  have hb0 : But (fun _ => False) w w.drew := (But.refl _ w).drew
  go_loopw [5] (fun iv wr => ∃ k : Nat, k ≤ 8 ∧ iv = .int .i64 (k : Int) ∧ Hid (∀ j, j < k → nth escN j ≠ d.toNat) ∧ Hid (REnv B L A c rb wr p) ∧ Hid (But (fun _ => False) w wr)) (fun iv _ => 8 - (RowKit.intOf iv).toNat)
  case atStart => exact ⟨0, by omega, rfl, fun j hj => absurd hj (by omega), hE0, hb0⟩
  case round =>
    clear hE0 hb0
    obtain ⟨k, hk, rfl, hno, hE, hB⟩ := hrel
    obtain ⟨c0, c1, -⟩ := hE.out.cells
    have f1 := hE.out.frozen 1
    obtain ⟨g, off, rfl, -, hcd⟩ := hE.out.oct (p + 1) d hd
    have hn2 : nth escN k ≠ d.toNat ∨ k = 8 := by
      rcases Nat.lt_or_ge k 8 with h | h
      · left
        rw [h117]
        have h9 : ∀ k, k < 8 → nth escN k ≠ 117 := by decide
        exact h9 k h
      · right; omega
    by_cases hk8 : k < 8
    · replace hn2 : nth escN k ≠ d.toNat := hn2.resolve_right (by omega)
      have hkn : k < NS.size := by omega
      have hnv := HNK.out k hkn
      have hne : ((d.toNat : Int) == (NS[k].toNat : Int)) = false := by rw [beq_eq_false_iff_ne, hnv]; intro e; exact hn2 (by omega)
      have hno2 : Hid (∀ j, j < k + 1 → nth escN j ≠ d.toNat) := fun j hj => by
        rcases Nat.lt_or_ge j k with h | h
        · exact hno.out j h
        · have : j = k := by omega
          subst this; exact hn2
      have hnk8 : (k : Int) < 8 := by omega
      go_upto_region 8 with fail
      go_region_o
      go_wp2
      go_roundw
      case rel => exact ⟨k + 1, by omega, by go_num, hno2, hE.out.stay (C := fun _ => False) (But.refl _ _).drew (fun k h => h.elim), hB.out.drew⟩
      case measure => simp [RowKit.intOf]; omega
    · obtain rfl : k = 8 := by omega
      have e117 : ((d.toNat : Int) == 117) = true := by rw [beq_iff_eq, h117]; rfl
      clear hn2 hno
      go_upto_region 11 with fail
      go_region_o
      have hEW : REnv B L (some ⟨g, off, none⟩) c rb wr.drew p := hE.out.stay (C := fun _ => False) (But.refl _ _).drew (fun k h => h.elim)
      have HU := Lib.hid (hu _ hEW)
      have HW := Lib.hid (hB.out.drew (C := fun _ => False))
      clear hu hEW
      go_wp2_with fail
      refine HU.out.mono ?_
      rintro e9 w2 ⟨g2, m, rfl, hg2, hrow, hE3, hb3⟩
      have HROW := Lib.hid hrow
      have HE3 := Lib.hid hE3
      have HB3 := Lib.hid hb3
      clear hrow hE3 hb3
      go_wp2_with fail
      go_ret
      exact ⟨g2, m, rfl, Nat.le_trans HW.out.size hg2, HROW.out.more HW.out.size, HE3.out, (HW.out.mono (fun _ _ h => h.elim)).trans HB3.out⟩

/-- What is escaped, is told as it is. -/
theorem resc_c {B : Nat} {L : List UInt8} {A : Option Addr} {c rb : Nat} {w : World} {p q : Nat} {z : Int} (E : REnv B L A c rb w p) (h : rEscape L p = .ok z q) (hq : q ≤ L.length) :
    Calls Tryz.prog 113 #[.pointer (some ⟨rb, 0, none⟩)] w fun e w' => ∃ g m, e = .returned (.slice (some ⟨g, 0, none⟩) m m) ∧ w.heap.size ≤ g ∧ RowV w' w.heap.size 5 (some ⟨g, 0, none⟩) m m (bs8 (encodeRune z)) ∧ REnv B L A c rb w' q ∧ But (fun k => k = rb) w w' := by
  unfold rEscape at h
  obtain ⟨d, q1, h1, h2⟩ := rAt_out (p := p + 1) h
  obtain ⟨hd, rfl⟩ := rPeek_out h1
  by_cases hu : d == 117
  · rw [if_pos hu] at h2
    have hd2 : d = 117 := by simpa using hu
    subst hd2
    refine rescG_c E hd (z := z) (q := q) rfl fun w1 E1 => ?_
    have h3 : rCoded p L (p + 2) = .ok z q := h2
    unfold rCoded at h3
    obtain ⟨n, q1, h4, h5⟩ := rAt_out h3
    obtain ⟨rfl, g2⟩ := rHex_at _ _ h4
    split at h5
    · rename_i hn
      unfold rPure at h5
      injection h5 with h6 h7
      subst h6 h7
      exact runi_c E1 h4 hn (by omega) hq
    · split at h5
      · cases h5
      · rename_i hn1 hn2
        obtain ⟨v, q3, h6, h7⟩ := rAt_out h5
        obtain ⟨l1, l2, rfl, l4, l5, l6⟩ := rLow_out h6
        unfold rPure at h7
        injection h7 with h8 h9
        subst h8 h9
        exact runi2_c E1 h4 (by omega) (by omega) l1 l2 l4 l5 l6 hq
  · rw [if_neg hu] at h2
    cases ho : escOf d with
    | none => rw [ho] at h2; cases h2
    | some x =>
      rw [ho] at h2
      injection h2 with h3 h4
      subst h3 h4
      exact rescN_c E hd (escOf_out ho)
end Go.Proofs.YtcanfiaooabocaaGreatDoor
