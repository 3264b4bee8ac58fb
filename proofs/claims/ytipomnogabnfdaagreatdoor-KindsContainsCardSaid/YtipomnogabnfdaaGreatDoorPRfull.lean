/-
  Whole characters at the beginning of octets: over octets. Pure, no program.
-/
import Derived.Test.YtipomnogabnfdaaGreatDoorPRgap
set_option linter.unusedVariables false
set_option linter.unusedSimpArgs false
namespace Go.Proofs.YtipomnogabnfdaaGreatDoor
open Go.Lib

theorem u8_lt (a : UInt8) (n : Nat) (h : n < 256) : (a < UInt8.ofNat n) ↔ a.toNat < n := by
  rw [UInt8.lt_iff_toNat_lt]
  simp [UInt8.toNat_ofNat, Nat.mod_eq_of_lt h]
theorem u8_gt (a : UInt8) (n : Nat) (h : n < 256) : (UInt8.ofNat n < a) ↔ n < a.toNat := by
  rw [UInt8.lt_iff_toNat_lt]
  simp [UInt8.toNat_ofNat, Nat.mod_eq_of_lt h]
theorem u8_eq (a : UInt8) (n : Nat) (h : n < 256) : (a = UInt8.ofNat n) ↔ a.toNat = n := by
  constructor
  · rintro rfl
    simp [UInt8.toNat_ofNat, Nat.mod_eq_of_lt h]
  · intro e
    apply UInt8.toNat.inj
    simp [UInt8.toNat_ofNat, Nat.mod_eq_of_lt h, e]
theorem full_N {a : UInt8} {t : List UInt8} (h : fullL (a :: t) = true) : fullN (t.length + 1) a.toNat (t.getD 0 0).toNat (t.getD 1 0).toNat := by
  unfold fullL at h
  have e194 : a < 194 ↔ a.toNat < 194 := u8_lt a 194 (by omega)
  have e244 : 244 < a ↔ 244 < a.toNat := u8_gt a 244 (by omega)
  have e224 : a < 224 ↔ a.toNat < 224 := u8_lt a 224 (by omega)
  have e240 : a < 240 ↔ a.toNat < 240 := u8_lt a 240 (by omega)
  have q224 : a = 224 ↔ a.toNat = 224 := u8_eq a 224 (by omega)
  have q240 : a = 240 ↔ a.toNat = 240 := u8_eq a 240 (by omega)
  have q237 : a = 237 ↔ a.toNat = 237 := u8_eq a 237 (by omega)
  have q244 : a = 244 ↔ a.toNat = 244 := u8_eq a 244 (by omega)
  simp only [e194, e244, e224, e240] at h
  unfold fullN
  by_cases c1 : a.toNat < 194 ∨ 244 < a.toNat
  · rcases c1 with c1 | c1
    · exact .inl c1
    · exact .inr (.inl c1)
  · rw [if_neg c1] at h
    by_cases c2 : (if a.toNat < 224 then 1 else if a.toNat < 240 then 2 else 3) ≤ t.length
    · refine .inr (.inr (.inl ?_))
      by_cases x : a.toNat < 224
      · rw [if_pos x] at c2 ⊢; omega
      · rw [if_neg x] at c2 ⊢
        by_cases y : a.toNat < 240
        · rw [if_pos y] at c2 ⊢; omega
        · rw [if_neg y] at c2 ⊢; omega
    · rw [if_neg c2] at h
      cases t with
      | nil => simp at h
      | cons c u =>
        simp only at h
        by_cases c3 : c < (if a = 224 then 160 else if a = 240 then 144 else 128) ∨ (if a = 237 then 159 else if a = 244 then 143 else 191) < c
        · refine .inr (.inr (.inr (.inl ⟨by simp, ?_⟩)))
          show c.toNat < _ ∨ _ < c.toNat
          rcases c3 with c3 | c3
          · left
            by_cases d : a = 224
            · rw [if_pos d] at c3; rw [if_pos (q224.1 d)]; exact (u8_lt c 160 (by omega)).1 c3
            · rw [if_neg d] at c3; rw [if_neg (fun e => d (q224.2 e))]
              by_cases d2 : a = 240
              · rw [if_pos d2] at c3; rw [if_pos (q240.1 d2)]; exact (u8_lt c 144 (by omega)).1 c3
              · rw [if_neg d2] at c3; rw [if_neg (fun e => d2 (q240.2 e))]; exact (u8_lt c 128 (by omega)).1 c3
          · right
            by_cases d : a = 237
            · rw [if_pos d] at c3; rw [if_pos (q237.1 d)]; exact (u8_gt c 159 (by omega)).1 c3
            · rw [if_neg d] at c3; rw [if_neg (fun e => d (q237.2 e))]
              by_cases d2 : a = 244
              · rw [if_pos d2] at c3; rw [if_pos (q244.1 d2)]; exact (u8_gt c 143 (by omega)).1 c3
              · rw [if_neg d2] at c3; rw [if_neg (fun e => d2 (q244.2 e))]; exact (u8_gt c 191 (by omega)).1 c3
        · rw [if_neg c3] at h
          cases u with
          | nil => simp at h
          | cons d v =>
            simp only [decide_eq_true_eq] at h
            refine .inr (.inr (.inr (.inr ⟨by simp, ?_⟩)))
            show d.toNat < 128 ∨ 191 < d.toNat
            rcases h with h | h
            · exact .inl ((u8_lt d 128 (by omega)).1 h)
            · exact .inr ((u8_gt d 191 (by omega)).1 h)
theorem getD_left {l : List UInt8} (r : List UInt8) {i : Nat} (h : i < l.length) : (l ++ r).getD i 0 = l.getD i 0 := by
  rw [List.getD_eq_getElem?_getD, List.getD_eq_getElem?_getD, List.getElem?_append_left h]
/-- What a whole character is, it is whatever follows. -/
theorem full_dec {l : List UInt8} (r : List UInt8) (h : fullL l = true) : decodeL (l ++ r) = decodeL l := by
  cases l with
  | nil => cases h
  | cons a t =>
    have hf := full_N h
    have k := fun (x : UInt8) => x.toNat_lt
    rw [decodeL_N, decodeL_N]
    have g0 : ((a :: t) ++ r).getD 0 0 = (a :: t).getD 0 0 := rfl
    rw [g0]
    have g1 : 1 < (a :: t).length → ((a :: t) ++ r).getD 1 0 = (a :: t).getD 1 0 := fun hl => getD_left r hl
    have g2 : 2 < (a :: t).length → ((a :: t) ++ r).getD 2 0 = (a :: t).getD 2 0 := fun hl => getD_left r hl
    have g3 : 3 < (a :: t).length → ((a :: t) ++ r).getD 3 0 = (a :: t).getD 3 0 := fun hl => getD_left r hl
    exact decodeN_full (n := (a :: t).length) (by simp) (by simp) (fun hl => by rw [g1 hl]) (fun hl => by rw [g2 hl]) (fun hl => by rw [g3 hl]) (k _) (k _) (k _) (k _) (k _) hf
theorem full_more {l : List UInt8} (r : List UInt8) (h : fullL l = true) : fullL (l ++ r) = true := by
  cases l with
  | nil => cases h
  | cons a t =>
    rw [List.cons_append]
    unfold fullL at h ⊢
    simp only at h ⊢
    by_cases c1 : a < 194 ∨ 244 < a
    · rw [if_pos c1]
    · rw [if_neg c1] at h ⊢
      by_cases c2 : (if a < 224 then 1 else if a < 240 then 2 else 3) ≤ t.length
      · rw [if_pos (by rw [List.length_append]; omega)]
      · rw [if_neg c2] at h
        by_cases c4 : (if a < 224 then 1 else if a < 240 then 2 else 3) ≤ (t ++ r).length
        · rw [if_pos c4]
        · rw [if_neg c4]
          cases t with
          | nil => simp at h
          | cons c u =>
            simp only [List.cons_append] at h ⊢
            by_cases c3 : c < (if a = 224 then 160 else if a = 240 then 144 else 128) ∨ (if a = 237 then 159 else if a = 244 then 143 else 191) < c
            · rw [if_pos c3]
            · rw [if_neg c3] at h ⊢
              cases u with
              | nil => simp at h
              | cons d v => exact h
end Go.Proofs.YtipomnogabnfdaaGreatDoor
