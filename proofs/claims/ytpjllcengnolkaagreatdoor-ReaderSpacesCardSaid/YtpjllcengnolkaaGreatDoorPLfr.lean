/-
  Contract of the library's FullRune: whether octets begin with a whole character, or with none at all.
-/
import Derived.Test.YtpjllcengnolkaaGreatDoorPLes
import Derived.Test.YtpjllcengnolkaaGreatDoorPLly
set_option linter.unusedVariables false
set_option linter.unusedSimpArgs false
namespace Go.Proofs.YtpjllcengnolkaaGreatDoor
open Go.RowKit Go.Lib

theorem belowDN {B : Nat} {a w : World} (h : Below B a w) (k : Nat) : Below B a (w.drewN k) := ⟨h.os, h.tape, h.output, h.size, h.block⟩
theorem two_of {t : List UInt8} (h : t.length = 2) : ∃ b d, t = [b, d] := by
  match t, h with
  | [b, d], _ => exact ⟨b, d, rfl⟩
/-- The same by the library's own tables. -/
def fullT (T : Nat) (t : List UInt8) : Bool :=
  if T % 8 ≤ t.length + 1 then true else match t with
    | [] => false
    | b :: u => if b.toNat < accLo (T / 16) ∨ accHi (T / 16) < b.toNat then true else match u with
      | [] => false
      | d :: _ => decide (d.toNat < 128 ∨ 191 < d.toNat)
theorem full_tab (a : UInt8) : ((decide (a < 194 ∨ 244 < a)) = decide (firstT a.toNat % 8 ≤ 1)) ∧ ((decide (a < 194 ∨ 244 < a)) = true ∨ ((if a < 224 then 1 else if a < 240 then 2 else 3) + 1 = firstT a.toNat % 8 ∧ ((if a = 224 then 160 else if a = 240 then 144 else 128 : UInt8)).toNat = accLo (firstT a.toNat / 16) ∧ ((if a = 237 then 159 else if a = 244 then 143 else 191 : UInt8)).toNat = accHi (firstT a.toNat / 16))) := by
  have := forall_u8 (p := fun a => ((decide (a < 194 ∨ 244 < a)) == decide (firstT a.toNat % 8 ≤ 1)) && ((decide (a < 194 ∨ 244 < a)) || (((if a < 224 then 1 else if a < 240 then 2 else 3) + 1 == firstT a.toNat % 8) && (((if a = 224 then 160 else if a = 240 then 144 else 128 : UInt8)).toNat == accLo (firstT a.toNat / 16)) && (((if a = 237 then 159 else if a = 244 then 143 else 191 : UInt8)).toNat == accHi (firstT a.toNat / 16))))) (by kernel_rfl) a
  simp only [Bool.and_eq_true, Bool.or_eq_true, beq_iff_eq] at this
  exact ⟨this.1, this.2.imp id fun h => ⟨h.1.1, h.1.2, h.2⟩⟩
theorem fullL_T (a : UInt8) (t : List UInt8) : fullL (a :: t) = fullT (firstT a.toNat) t := by
  obtain ⟨h1, h2⟩ := full_tab a
  unfold fullL fullT
  dsimp only
  by_cases hA : a < 194 ∨ 244 < a
  · have h3 : firstT a.toNat % 8 ≤ 1 := by rw [decide_eq_true hA] at h1; exact of_decide_eq_true h1.symm
    rw [if_pos hA, if_pos (by omega)]
  · rw [decide_eq_false hA] at h2
    rcases h2 with h2 | ⟨h2, h3, h4⟩
    · exact absurd h2 (by simp)
    · rw [if_neg hA]
      obtain ⟨k, hk⟩ : ∃ k, (if a < 224 then 1 else if a < 240 then 2 else 3) = k := ⟨_, rfl⟩
      obtain ⟨lo, hlo⟩ : ∃ k, (if a = 224 then 160 else if a = 240 then 144 else 128 : UInt8) = k := ⟨_, rfl⟩
      obtain ⟨hi, hhi⟩ : ∃ k, (if a = 237 then 159 else if a = 244 then 143 else 191 : UInt8) = k := ⟨_, rfl⟩
      rw [hk] at h2
      rw [hlo] at h3
      rw [hhi] at h4
      simp only [hk, hlo, hhi, ← h2, ← h3, ← h4]
      by_cases hl : k ≤ t.length
      · rw [if_pos hl, if_pos (by omega)]
      · rw [if_neg hl, if_neg (by omega)]
        cases t with
        | nil => rfl
        | cons b u =>
          simp only [UInt8.lt_iff_toNat_lt]
          by_cases hb : b.toNat < lo.toNat ∨ hi.toNat < b.toNat
          · simp only [if_pos hb]
          · simp only [if_neg hb]
            cases u with
            | nil => rfl
            | cons d v => rfl

set_option maxRecDepth 100000 in
set_option maxHeartbeats 8000000 in
theorem FullRune_c (a : UInt8) (t : List UInt8) (g off cap n : Nat) (w : World) (hT : Tabs w) (hn : n = t.length + 1) (hn2 : n ≤ 65536) (hc : ∀ j x, (a :: t)[j]? = some x → w.cell? ⟨g, off + j, none⟩ = some (.int .u8 (x.toNat : Int))) :
    Calls Tryz.prog 78 #[.slice (some ⟨g, off, none⟩) n cap] w fun e w' => e = .returned (.bool (fullL (a :: t))) ∧ Below w.heap.size w w' := by
  rw [fullL_T]
  have x0 := hc 0 a rfl
  rw [Nat.add_zero] at x0
  have l0 := a.toNat_lt
  have hc0 := hT.1 a.toNat (by omega)
  have hx1 : ∀ b, t[0]? = some b → w.cell? ⟨g, off + 1, none⟩ = some (.int .u8 (b.toNat : Int)) := fun b h => hc 1 b (by simpa using h)
  have hx2 : ∀ b, t[1]? = some b → w.cell? ⟨g, off + 2, none⟩ = some (.int .u8 (b.toNat : Int)) := fun b h => hc 2 b (by simpa using h)
  have HX1 := Lib.hid hx1
  have HX2 := Lib.hid hx2
  clear hc hx1 hx2
  have h1n : (0 : Int) < (n : Int) := by omega
  have hnn : ((n : Int) == 0) = false := by rw [beq_eq_false_iff_ne]; omega
  rcases Lib.firstT_cases a.toNat with hX | hX | hX | hX | hX | hX | hX | hX | hX
  · rw [hX] at hc0 ⊢
    rw [show fullT 240 t = true from if_pos (by omega)]
    clear hT hX
    have hz : (0 : Int) ≤ (n : Int) := by omega
    go_enter Tryz.func78, Tryz.ntmps78
    go_wp2
    go_ret
    exact ⟨rfl, Below.refl _ _⟩
  · rw [hX] at hc0 ⊢
    rw [show fullT 241 t = true from if_pos (by omega)]
    clear hT hX
    have hz : (1 : Int) ≤ (n : Int) := by omega
    go_enter Tryz.func78, Tryz.ntmps78
    go_wp2
    go_ret
    exact ⟨rfl, Below.refl _ _⟩
  · rw [hX] at hc0 ⊢
    have ha0 := (hT.2 0 (by omega)).1
    have ha1 := (hT.2 0 (by omega)).2
    simp only [accLo, accHi, Nat.reduceMul, Nat.reduceAdd, Nat.reduceEqDiff, if_true, if_false, Nat.reduceMod, Nat.reduceDiv] at ha0 ha1
    clear hT hX
    by_cases hz : 2 ≤ n
    · rw [show fullT 2 t = true from if_pos (by omega)]
      have hz1 : (2 : Int) ≤ (n : Int) := by omega
      clear hz
      go_enter Tryz.func78, Tryz.ntmps78
      go_wp2
      go_ret
      exact ⟨rfl, Below.refl _ _⟩
    · have hz1 : ¬ (2 : Int) ≤ (n : Int) := by omega
      · obtain rfl : t = [] := List.eq_nil_of_length_eq_zero (by omega)
        rw [show fullT 2 [] = false from rfl]
        obtain rfl : n = 1 := by omega
        clear hz hz1 HX1 HX2 hn h1n hnn
        go_enter Tryz.func78, Tryz.ntmps78
        go_wp2
        have bx := World.alloc_heap_new w (.cells #[.int .u8 128, .int .u8 191] 122)
        have hbl : Below w.heap.size w (w.alloc (.cells #[.int .u8 128, .int .u8 191] 122)) := (Below.refl _ _).alloc (Nat.le_refl _) _
        try replace x1 := ((But.refl (fun _ => False) w).alloc (.cells #[.int .u8 128, .int .u8 191] 122)).cell_some x1 (fun h => h)
        try replace x2 := ((But.refl (fun _ => False) w).alloc (.cells #[.int .u8 128, .int .u8 191] 122)).cell_some x2 (fun h => h)
        generalize (w.alloc (.cells #[.int .u8 128, .int .u8 191] 122)) = W at *
        have b0 := cell_at3 (i := 0) bx rfl
        have b1 := cell_at3 (i := 1) bx rfl
        have HBL := Lib.hid hbl
        clear bx hbl
        go_quiet (fail)
        go_wp2
        go_ret
        exact ⟨rfl, by first | exact belowDN HBL.out _ | exact belowDN (belowDN HBL.out _) _⟩
  · rw [hX] at hc0 ⊢
    have ha0 := (hT.2 1 (by omega)).1
    have ha1 := (hT.2 1 (by omega)).2
    simp only [accLo, accHi, Nat.reduceMul, Nat.reduceAdd, Nat.reduceEqDiff, if_true, if_false, Nat.reduceMod, Nat.reduceDiv] at ha0 ha1
    clear hT hX
    by_cases hz : 3 ≤ n
    · rw [show fullT 19 t = true from if_pos (by omega)]
      have hz1 : (3 : Int) ≤ (n : Int) := by omega
      clear hz
      go_enter Tryz.func78, Tryz.ntmps78
      go_wp2
      go_ret
      exact ⟨rfl, Below.refl _ _⟩
    · have hz1 : ¬ (3 : Int) ≤ (n : Int) := by omega
      rcases (show n = 1 ∨ n = 2 by omega) with h | h
      · obtain rfl : t = [] := List.eq_nil_of_length_eq_zero (by omega)
        rw [show fullT 19 [] = false from rfl]
        obtain rfl : n = 1 := by omega
        clear hz hz1 HX1 HX2 hn h1n hnn
        go_enter Tryz.func78, Tryz.ntmps78
        go_wp2
        have bx := World.alloc_heap_new w (.cells #[.int .u8 160, .int .u8 191] 122)
        have hbl : Below w.heap.size w (w.alloc (.cells #[.int .u8 160, .int .u8 191] 122)) := (Below.refl _ _).alloc (Nat.le_refl _) _
        try replace x1 := ((But.refl (fun _ => False) w).alloc (.cells #[.int .u8 160, .int .u8 191] 122)).cell_some x1 (fun h => h)
        try replace x2 := ((But.refl (fun _ => False) w).alloc (.cells #[.int .u8 160, .int .u8 191] 122)).cell_some x2 (fun h => h)
        generalize (w.alloc (.cells #[.int .u8 160, .int .u8 191] 122)) = W at *
        have b0 := cell_at3 (i := 0) bx rfl
        have b1 := cell_at3 (i := 1) bx rfl
        have HBL := Lib.hid hbl
        clear bx hbl
        go_quiet (fail)
        go_wp2
        go_ret
        exact ⟨rfl, by first | exact belowDN HBL.out _ | exact belowDN (belowDN HBL.out _) _⟩
      · obtain ⟨b, rfl⟩ : ∃ b, t = [b] := List.length_eq_one_iff.1 (by omega)
        have x1 := HX1.out b rfl
        obtain rfl : n = 2 := by omega
        clear hz hz1 HX1 HX2 h1n hnn
        by_cases hb1 : b.toNat < 160
        · rw [show fullT 19 (b :: []) = true from (by unfold fullT; rw [if_neg (by simp)]; exact if_pos (.inl hb1))]
          have hb2 : (b.toNat : Int) < 160 := by omega
          clear hb1 hn
          go_enter Tryz.func78, Tryz.ntmps78
          go_wp2
          have bx := World.alloc_heap_new w (.cells #[.int .u8 160, .int .u8 191] 122)
          have hbl : Below w.heap.size w (w.alloc (.cells #[.int .u8 160, .int .u8 191] 122)) := (Below.refl _ _).alloc (Nat.le_refl _) _
          try replace x1 := ((But.refl (fun _ => False) w).alloc (.cells #[.int .u8 160, .int .u8 191] 122)).cell_some x1 (fun h => h)
          try replace x2 := ((But.refl (fun _ => False) w).alloc (.cells #[.int .u8 160, .int .u8 191] 122)).cell_some x2 (fun h => h)
          generalize (w.alloc (.cells #[.int .u8 160, .int .u8 191] 122)) = W at *
          have b0 := cell_at3 (i := 0) bx rfl
          have b1 := cell_at3 (i := 1) bx rfl
          have HBL := Lib.hid hbl
          clear bx hbl
          go_quiet (fail)
          go_wp2
          go_ret
          exact ⟨rfl, by first | exact belowDN HBL.out _ | exact belowDN (belowDN HBL.out _) _⟩
        · have hb2 : ¬ (b.toNat : Int) < 160 := by omega
          by_cases hb3 : 191 < b.toNat
          · rw [show fullT 19 (b :: []) = true from (by unfold fullT; rw [if_neg (by simp)]; exact if_pos (.inr hb3))]
            have hb4 : (191 : Int) < (b.toNat : Int) := by omega
            clear hb1 hb3 hn
            go_enter Tryz.func78, Tryz.ntmps78
            go_wp2
            have bx := World.alloc_heap_new w (.cells #[.int .u8 160, .int .u8 191] 122)
            have hbl : Below w.heap.size w (w.alloc (.cells #[.int .u8 160, .int .u8 191] 122)) := (Below.refl _ _).alloc (Nat.le_refl _) _
            try replace x1 := ((But.refl (fun _ => False) w).alloc (.cells #[.int .u8 160, .int .u8 191] 122)).cell_some x1 (fun h => h)
            try replace x2 := ((But.refl (fun _ => False) w).alloc (.cells #[.int .u8 160, .int .u8 191] 122)).cell_some x2 (fun h => h)
            generalize (w.alloc (.cells #[.int .u8 160, .int .u8 191] 122)) = W at *
            have b0 := cell_at3 (i := 0) bx rfl
            have b1 := cell_at3 (i := 1) bx rfl
            have HBL := Lib.hid hbl
            clear bx hbl
            go_quiet (fail)
            go_wp2
            go_ret
            exact ⟨rfl, by first | exact belowDN HBL.out _ | exact belowDN (belowDN HBL.out _) _⟩
          · have hb4 : ¬ (191 : Int) < (b.toNat : Int) := by omega
            have hb5 : ¬ (b.toNat < 160 ∨ 191 < b.toNat) := by omega
            rw [show fullT 19 [b] = false from (by unfold fullT; rw [if_neg (by simp)]; exact if_neg hb5)]
            clear hb1 hb3 hb5 hn
            go_enter Tryz.func78, Tryz.ntmps78
            go_wp2
            have bx := World.alloc_heap_new w (.cells #[.int .u8 160, .int .u8 191] 122)
            have hbl : Below w.heap.size w (w.alloc (.cells #[.int .u8 160, .int .u8 191] 122)) := (Below.refl _ _).alloc (Nat.le_refl _) _
            try replace x1 := ((But.refl (fun _ => False) w).alloc (.cells #[.int .u8 160, .int .u8 191] 122)).cell_some x1 (fun h => h)
            try replace x2 := ((But.refl (fun _ => False) w).alloc (.cells #[.int .u8 160, .int .u8 191] 122)).cell_some x2 (fun h => h)
            generalize (w.alloc (.cells #[.int .u8 160, .int .u8 191] 122)) = W at *
            have b0 := cell_at3 (i := 0) bx rfl
            have b1 := cell_at3 (i := 1) bx rfl
            have HBL := Lib.hid hbl
            clear bx hbl
            go_quiet (fail)
            go_wp2
            go_ret
            exact ⟨rfl, by first | exact belowDN HBL.out _ | exact belowDN (belowDN HBL.out _) _⟩
  · rw [hX] at hc0 ⊢
    have ha0 := (hT.2 0 (by omega)).1
    have ha1 := (hT.2 0 (by omega)).2
    simp only [accLo, accHi, Nat.reduceMul, Nat.reduceAdd, Nat.reduceEqDiff, if_true, if_false, Nat.reduceMod, Nat.reduceDiv] at ha0 ha1
    clear hT hX
    by_cases hz : 3 ≤ n
    · rw [show fullT 3 t = true from if_pos (by omega)]
      have hz1 : (3 : Int) ≤ (n : Int) := by omega
      clear hz
      go_enter Tryz.func78, Tryz.ntmps78
      go_wp2
      go_ret
      exact ⟨rfl, Below.refl _ _⟩
    · have hz1 : ¬ (3 : Int) ≤ (n : Int) := by omega
      rcases (show n = 1 ∨ n = 2 by omega) with h | h
      · obtain rfl : t = [] := List.eq_nil_of_length_eq_zero (by omega)
        rw [show fullT 3 [] = false from rfl]
        obtain rfl : n = 1 := by omega
        clear hz hz1 HX1 HX2 hn h1n hnn
        go_enter Tryz.func78, Tryz.ntmps78
        go_wp2
        have bx := World.alloc_heap_new w (.cells #[.int .u8 128, .int .u8 191] 122)
        have hbl : Below w.heap.size w (w.alloc (.cells #[.int .u8 128, .int .u8 191] 122)) := (Below.refl _ _).alloc (Nat.le_refl _) _
        try replace x1 := ((But.refl (fun _ => False) w).alloc (.cells #[.int .u8 128, .int .u8 191] 122)).cell_some x1 (fun h => h)
        try replace x2 := ((But.refl (fun _ => False) w).alloc (.cells #[.int .u8 128, .int .u8 191] 122)).cell_some x2 (fun h => h)
        generalize (w.alloc (.cells #[.int .u8 128, .int .u8 191] 122)) = W at *
        have b0 := cell_at3 (i := 0) bx rfl
        have b1 := cell_at3 (i := 1) bx rfl
        have HBL := Lib.hid hbl
        clear bx hbl
        go_quiet (fail)
        go_wp2
        go_ret
        exact ⟨rfl, by first | exact belowDN HBL.out _ | exact belowDN (belowDN HBL.out _) _⟩
      · obtain ⟨b, rfl⟩ : ∃ b, t = [b] := List.length_eq_one_iff.1 (by omega)
        have x1 := HX1.out b rfl
        obtain rfl : n = 2 := by omega
        clear hz hz1 HX1 HX2 h1n hnn
        by_cases hb1 : b.toNat < 128
        · rw [show fullT 3 (b :: []) = true from (by unfold fullT; rw [if_neg (by simp)]; exact if_pos (.inl hb1))]
          have hb2 : (b.toNat : Int) < 128 := by omega
          clear hb1 hn
          go_enter Tryz.func78, Tryz.ntmps78
          go_wp2
          have bx := World.alloc_heap_new w (.cells #[.int .u8 128, .int .u8 191] 122)
          have hbl : Below w.heap.size w (w.alloc (.cells #[.int .u8 128, .int .u8 191] 122)) := (Below.refl _ _).alloc (Nat.le_refl _) _
          try replace x1 := ((But.refl (fun _ => False) w).alloc (.cells #[.int .u8 128, .int .u8 191] 122)).cell_some x1 (fun h => h)
          try replace x2 := ((But.refl (fun _ => False) w).alloc (.cells #[.int .u8 128, .int .u8 191] 122)).cell_some x2 (fun h => h)
          generalize (w.alloc (.cells #[.int .u8 128, .int .u8 191] 122)) = W at *
          have b0 := cell_at3 (i := 0) bx rfl
          have b1 := cell_at3 (i := 1) bx rfl
          have HBL := Lib.hid hbl
          clear bx hbl
          go_quiet (fail)
          go_wp2
          go_ret
          exact ⟨rfl, by first | exact belowDN HBL.out _ | exact belowDN (belowDN HBL.out _) _⟩
        · have hb2 : ¬ (b.toNat : Int) < 128 := by omega
          by_cases hb3 : 191 < b.toNat
          · rw [show fullT 3 (b :: []) = true from (by unfold fullT; rw [if_neg (by simp)]; exact if_pos (.inr hb3))]
            have hb4 : (191 : Int) < (b.toNat : Int) := by omega
            clear hb1 hb3 hn
            go_enter Tryz.func78, Tryz.ntmps78
            go_wp2
            have bx := World.alloc_heap_new w (.cells #[.int .u8 128, .int .u8 191] 122)
            have hbl : Below w.heap.size w (w.alloc (.cells #[.int .u8 128, .int .u8 191] 122)) := (Below.refl _ _).alloc (Nat.le_refl _) _
            try replace x1 := ((But.refl (fun _ => False) w).alloc (.cells #[.int .u8 128, .int .u8 191] 122)).cell_some x1 (fun h => h)
            try replace x2 := ((But.refl (fun _ => False) w).alloc (.cells #[.int .u8 128, .int .u8 191] 122)).cell_some x2 (fun h => h)
            generalize (w.alloc (.cells #[.int .u8 128, .int .u8 191] 122)) = W at *
            have b0 := cell_at3 (i := 0) bx rfl
            have b1 := cell_at3 (i := 1) bx rfl
            have HBL := Lib.hid hbl
            clear bx hbl
            go_quiet (fail)
            go_wp2
            go_ret
            exact ⟨rfl, by first | exact belowDN HBL.out _ | exact belowDN (belowDN HBL.out _) _⟩
          · have hb4 : ¬ (191 : Int) < (b.toNat : Int) := by omega
            have hb5 : ¬ (b.toNat < 128 ∨ 191 < b.toNat) := by omega
            rw [show fullT 3 [b] = false from (by unfold fullT; rw [if_neg (by simp)]; exact if_neg hb5)]
            clear hb1 hb3 hb5 hn
            go_enter Tryz.func78, Tryz.ntmps78
            go_wp2
            have bx := World.alloc_heap_new w (.cells #[.int .u8 128, .int .u8 191] 122)
            have hbl : Below w.heap.size w (w.alloc (.cells #[.int .u8 128, .int .u8 191] 122)) := (Below.refl _ _).alloc (Nat.le_refl _) _
            try replace x1 := ((But.refl (fun _ => False) w).alloc (.cells #[.int .u8 128, .int .u8 191] 122)).cell_some x1 (fun h => h)
            try replace x2 := ((But.refl (fun _ => False) w).alloc (.cells #[.int .u8 128, .int .u8 191] 122)).cell_some x2 (fun h => h)
            generalize (w.alloc (.cells #[.int .u8 128, .int .u8 191] 122)) = W at *
            have b0 := cell_at3 (i := 0) bx rfl
            have b1 := cell_at3 (i := 1) bx rfl
            have HBL := Lib.hid hbl
            clear bx hbl
            go_quiet (fail)
            go_wp2
            go_ret
            exact ⟨rfl, by first | exact belowDN HBL.out _ | exact belowDN (belowDN HBL.out _) _⟩
  · rw [hX] at hc0 ⊢
    have ha0 := (hT.2 2 (by omega)).1
    have ha1 := (hT.2 2 (by omega)).2
    simp only [accLo, accHi, Nat.reduceMul, Nat.reduceAdd, Nat.reduceEqDiff, if_true, if_false, Nat.reduceMod, Nat.reduceDiv] at ha0 ha1
    clear hT hX
    by_cases hz : 3 ≤ n
    · rw [show fullT 35 t = true from if_pos (by omega)]
      have hz1 : (3 : Int) ≤ (n : Int) := by omega
      clear hz
      go_enter Tryz.func78, Tryz.ntmps78
      go_wp2
      go_ret
      exact ⟨rfl, Below.refl _ _⟩
    · have hz1 : ¬ (3 : Int) ≤ (n : Int) := by omega
      rcases (show n = 1 ∨ n = 2 by omega) with h | h
      · obtain rfl : t = [] := List.eq_nil_of_length_eq_zero (by omega)
        rw [show fullT 35 [] = false from rfl]
        obtain rfl : n = 1 := by omega
        clear hz hz1 HX1 HX2 hn h1n hnn
        go_enter Tryz.func78, Tryz.ntmps78
        go_wp2
        have bx := World.alloc_heap_new w (.cells #[.int .u8 128, .int .u8 159] 122)
        have hbl : Below w.heap.size w (w.alloc (.cells #[.int .u8 128, .int .u8 159] 122)) := (Below.refl _ _).alloc (Nat.le_refl _) _
        try replace x1 := ((But.refl (fun _ => False) w).alloc (.cells #[.int .u8 128, .int .u8 159] 122)).cell_some x1 (fun h => h)
        try replace x2 := ((But.refl (fun _ => False) w).alloc (.cells #[.int .u8 128, .int .u8 159] 122)).cell_some x2 (fun h => h)
        generalize (w.alloc (.cells #[.int .u8 128, .int .u8 159] 122)) = W at *
        have b0 := cell_at3 (i := 0) bx rfl
        have b1 := cell_at3 (i := 1) bx rfl
        have HBL := Lib.hid hbl
        clear bx hbl
        go_quiet (fail)
        go_wp2
        go_ret
        exact ⟨rfl, by first | exact belowDN HBL.out _ | exact belowDN (belowDN HBL.out _) _⟩
      · obtain ⟨b, rfl⟩ : ∃ b, t = [b] := List.length_eq_one_iff.1 (by omega)
        have x1 := HX1.out b rfl
        obtain rfl : n = 2 := by omega
        clear hz hz1 HX1 HX2 h1n hnn
        by_cases hb1 : b.toNat < 128
        · rw [show fullT 35 (b :: []) = true from (by unfold fullT; rw [if_neg (by simp)]; exact if_pos (.inl hb1))]
          have hb2 : (b.toNat : Int) < 128 := by omega
          clear hb1 hn
          go_enter Tryz.func78, Tryz.ntmps78
          go_wp2
          have bx := World.alloc_heap_new w (.cells #[.int .u8 128, .int .u8 159] 122)
          have hbl : Below w.heap.size w (w.alloc (.cells #[.int .u8 128, .int .u8 159] 122)) := (Below.refl _ _).alloc (Nat.le_refl _) _
          try replace x1 := ((But.refl (fun _ => False) w).alloc (.cells #[.int .u8 128, .int .u8 159] 122)).cell_some x1 (fun h => h)
          try replace x2 := ((But.refl (fun _ => False) w).alloc (.cells #[.int .u8 128, .int .u8 159] 122)).cell_some x2 (fun h => h)
          generalize (w.alloc (.cells #[.int .u8 128, .int .u8 159] 122)) = W at *
          have b0 := cell_at3 (i := 0) bx rfl
          have b1 := cell_at3 (i := 1) bx rfl
          have HBL := Lib.hid hbl
          clear bx hbl
          go_quiet (fail)
          go_wp2
          go_ret
          exact ⟨rfl, by first | exact belowDN HBL.out _ | exact belowDN (belowDN HBL.out _) _⟩
        · have hb2 : ¬ (b.toNat : Int) < 128 := by omega
          by_cases hb3 : 159 < b.toNat
          · rw [show fullT 35 (b :: []) = true from (by unfold fullT; rw [if_neg (by simp)]; exact if_pos (.inr hb3))]
            have hb4 : (159 : Int) < (b.toNat : Int) := by omega
            clear hb1 hb3 hn
            go_enter Tryz.func78, Tryz.ntmps78
            go_wp2
            have bx := World.alloc_heap_new w (.cells #[.int .u8 128, .int .u8 159] 122)
            have hbl : Below w.heap.size w (w.alloc (.cells #[.int .u8 128, .int .u8 159] 122)) := (Below.refl _ _).alloc (Nat.le_refl _) _
            try replace x1 := ((But.refl (fun _ => False) w).alloc (.cells #[.int .u8 128, .int .u8 159] 122)).cell_some x1 (fun h => h)
            try replace x2 := ((But.refl (fun _ => False) w).alloc (.cells #[.int .u8 128, .int .u8 159] 122)).cell_some x2 (fun h => h)
            generalize (w.alloc (.cells #[.int .u8 128, .int .u8 159] 122)) = W at *
            have b0 := cell_at3 (i := 0) bx rfl
            have b1 := cell_at3 (i := 1) bx rfl
            have HBL := Lib.hid hbl
            clear bx hbl
            go_quiet (fail)
            go_wp2
            go_ret
            exact ⟨rfl, by first | exact belowDN HBL.out _ | exact belowDN (belowDN HBL.out _) _⟩
          · have hb4 : ¬ (159 : Int) < (b.toNat : Int) := by omega
            have hb5 : ¬ (b.toNat < 128 ∨ 159 < b.toNat) := by omega
            rw [show fullT 35 [b] = false from (by unfold fullT; rw [if_neg (by simp)]; exact if_neg hb5)]
            clear hb1 hb3 hb5 hn
            go_enter Tryz.func78, Tryz.ntmps78
            go_wp2
            have bx := World.alloc_heap_new w (.cells #[.int .u8 128, .int .u8 159] 122)
            have hbl : Below w.heap.size w (w.alloc (.cells #[.int .u8 128, .int .u8 159] 122)) := (Below.refl _ _).alloc (Nat.le_refl _) _
            try replace x1 := ((But.refl (fun _ => False) w).alloc (.cells #[.int .u8 128, .int .u8 159] 122)).cell_some x1 (fun h => h)
            try replace x2 := ((But.refl (fun _ => False) w).alloc (.cells #[.int .u8 128, .int .u8 159] 122)).cell_some x2 (fun h => h)
            generalize (w.alloc (.cells #[.int .u8 128, .int .u8 159] 122)) = W at *
            have b0 := cell_at3 (i := 0) bx rfl
            have b1 := cell_at3 (i := 1) bx rfl
            have HBL := Lib.hid hbl
            clear bx hbl
            go_quiet (fail)
            go_wp2
            go_ret
            exact ⟨rfl, by first | exact belowDN HBL.out _ | exact belowDN (belowDN HBL.out _) _⟩
  · rw [hX] at hc0 ⊢
    have ha0 := (hT.2 3 (by omega)).1
    have ha1 := (hT.2 3 (by omega)).2
    simp only [accLo, accHi, Nat.reduceMul, Nat.reduceAdd, Nat.reduceEqDiff, if_true, if_false, Nat.reduceMod, Nat.reduceDiv] at ha0 ha1
    clear hT hX
    by_cases hz : 4 ≤ n
    · rw [show fullT 52 t = true from if_pos (by omega)]
      have hz1 : (4 : Int) ≤ (n : Int) := by omega
      clear hz
      go_enter Tryz.func78, Tryz.ntmps78
      go_wp2
      go_ret
      exact ⟨rfl, Below.refl _ _⟩
    · have hz1 : ¬ (4 : Int) ≤ (n : Int) := by omega
      rcases (show n = 1 ∨ n = 2 ∨ n = 3 by omega) with h | h | h
      · obtain rfl : t = [] := List.eq_nil_of_length_eq_zero (by omega)
        rw [show fullT 52 [] = false from rfl]
        obtain rfl : n = 1 := by omega
        clear hz hz1 HX1 HX2 hn h1n hnn
        go_enter Tryz.func78, Tryz.ntmps78
        go_wp2
        have bx := World.alloc_heap_new w (.cells #[.int .u8 144, .int .u8 191] 122)
        have hbl : Below w.heap.size w (w.alloc (.cells #[.int .u8 144, .int .u8 191] 122)) := (Below.refl _ _).alloc (Nat.le_refl _) _
        try replace x1 := ((But.refl (fun _ => False) w).alloc (.cells #[.int .u8 144, .int .u8 191] 122)).cell_some x1 (fun h => h)
        try replace x2 := ((But.refl (fun _ => False) w).alloc (.cells #[.int .u8 144, .int .u8 191] 122)).cell_some x2 (fun h => h)
        generalize (w.alloc (.cells #[.int .u8 144, .int .u8 191] 122)) = W at *
        have b0 := cell_at3 (i := 0) bx rfl
        have b1 := cell_at3 (i := 1) bx rfl
        have HBL := Lib.hid hbl
        clear bx hbl
        go_quiet (fail)
        go_wp2
        go_ret
        exact ⟨rfl, by first | exact belowDN HBL.out _ | exact belowDN (belowDN HBL.out _) _⟩
      · obtain ⟨b, rfl⟩ : ∃ b, t = [b] := List.length_eq_one_iff.1 (by omega)
        have x1 := HX1.out b rfl
        obtain rfl : n = 2 := by omega
        clear hz hz1 HX1 HX2 h1n hnn
        by_cases hb1 : b.toNat < 144
        · rw [show fullT 52 (b :: []) = true from (by unfold fullT; rw [if_neg (by simp)]; exact if_pos (.inl hb1))]
          have hb2 : (b.toNat : Int) < 144 := by omega
          clear hb1 hn
          go_enter Tryz.func78, Tryz.ntmps78
          go_wp2
          have bx := World.alloc_heap_new w (.cells #[.int .u8 144, .int .u8 191] 122)
          have hbl : Below w.heap.size w (w.alloc (.cells #[.int .u8 144, .int .u8 191] 122)) := (Below.refl _ _).alloc (Nat.le_refl _) _
          try replace x1 := ((But.refl (fun _ => False) w).alloc (.cells #[.int .u8 144, .int .u8 191] 122)).cell_some x1 (fun h => h)
          try replace x2 := ((But.refl (fun _ => False) w).alloc (.cells #[.int .u8 144, .int .u8 191] 122)).cell_some x2 (fun h => h)
          generalize (w.alloc (.cells #[.int .u8 144, .int .u8 191] 122)) = W at *
          have b0 := cell_at3 (i := 0) bx rfl
          have b1 := cell_at3 (i := 1) bx rfl
          have HBL := Lib.hid hbl
          clear bx hbl
          go_quiet (fail)
          go_wp2
          go_ret
          exact ⟨rfl, by first | exact belowDN HBL.out _ | exact belowDN (belowDN HBL.out _) _⟩
        · have hb2 : ¬ (b.toNat : Int) < 144 := by omega
          by_cases hb3 : 191 < b.toNat
          · rw [show fullT 52 (b :: []) = true from (by unfold fullT; rw [if_neg (by simp)]; exact if_pos (.inr hb3))]
            have hb4 : (191 : Int) < (b.toNat : Int) := by omega
            clear hb1 hb3 hn
            go_enter Tryz.func78, Tryz.ntmps78
            go_wp2
            have bx := World.alloc_heap_new w (.cells #[.int .u8 144, .int .u8 191] 122)
            have hbl : Below w.heap.size w (w.alloc (.cells #[.int .u8 144, .int .u8 191] 122)) := (Below.refl _ _).alloc (Nat.le_refl _) _
            try replace x1 := ((But.refl (fun _ => False) w).alloc (.cells #[.int .u8 144, .int .u8 191] 122)).cell_some x1 (fun h => h)
            try replace x2 := ((But.refl (fun _ => False) w).alloc (.cells #[.int .u8 144, .int .u8 191] 122)).cell_some x2 (fun h => h)
            generalize (w.alloc (.cells #[.int .u8 144, .int .u8 191] 122)) = W at *
            have b0 := cell_at3 (i := 0) bx rfl
            have b1 := cell_at3 (i := 1) bx rfl
            have HBL := Lib.hid hbl
            clear bx hbl
            go_quiet (fail)
            go_wp2
            go_ret
            exact ⟨rfl, by first | exact belowDN HBL.out _ | exact belowDN (belowDN HBL.out _) _⟩
          · have hb4 : ¬ (191 : Int) < (b.toNat : Int) := by omega
            have hb5 : ¬ (b.toNat < 144 ∨ 191 < b.toNat) := by omega
            rw [show fullT 52 [b] = false from (by unfold fullT; rw [if_neg (by simp)]; exact if_neg hb5)]
            clear hb1 hb3 hb5 hn
            go_enter Tryz.func78, Tryz.ntmps78
            go_wp2
            have bx := World.alloc_heap_new w (.cells #[.int .u8 144, .int .u8 191] 122)
            have hbl : Below w.heap.size w (w.alloc (.cells #[.int .u8 144, .int .u8 191] 122)) := (Below.refl _ _).alloc (Nat.le_refl _) _
            try replace x1 := ((But.refl (fun _ => False) w).alloc (.cells #[.int .u8 144, .int .u8 191] 122)).cell_some x1 (fun h => h)
            try replace x2 := ((But.refl (fun _ => False) w).alloc (.cells #[.int .u8 144, .int .u8 191] 122)).cell_some x2 (fun h => h)
            generalize (w.alloc (.cells #[.int .u8 144, .int .u8 191] 122)) = W at *
            have b0 := cell_at3 (i := 0) bx rfl
            have b1 := cell_at3 (i := 1) bx rfl
            have HBL := Lib.hid hbl
            clear bx hbl
            go_quiet (fail)
            go_wp2
            go_ret
            exact ⟨rfl, by first | exact belowDN HBL.out _ | exact belowDN (belowDN HBL.out _) _⟩
      · obtain ⟨b, d, rfl⟩ : ∃ b d, t = [b, d] := two_of (by omega)
        have x1 := HX1.out b rfl
        have x2 := HX2.out d rfl
        obtain rfl : n = 3 := by omega
        clear hz hz1 HX1 HX2 h1n hnn
        by_cases hb1 : b.toNat < 144
        · rw [show fullT 52 (b :: [d]) = true from (by unfold fullT; rw [if_neg (by simp)]; exact if_pos (.inl hb1))]
          have hb2 : (b.toNat : Int) < 144 := by omega
          clear hb1 hn
          go_enter Tryz.func78, Tryz.ntmps78
          go_wp2
          have bx := World.alloc_heap_new w (.cells #[.int .u8 144, .int .u8 191] 122)
          have hbl : Below w.heap.size w (w.alloc (.cells #[.int .u8 144, .int .u8 191] 122)) := (Below.refl _ _).alloc (Nat.le_refl _) _
          try replace x1 := ((But.refl (fun _ => False) w).alloc (.cells #[.int .u8 144, .int .u8 191] 122)).cell_some x1 (fun h => h)
          try replace x2 := ((But.refl (fun _ => False) w).alloc (.cells #[.int .u8 144, .int .u8 191] 122)).cell_some x2 (fun h => h)
          generalize (w.alloc (.cells #[.int .u8 144, .int .u8 191] 122)) = W at *
          have b0 := cell_at3 (i := 0) bx rfl
          have b1 := cell_at3 (i := 1) bx rfl
          have HBL := Lib.hid hbl
          clear bx hbl
          go_quiet (fail)
          go_wp2
          go_ret
          exact ⟨rfl, by first | exact belowDN HBL.out _ | exact belowDN (belowDN HBL.out _) _⟩
        · have hb2 : ¬ (b.toNat : Int) < 144 := by omega
          by_cases hb3 : 191 < b.toNat
          · rw [show fullT 52 (b :: [d]) = true from (by unfold fullT; rw [if_neg (by simp)]; exact if_pos (.inr hb3))]
            have hb4 : (191 : Int) < (b.toNat : Int) := by omega
            clear hb1 hb3 hn
            go_enter Tryz.func78, Tryz.ntmps78
            go_wp2
            have bx := World.alloc_heap_new w (.cells #[.int .u8 144, .int .u8 191] 122)
            have hbl : Below w.heap.size w (w.alloc (.cells #[.int .u8 144, .int .u8 191] 122)) := (Below.refl _ _).alloc (Nat.le_refl _) _
            try replace x1 := ((But.refl (fun _ => False) w).alloc (.cells #[.int .u8 144, .int .u8 191] 122)).cell_some x1 (fun h => h)
            try replace x2 := ((But.refl (fun _ => False) w).alloc (.cells #[.int .u8 144, .int .u8 191] 122)).cell_some x2 (fun h => h)
            generalize (w.alloc (.cells #[.int .u8 144, .int .u8 191] 122)) = W at *
            have b0 := cell_at3 (i := 0) bx rfl
            have b1 := cell_at3 (i := 1) bx rfl
            have HBL := Lib.hid hbl
            clear bx hbl
            go_quiet (fail)
            go_wp2
            go_ret
            exact ⟨rfl, by first | exact belowDN HBL.out _ | exact belowDN (belowDN HBL.out _) _⟩
          · have hb4 : ¬ (191 : Int) < (b.toNat : Int) := by omega
            have hb5 : ¬ (b.toNat < 144 ∨ 191 < b.toNat) := by omega
            by_cases hd1 : d.toNat < 128
            · rw [show fullT 52 [b, d] = true from (by unfold fullT; rw [if_neg (by simp)]; exact (if_neg hb5).trans (decide_eq_true (.inl hd1)))]
              have hd2 : (d.toNat : Int) < 128 := by omega
              clear hb1 hb3 hb5 hd1 hn
              go_enter Tryz.func78, Tryz.ntmps78
              go_wp2
              have bx := World.alloc_heap_new w (.cells #[.int .u8 144, .int .u8 191] 122)
              have hbl : Below w.heap.size w (w.alloc (.cells #[.int .u8 144, .int .u8 191] 122)) := (Below.refl _ _).alloc (Nat.le_refl _) _
              try replace x1 := ((But.refl (fun _ => False) w).alloc (.cells #[.int .u8 144, .int .u8 191] 122)).cell_some x1 (fun h => h)
              try replace x2 := ((But.refl (fun _ => False) w).alloc (.cells #[.int .u8 144, .int .u8 191] 122)).cell_some x2 (fun h => h)
              generalize (w.alloc (.cells #[.int .u8 144, .int .u8 191] 122)) = W at *
              have b0 := cell_at3 (i := 0) bx rfl
              have b1 := cell_at3 (i := 1) bx rfl
              have HBL := Lib.hid hbl
              clear bx hbl
              go_quiet (fail)
              go_wp2
              go_ret
              exact ⟨rfl, by first | exact belowDN HBL.out _ | exact belowDN (belowDN HBL.out _) _⟩
            · have hd2 : ¬ (d.toNat : Int) < 128 := by omega
              by_cases hd3 : 191 < d.toNat
              · rw [show fullT 52 [b, d] = true from (by unfold fullT; rw [if_neg (by simp)]; exact (if_neg hb5).trans (decide_eq_true (.inr hd3)))]
                have hd4 : (191 : Int) < (d.toNat : Int) := by omega
                clear hb1 hb3 hb5 hd1 hd3 hn
                go_enter Tryz.func78, Tryz.ntmps78
                go_wp2
                have bx := World.alloc_heap_new w (.cells #[.int .u8 144, .int .u8 191] 122)
                have hbl : Below w.heap.size w (w.alloc (.cells #[.int .u8 144, .int .u8 191] 122)) := (Below.refl _ _).alloc (Nat.le_refl _) _
                try replace x1 := ((But.refl (fun _ => False) w).alloc (.cells #[.int .u8 144, .int .u8 191] 122)).cell_some x1 (fun h => h)
                try replace x2 := ((But.refl (fun _ => False) w).alloc (.cells #[.int .u8 144, .int .u8 191] 122)).cell_some x2 (fun h => h)
                generalize (w.alloc (.cells #[.int .u8 144, .int .u8 191] 122)) = W at *
                have b0 := cell_at3 (i := 0) bx rfl
                have b1 := cell_at3 (i := 1) bx rfl
                have HBL := Lib.hid hbl
                clear bx hbl
                go_quiet (fail)
                go_wp2
                go_ret
                exact ⟨rfl, by first | exact belowDN HBL.out _ | exact belowDN (belowDN HBL.out _) _⟩
              · rw [show fullT 52 [b, d] = false from (by unfold fullT; rw [if_neg (by simp)]; exact (if_neg hb5).trans (decide_eq_false (by omega)))]
                have hd4 : ¬ (191 : Int) < (d.toNat : Int) := by omega
                clear hb1 hb3 hb5 hd1 hd3 hn
                go_enter Tryz.func78, Tryz.ntmps78
                go_wp2
                have bx := World.alloc_heap_new w (.cells #[.int .u8 144, .int .u8 191] 122)
                have hbl : Below w.heap.size w (w.alloc (.cells #[.int .u8 144, .int .u8 191] 122)) := (Below.refl _ _).alloc (Nat.le_refl _) _
                try replace x1 := ((But.refl (fun _ => False) w).alloc (.cells #[.int .u8 144, .int .u8 191] 122)).cell_some x1 (fun h => h)
                try replace x2 := ((But.refl (fun _ => False) w).alloc (.cells #[.int .u8 144, .int .u8 191] 122)).cell_some x2 (fun h => h)
                generalize (w.alloc (.cells #[.int .u8 144, .int .u8 191] 122)) = W at *
                have b0 := cell_at3 (i := 0) bx rfl
                have b1 := cell_at3 (i := 1) bx rfl
                have HBL := Lib.hid hbl
                clear bx hbl
                go_quiet (fail)
                go_wp2
                go_ret
                exact ⟨rfl, by first | exact belowDN HBL.out _ | exact belowDN (belowDN HBL.out _) _⟩
  · rw [hX] at hc0 ⊢
    have ha0 := (hT.2 0 (by omega)).1
    have ha1 := (hT.2 0 (by omega)).2
    simp only [accLo, accHi, Nat.reduceMul, Nat.reduceAdd, Nat.reduceEqDiff, if_true, if_false, Nat.reduceMod, Nat.reduceDiv] at ha0 ha1
    clear hT hX
    by_cases hz : 4 ≤ n
    · rw [show fullT 4 t = true from if_pos (by omega)]
      have hz1 : (4 : Int) ≤ (n : Int) := by omega
      clear hz
      go_enter Tryz.func78, Tryz.ntmps78
      go_wp2
      go_ret
      exact ⟨rfl, Below.refl _ _⟩
    · have hz1 : ¬ (4 : Int) ≤ (n : Int) := by omega
      rcases (show n = 1 ∨ n = 2 ∨ n = 3 by omega) with h | h | h
      · obtain rfl : t = [] := List.eq_nil_of_length_eq_zero (by omega)
        rw [show fullT 4 [] = false from rfl]
        obtain rfl : n = 1 := by omega
        clear hz hz1 HX1 HX2 hn h1n hnn
        go_enter Tryz.func78, Tryz.ntmps78
        go_wp2
        have bx := World.alloc_heap_new w (.cells #[.int .u8 128, .int .u8 191] 122)
        have hbl : Below w.heap.size w (w.alloc (.cells #[.int .u8 128, .int .u8 191] 122)) := (Below.refl _ _).alloc (Nat.le_refl _) _
        try replace x1 := ((But.refl (fun _ => False) w).alloc (.cells #[.int .u8 128, .int .u8 191] 122)).cell_some x1 (fun h => h)
        try replace x2 := ((But.refl (fun _ => False) w).alloc (.cells #[.int .u8 128, .int .u8 191] 122)).cell_some x2 (fun h => h)
        generalize (w.alloc (.cells #[.int .u8 128, .int .u8 191] 122)) = W at *
        have b0 := cell_at3 (i := 0) bx rfl
        have b1 := cell_at3 (i := 1) bx rfl
        have HBL := Lib.hid hbl
        clear bx hbl
        go_quiet (fail)
        go_wp2
        go_ret
        exact ⟨rfl, by first | exact belowDN HBL.out _ | exact belowDN (belowDN HBL.out _) _⟩
      · obtain ⟨b, rfl⟩ : ∃ b, t = [b] := List.length_eq_one_iff.1 (by omega)
        have x1 := HX1.out b rfl
        obtain rfl : n = 2 := by omega
        clear hz hz1 HX1 HX2 h1n hnn
        by_cases hb1 : b.toNat < 128
        · rw [show fullT 4 (b :: []) = true from (by unfold fullT; rw [if_neg (by simp)]; exact if_pos (.inl hb1))]
          have hb2 : (b.toNat : Int) < 128 := by omega
          clear hb1 hn
          go_enter Tryz.func78, Tryz.ntmps78
          go_wp2
          have bx := World.alloc_heap_new w (.cells #[.int .u8 128, .int .u8 191] 122)
          have hbl : Below w.heap.size w (w.alloc (.cells #[.int .u8 128, .int .u8 191] 122)) := (Below.refl _ _).alloc (Nat.le_refl _) _
          try replace x1 := ((But.refl (fun _ => False) w).alloc (.cells #[.int .u8 128, .int .u8 191] 122)).cell_some x1 (fun h => h)
          try replace x2 := ((But.refl (fun _ => False) w).alloc (.cells #[.int .u8 128, .int .u8 191] 122)).cell_some x2 (fun h => h)
          generalize (w.alloc (.cells #[.int .u8 128, .int .u8 191] 122)) = W at *
          have b0 := cell_at3 (i := 0) bx rfl
          have b1 := cell_at3 (i := 1) bx rfl
          have HBL := Lib.hid hbl
          clear bx hbl
          go_quiet (fail)
          go_wp2
          go_ret
          exact ⟨rfl, by first | exact belowDN HBL.out _ | exact belowDN (belowDN HBL.out _) _⟩
        · have hb2 : ¬ (b.toNat : Int) < 128 := by omega
          by_cases hb3 : 191 < b.toNat
          · rw [show fullT 4 (b :: []) = true from (by unfold fullT; rw [if_neg (by simp)]; exact if_pos (.inr hb3))]
            have hb4 : (191 : Int) < (b.toNat : Int) := by omega
            clear hb1 hb3 hn
            go_enter Tryz.func78, Tryz.ntmps78
            go_wp2
            have bx := World.alloc_heap_new w (.cells #[.int .u8 128, .int .u8 191] 122)
            have hbl : Below w.heap.size w (w.alloc (.cells #[.int .u8 128, .int .u8 191] 122)) := (Below.refl _ _).alloc (Nat.le_refl _) _
            try replace x1 := ((But.refl (fun _ => False) w).alloc (.cells #[.int .u8 128, .int .u8 191] 122)).cell_some x1 (fun h => h)
            try replace x2 := ((But.refl (fun _ => False) w).alloc (.cells #[.int .u8 128, .int .u8 191] 122)).cell_some x2 (fun h => h)
            generalize (w.alloc (.cells #[.int .u8 128, .int .u8 191] 122)) = W at *
            have b0 := cell_at3 (i := 0) bx rfl
            have b1 := cell_at3 (i := 1) bx rfl
            have HBL := Lib.hid hbl
            clear bx hbl
            go_quiet (fail)
            go_wp2
            go_ret
            exact ⟨rfl, by first | exact belowDN HBL.out _ | exact belowDN (belowDN HBL.out _) _⟩
          · have hb4 : ¬ (191 : Int) < (b.toNat : Int) := by omega
            have hb5 : ¬ (b.toNat < 128 ∨ 191 < b.toNat) := by omega
            rw [show fullT 4 [b] = false from (by unfold fullT; rw [if_neg (by simp)]; exact if_neg hb5)]
            clear hb1 hb3 hb5 hn
            go_enter Tryz.func78, Tryz.ntmps78
            go_wp2
            have bx := World.alloc_heap_new w (.cells #[.int .u8 128, .int .u8 191] 122)
            have hbl : Below w.heap.size w (w.alloc (.cells #[.int .u8 128, .int .u8 191] 122)) := (Below.refl _ _).alloc (Nat.le_refl _) _
            try replace x1 := ((But.refl (fun _ => False) w).alloc (.cells #[.int .u8 128, .int .u8 191] 122)).cell_some x1 (fun h => h)
            try replace x2 := ((But.refl (fun _ => False) w).alloc (.cells #[.int .u8 128, .int .u8 191] 122)).cell_some x2 (fun h => h)
            generalize (w.alloc (.cells #[.int .u8 128, .int .u8 191] 122)) = W at *
            have b0 := cell_at3 (i := 0) bx rfl
            have b1 := cell_at3 (i := 1) bx rfl
            have HBL := Lib.hid hbl
            clear bx hbl
            go_quiet (fail)
            go_wp2
            go_ret
            exact ⟨rfl, by first | exact belowDN HBL.out _ | exact belowDN (belowDN HBL.out _) _⟩
      · obtain ⟨b, d, rfl⟩ : ∃ b d, t = [b, d] := two_of (by omega)
        have x1 := HX1.out b rfl
        have x2 := HX2.out d rfl
        obtain rfl : n = 3 := by omega
        clear hz hz1 HX1 HX2 h1n hnn
        by_cases hb1 : b.toNat < 128
        · rw [show fullT 4 (b :: [d]) = true from (by unfold fullT; rw [if_neg (by simp)]; exact if_pos (.inl hb1))]
          have hb2 : (b.toNat : Int) < 128 := by omega
          clear hb1 hn
          go_enter Tryz.func78, Tryz.ntmps78
          go_wp2
          have bx := World.alloc_heap_new w (.cells #[.int .u8 128, .int .u8 191] 122)
          have hbl : Below w.heap.size w (w.alloc (.cells #[.int .u8 128, .int .u8 191] 122)) := (Below.refl _ _).alloc (Nat.le_refl _) _
          try replace x1 := ((But.refl (fun _ => False) w).alloc (.cells #[.int .u8 128, .int .u8 191] 122)).cell_some x1 (fun h => h)
          try replace x2 := ((But.refl (fun _ => False) w).alloc (.cells #[.int .u8 128, .int .u8 191] 122)).cell_some x2 (fun h => h)
          generalize (w.alloc (.cells #[.int .u8 128, .int .u8 191] 122)) = W at *
          have b0 := cell_at3 (i := 0) bx rfl
          have b1 := cell_at3 (i := 1) bx rfl
          have HBL := Lib.hid hbl
          clear bx hbl
          go_quiet (fail)
          go_wp2
          go_ret
          exact ⟨rfl, by first | exact belowDN HBL.out _ | exact belowDN (belowDN HBL.out _) _⟩
        · have hb2 : ¬ (b.toNat : Int) < 128 := by omega
          by_cases hb3 : 191 < b.toNat
          · rw [show fullT 4 (b :: [d]) = true from (by unfold fullT; rw [if_neg (by simp)]; exact if_pos (.inr hb3))]
            have hb4 : (191 : Int) < (b.toNat : Int) := by omega
            clear hb1 hb3 hn
            go_enter Tryz.func78, Tryz.ntmps78
            go_wp2
            have bx := World.alloc_heap_new w (.cells #[.int .u8 128, .int .u8 191] 122)
            have hbl : Below w.heap.size w (w.alloc (.cells #[.int .u8 128, .int .u8 191] 122)) := (Below.refl _ _).alloc (Nat.le_refl _) _
            try replace x1 := ((But.refl (fun _ => False) w).alloc (.cells #[.int .u8 128, .int .u8 191] 122)).cell_some x1 (fun h => h)
            try replace x2 := ((But.refl (fun _ => False) w).alloc (.cells #[.int .u8 128, .int .u8 191] 122)).cell_some x2 (fun h => h)
            generalize (w.alloc (.cells #[.int .u8 128, .int .u8 191] 122)) = W at *
            have b0 := cell_at3 (i := 0) bx rfl
            have b1 := cell_at3 (i := 1) bx rfl
            have HBL := Lib.hid hbl
            clear bx hbl
            go_quiet (fail)
            go_wp2
            go_ret
            exact ⟨rfl, by first | exact belowDN HBL.out _ | exact belowDN (belowDN HBL.out _) _⟩
          · have hb4 : ¬ (191 : Int) < (b.toNat : Int) := by omega
            have hb5 : ¬ (b.toNat < 128 ∨ 191 < b.toNat) := by omega
            by_cases hd1 : d.toNat < 128
            · rw [show fullT 4 [b, d] = true from (by unfold fullT; rw [if_neg (by simp)]; exact (if_neg hb5).trans (decide_eq_true (.inl hd1)))]
              have hd2 : (d.toNat : Int) < 128 := by omega
              clear hb1 hb3 hb5 hd1 hn
              go_enter Tryz.func78, Tryz.ntmps78
              go_wp2
              have bx := World.alloc_heap_new w (.cells #[.int .u8 128, .int .u8 191] 122)
              have hbl : Below w.heap.size w (w.alloc (.cells #[.int .u8 128, .int .u8 191] 122)) := (Below.refl _ _).alloc (Nat.le_refl _) _
              try replace x1 := ((But.refl (fun _ => False) w).alloc (.cells #[.int .u8 128, .int .u8 191] 122)).cell_some x1 (fun h => h)
              try replace x2 := ((But.refl (fun _ => False) w).alloc (.cells #[.int .u8 128, .int .u8 191] 122)).cell_some x2 (fun h => h)
              generalize (w.alloc (.cells #[.int .u8 128, .int .u8 191] 122)) = W at *
              have b0 := cell_at3 (i := 0) bx rfl
              have b1 := cell_at3 (i := 1) bx rfl
              have HBL := Lib.hid hbl
              clear bx hbl
              go_quiet (fail)
              go_wp2
              go_ret
              exact ⟨rfl, by first | exact belowDN HBL.out _ | exact belowDN (belowDN HBL.out _) _⟩
            · have hd2 : ¬ (d.toNat : Int) < 128 := by omega
              by_cases hd3 : 191 < d.toNat
              · rw [show fullT 4 [b, d] = true from (by unfold fullT; rw [if_neg (by simp)]; exact (if_neg hb5).trans (decide_eq_true (.inr hd3)))]
                have hd4 : (191 : Int) < (d.toNat : Int) := by omega
                clear hb1 hb3 hb5 hd1 hd3 hn
                go_enter Tryz.func78, Tryz.ntmps78
                go_wp2
                have bx := World.alloc_heap_new w (.cells #[.int .u8 128, .int .u8 191] 122)
                have hbl : Below w.heap.size w (w.alloc (.cells #[.int .u8 128, .int .u8 191] 122)) := (Below.refl _ _).alloc (Nat.le_refl _) _
                try replace x1 := ((But.refl (fun _ => False) w).alloc (.cells #[.int .u8 128, .int .u8 191] 122)).cell_some x1 (fun h => h)
                try replace x2 := ((But.refl (fun _ => False) w).alloc (.cells #[.int .u8 128, .int .u8 191] 122)).cell_some x2 (fun h => h)
                generalize (w.alloc (.cells #[.int .u8 128, .int .u8 191] 122)) = W at *
                have b0 := cell_at3 (i := 0) bx rfl
                have b1 := cell_at3 (i := 1) bx rfl
                have HBL := Lib.hid hbl
                clear bx hbl
                go_quiet (fail)
                go_wp2
                go_ret
                exact ⟨rfl, by first | exact belowDN HBL.out _ | exact belowDN (belowDN HBL.out _) _⟩
              · rw [show fullT 4 [b, d] = false from (by unfold fullT; rw [if_neg (by simp)]; exact (if_neg hb5).trans (decide_eq_false (by omega)))]
                have hd4 : ¬ (191 : Int) < (d.toNat : Int) := by omega
                clear hb1 hb3 hb5 hd1 hd3 hn
                go_enter Tryz.func78, Tryz.ntmps78
                go_wp2
                have bx := World.alloc_heap_new w (.cells #[.int .u8 128, .int .u8 191] 122)
                have hbl : Below w.heap.size w (w.alloc (.cells #[.int .u8 128, .int .u8 191] 122)) := (Below.refl _ _).alloc (Nat.le_refl _) _
                try replace x1 := ((But.refl (fun _ => False) w).alloc (.cells #[.int .u8 128, .int .u8 191] 122)).cell_some x1 (fun h => h)
                try replace x2 := ((But.refl (fun _ => False) w).alloc (.cells #[.int .u8 128, .int .u8 191] 122)).cell_some x2 (fun h => h)
                generalize (w.alloc (.cells #[.int .u8 128, .int .u8 191] 122)) = W at *
                have b0 := cell_at3 (i := 0) bx rfl
                have b1 := cell_at3 (i := 1) bx rfl
                have HBL := Lib.hid hbl
                clear bx hbl
                go_quiet (fail)
                go_wp2
                go_ret
                exact ⟨rfl, by first | exact belowDN HBL.out _ | exact belowDN (belowDN HBL.out _) _⟩
  · rw [hX] at hc0 ⊢
    have ha0 := (hT.2 4 (by omega)).1
    have ha1 := (hT.2 4 (by omega)).2
    simp only [accLo, accHi, Nat.reduceMul, Nat.reduceAdd, Nat.reduceEqDiff, if_true, if_false, Nat.reduceMod, Nat.reduceDiv] at ha0 ha1
    clear hT hX
    by_cases hz : 4 ≤ n
    · rw [show fullT 68 t = true from if_pos (by omega)]
      have hz1 : (4 : Int) ≤ (n : Int) := by omega
      clear hz
      go_enter Tryz.func78, Tryz.ntmps78
      go_wp2
      go_ret
      exact ⟨rfl, Below.refl _ _⟩
    · have hz1 : ¬ (4 : Int) ≤ (n : Int) := by omega
      rcases (show n = 1 ∨ n = 2 ∨ n = 3 by omega) with h | h | h
      · obtain rfl : t = [] := List.eq_nil_of_length_eq_zero (by omega)
        rw [show fullT 68 [] = false from rfl]
        obtain rfl : n = 1 := by omega
        clear hz hz1 HX1 HX2 hn h1n hnn
        go_enter Tryz.func78, Tryz.ntmps78
        go_wp2
        have bx := World.alloc_heap_new w (.cells #[.int .u8 128, .int .u8 143] 122)
        have hbl : Below w.heap.size w (w.alloc (.cells #[.int .u8 128, .int .u8 143] 122)) := (Below.refl _ _).alloc (Nat.le_refl _) _
        try replace x1 := ((But.refl (fun _ => False) w).alloc (.cells #[.int .u8 128, .int .u8 143] 122)).cell_some x1 (fun h => h)
        try replace x2 := ((But.refl (fun _ => False) w).alloc (.cells #[.int .u8 128, .int .u8 143] 122)).cell_some x2 (fun h => h)
        generalize (w.alloc (.cells #[.int .u8 128, .int .u8 143] 122)) = W at *
        have b0 := cell_at3 (i := 0) bx rfl
        have b1 := cell_at3 (i := 1) bx rfl
        have HBL := Lib.hid hbl
        clear bx hbl
        go_quiet (fail)
        go_wp2
        go_ret
        exact ⟨rfl, by first | exact belowDN HBL.out _ | exact belowDN (belowDN HBL.out _) _⟩
      · obtain ⟨b, rfl⟩ : ∃ b, t = [b] := List.length_eq_one_iff.1 (by omega)
        have x1 := HX1.out b rfl
        obtain rfl : n = 2 := by omega
        clear hz hz1 HX1 HX2 h1n hnn
        by_cases hb1 : b.toNat < 128
        · rw [show fullT 68 (b :: []) = true from (by unfold fullT; rw [if_neg (by simp)]; exact if_pos (.inl hb1))]
          have hb2 : (b.toNat : Int) < 128 := by omega
          clear hb1 hn
          go_enter Tryz.func78, Tryz.ntmps78
          go_wp2
          have bx := World.alloc_heap_new w (.cells #[.int .u8 128, .int .u8 143] 122)
          have hbl : Below w.heap.size w (w.alloc (.cells #[.int .u8 128, .int .u8 143] 122)) := (Below.refl _ _).alloc (Nat.le_refl _) _
          try replace x1 := ((But.refl (fun _ => False) w).alloc (.cells #[.int .u8 128, .int .u8 143] 122)).cell_some x1 (fun h => h)
          try replace x2 := ((But.refl (fun _ => False) w).alloc (.cells #[.int .u8 128, .int .u8 143] 122)).cell_some x2 (fun h => h)
          generalize (w.alloc (.cells #[.int .u8 128, .int .u8 143] 122)) = W at *
          have b0 := cell_at3 (i := 0) bx rfl
          have b1 := cell_at3 (i := 1) bx rfl
          have HBL := Lib.hid hbl
          clear bx hbl
          go_quiet (fail)
          go_wp2
          go_ret
          exact ⟨rfl, by first | exact belowDN HBL.out _ | exact belowDN (belowDN HBL.out _) _⟩
        · have hb2 : ¬ (b.toNat : Int) < 128 := by omega
          by_cases hb3 : 143 < b.toNat
          · rw [show fullT 68 (b :: []) = true from (by unfold fullT; rw [if_neg (by simp)]; exact if_pos (.inr hb3))]
            have hb4 : (143 : Int) < (b.toNat : Int) := by omega
            clear hb1 hb3 hn
            go_enter Tryz.func78, Tryz.ntmps78
            go_wp2
            have bx := World.alloc_heap_new w (.cells #[.int .u8 128, .int .u8 143] 122)
            have hbl : Below w.heap.size w (w.alloc (.cells #[.int .u8 128, .int .u8 143] 122)) := (Below.refl _ _).alloc (Nat.le_refl _) _
            try replace x1 := ((But.refl (fun _ => False) w).alloc (.cells #[.int .u8 128, .int .u8 143] 122)).cell_some x1 (fun h => h)
            try replace x2 := ((But.refl (fun _ => False) w).alloc (.cells #[.int .u8 128, .int .u8 143] 122)).cell_some x2 (fun h => h)
            generalize (w.alloc (.cells #[.int .u8 128, .int .u8 143] 122)) = W at *
            have b0 := cell_at3 (i := 0) bx rfl
            have b1 := cell_at3 (i := 1) bx rfl
            have HBL := Lib.hid hbl
            clear bx hbl
            go_quiet (fail)
            go_wp2
            go_ret
            exact ⟨rfl, by first | exact belowDN HBL.out _ | exact belowDN (belowDN HBL.out _) _⟩
          · have hb4 : ¬ (143 : Int) < (b.toNat : Int) := by omega
            have hb5 : ¬ (b.toNat < 128 ∨ 143 < b.toNat) := by omega
            rw [show fullT 68 [b] = false from (by unfold fullT; rw [if_neg (by simp)]; exact if_neg hb5)]
            clear hb1 hb3 hb5 hn
            go_enter Tryz.func78, Tryz.ntmps78
            go_wp2
            have bx := World.alloc_heap_new w (.cells #[.int .u8 128, .int .u8 143] 122)
            have hbl : Below w.heap.size w (w.alloc (.cells #[.int .u8 128, .int .u8 143] 122)) := (Below.refl _ _).alloc (Nat.le_refl _) _
            try replace x1 := ((But.refl (fun _ => False) w).alloc (.cells #[.int .u8 128, .int .u8 143] 122)).cell_some x1 (fun h => h)
            try replace x2 := ((But.refl (fun _ => False) w).alloc (.cells #[.int .u8 128, .int .u8 143] 122)).cell_some x2 (fun h => h)
            generalize (w.alloc (.cells #[.int .u8 128, .int .u8 143] 122)) = W at *
            have b0 := cell_at3 (i := 0) bx rfl
            have b1 := cell_at3 (i := 1) bx rfl
            have HBL := Lib.hid hbl
            clear bx hbl
            go_quiet (fail)
            go_wp2
            go_ret
            exact ⟨rfl, by first | exact belowDN HBL.out _ | exact belowDN (belowDN HBL.out _) _⟩
      · obtain ⟨b, d, rfl⟩ : ∃ b d, t = [b, d] := two_of (by omega)
        have x1 := HX1.out b rfl
        have x2 := HX2.out d rfl
        obtain rfl : n = 3 := by omega
        clear hz hz1 HX1 HX2 h1n hnn
        by_cases hb1 : b.toNat < 128
        · rw [show fullT 68 (b :: [d]) = true from (by unfold fullT; rw [if_neg (by simp)]; exact if_pos (.inl hb1))]
          have hb2 : (b.toNat : Int) < 128 := by omega
          clear hb1 hn
          go_enter Tryz.func78, Tryz.ntmps78
          go_wp2
          have bx := World.alloc_heap_new w (.cells #[.int .u8 128, .int .u8 143] 122)
          have hbl : Below w.heap.size w (w.alloc (.cells #[.int .u8 128, .int .u8 143] 122)) := (Below.refl _ _).alloc (Nat.le_refl _) _
          try replace x1 := ((But.refl (fun _ => False) w).alloc (.cells #[.int .u8 128, .int .u8 143] 122)).cell_some x1 (fun h => h)
          try replace x2 := ((But.refl (fun _ => False) w).alloc (.cells #[.int .u8 128, .int .u8 143] 122)).cell_some x2 (fun h => h)
          generalize (w.alloc (.cells #[.int .u8 128, .int .u8 143] 122)) = W at *
          have b0 := cell_at3 (i := 0) bx rfl
          have b1 := cell_at3 (i := 1) bx rfl
          have HBL := Lib.hid hbl
          clear bx hbl
          go_quiet (fail)
          go_wp2
          go_ret
          exact ⟨rfl, by first | exact belowDN HBL.out _ | exact belowDN (belowDN HBL.out _) _⟩
        · have hb2 : ¬ (b.toNat : Int) < 128 := by omega
          by_cases hb3 : 143 < b.toNat
          · rw [show fullT 68 (b :: [d]) = true from (by unfold fullT; rw [if_neg (by simp)]; exact if_pos (.inr hb3))]
            have hb4 : (143 : Int) < (b.toNat : Int) := by omega
            clear hb1 hb3 hn
            go_enter Tryz.func78, Tryz.ntmps78
            go_wp2
            have bx := World.alloc_heap_new w (.cells #[.int .u8 128, .int .u8 143] 122)
            have hbl : Below w.heap.size w (w.alloc (.cells #[.int .u8 128, .int .u8 143] 122)) := (Below.refl _ _).alloc (Nat.le_refl _) _
            try replace x1 := ((But.refl (fun _ => False) w).alloc (.cells #[.int .u8 128, .int .u8 143] 122)).cell_some x1 (fun h => h)
            try replace x2 := ((But.refl (fun _ => False) w).alloc (.cells #[.int .u8 128, .int .u8 143] 122)).cell_some x2 (fun h => h)
            generalize (w.alloc (.cells #[.int .u8 128, .int .u8 143] 122)) = W at *
            have b0 := cell_at3 (i := 0) bx rfl
            have b1 := cell_at3 (i := 1) bx rfl
            have HBL := Lib.hid hbl
            clear bx hbl
            go_quiet (fail)
            go_wp2
            go_ret
            exact ⟨rfl, by first | exact belowDN HBL.out _ | exact belowDN (belowDN HBL.out _) _⟩
          · have hb4 : ¬ (143 : Int) < (b.toNat : Int) := by omega
            have hb5 : ¬ (b.toNat < 128 ∨ 143 < b.toNat) := by omega
            by_cases hd1 : d.toNat < 128
            · rw [show fullT 68 [b, d] = true from (by unfold fullT; rw [if_neg (by simp)]; exact (if_neg hb5).trans (decide_eq_true (.inl hd1)))]
              have hd2 : (d.toNat : Int) < 128 := by omega
              clear hb1 hb3 hb5 hd1 hn
              go_enter Tryz.func78, Tryz.ntmps78
              go_wp2
              have bx := World.alloc_heap_new w (.cells #[.int .u8 128, .int .u8 143] 122)
              have hbl : Below w.heap.size w (w.alloc (.cells #[.int .u8 128, .int .u8 143] 122)) := (Below.refl _ _).alloc (Nat.le_refl _) _
              try replace x1 := ((But.refl (fun _ => False) w).alloc (.cells #[.int .u8 128, .int .u8 143] 122)).cell_some x1 (fun h => h)
              try replace x2 := ((But.refl (fun _ => False) w).alloc (.cells #[.int .u8 128, .int .u8 143] 122)).cell_some x2 (fun h => h)
              generalize (w.alloc (.cells #[.int .u8 128, .int .u8 143] 122)) = W at *
              have b0 := cell_at3 (i := 0) bx rfl
              have b1 := cell_at3 (i := 1) bx rfl
              have HBL := Lib.hid hbl
              clear bx hbl
              go_quiet (fail)
              go_wp2
              go_ret
              exact ⟨rfl, by first | exact belowDN HBL.out _ | exact belowDN (belowDN HBL.out _) _⟩
            · have hd2 : ¬ (d.toNat : Int) < 128 := by omega
              by_cases hd3 : 191 < d.toNat
              · rw [show fullT 68 [b, d] = true from (by unfold fullT; rw [if_neg (by simp)]; exact (if_neg hb5).trans (decide_eq_true (.inr hd3)))]
                have hd4 : (191 : Int) < (d.toNat : Int) := by omega
                clear hb1 hb3 hb5 hd1 hd3 hn
                go_enter Tryz.func78, Tryz.ntmps78
                go_wp2
                have bx := World.alloc_heap_new w (.cells #[.int .u8 128, .int .u8 143] 122)
                have hbl : Below w.heap.size w (w.alloc (.cells #[.int .u8 128, .int .u8 143] 122)) := (Below.refl _ _).alloc (Nat.le_refl _) _
                try replace x1 := ((But.refl (fun _ => False) w).alloc (.cells #[.int .u8 128, .int .u8 143] 122)).cell_some x1 (fun h => h)
                try replace x2 := ((But.refl (fun _ => False) w).alloc (.cells #[.int .u8 128, .int .u8 143] 122)).cell_some x2 (fun h => h)
                generalize (w.alloc (.cells #[.int .u8 128, .int .u8 143] 122)) = W at *
                have b0 := cell_at3 (i := 0) bx rfl
                have b1 := cell_at3 (i := 1) bx rfl
                have HBL := Lib.hid hbl
                clear bx hbl
                go_quiet (fail)
                go_wp2
                go_ret
                exact ⟨rfl, by first | exact belowDN HBL.out _ | exact belowDN (belowDN HBL.out _) _⟩
              · rw [show fullT 68 [b, d] = false from (by unfold fullT; rw [if_neg (by simp)]; exact (if_neg hb5).trans (decide_eq_false (by omega)))]
                have hd4 : ¬ (191 : Int) < (d.toNat : Int) := by omega
                clear hb1 hb3 hb5 hd1 hd3 hn
                go_enter Tryz.func78, Tryz.ntmps78
                go_wp2
                have bx := World.alloc_heap_new w (.cells #[.int .u8 128, .int .u8 143] 122)
                have hbl : Below w.heap.size w (w.alloc (.cells #[.int .u8 128, .int .u8 143] 122)) := (Below.refl _ _).alloc (Nat.le_refl _) _
                try replace x1 := ((But.refl (fun _ => False) w).alloc (.cells #[.int .u8 128, .int .u8 143] 122)).cell_some x1 (fun h => h)
                try replace x2 := ((But.refl (fun _ => False) w).alloc (.cells #[.int .u8 128, .int .u8 143] 122)).cell_some x2 (fun h => h)
                generalize (w.alloc (.cells #[.int .u8 128, .int .u8 143] 122)) = W at *
                have b0 := cell_at3 (i := 0) bx rfl
                have b1 := cell_at3 (i := 1) bx rfl
                have HBL := Lib.hid hbl
                clear bx hbl
                go_quiet (fail)
                go_wp2
                go_ret
                exact ⟨rfl, by first | exact belowDN HBL.out _ | exact belowDN (belowDN HBL.out _) _⟩
end Go.Proofs.YtpjllcengnolkaaGreatDoor
