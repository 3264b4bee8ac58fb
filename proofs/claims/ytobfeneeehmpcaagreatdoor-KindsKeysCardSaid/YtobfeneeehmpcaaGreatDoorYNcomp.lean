/-
  Contracts of nat.compare, nat.checkBoth, nat.fit and bolterplain.SameLimbs: what they return of slices that read as limbs; they only read.
  Contract of nat.product: the product of two numbers' limbs, without 0 at its end, in memory of its own.
-/
import Derived.Test.YtobfeneeehmpcaaGreatDoorYNlimb
import Derived.Deep.QuietTactic
import Derived.BigQuiet
import Derived.Outline
import Derived.Test.YtobfeneeehmpcaaGreatDoorYNaddm
set_option linter.unusedVariables false
set_option linter.unusedSimpArgs false
namespace Go.Proofs.YtobfeneeehmpcaaGreatDoor
open Go.RowKit

/-- From the highest of k limbs on: -1, 0, 1. -/
def cmpH (xs ys : List Nat) : Nat → Int
  | 0 => 0
  | k + 1 => if nth xs k < nth ys k then -1 else if nth ys k < nth xs k then 1 else cmpH xs ys k
theorem cmpH_same {xs ys : List Nat} {j : Nat} (h : nth xs j = nth ys j) : cmpH xs ys (j + 1) = cmpH xs ys j := by
  unfold cmpH; rw [if_neg (by omega), if_neg (by omega)]
  cases j <;> rfl
theorem cmpH_other {xs ys : List Nat} {j : Nat} (h : nth xs j ≠ nth ys j) : cmpH xs ys (j + 1) = if decide (((nth ys j : Nat) : Int) < ((nth xs j : Nat) : Int)) then 1 else -1 := by
  unfold cmpH
  by_cases h1 : nth xs j < nth ys j
  · rw [if_pos h1, if_neg (by simp; omega)]
  · rw [if_neg h1, if_pos (by omega), if_pos (by simp; omega)]
def cmp (xs ys : List Nat) : Int := if xs.length < ys.length then -1 else if ys.length < xs.length then 1 else cmpH xs ys xs.length

theorem cmpH_val {xs ys : List Nat} (hx : L32 xs) (hy : L32 ys) (hl : xs.length = ys.length) : ∀ k, k ≤ xs.length → (∀ j, k ≤ j → j < xs.length → nth xs j = nth ys j) →
    cmpH xs ys k = if val xs < val ys then -1 else if val ys < val xs then 1 else 0
  | 0, _, h => by
    have e : val xs = val ys := by
      congr 1
      apply List.ext_getElem hl
      intro i h1 h2
      have := h i (by omega) h1
      rwa [nth_get h1, nth_get h2] at this
    rw [e, if_neg (by omega), if_neg (by omega)]; rfl
  | k + 1, hk, h => by
    unfold cmpH
    by_cases h1 : nth xs k < nth ys k
    · rw [if_pos h1, if_pos (val_lt_of_high hx hy k hl (by omega) h1 (fun j hj hj2 => h j (by omega) hj2))]
    · rw [if_neg h1]
      by_cases h2 : nth ys k < nth xs k
      · have := val_lt_of_high hy hx k hl.symm (by omega) h2 (fun j hj hj2 => (h j (by omega) (by omega)).symm)
        rw [if_pos h2, if_neg (by omega), if_pos this]
      · rw [if_neg h2]
        exact cmpH_val hx hy hl k (by omega) (fun j hj hj2 => by
          by_cases e : j = k
          · subst e; omega
          · exact h j (by omega) hj2)
theorem cmp_val {xs ys : List Nat} (hx : Can xs) (hy : Can ys) : cmp xs ys = if val xs < val ys then -1 else if val ys < val xs then 1 else 0 := by
  unfold cmp
  by_cases h1 : xs.length < ys.length
  · rw [if_pos h1, if_pos (Can.lt_of_length hx.1 hy h1)]
  · rw [if_neg h1]
    by_cases h2 : ys.length < xs.length
    · have := Can.lt_of_length hy.1 hx h2
      rw [if_pos h2, if_neg (by omega), if_pos this]
    · rw [if_neg h2]
      exact cmpH_val hx.1 hy.1 (by omega) _ (Nat.le_refl _) (fun j hj hj2 => by omega)

theorem compare_c {S S' : Nat → Prop} {n m c d : Nat} {A B : Option Addr} {xs ys : List Nat} (w : World) (ha : Rd w S A n xs) (hb : Rd w S' B m ys) (_hn : n ≤ 9223372036854775807) (_hm : m ≤ 9223372036854775807) :
    Calls Tryz.prog 75 #[.slice A n c, .slice B m d] w fun e w' => e = .returned (.int .i64 (cmp xs ys)) ∧ ∃ k, w' = w.drewN k := by
  have hl1 := ha.len
  have hl2 := hb.len
  subst hl1 hl2
  unfold cmp
  by_cases h1 : xs.length < ys.length
  · rw [if_pos h1]
    have hne : ((xs.length : Int) != (ys.length : Int)) = true := by rw [bne_iff_ne]; omega
    go_enter Tryz.func75, Tryz.ntmps75
    go_wp2_with (go_at_call 108; refine (sign_c _ _).mono ?_; rintro e w' ⟨rfl, rfl⟩)
    go_ret
    exact ⟨rfl, 0, rfl⟩
  · rw [if_neg h1]
    by_cases h2 : ys.length < xs.length
    · rw [if_pos h2]
      have hne : ((xs.length : Int) != (ys.length : Int)) = true := by rw [bne_iff_ne]; omega
      go_enter Tryz.func75, Tryz.ntmps75
      go_wp2_with (go_at_call 108; refine (sign_c _ _).mono ?_; rintro e w' ⟨rfl, rfl⟩)
      go_ret
      exact ⟨rfl, 0, rfl⟩
    · rw [if_neg h2]
      have hle : xs.length = ys.length := by omega
      have hne : ((xs.length : Int) != (ys.length : Int)) = false := by rw [hle]; simp
      have HL := Lib.hid hle
      clear h1 h2 hle
      go_enter Tryz.func75, Tryz.ntmps75
      go_wp2
      go_loopw [5] (fun i wr => ∃ k q : Nat, k ≤ xs.length ∧ Hid (cmpH xs ys k = cmpH xs ys xs.length) ∧ i = .int .i64 ((k : Int) - 1) ∧ wr = w.drewN q) (fun i _ => (RowKit.intOf i + 1).toNat)
      case atStart => exact ⟨xs.length, 0, Nat.le_refl _, rfl, rfl, rfl⟩
      case round =>
        obtain ⟨k, q, hk, ht, rfl, rfl⟩ := hrel
        by_cases h0 : k = 0
        · subst h0
          have he : Hid (cmpH xs ys xs.length = 0) := ht.out.symm
          clear ht
          go_wp2
          go_ret
          rw [he.out]
          exact ⟨rfl, by first | exact ⟨_, rfl⟩ | (simp only [World.drewN_drewN]; exact ⟨_, rfl⟩)⟩
        · obtain ⟨j, rfl⟩ : ∃ j, k = j + 1 := ⟨k - 1, by omega⟩
          obtain ⟨b1, o1, rfl, _, hc1⟩ := ha.at_ (k := j) (by omega)
          obtain ⟨b2, o2, rfl, _, hc2⟩ := hb.at_ (k := j) (by rw [← HL.out]; omega)
          have hj2 : (j : Int) < (ys.length : Int) := by rw [← HL.out]; omega
          by_cases heq : nth xs j = nth ys j
          · have hs : Hid (cmpH xs ys j = cmpH xs ys xs.length) := (cmpH_same heq).symm.trans ht.out
            have hbn : (((nth xs j : Nat) : Int) != ((nth ys j : Nat) : Int)) = false := by rw [heq]; simp
            clear ht heq
            go_wp2
            go_quiet (fail)
            go_wp2
            go_roundw
            case rel => exact ⟨j, _, by omega, hs, by go_num, rfl⟩
            case measure => simp [RowKit.intOf]
          · have hbn : (((nth xs j : Nat) : Int) != ((nth ys j : Nat) : Int)) = true := by rw [bne_iff_ne]; omega
            by_cases h3 : nth ys j < nth xs j
            · have hs : Hid (cmpH xs ys xs.length = 1) := ht.out.symm.trans ((cmpH_other heq).trans (by rw [if_pos (by simp; omega)]))
              have hd : decide (nth ys j < nth xs j) = true := by simpa using h3
              clear ht heq h3
              go_wp2
              go_quiet (fail)
              go_wp2
              go_quiet ((go_at_call 108; exact quiet_more (sign_c _ _)))
              go_wp2
              go_ret
              rw [hs.out]
              exact ⟨rfl, by first | exact ⟨_, rfl⟩ | (simp only [World.drewN_drewN]; exact ⟨_, rfl⟩)⟩
            · have hs : Hid (cmpH xs ys xs.length = -1) := ht.out.symm.trans ((cmpH_other heq).trans (by rw [if_neg (by simp; omega)]))
              have hd : decide (nth ys j < nth xs j) = false := by simpa using h3
              clear ht heq h3
              go_wp2
              go_quiet (fail)
              go_wp2
              go_quiet ((go_at_call 108; exact quiet_more (sign_c _ _)))
              go_wp2
              go_ret
              rw [hs.out]
              exact ⟨rfl, by first | exact ⟨_, rfl⟩ | (simp only [World.drewN_drewN]; exact ⟨_, rfl⟩)⟩

theorem checkBoth_c {S S' : Nat → Prop} {n m c d : Nat} {A B : Option Addr} {xs ys : List Nat} (w : World) (ha : Rd w S A n xs) (hb : Rd w S' B m ys) (hn : n ≤ 9223372036854775807) (hm : m ≤ 9223372036854775807) :
    Calls Tryz.prog 74 #[.slice A n c, .slice B m d] w fun e w' => e = .returned (.int .i64 ((if chk xs = 0 then chk ys else chk xs : Nat) : Int)) ∧ w = w' := by
  by_cases h0 : chk xs = 0
  · have h1 := Check_c (c := c) w ha hn
    have h2 := Check_c (c := d) w hb hm
    rw [if_pos h0]
    rw [h0] at h1
    clear h0
    have H1 := Lib.hid h1
    have H2 := Lib.hid h2
    clear h1 h2
    go_enter Tryz.func74, Tryz.ntmps74
    go_wp2_with fail
    refine H1.out.mono ?_
    rintro e w' ⟨rfl, rfl⟩
    go_wp2_with fail
    refine H2.out.mono ?_
    rintro e w' ⟨rfl, rfl⟩
    go_wp2
    go_ret
    exact ⟨rfl, rfl⟩
  · have h1 := Check_c (c := c) w ha hn
    rw [if_neg h0]
    have hb : (((chk xs : Nat) : Int) != 0) = true := by rw [bne_iff_ne]; omega
    have H1 := Lib.hid h1
    clear h1 h0
    go_enter Tryz.func74, Tryz.ntmps74
    go_wp2_with fail
    refine H1.out.mono ?_
    rintro e w' ⟨rfl, rfl⟩
    go_wp2
    go_ret
    exact ⟨rfl, rfl⟩

theorem fit_many (A : Option Addr) (n c : Nat) (w : World) (_hn : n ≤ 9223372036854775807) (_h : 256 < n) :
    Calls Tryz.prog 106 #[.slice A n c] w fun e w' => e = .returned (.tuple #[.slice none 0 0, .int .i64 51]) ∧ w = w' := by
  go_enter Tryz.func106, Tryz.ntmps106
  go_wp2
  go_ret2
  exact ⟨rfl, rfl⟩
theorem fit_ok (A : Option Addr) (n c : Nat) (w : World) (_h : n ≤ 256) :
    Calls Tryz.prog 106 #[.slice A n c] w fun e w' => e = .returned (.tuple #[.slice A n c, .int .i64 0]) ∧ w = w' := by
  go_enter Tryz.func106, Tryz.ntmps106
  go_wp2
  go_ret2
  exact ⟨rfl, rfl⟩

end Go.Proofs.YtobfeneeehmpcaaGreatDoor

namespace Go.Proofs.YtobfeneeehmpcaaGreatDoor
open Go.RowKit

/-- One round of the product, in numbers. -/
theorem prod_step {low pre old new ys xs : List Nat} {i m carry x : Nat} (hl : low.length = i + m) (hp : pre = low.take i) (ho : old = low.drop i) (hn : new.length = m)
    (hv : val new + bp m * carry = val old + x * val ys) (h : val low = val (xs.take i) * val ys) (hx : x = nth xs i) :
    val (pre ++ (new ++ [carry])) = val (xs.take (i + 1)) * val ys := by
  have hpl : pre.length = i := by rw [hp, List.length_take]; omega
  rw [val_append, val_snoc, hn, hpl, hv, val_take_succ, Nat.add_mul, ← h, val_split low i (by omega), ← hp, ← ho, hx, Nat.mul_add, Nat.mul_assoc, Nat.add_assoc]

set_option maxRecDepth 100000 in
theorem product_c {S S' : Nat → Prop} {n m c d : Nat} {A B : Option Addr} {xs ys : List Nat} (w : World) (ha : Rd w S A n xs) (hb : Rd w S' B m ys)
    (hS : ∀ b, S b → b < w.heap.size) (hS' : ∀ b, S' b → b < w.heap.size) (hn : n ≤ 1048576) (hm : m ≤ 1048576) :
    Calls Tryz.prog 107 #[.slice A n c, .slice B m d] w fun e w' => ∃ A' n' c' zs, e = .returned (.slice A' n' c') ∧ Res w' w.heap.size A' n' c' zs ∧ Can zs ∧ val zs = val xs * val ys ∧ Below w.heap.size w w' := by
  have hl1 := Lib.hid ha.len
  have hl2 := Lib.hid hb.len
  have hmk := fun W => make_at (z := (n : Int) + (m : Int)) (n + m) (by omega) (by omega) W
  go_enter Tryz.func107, Tryz.ntmps107
  go_wp2
  clear hmk
  go_loopw [16] (fun i wr => ∃ (k : Nat) (low : List Nat), k ≤ n ∧ i = .int .i64 (k : Int) ∧ Hid (low.length = k + m) ∧ Hid (val low = val (xs.take k) * val ys) ∧
      Res wr w.heap.size (some ⟨w.heap.size, 0, none⟩) (n + m) (n + m) (low ++ List.replicate (n - k) 0) ∧ Below w.heap.size w wr) (fun i _ => n - (RowKit.intOf i).toNat)
  case atStart =>
    refine ⟨0, List.replicate m 0, Nat.zero_le _, rfl, by show _ = _; simp, by show _ = _; rw [val_replicate]; simp [val], ?_, (Below.refl _ _).alloc (Nat.le_refl _) _⟩
    rw [List.replicate_append_replicate, Nat.sub_zero, Nat.add_comm m n]
    exact Res.made w (n + m) (by omega)
  case round =>
    obtain ⟨k, low, hk, rfl, hlen, hval, hres, hbel⟩ := hrel
    by_cases h0 : k = n
    · subst h0
      have hf := trim_c wr hres.rd (by omega) (Nat.le_refl _)
      rw [Nat.sub_self, List.replicate_zero, List.append_nil] at hres hf
      have e1 : xs.take k = xs := List.take_of_length_le (by rw [hl1.out]; omega)
      have hv := Lib.hid hval.out
      rw [e1] at hv
      have HF := Lib.hid hf
      clear hf hval
      go_wp2_with fail
      refine HF.out.mono ?_
      rintro e w' ⟨rfl, rfl⟩
      go_wp2
      go_ret
      have ht := hres.take (tl_le low (k + m))
      refine ⟨_, _, _, trimmed low, rfl, ?_, trimmed_can hres.l32, ?_, hbel⟩
      · unfold trimmed; rw [hlen.out]; exact ht
      · rw [trimmed_val]; exact hv.out
    · have hlt : k < n := by omega
      obtain ⟨b1, o1, rfl, hSb, hc0⟩ := ha.at_ hlt
      have hc1 : wr.cell? ⟨b1, o1 + k, none⟩ = some (.int .u32 (nth xs k : Int)) := (hbel.cell (p := ⟨b1, o1 + k, none⟩) (hS _ hSb)).trans hc0
      clear hc0
      have hx1 := ha.lt k
      have hrep : List.replicate (n - k) 0 = 0 :: List.replicate (n - (k + 1)) 0 := by rw [show n - k = (n - (k + 1)) + 1 by omega, List.replicate_succ]
      have hsplit : low ++ List.replicate (n - k) 0 = low.take k ++ (low.drop k ++ List.replicate (n - k) 0) := by rw [← List.append_assoc, List.take_append_drop]
      rw [hsplit, hrep] at hres
      have hpl : k = (low.take k).length := by rw [List.length_take, hlen.out]; omega
      have hw := addMultiple_c (low.take k) (0 :: List.replicate (n - (k + 1)) 0) k (nth xs k) wr hpl hres (by rw [List.length_drop, hlen.out]; omega) (c2 := n + m - k) (c3 := d) (B := B) (hb.below hbel hS') (fun b hb' => by have := hS' b hb'; omega) hx1 (by omega) (by omega)
      have HW := Lib.hid hw
      clear hw hsplit hrep
      have HP := Lib.hid hpl
      clear hpl
      go_wp2_with fail
      refine HW.out.mono ?_
      rintro e w1 ⟨new, carry, rfl, hnl, hn32, hcar, hv, hres1, hg1⟩
      have HN := Lib.hid hnl
      have HV := Lib.hid hv
      clear hnl hv
      have hfr : w1.frozen? ⟨w.heap.size, k + m, none⟩ = false := hres1.frozen _
      have hce : w1.cell? ⟨w.heap.size, k + m, none⟩ = some (.int .u32 (0 : Nat)) := by
        rw [hres1.cell (by omega), nth_append_right (by rw [← HP.out]; omega), nth_append_right (by rw [← HP.out, HN.out]; omega), ← HP.out, HN.out]
        rw [show k + m - k - m = 0 by omega, nth_cons_zero]
      go_wp2
      refine ⟨⟨k + 1, low.take k ++ (new ++ [carry]), by omega, by go_num, ?_, ?_, ?_, (hbel.trans (below_of_only hg1 (Nat.le_refl _) hbel.size)).setCell (Nat.le_refl _) _⟩, by simp [RowKit.intOf]; omega⟩
      · show _ = _
        rw [List.length_append, List.length_append, ← HP.out, HN.out]; simp; omega
      · exact prod_step hlen.out rfl rfl HN.out HV.out hval.out rfl
      · have h2 := hres1.set (j := k + m) (x := carry) hcar
        have h3 := set_mid (low.take k) new (List.replicate (n - (k + 1)) 0) [] (k := k + m) carry 0 (by rw [← HP.out, HN.out])
        rw [List.append_nil, List.append_nil] at h3
        rw [h3] at h2
        simpa only [List.append_assoc] using h2
end Go.Proofs.YtobfeneeehmpcaaGreatDoor
