/-
  Contracts of the reference's Check, checks, Trim, Digits and Order: what they answer; they change nothing that was there.
-/
import Derived.Test.YtdlphdbojkdfoaaIntr
import Derived.Test.YtdlphdbojkdfoaaRefa
import Derived.Test.YtdlphdbojkdfoaaBackg
set_option linter.unusedVariables false
set_option linter.unusedSimpArgs false
namespace Go.Proofs.Ytdlphdbojkdfoaa
open Go.RowKit

theorem rCheck_c {S : Nat → Prop} {n c : Nat} {A : Option Addr} {xs : List Nat} (w : World) (h : Rd w S A n xs) (_hn : n ≤ 9223372036854775807) :
    Calls Try.prog 18 #[.slice A n c] w fun e w' => e = .returned (.int .i64 (chk xs : Int)) ∧ w = w' := by
  have hl := h.len
  subst hl
  unfold chk
  by_cases h1 : 256 < xs.length
  · rw [if_pos h1]
    go_enter Try.func18, Try.ntmps18
    go_wp2
    go_ret
    exact ⟨rfl, rfl⟩
  · rw [if_neg h1]
    by_cases h0 : 0 < xs.length
    · obtain ⟨b, off, rfl, _, hc⟩ := h.at_ (k := xs.length - 1) (by omega)
      by_cases hz : nth xs (xs.length - 1) = 0
      · rw [if_pos ⟨h0, hz⟩]
        rw [hz] at hc
        clear hz
        go_enter Try.func18, Try.ntmps18
        go_wp2
        go_ret
        exact ⟨rfl, rfl⟩
      · rw [if_neg (fun hh => hz hh.2)]
        have hb : (((nth xs (xs.length - 1) : Nat) : Int) == 0) = false := by rw [beq_eq_false_iff_ne]; omega
        clear hz
        go_enter Try.func18, Try.ntmps18
        go_wp2
        go_ret
        exact ⟨rfl, rfl⟩
    · rw [if_neg (fun hh => h0 hh.1)]
      go_enter Try.func18, Try.ntmps18
      go_wp2
      go_ret
      exact ⟨rfl, rfl⟩

theorem rchecks_c {S S' : Nat → Prop} {n m c d : Nat} {A B : Option Addr} {xs ys : List Nat} (w : World) (ha : Rd w S A n xs) (hb : Rd w S' B m ys) (hn : n ≤ 9223372036854775807) (hm : m ≤ 9223372036854775807) :
    Calls Try.prog 33 #[.slice A n c, .slice B m d] w fun e w' => e = .returned (.int .i64 (chk2 xs ys : Int)) ∧ w = w' := by
  unfold chk2
  have h1 := rCheck_c (c := c) w ha hn
  have h2 := rCheck_c (c := d) w hb hm
  have H1 := Lib.hid h1
  have H2 := Lib.hid h2
  clear h1 h2
  by_cases h0 : chk xs = 0
  · rw [if_pos h0]
    have hb0 : (((chk xs : Nat) : Int) == 0) = true := by rw [h0]; rfl
    clear h0
    go_enter Try.func33, Try.ntmps33
    go_wp2_with fail
    refine H1.out.mono ?_
    rintro e w' ⟨rfl, rfl⟩
    go_wp2_with fail
    refine H2.out.mono ?_
    rintro e w' ⟨rfl, rfl⟩
    go_wp2
    go_ret
    exact ⟨rfl, rfl⟩
  · rw [if_neg h0]
    have hb0 : (((chk xs : Nat) : Int) == 0) = false := by rw [beq_eq_false_iff_ne]; omega
    clear h0
    go_enter Try.func33, Try.ntmps33
    go_wp2_with fail
    refine H1.out.mono ?_
    rintro e w' ⟨rfl, rfl⟩
    go_wp2
    go_ret
    exact ⟨rfl, rfl⟩

theorem rTrim_c {S : Nat → Prop} {n c : Nat} {A : Option Addr} {ds : List Nat} (w : World) (h : RdI w S A n ds) (hn1 : n ≤ c) (hn2 : n ≤ 9223372036854775807) :
    Calls Try.prog 51 #[.slice A n c] w fun e w' => e = .returned (.slice A (tl ds n) c) ∧ w = w' := by
  go_enter Try.func51, Try.ntmps51
  go_wp2
  go_loop [3] (fun i => ∃ k : Nat, k ≤ n ∧ Hid (tl ds k = tl ds n) ∧ i = .int .i64 k) (fun i => (intOf i).toNat)
  case atStart => exact ⟨n, Nat.le_refl _, rfl, rfl⟩
  case round =>
    obtain ⟨k, hk, ht, rfl⟩ := hrel
    by_cases h0 : k = 0
    · subst h0
      have he : Hid (tl ds n = 0) := ht.out.symm
      clear ht
      go_wp2
      go_ret
      rw [he.out]
      exact ⟨rfl, rfl⟩
    · obtain ⟨j, rfl⟩ : ∃ j, k = j + 1 := ⟨k - 1, by omega⟩
      obtain ⟨b, off, rfl, _, hcell⟩ := h.at_ (k := j) (by omega)
      by_cases hz : nth ds j = 0
      · have hs : Hid (tl ds j = tl ds n) := (tl_step hz).symm.trans ht.out
        rw [hz] at hcell
        clear hz ht
        go_wp2
        go_round
        case rel => exact ⟨j, by omega, hs, by go_num⟩
        case measure => simp [intOf]
      · have he : Hid (tl ds n = j + 1) := ht.out.symm.trans (tl_stop hz)
        have hb : (((nth ds j : Nat) : Int) == 0) = false := by rw [beq_eq_false_iff_ne]; omega
        clear hz ht
        go_wp2
        go_ret
        rw [he.out]
        exact ⟨rfl, rfl⟩

/-- Trim of a row of the call's own. -/
theorem rTrim_own {base n c : Nat} {A : Option Addr} {ds : List Nat} (w : World) (h : ResI w base A n c ds) :
    Calls Try.prog 51 #[.slice A n c] w fun e w' => e = .returned (.slice A (tl ds n) c) ∧ ResI w' base A (tl ds n) c (trimmed ds) ∧ w = w' := by
  have hn := h.n_le
  unfold maxLen at hn
  refine (rTrim_c w h.rd hn.1 (by omega)).mono ?_
  rintro e w' ⟨rfl, rfl⟩
  refine ⟨rfl, ?_, rfl⟩
  have := h.take (tl_le ds n)
  unfold trimmed
  rw [h.len]
  exact this

set_option maxRecDepth 100000 in
theorem Digits_c {S : Nat → Prop} {n c : Nat} {A : Option Addr} {xs : List Nat} (w : World) (h : Rd w S A n xs) (hS : ∀ b, S b → b < w.heap.size) (hn : n ≤ 256) :
    Calls Try.prog 35 #[.slice A n c] w fun e w' => ∃ A' n' c' ds, e = .returned (.slice A' n' c') ∧ ResI w' w.heap.size A' n' c' ds ∧ DCan ds ∧ dval ds = val xs ∧ Below w.heap.size w w' := by
  have HL := Lib.hid h.len
  go_enter Try.func35, Try.ntmps35
  go_wp2
  go_loopw [3, 4] (fun dv iv wr => ∃ (k : Nat) (Ao : Option Addr) (no co : Nat) (ds : List Nat), k ≤ n ∧ iv = .int .i64 ((k : Int) - 1) ∧ dv = .slice Ao no co ∧ ResI wr w.heap.size Ao no co ds ∧ Hid (DCan ds) ∧ Hid (dval ds = val (xs.drop k)) ∧ Below w.heap.size w wr)
    (fun _ iv _ => (intOf iv + 1).toNat)
  case atStart => exact ⟨n, none, 0, 0, [], Nat.le_refl _, rfl, rfl, ResI.nil _ _, DCan.nil, by show _ = _; rw [List.drop_of_length_le (by rw [HL.out]; exact Nat.le_refl _)]; rfl, Below.refl _ _⟩
  case round =>
    obtain ⟨k, Ao, no, co, ds, hk, rfl, rfl, hres, hcan, hval, hbel⟩ := hrel
    by_cases h0 : k = 0
    · subst h0
      have hv := hval
      clear hval
      go_wp2
      go_ret
      have := hv.out
      rw [List.drop_zero] at this
      exact ⟨_, _, _, ds, rfl, hres, hcan.out, this, hbel⟩
    · obtain ⟨j, rfl⟩ : ∃ j, k = j + 1 := ⟨k - 1, by omega⟩
      obtain ⟨b, off, rfl, hSb, hcell0⟩ := h.at_ (k := j) (by omega)
      have hcell : wr.cell? ⟨b, off + j, none⟩ = some (.int .u32 (nth xs j : Int)) := (hbel.cell (p := ⟨b, off + j, none⟩) (hS _ hSb)).trans hcell0
      have hx := h.lt j
      have hsz := hbel.size
      have hlen : no ≤ 2731 := by
        obtain ⟨m, hm0, hm, hv⟩ := bp_lt_ten (n := n) (v := dval ds) hn (by
          rw [hval.out]
          have h1 := val_split xs (j + 1) (by rw [HL.out]; omega)
          have h2 := val_lt h.l32
          rw [HL.out] at h2
          have h3 : 1 * val (xs.drop (j + 1)) ≤ bp (j + 1) * val (xs.drop (j + 1)) := Nat.mul_le_mul_right _ (bp_pos _)
          omega)
        have := hcan.out.len_le hv
        rw [hres.len] at this
        omega
      go_wp2_with fail
      refine (times_c 4294967296 (nth xs j) wr hres hcan.out (by omega) (by omega) (by omega) (by omega)).mono ?_
      rintro e w1 ⟨A', n', c', os, rfl, hres1, hcan1, hval1, hbel1⟩
      have HC1 := Lib.hid hcan1
      have HV1 := Lib.hid hval1
      clear hval1 hcan1
      go_wp2
      refine ⟨⟨j, A', n', c', os, by omega, by go_num, rfl, hres1.more hsz, HC1.out, ?_, hbel.trans (hbel1.mono hsz)⟩, by simp [intOf]⟩
      show _ = _
      rw [HV1.out, hval.out, val_drop j]
      omega
end Go.Proofs.Ytdlphdbojkdfoaa
