/-
  Contracts of nat.Sub and of bolterplain.SpoilLimbs.
-/
import Derived.Test.YtdlphdbojkdfoaaDiff
import Derived.Test.YtdlphdbojkdfoaaRefh
set_option linter.unusedVariables false
set_option linter.unusedSimpArgs false
namespace Go.Proofs.Ytdlphdbojkdfoaa
open Go.RowKit

set_option maxRecDepth 100000 in
theorem Sub_c {S S' : Nat → Prop} {n m c d : Nat} {A B : Option Addr} {xs ys : List Nat} (w : World) (ha : Rd w S A n xs) (hb : Rd w S' B m ys) (hS : ∀ b, S b → b < w.heap.size) (hS' : ∀ b, S' b → b < w.heap.size) (hn : n ≤ 9223372036854775807) (hm : m ≤ 9223372036854775807) :
    Calls Try.prog 11 #[.slice A n c, .slice B m d] w fun e w' => ∃ A' n' c', e = .returned (.tuple #[.slice A' n' c', .int .i64 (subE xs ys : Int)]) ∧ Res w' w.heap.size A' n' c' (subZ xs ys) ∧ Below w.heap.size w w' := by
  have h1 := checkBoth_c (c := c) (d := d) w ha hb hn hm
  have e1 : (if chk xs = 0 then chk ys else chk xs) = chk2 xs ys := rfl
  rw [e1] at h1
  by_cases h0 : chk2 xs ys = 0
  · obtain ⟨⟨hcx, hlx⟩, hcy, hly⟩ := can_of_chk2 ha.l32 hb.l32 h0
    have HE : Hid (subE xs ys = if val xs < val ys then 4 else 0) := if_pos h0
    have h2 := compare_c (c := c) (d := d) w ha hb hn hm
    rw [cmp_val hcx hcy] at h2
    rw [h0] at h1
    have H1 := Lib.hid h1
    have hn2 : n ≤ 256 := by rw [← ha.len]; exact hlx
    have hmn : val ys ≤ val xs → m ≤ n := fun h => by
      rw [← ha.len, ← hb.len]
      rcases Nat.lt_or_ge xs.length ys.length with h3 | h3
      · have := Can.lt_of_length hcx.1 hcy h3; omega
      · exact h3
    clear h1 h0 e1
    by_cases hlt : val xs < val ys
    · rw [if_pos hlt] at h2
      have hE : Hid (subE xs ys = 4) := by show _ = _; rw [HE.out, if_pos hlt]
      have H2 := Lib.hid h2
      clear h2 hlt hmn
      go_enter Try.func11, Try.ntmps11
      go_wp2_with fail
      refine H1.out.mono ?_
      rintro e w' ⟨rfl, rfl⟩
      go_wp2_with fail
      refine H2.out.mono ?_
      rintro e w3 ⟨rfl, q, rfl⟩
      go_wp2
      go_ret2
      have hZ : subZ xs ys = [] := if_neg (by rw [hE.out]; omega)
      rw [hE.out, hZ]
      exact ⟨none, 0, 0, rfl, Res.nil _ _, below_drewN (Below.refl _ _) q⟩
    · rw [if_neg hlt] at h2
      have hge : (0 : Int) ≤ (if val ys < val xs then 1 else 0) := by split <;> omega
      obtain ⟨z, hz⟩ : ∃ z : Int, z = (if val ys < val xs then 1 else 0) := ⟨_, rfl⟩
      rw [← hz] at h2 hge
      have hE : Hid (subE xs ys = 0) := by show _ = _; rw [HE.out, if_neg hlt]
      have hmn2 := hmn (Nat.le_of_not_lt hlt)
      have HL := Lib.hid (Nat.le_of_not_lt hlt)
      have H2 := Lib.hid h2
      clear h2 hlt hmn hz
      go_enter Try.func11, Try.ntmps11
      go_wp2_with fail
      refine H1.out.mono ?_
      rintro e w' ⟨rfl, rfl⟩
      go_wp2_with fail
      refine H2.out.mono ?_
      rintro e w3 ⟨rfl, q, rfl⟩
      go_wp2_with fail
      refine (difference_c (c := c) (d := d) (w.drewN q) (ha.drewN q) (hb.drewN q) hS hS' (by omega) hmn2 HL.out).mono ?_
      rintro e w4 ⟨A4, n4, c4, zs, rfl, hr4, hc4, hv4, hb4⟩
      have HV4 := Lib.hid hv4
      clear hv4
      go_wp2
      go_ret2
      have hZ : subZ xs ys = zs := by
        have e1 : subZ xs ys = lim (val xs - val ys) := if_pos hE.out
        rw [e1, eq_lim hc4]
        congr 1
        have h1 := HV4.out
        omega
      rw [hE.out, hZ]
      exact ⟨_, _, _, rfl, hr4, (below_drewN (Below.refl _ w) q).trans (hb4.mono (Nat.le_refl _))⟩
  · have e2 : subE xs ys = chk2 xs ys := if_neg h0
    have e3 : subZ xs ys = [] := if_neg (by rw [e2]; exact h0)
    rw [e2, e3]
    have hb : (((chk2 xs ys : Nat) : Int) != 0) = true := by rw [bne_iff_ne]; omega
    have H1 := Lib.hid h1
    clear h1 h0 e2 e3 e1
    go_enter Try.func11, Try.ntmps11
    go_wp2_with fail
    refine H1.out.mono ?_
    rintro e w' ⟨rfl, rfl⟩
    go_wp2
    go_ret2
    exact ⟨none, 0, 0, rfl, Res.nil _ _, Below.refl _ _⟩

theorem Spoil_c {base n c : Nat} {A : Option Addr} {zs : List Nat} (w : World) (h : Res w base A n c zs) :
    Calls Try.prog 29 #[.slice A n c] w fun e w' => (∃ v, e = .returned v) ∧ w.grownBy w' (Value.slice A n c).ownBlock := by
  have hn := h.n_le
  unfold maxLen at hn
  obtain ⟨hn1, hn2⟩ := hn
  go_enter Try.func29, Try.ntmps29
  go_wp2
  go_loopw [2] (fun iv wr => ∃ (k : Nat) (zs : List Nat), k ≤ n ∧ iv = .int .i64 (k : Int) ∧ Res wr base A n c zs ∧ w.grownBy wr (Value.slice A n c).ownBlock) (fun iv _ => n - (intOf iv).toNat)
  case atStart => exact ⟨0, zs, Nat.zero_le _, rfl, h, World.grownBy.refl w _⟩
  case round =>
    obtain ⟨k, zs, hk, rfl, hres, hg⟩ := hrel
    by_cases h0 : k = n
    · subst h0
      go_wp2
      first
        | (go_ret; exact ⟨⟨_, rfl⟩, hg⟩)
        | (go_end0; exact ⟨⟨_, rfl⟩, hg⟩)
    · have hlt : k < n := by omega
      obtain ⟨g, hA⟩ : ∃ g, A = some ⟨g, 0, none⟩ := by
        rcases h.form with ⟨_, h, _⟩ | ⟨g, h, _⟩
        · omega
        · exact ⟨g, h⟩
      subst hA
      have hcell := hres.cell hlt
      have hfr := hres.frozen k
      go_wp2
      exact ⟨⟨k + 1, zs.set k 7, by omega, by go_num, hres.set (x := 7) (by omega), only_set hg _ _⟩, by simp [intOf]; omega⟩
end Go.Proofs.Ytdlphdbojkdfoaa
