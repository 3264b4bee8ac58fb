/-
  Texts of digits there and back, and nat.Print in all its cases. Plain lemmas and one contract; no condition.
-/
import Derived.Test.YtdlphdbojkdfoaaParse
import Derived.Test.YtdlphdbojkdfoaaHelp
set_option linter.unusedVariables false
set_option linter.unusedSimpArgs false
namespace Go.Proofs.Ytdlphdbojkdfoaa
open Go.RowKit

theorem octs_txt {xs : List Nat} (h : L8 xs) : octs (txt xs) = xs := by
  unfold octs txt
  simp only [List.map_map]
  rw [List.map_congr_left (g := id)]
  · simp
  · intro x hx
    have := h x hx
    simp [Function.comp_def, UInt8.toNat_ofNat']
    omega
theorem txt_octs (s : ByteArray) : txt (octs s) = s := by
  obtain ⟨⟨l⟩⟩ := s
  unfold octs txt
  simp [Function.comp_def]
theorem dval_pnum (xs : List Nat) : dval ((xs.map (· - 48)).reverse) = pnum xs := by
  induction xs with
  | nil => rfl
  | cons c xs ih =>
    rw [List.map_cons, List.reverse_cons, dval_snoc, ih, pnum_cons, List.length_reverse, List.length_map, Nat.add_comm, Nat.mul_comm]
    rfl
theorem chars_of {xs : List Nat} (h : allDig xs = true) : ((((xs.map (· - 48)).reverse).map (· + 48)).reverse) = xs := by
  rw [List.map_reverse, List.reverse_reverse, List.map_map]
  rw [List.map_congr_left (g := id)]
  · simp
  · intro x hx
    unfold allDig at h
    rw [List.all_eq_true] at h
    have := of_decide_eq_true (h x hx)
    simp [Function.comp_def]; omega
theorem digs_of {xs : List Nat} (h : allDig xs = true) : D10 ((xs.map (· - 48)).reverse) := by
  intro d hd
  rw [List.mem_reverse] at hd
  obtain ⟨x, hx, rfl⟩ := List.mem_map.1 hd
  unfold allDig at h
  rw [List.all_eq_true] at h
  have := of_decide_eq_true (h x hx)
  omega
theorem allDig_chars {ds : List Nat} (h : D10 ds) : allDig ((ds.map (· + 48)).reverse) = true := by
  unfold allDig
  rw [List.all_eq_true]
  intro x hx
  rw [List.mem_reverse] at hx
  obtain ⟨d, hd, rfl⟩ := List.mem_map.1 hx
  have := h d hd
  unfold isDig
  exact decide_eq_true (by omega)
/-- The decimal text of a number is made of digits, and tells it. -/
theorem isDec_octs {v : Nat} {s : ByteArray} (h : IsDec v s) : allDig (octs s) = true ∧ pnum (octs s) = v ∧ 0 < s.size := by
  rcases h with ⟨h0, rfl⟩ | ⟨hp, ds, hc, hv, rfl⟩
  · rw [octs_txt (L8.one (by omega)), h0]
    exact ⟨by decide, by decide, by decide⟩
  · have h8 : L8 ((ds.map (· + 48)).reverse) := fun x hx => by
      rw [List.mem_reverse] at hx
      exact chars_l8 hc.1 x hx
    have ha := allDig_chars hc.1
    refine ⟨by rw [octs_txt h8]; exact ha, ?_, ?_⟩
    · rw [octs_txt h8, ← dval_pnum, List.map_reverse, List.reverse_reverse, List.map_map]
      rw [List.map_congr_left (g := id)]
      · simpa using hv
      · intro x hx; simp [Function.comp_def]
    · rw [← octs_length, octs_txt h8, List.length_reverse, List.length_map]
      rcases Nat.eq_zero_or_pos ds.length with e | e
      · rw [List.eq_nil_of_length_eq_zero e] at hv; rw [dval_nil] at hv; omega
      · exact e
/-- A text of digits without 0 at its beginning is the decimal text of its number. -/
theorem isDec_of {s : ByteArray} (ha : allDig (octs s) = true) (h0 : 0 < s.size) (hf : nth (octs s) 0 ≠ 48) : IsDec (pnum (octs s)) s := by
  have hl := octs_length s
  have hd := allDig_nth ha (k := 0) (by omega)
  have hn : nth ((octs s).map (· - 48)).reverse (((octs s).map (· - 48)).reverse.length - 1) = nth (octs s) 0 - 48 := by
    rw [nth_get (by simp; omega), nth_get (by omega)]
    simp
  refine .inr ⟨?_, _, ⟨digs_of ha, .inr (by rw [hn]; omega)⟩, dval_pnum _, by rw [chars_of ha, txt_octs]⟩
  rw [← dval_pnum]
  rcases Nat.eq_zero_or_pos (dval ((octs s).map (· - 48)).reverse) with e | e
  · have hc : DCan ((octs s).map (· - 48)).reverse := ⟨digs_of ha, .inr (by rw [hn]; omega)⟩
    have := hc.dval_zero e
    have h9 : (((octs s).map (· - 48)).reverse).length = 0 := by rw [this]; rfl
    rw [List.length_reverse, List.length_map] at h9
    omega
  · exact e
theorem isDec_size {v n : Nat} {s : ByteArray} (h : IsDec v s) (hn : 0 < n) (hv : v < 10 ^ n) : s.size ≤ n := by
  rcases h with ⟨h0, rfl⟩ | ⟨hp, ds, hc, hd, rfl⟩
  · have : (txt [48]).size = 1 := by decide
    omega
  · have h8 : L8 ((ds.map (· + 48)).reverse) := fun x hx => by
      rw [List.mem_reverse] at hx
      exact chars_l8 hc.1 x hx
    rw [← octs_length, octs_txt h8, List.length_reverse, List.length_map]
    by_cases hne : ds = []
    · rw [hne]; simp
    · have h1 := hc.ge hne
      rcases Nat.lt_or_ge n ds.length with h2 | h2
      · have h3 := dp_mono (show n ≤ ds.length - 1 by omega)
        unfold dp at h1 h3
        omega
      · exact h2

theorem parseE_ok {xs : List Nat} (h0 : 0 < xs.length) (h1 : xs.length ≤ 2400) (h2 : allDig xs = true) : parseE xs = 0 ∧ parseZ xs = lim (pnum xs) := by
  have e : parseE xs = 0 := by unfold parseE; rw [if_neg (by omega), if_neg (by omega), if_pos h2]
  exact ⟨e, if_pos e⟩
theorem parseE_zero {xs : List Nat} (h : parseE xs = 0) : 0 < xs.length ∧ xs.length ≤ 2400 ∧ allDig xs = true := by
  unfold parseE at h
  by_cases h0 : xs.length = 0
  · rw [if_pos h0] at h; omega
  · rw [if_neg h0] at h
    by_cases h1 : 2400 < xs.length
    · rw [if_pos h1] at h; omega
    · rw [if_neg h1] at h
      by_cases h2 : allDig xs = true
      · exact ⟨by omega, by omega, h2⟩
      · rw [if_neg h2] at h; omega
/-- What is printed, up to 2400 digits, is read as the number. -/
theorem back_there {xs : List Nat} {t : ByteArray} (hc : Can xs) (ht : IsDec (val xs) t) (hs : t.size ≤ 2400) : parseE (octs t) = 0 ∧ parseZ (octs t) = xs := by
  obtain ⟨h1, h2, h3⟩ := isDec_octs ht
  have hl := octs_length t
  obtain ⟨e1, e2⟩ := parseE_ok (by omega) (by omega) h1
  exact ⟨e1, by rw [e2, h2]; exact (eq_lim hc).symm⟩
/-- The number of a text of digits may be printed. -/
theorem parse_can {xs : List Nat} (h : parseE xs = 0) : Can (parseZ xs) ∧ (parseZ xs).length ≤ 250 ∧ val (parseZ xs) = pnum xs := by
  obtain ⟨h0, h1, h2⟩ := parseE_zero h
  have e := (parseE_ok h0 h1 h2).2
  rw [e]
  refine ⟨lim_can _, (lim_can _).len_le ?_, lim_val _⟩
  rw [lim_val]
  exact Nat.lt_trans (pnum_lt h2) (pow10_lt h1)

theorem bp_lt_ten {n v : Nat} (h : n ≤ 256) (hv : v < bp n) : ∃ m, 0 < m ∧ m ≤ 2731 ∧ v < 10 ^ m := by
  obtain ⟨m, hm⟩ : ∃ m, m = 2731 := ⟨_, rfl⟩
  refine ⟨m, by omega, by omega, ?_⟩
  have h1 : bp n = 2 ^ (32 * n) := by unfold bp; rw [Nat.pow_mul]
  rw [h1] at hv
  have h2 : 2 ^ (32 * n) ≤ (2 ^ 3) ^ m := by rw [← Nat.pow_mul]; exact Nat.pow_le_pow_right (by omega) (by omega)
  exact Nat.lt_trans (Nat.lt_of_lt_of_le hv h2) (Nat.pow_lt_pow_left (by decide) (by omega))
theorem Print_c {S : Nat → Prop} {n c : Nat} {A : Option Addr} {xs : List Nat} (w : World) (ha : Rd w S A n xs) (hS : ∀ b, S b → b < w.heap.size) (hn : n ≤ 9223372036854775807) :
    Calls Try.prog 24 #[.slice A n c] w fun e w' => ∃ s, e = .returned (.tuple #[.string s, .int .i64 (chk xs : Int)]) ∧ (chk xs = 0 → Can xs ∧ IsDec (val xs) s) ∧ (chk xs ≠ 0 → s = ⟨#[]⟩) ∧ s.size ≤ 2731 ∧ Below w.heap.size w w' := by
  by_cases he : chk xs = 0
  · obtain ⟨hc, hl⟩ := can_of_chk ha.l32 he
    refine (Print_ok w ha hS hc (by rw [← ha.len]; exact hl)).mono ?_
    rintro e w' ⟨s, rfl, hd, hb⟩
    rw [he]
    obtain ⟨m, hm0, hm, hv⟩ := bp_lt_ten hl (val_lt hc.l32)
    have := isDec_size hd hm0 hv
    exact ⟨s, rfl, fun _ => ⟨hc, hd⟩, fun h => absurd rfl h, by omega, hb⟩
  · refine (Print_err w ha hn he).mono ?_
    rintro e w' ⟨rfl, rfl⟩
    exact ⟨_, rfl, fun h => absurd h he, fun _ => rfl, by decide, Below.refl _ _⟩
end Go.Proofs.Ytdlphdbojkdfoaa
