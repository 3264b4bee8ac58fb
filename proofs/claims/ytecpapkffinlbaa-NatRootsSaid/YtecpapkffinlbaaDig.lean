/-
  Plain mathematics of decimal digits: the number that a list of digits tells, the lowest first; lists without 0 at their end. No Go, no condition.
-/
import Derived.Test.YtecpapkffinlbaaLimb
set_option linter.unusedVariables false
set_option linter.unusedSimpArgs false
namespace Go.Proofs.Ytecpapkffinlbaa

/-- All are decimal digits. -/
def D10 (xs : List Nat) : Prop := ∀ x ∈ xs, x < 10
/-- The number that digits tell, the lowest first. -/
def dval : List Nat → Nat
  | [] => 0
  | x :: r => x + 10 * dval r
/-- 10 to the k. -/
def dp (k : Nat) : Nat := 10 ^ k
/-- No 0 at the end. -/
def DCan (xs : List Nat) : Prop := D10 xs ∧ (xs = [] ∨ nth xs (xs.length - 1) ≠ 0)

theorem dth_lt {xs : List Nat} (h : D10 xs) (k : Nat) : nth xs k < 10 := by
  unfold nth
  rw [List.getD_eq_getElem?_getD]
  by_cases hk : k < xs.length
  · rw [List.getElem?_eq_getElem hk]; exact h _ (List.getElem_mem hk)
  · rw [List.getElem?_eq_none (by omega)]; simp
theorem D10.nil : D10 [] := fun _ h => absurd h (by simp)
theorem D10.cons {x : Nat} {r : List Nat} : D10 (x :: r) ↔ x < 10 ∧ D10 r := by simp [D10]
theorem D10.append {xs ys : List Nat} : D10 (xs ++ ys) ↔ D10 xs ∧ D10 ys := by
  constructor
  · intro h; exact ⟨fun x hx => h x (by simp [hx]), fun x hx => h x (by simp [hx])⟩
  · rintro ⟨h1, h2⟩ x hx
    rcases List.mem_append.1 hx with h | h
    · exact h1 x h
    · exact h2 x h
theorem D10.take {xs : List Nat} (h : D10 xs) (n : Nat) : D10 (xs.take n) := fun x hx => h x (List.mem_of_mem_take hx)
theorem D10.drop {xs : List Nat} (h : D10 xs) (n : Nat) : D10 (xs.drop n) := fun x hx => h x (List.mem_of_mem_drop hx)
theorem D10.snoc {xs : List Nat} {x : Nat} (h : D10 xs) (hx : x < 10) : D10 (xs ++ [x]) := D10.append.2 ⟨h, D10.cons.2 ⟨hx, D10.nil⟩⟩
theorem D10.replicate (n : Nat) : D10 (List.replicate n 0) := fun x hx => by rw [(List.mem_replicate.1 hx).2]; omega

theorem dp_zero : dp 0 = 1 := rfl
theorem dp_succ (k : Nat) : dp (k + 1) = 10 * dp k := by unfold dp; rw [Nat.pow_succ, Nat.mul_comm]
theorem dp_add (j k : Nat) : dp (j + k) = dp j * dp k := by unfold dp; rw [Nat.pow_add]
theorem dp_pos (k : Nat) : 0 < dp k := Nat.pow_pos (by omega)

theorem dval_nil : dval [] = 0 := rfl
theorem dval_cons (x : Nat) (r : List Nat) : dval (x :: r) = x + 10 * dval r := rfl
theorem dval_append (xs ys : List Nat) : dval (xs ++ ys) = dval xs + dp xs.length * dval ys := by
  induction xs with
  | nil => simp [dval, dp]
  | cons x r ih => simp only [List.cons_append, dval_cons, ih, List.length_cons, dp_succ, Nat.mul_add, Nat.mul_assoc, Nat.add_assoc]
theorem dval_snoc (xs : List Nat) (y : Nat) : dval (xs ++ [y]) = dval xs + dp xs.length * y := by rw [dval_append]; simp [dval]
theorem dval_replicate (n : Nat) : dval (List.replicate n 0) = 0 := by
  induction n with
  | zero => rfl
  | succ n ih => rw [List.replicate_succ, dval_cons, ih]
theorem dval_lt {xs : List Nat} (h : D10 xs) : dval xs < dp xs.length := by
  induction xs with
  | nil => simp [dval, dp]
  | cons x r ih =>
    obtain ⟨h1, h2⟩ := D10.cons.1 h
    have := ih h2
    rw [dval_cons, List.length_cons, dp_succ]; omega
theorem dval_take_succ {xs : List Nat} (k : Nat) : dval (xs.take (k + 1)) = dval (xs.take k) + dp k * nth xs k := by
  by_cases h : k < xs.length
  · rw [take_succ_nth h, dval_snoc, List.length_take, Nat.min_eq_left (by omega)]
  · rw [nth_none (by omega), List.take_of_length_le (by omega), List.take_of_length_le (by omega)]; omega
theorem dval_drop {xs : List Nat} (k : Nat) : dval (xs.drop k) = nth xs k + 10 * dval (xs.drop (k + 1)) := by
  by_cases h : k < xs.length
  · rw [drop_eq_nth h, dval_cons]
  · rw [nth_none (by omega), List.drop_of_length_le (by omega), List.drop_of_length_le (by omega)]; rfl
theorem dval_split (xs : List Nat) (k : Nat) (h : k ≤ xs.length) : dval xs = dval (xs.take k) + dp k * dval (xs.drop k) := by
  have := dval_append (xs.take k) (xs.drop k)
  rw [List.take_append_drop, List.length_take, Nat.min_eq_left h] at this
  exact this
theorem dval_le_of_take {xs : List Nat} (k : Nat) (h : ∀ j, k ≤ j → j < xs.length → nth xs j = 0) : dval (xs.take k) = dval xs := by
  induction xs generalizing k with
  | nil => simp
  | cons x r ih =>
    cases k with
    | zero =>
      have hx : x = 0 := h 0 (by omega) (by simp)
      have hr := ih 0 (fun j _ hj => by have := h (j + 1) (by omega) (by simp; omega); rwa [nth_cons_succ] at this)
      rw [List.take_zero, dval_nil] at hr ⊢
      rw [dval_cons, hx, ← hr]
    | succ k =>
      rw [List.take_succ_cons, dval_cons, dval_cons, ih k (fun j hk hj => by have := h (j + 1) (by omega) (by simp; omega); rwa [nth_cons_succ] at this)]

theorem DCan.l32 {xs : List Nat} (h : DCan xs) : D10 xs := h.1
theorem DCan.nil : DCan [] := ⟨D10.nil, .inl rfl⟩
/-- A list without 0 at its end is no less than the place of its last limb. -/
theorem DCan.ge {xs : List Nat} (h : DCan xs) (hne : xs ≠ []) : dp (xs.length - 1) ≤ dval xs := by
  have hl : 0 < xs.length := List.length_pos_iff.2 hne
  have hn : nth xs (xs.length - 1) ≠ 0 := h.2.resolve_left hne
  rw [dval_split xs (xs.length - 1) (by omega)]
  have : dval (xs.drop (xs.length - 1)) = nth xs (xs.length - 1) := by
    rw [dval_drop, List.drop_of_length_le (by omega), dval_nil]; omega
  rw [this]
  have : dp (xs.length - 1) * 1 ≤ dp (xs.length - 1) * nth xs (xs.length - 1) := Nat.mul_le_mul_left _ (by omega)
  omega
theorem dp_mono {j k : Nat} (h : j ≤ k) : dp j ≤ dp k := Nat.pow_le_pow_right (by omega) h
theorem dp_lt {j k : Nat} (h : j < k) : dp j < dp k := Nat.pow_lt_pow_right (by omega) h
theorem DCan.dval_zero {xs : List Nat} (h : DCan xs) (hv : dval xs = 0) : xs = [] := by
  by_cases hne : xs = []
  · exact hne
  · have := h.ge hne; have := dp_pos (xs.length - 1); omega
/-- A shorter one tells less. -/
theorem DCan.lt_of_length {xs ys : List Nat} (hx : D10 xs) (hy : DCan ys) (h : xs.length < ys.length) : dval xs < dval ys := by
  have h1 := dval_lt hx
  have h2 := hy.ge (by intro e; rw [e] at h; simp at h)
  have h3 : dp xs.length ≤ dp (ys.length - 1) := dp_mono (by omega)
  omega
theorem DCan.length_eq {xs ys : List Nat} (hx : DCan xs) (hy : DCan ys) (h : dval xs = dval ys) : xs.length = ys.length := by
  rcases Nat.lt_trichotomy xs.length ys.length with hl | hl | hl
  · have := DCan.lt_of_length hx.1 hy hl; omega
  · exact hl
  · have := DCan.lt_of_length hy.1 hx hl; omega
theorem dval_inj : ∀ {xs ys : List Nat}, D10 xs → D10 ys → xs.length = ys.length → dval xs = dval ys → xs = ys
  | [], [], _, _, _, _ => rfl
  | [], _ :: _, _, _, h, _ => by simp at h
  | _ :: _, [], _, _, h, _ => by simp at h
  | x :: r, y :: s, hx, hy, hl, hv => by
    obtain ⟨h1, h2⟩ := D10.cons.1 hx
    obtain ⟨h3, h4⟩ := D10.cons.1 hy
    rw [dval_cons, dval_cons] at hv
    have e1 : x = y := by omega
    have e2 : dval r = dval s := by omega
    rw [e1, dval_inj h2 h4 (by simpa using hl) e2]
/-- A list without 0 at its end is told by its number. -/
theorem DCan.inj {xs ys : List Nat} (hx : DCan xs) (hy : DCan ys) (h : dval xs = dval ys) : xs = ys := dval_inj hx.1 hy.1 (hx.length_eq hy h) h

/-- Comparing lists of one length from their highest limb on. -/
theorem dval_lt_of_high {xs ys : List Nat} (hx : D10 xs) (hy : D10 ys) (k : Nat) (hl : xs.length = ys.length) (hk : k < xs.length) (hlt : nth xs k < nth ys k)
    (heq : ∀ j, k < j → j < xs.length → nth xs j = nth ys j) : dval xs < dval ys := by
  have e : xs.drop (k + 1) = ys.drop (k + 1) := by
    apply List.ext_getElem
    · simp [hl]
    · intro i h1 h2
      have h3 : k + 1 + i < xs.length := by simp at h1; omega
      have := heq (k + 1 + i) (by omega) h3
      rw [nth_get h3, nth_get (by omega)] at this
      simp [this]
  rw [dval_split xs k (by omega), dval_split ys k (by omega), dval_drop k (xs := xs), dval_drop k (xs := ys), e]
  have h1 := dval_lt (hx.take k)
  rw [List.length_take, Nat.min_eq_left (by omega)] at h1
  generalize dval (ys.drop (k + 1)) = d
  have h2 : dp k * (nth xs k + 1 + 10 * d) ≤ dp k * (nth ys k + 10 * d) := Nat.mul_le_mul_left _ (by omega)
  have h3 : dp k * (nth xs k + 1 + 10 * d) = dp k * (nth xs k + 10 * d) + dp k := by rw [Nat.add_right_comm, Nat.mul_add, Nat.mul_one]
  omega

theorem trimmed_dval (xs : List Nat) : dval (trimmed xs) = dval xs := dval_le_of_take _ (fun j h1 h2 => tl_zero xs _ j h1 h2)
theorem trimmed_dcan {xs : List Nat} (h : D10 xs) : DCan (trimmed xs) := by
  refine ⟨h.take _, ?_⟩
  by_cases hz : 0 < tl xs xs.length
  · right
    rw [trimmed_length]
    unfold trimmed
    rw [nth_take (by omega)]
    exact tl_pos xs _ hz
  · left
    apply List.eq_nil_of_length_eq_zero
    rw [trimmed_length]; omega
theorem div10_cast (t : Nat) : ((t : Nat) : Int) / 10 = ((t / 10 : Nat) : Int) := by omega
theorem rem10_cast (t : Nat) : ((t : Nat) : Int) % 10 = ((t % 10 : Nat) : Int) := by omega
/-- A sum cut into a limb and a carry, at its place. -/
theorem dcut_place (k t : Nat) : dp k * (t % 10) + dp (k + 1) * (t / 10) = dp k * t := by
  rw [dp_succ]
  conv => rhs; rw [← Nat.mod_add_div t 10]
  rw [Nat.mul_add, ← Nat.mul_assoc (dp k) 10, Nat.mul_comm 10 (dp k)]
/-- What is no less than the place of its last limb has none that is 0 at its end. -/
theorem dcan_of_ge {zs : List Nat} (h : D10 zs) (hv : zs = [] ∨ dp (zs.length - 1) ≤ dval zs) : DCan zs := by
  refine ⟨h, ?_⟩
  rcases hv with e | hv
  · exact .inl e
  · by_cases hn : zs = []
    · exact .inl hn
    · right
      intro h0
      have hl : 0 < zs.length := List.length_pos_iff.2 hn
      have := dval_split zs (zs.length - 1) (by omega)
      rw [dval_drop, h0, List.drop_of_length_le (by omega), dval_nil] at this
      have h1 := dval_lt (h.take (zs.length - 1))
      rw [List.length_take, Nat.min_eq_left (by omega)] at h1
      omega
end Go.Proofs.Ytecpapkffinlbaa
