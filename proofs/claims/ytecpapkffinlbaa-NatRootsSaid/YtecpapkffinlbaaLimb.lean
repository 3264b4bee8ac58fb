/-
  Plain mathematics of limbs of 32 bits: the number that a list of limbs tells, lists without 0 at their end, and that such a list is told by its number. No Go, no condition.
-/
set_option linter.unusedVariables false
set_option linter.unusedSimpArgs false
namespace Go.Proofs.Ytecpapkffinlbaa

/-- The element at a place, 0 behind the end. -/
def nth (xs : List Nat) (k : Nat) : Nat := xs.getD k 0
/-- All are limbs of 32 bits. -/
def L32 (xs : List Nat) : Prop := ∀ x ∈ xs, x < 4294967296
/-- The number that limbs tell, the lowest first. -/
def val : List Nat → Nat
  | [] => 0
  | x :: r => x + 4294967296 * val r
/-- 4294967296 to the k. -/
def bp (k : Nat) : Nat := 4294967296 ^ k
/-- No 0 at the end. -/
def Can (xs : List Nat) : Prop := L32 xs ∧ (xs = [] ∨ nth xs (xs.length - 1) ≠ 0)

theorem nth_lt {xs : List Nat} (h : L32 xs) (k : Nat) : nth xs k < 4294967296 := by
  unfold nth
  rw [List.getD_eq_getElem?_getD]
  by_cases hk : k < xs.length
  · rw [List.getElem?_eq_getElem hk]; exact h _ (List.getElem_mem hk)
  · rw [List.getElem?_eq_none (by omega)]; simp
theorem nth_get {xs : List Nat} {k : Nat} (h : k < xs.length) : nth xs k = xs[k] := by simp [nth, h]
theorem nth_none {xs : List Nat} {k : Nat} (h : xs.length ≤ k) : nth xs k = 0 := by simp [nth, h]
theorem nth_nil (k : Nat) : nth [] k = 0 := by simp [nth]
theorem nth_cons_zero (x : Nat) (r : List Nat) : nth (x :: r) 0 = x := by simp [nth]
theorem nth_cons_succ (x : Nat) (r : List Nat) (k : Nat) : nth (x :: r) (k + 1) = nth r k := by simp [nth]
theorem nth_append_left {xs ys : List Nat} {k : Nat} (h : k < xs.length) : nth (xs ++ ys) k = nth xs k := by
  unfold nth; simp [List.getD_eq_getElem?_getD, List.getElem?_append_left h]
theorem nth_append_right {xs ys : List Nat} {k : Nat} (h : xs.length ≤ k) : nth (xs ++ ys) k = nth ys (k - xs.length) := by
  unfold nth; simp [List.getD_eq_getElem?_getD, List.getElem?_append_right h]
theorem nth_take {xs : List Nat} {k n : Nat} (h : k < n) : nth (xs.take n) k = nth xs k := by
  unfold nth; simp [List.getD_eq_getElem?_getD, List.getElem?_take, h]
theorem nth_drop (xs : List Nat) (n k : Nat) : nth (xs.drop n) k = nth xs (n + k) := by
  unfold nth; simp [List.getD_eq_getElem?_getD]
theorem nth_replicate_zero (n k : Nat) : nth (List.replicate n 0) k = 0 := by
  unfold nth; rw [List.getD_eq_getElem?_getD, List.getElem?_replicate]; split <;> rfl

theorem L32.nil : L32 [] := fun _ h => absurd h (by simp)
theorem L32.cons {x : Nat} {r : List Nat} : L32 (x :: r) ↔ x < 4294967296 ∧ L32 r := by simp [L32]
theorem L32.append {xs ys : List Nat} : L32 (xs ++ ys) ↔ L32 xs ∧ L32 ys := by
  constructor
  · intro h; exact ⟨fun x hx => h x (by simp [hx]), fun x hx => h x (by simp [hx])⟩
  · rintro ⟨h1, h2⟩ x hx
    rcases List.mem_append.1 hx with h | h
    · exact h1 x h
    · exact h2 x h
theorem L32.take {xs : List Nat} (h : L32 xs) (n : Nat) : L32 (xs.take n) := fun x hx => h x (List.mem_of_mem_take hx)
theorem L32.drop {xs : List Nat} (h : L32 xs) (n : Nat) : L32 (xs.drop n) := fun x hx => h x (List.mem_of_mem_drop hx)
theorem L32.snoc {xs : List Nat} {x : Nat} (h : L32 xs) (hx : x < 4294967296) : L32 (xs ++ [x]) := L32.append.2 ⟨h, L32.cons.2 ⟨hx, L32.nil⟩⟩
theorem L32.replicate (n : Nat) : L32 (List.replicate n 0) := fun x hx => by rw [(List.mem_replicate.1 hx).2]; omega

theorem bp_zero : bp 0 = 1 := rfl
theorem bp_succ (k : Nat) : bp (k + 1) = 4294967296 * bp k := by unfold bp; rw [Nat.pow_succ, Nat.mul_comm]
theorem bp_add (j k : Nat) : bp (j + k) = bp j * bp k := by unfold bp; rw [Nat.pow_add]
theorem bp_pos (k : Nat) : 0 < bp k := Nat.pow_pos (by omega)

theorem val_nil : val [] = 0 := rfl
theorem val_cons (x : Nat) (r : List Nat) : val (x :: r) = x + 4294967296 * val r := rfl
theorem val_append (xs ys : List Nat) : val (xs ++ ys) = val xs + bp xs.length * val ys := by
  induction xs with
  | nil => simp [val, bp]
  | cons x r ih => simp only [List.cons_append, val_cons, ih, List.length_cons, bp_succ, Nat.mul_add, Nat.mul_assoc, Nat.add_assoc]
theorem val_snoc (xs : List Nat) (y : Nat) : val (xs ++ [y]) = val xs + bp xs.length * y := by rw [val_append]; simp [val]
theorem val_replicate (n : Nat) : val (List.replicate n 0) = 0 := by
  induction n with
  | zero => rfl
  | succ n ih => rw [List.replicate_succ, val_cons, ih]
theorem val_lt {xs : List Nat} (h : L32 xs) : val xs < bp xs.length := by
  induction xs with
  | nil => simp [val, bp]
  | cons x r ih =>
    obtain ⟨h1, h2⟩ := L32.cons.1 h
    have := ih h2
    rw [val_cons, List.length_cons, bp_succ]; omega
theorem take_succ_nth {xs : List Nat} {k : Nat} (h : k < xs.length) : xs.take (k + 1) = xs.take k ++ [nth xs k] := by
  rw [List.take_succ_eq_append_getElem h, nth_get h]
theorem drop_eq_nth {xs : List Nat} {k : Nat} (h : k < xs.length) : xs.drop k = nth xs k :: xs.drop (k + 1) := by
  rw [List.drop_eq_getElem_cons h, nth_get h]
theorem val_take_succ {xs : List Nat} (k : Nat) : val (xs.take (k + 1)) = val (xs.take k) + bp k * nth xs k := by
  by_cases h : k < xs.length
  · rw [take_succ_nth h, val_snoc, List.length_take, Nat.min_eq_left (by omega)]
  · rw [nth_none (by omega), List.take_of_length_le (by omega), List.take_of_length_le (by omega)]; omega
theorem val_drop {xs : List Nat} (k : Nat) : val (xs.drop k) = nth xs k + 4294967296 * val (xs.drop (k + 1)) := by
  by_cases h : k < xs.length
  · rw [drop_eq_nth h, val_cons]
  · rw [nth_none (by omega), List.drop_of_length_le (by omega), List.drop_of_length_le (by omega)]; rfl
theorem val_split (xs : List Nat) (k : Nat) (h : k ≤ xs.length) : val xs = val (xs.take k) + bp k * val (xs.drop k) := by
  have := val_append (xs.take k) (xs.drop k)
  rw [List.take_append_drop, List.length_take, Nat.min_eq_left h] at this
  exact this
theorem val_le_of_take {xs : List Nat} (k : Nat) (h : ∀ j, k ≤ j → j < xs.length → nth xs j = 0) : val (xs.take k) = val xs := by
  induction xs generalizing k with
  | nil => simp
  | cons x r ih =>
    cases k with
    | zero =>
      have hx : x = 0 := h 0 (by omega) (by simp)
      have hr := ih 0 (fun j _ hj => by have := h (j + 1) (by omega) (by simp; omega); rwa [nth_cons_succ] at this)
      rw [List.take_zero, val_nil] at hr ⊢
      rw [val_cons, hx, ← hr]
    | succ k =>
      rw [List.take_succ_cons, val_cons, val_cons, ih k (fun j hk hj => by have := h (j + 1) (by omega) (by simp; omega); rwa [nth_cons_succ] at this)]

theorem Can.l32 {xs : List Nat} (h : Can xs) : L32 xs := h.1
theorem Can.nil : Can [] := ⟨L32.nil, .inl rfl⟩
/-- A list without 0 at its end is no less than the place of its last limb. -/
theorem Can.ge {xs : List Nat} (h : Can xs) (hne : xs ≠ []) : bp (xs.length - 1) ≤ val xs := by
  have hl : 0 < xs.length := List.length_pos_iff.2 hne
  have hn : nth xs (xs.length - 1) ≠ 0 := h.2.resolve_left hne
  rw [val_split xs (xs.length - 1) (by omega)]
  have : val (xs.drop (xs.length - 1)) = nth xs (xs.length - 1) := by
    rw [val_drop, List.drop_of_length_le (by omega), val_nil]; omega
  rw [this]
  have : bp (xs.length - 1) * 1 ≤ bp (xs.length - 1) * nth xs (xs.length - 1) := Nat.mul_le_mul_left _ (by omega)
  omega
theorem bp_mono {j k : Nat} (h : j ≤ k) : bp j ≤ bp k := Nat.pow_le_pow_right (by omega) h
theorem bp_lt {j k : Nat} (h : j < k) : bp j < bp k := Nat.pow_lt_pow_right (by omega) h
theorem Can.val_zero {xs : List Nat} (h : Can xs) (hv : val xs = 0) : xs = [] := by
  by_cases hne : xs = []
  · exact hne
  · have := h.ge hne; have := bp_pos (xs.length - 1); omega
/-- A shorter one tells less. -/
theorem Can.lt_of_length {xs ys : List Nat} (hx : L32 xs) (hy : Can ys) (h : xs.length < ys.length) : val xs < val ys := by
  have h1 := val_lt hx
  have h2 := hy.ge (by intro e; rw [e] at h; simp at h)
  have h3 : bp xs.length ≤ bp (ys.length - 1) := bp_mono (by omega)
  omega
theorem Can.length_eq {xs ys : List Nat} (hx : Can xs) (hy : Can ys) (h : val xs = val ys) : xs.length = ys.length := by
  rcases Nat.lt_trichotomy xs.length ys.length with hl | hl | hl
  · have := Can.lt_of_length hx.1 hy hl; omega
  · exact hl
  · have := Can.lt_of_length hy.1 hx hl; omega
theorem val_inj : ∀ {xs ys : List Nat}, L32 xs → L32 ys → xs.length = ys.length → val xs = val ys → xs = ys
  | [], [], _, _, _, _ => rfl
  | [], _ :: _, _, _, h, _ => by simp at h
  | _ :: _, [], _, _, h, _ => by simp at h
  | x :: r, y :: s, hx, hy, hl, hv => by
    obtain ⟨h1, h2⟩ := L32.cons.1 hx
    obtain ⟨h3, h4⟩ := L32.cons.1 hy
    rw [val_cons, val_cons] at hv
    have e1 : x = y := by omega
    have e2 : val r = val s := by omega
    rw [e1, val_inj h2 h4 (by simpa using hl) e2]
/-- A list without 0 at its end is told by its number. -/
theorem Can.inj {xs ys : List Nat} (hx : Can xs) (hy : Can ys) (h : val xs = val ys) : xs = ys := val_inj hx.1 hy.1 (hx.length_eq hy h) h

/-- Comparing lists of one length from their highest limb on. -/
theorem val_lt_of_high {xs ys : List Nat} (hx : L32 xs) (hy : L32 ys) (k : Nat) (hl : xs.length = ys.length) (hk : k < xs.length) (hlt : nth xs k < nth ys k)
    (heq : ∀ j, k < j → j < xs.length → nth xs j = nth ys j) : val xs < val ys := by
  have e : xs.drop (k + 1) = ys.drop (k + 1) := by
    apply List.ext_getElem
    · simp [hl]
    · intro i h1 h2
      have h3 : k + 1 + i < xs.length := by simp at h1; omega
      have := heq (k + 1 + i) (by omega) h3
      rw [nth_get h3, nth_get (by omega)] at this
      simp [this]
  rw [val_split xs k (by omega), val_split ys k (by omega), val_drop k (xs := xs), val_drop k (xs := ys), e]
  have h1 := val_lt (hx.take k)
  rw [List.length_take, Nat.min_eq_left (by omega)] at h1
  generalize val (ys.drop (k + 1)) = d
  have h2 : bp k * (nth xs k + 1 + 4294967296 * d) ≤ bp k * (nth ys k + 4294967296 * d) := Nat.mul_le_mul_left _ (by omega)
  have h3 : bp k * (nth xs k + 1 + 4294967296 * d) = bp k * (nth xs k + 4294967296 * d) + bp k := by rw [Nat.add_right_comm, Nat.mul_add, Nat.mul_one]
  omega

/-- How much is left when 0 at the end is dropped, of the first k. -/
def tl (xs : List Nat) : Nat → Nat
  | 0 => 0
  | k + 1 => if nth xs k = 0 then tl xs k else k + 1
theorem tl_le (xs : List Nat) (k : Nat) : tl xs k ≤ k := by
  induction k with
  | zero => simp [tl]
  | succ k ih => unfold tl; split <;> omega
theorem tl_zero (xs : List Nat) : ∀ (k j : Nat), tl xs k ≤ j → j < k → nth xs j = 0
  | 0, j, _, h2 => absurd h2 (by omega)
  | k + 1, j, h1, h2 => by
    unfold tl at h1
    split at h1
    · rename_i hz
      by_cases e : j = k
      · rw [e]; exact hz
      · exact tl_zero xs k j h1 (by omega)
    · omega
theorem tl_pos (xs : List Nat) : ∀ k, 0 < tl xs k → nth xs (tl xs k - 1) ≠ 0
  | 0, h => absurd h (by simp [tl])
  | k + 1, h => by
    by_cases hz : nth xs k = 0
    · have e : tl xs (k + 1) = tl xs k := by simp [tl, hz]
      rw [e] at h ⊢
      exact tl_pos xs k h
    · have e : tl xs (k + 1) = k + 1 := by simp [tl, hz]
      rw [e]
      exact hz
theorem tl_step {xs : List Nat} {j : Nat} (h : nth xs j = 0) : tl xs (j + 1) = tl xs j := by simp [tl, h]
theorem tl_stop {xs : List Nat} {j : Nat} (h : nth xs j ≠ 0) : tl xs (j + 1) = j + 1 := by simp [tl, h]
/-- What is left. -/
def trimmed (xs : List Nat) : List Nat := xs.take (tl xs xs.length)
theorem trimmed_length (xs : List Nat) : (trimmed xs).length = tl xs xs.length := by
  unfold trimmed; rw [List.length_take, Nat.min_eq_left (tl_le _ _)]
theorem trimmed_val (xs : List Nat) : val (trimmed xs) = val xs := val_le_of_take _ (fun j h1 h2 => tl_zero xs _ j h1 h2)
theorem trimmed_can {xs : List Nat} (h : L32 xs) : Can (trimmed xs) := by
  refine ⟨h.take _, ?_⟩
  by_cases hz : 0 < tl xs xs.length
  · right
    rw [trimmed_length]
    unfold trimmed
    rw [nth_take (by omega)]
    exact tl_pos xs _ hz
  · left
    apply List.eq_nil_of_length_eq_zero
    rw [trimmed_length]; omega
theorem div_cast (t : Nat) : ((t : Nat) : Int) / 4294967296 = ((t / 4294967296 : Nat) : Int) := by omega
theorem rem_cast (t : Nat) : ((t : Nat) : Int) % 4294967296 = ((t % 4294967296 : Nat) : Int) := by omega
/-- A sum cut into a limb and a carry, at its place. -/
theorem cut_place (k t : Nat) : bp k * (t % 4294967296) + bp (k + 1) * (t / 4294967296) = bp k * t := by
  rw [bp_succ]
  conv => rhs; rw [← Nat.mod_add_div t 4294967296]
  rw [Nat.mul_add, ← Nat.mul_assoc (bp k) 4294967296, Nat.mul_comm 4294967296 (bp k)]
/-- What is no less than the place of its last limb has none that is 0 at its end. -/
theorem can_of_ge {zs : List Nat} (h : L32 zs) (hv : zs = [] ∨ bp (zs.length - 1) ≤ val zs) : Can zs := by
  refine ⟨h, ?_⟩
  rcases hv with e | hv
  · exact .inl e
  · by_cases hn : zs = []
    · exact .inl hn
    · right
      intro h0
      have hl : 0 < zs.length := List.length_pos_iff.2 hn
      have := val_split zs (zs.length - 1) (by omega)
      rw [val_drop, h0, List.drop_of_length_le (by omega), val_nil] at this
      have h1 := val_lt (h.take (zs.length - 1))
      rw [List.length_take, Nat.min_eq_left (by omega)] at h1
      omega
theorem set_snoc (new rest : List Nat) {k : Nat} (x y : Nat) (h : k = new.length) : (new ++ (y :: rest)).set k x = (new ++ [x]) ++ rest := by
  subst h
  rw [List.set_append_right _ _ (by omega)]
  simp
theorem nth_snoc (new rest : List Nat) {k : Nat} (y : Nat) (h : k = new.length) : nth (new ++ (y :: rest)) k = y := by
  subst h
  rw [nth_append_right (by omega), Nat.sub_self, nth_cons_zero]
end Go.Proofs.Ytecpapkffinlbaa
