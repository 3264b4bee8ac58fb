/-
  Plain mathematics of decimal digits: the number that a list of digits tells, the lowest first; lists without 0 at their end. No Go, no condition.
  Words for memory: a row of ints that are not negative, of the call's own.
  Words for memory: a slice of ints that are not negative, read; what an append to a row of ints leaves. Plain definitions and lemmas; no condition.
  Contracts of the reference's Trim and times.
-/
import Derived.Test.YtpmdcahomkdfmaaGreatDoorBNlimb
import Derived.Test.YtpmdcahomkdfmaaGreatDoorBNaddm
import Derived.Outline
set_option linter.unusedVariables false
set_option linter.unusedSimpArgs false
namespace Go.Proofs.YtpmdcahomkdfmaaGreatDoor

/-- All are decimal digits. -/
def D10 (xs : List Nat) : Prop := ∀ x ∈ xs, x < 10
/-- The number that digits tell, the lowest first. -/
def dval : List Nat → Nat
  | [] => 0
  | x :: r => x + 10 * dval r
/-- 10 to the k. -/
def dp (k : Nat) : Nat := 10 ^ k
/-- No 0 at the end. -/
def DCan (xs : List Nat) : Prop := D10 xs ∧ (xs = [] ∨ nth xs (xs.length - 1) ≠ 0)

theorem dth_lt {xs : List Nat} (h : D10 xs) (k : Nat) : nth xs k < 10 := by
  unfold nth
  rw [List.getD_eq_getElem?_getD]
  by_cases hk : k < xs.length
  · rw [List.getElem?_eq_getElem hk]; exact h _ (List.getElem_mem hk)
  · rw [List.getElem?_eq_none (by omega)]; simp
theorem D10.nil : D10 [] := fun _ h => absurd h (by simp)
theorem D10.cons {x : Nat} {r : List Nat} : D10 (x :: r) ↔ x < 10 ∧ D10 r := by simp [D10]
theorem D10.append {xs ys : List Nat} : D10 (xs ++ ys) ↔ D10 xs ∧ D10 ys := by
  constructor
  · intro h; exact ⟨fun x hx => h x (by simp [hx]), fun x hx => h x (by simp [hx])⟩
  · rintro ⟨h1, h2⟩ x hx
    rcases List.mem_append.1 hx with h | h
    · exact h1 x h
    · exact h2 x h
theorem D10.take {xs : List Nat} (h : D10 xs) (n : Nat) : D10 (xs.take n) := fun x hx => h x (List.mem_of_mem_take hx)
theorem D10.drop {xs : List Nat} (h : D10 xs) (n : Nat) : D10 (xs.drop n) := fun x hx => h x (List.mem_of_mem_drop hx)
theorem D10.snoc {xs : List Nat} {x : Nat} (h : D10 xs) (hx : x < 10) : D10 (xs ++ [x]) := D10.append.2 ⟨h, D10.cons.2 ⟨hx, D10.nil⟩⟩
theorem D10.replicate (n : Nat) : D10 (List.replicate n 0) := fun x hx => by rw [(List.mem_replicate.1 hx).2]; omega

theorem dp_zero : dp 0 = 1 := rfl
theorem dp_succ (k : Nat) : dp (k + 1) = 10 * dp k := by unfold dp; rw [Nat.pow_succ, Nat.mul_comm]
theorem dp_add (j k : Nat) : dp (j + k) = dp j * dp k := by unfold dp; rw [Nat.pow_add]
theorem dp_pos (k : Nat) : 0 < dp k := Nat.pow_pos (by omega)

theorem dval_nil : dval [] = 0 := rfl
theorem dval_cons (x : Nat) (r : List Nat) : dval (x :: r) = x + 10 * dval r := rfl
theorem dval_append (xs ys : List Nat) : dval (xs ++ ys) = dval xs + dp xs.length * dval ys := by
  induction xs with
  | nil => simp [dval, dp]
  | cons x r ih => simp only [List.cons_append, dval_cons, ih, List.length_cons, dp_succ, Nat.mul_add, Nat.mul_assoc, Nat.add_assoc]
theorem dval_snoc (xs : List Nat) (y : Nat) : dval (xs ++ [y]) = dval xs + dp xs.length * y := by rw [dval_append]; simp [dval]
theorem dval_replicate (n : Nat) : dval (List.replicate n 0) = 0 := by
  induction n with
  | zero => rfl
  | succ n ih => rw [List.replicate_succ, dval_cons, ih]
theorem dval_lt {xs : List Nat} (h : D10 xs) : dval xs < dp xs.length := by
  induction xs with
  | nil => simp [dval, dp]
  | cons x r ih =>
    obtain ⟨h1, h2⟩ := D10.cons.1 h
    have := ih h2
    rw [dval_cons, List.length_cons, dp_succ]; omega
theorem dval_take_succ {xs : List Nat} (k : Nat) : dval (xs.take (k + 1)) = dval (xs.take k) + dp k * nth xs k := by
  by_cases h : k < xs.length
  · rw [take_succ_nth h, dval_snoc, List.length_take, Nat.min_eq_left (by omega)]
  · rw [nth_none (by omega), List.take_of_length_le (by omega), List.take_of_length_le (by omega)]; omega
theorem dval_drop {xs : List Nat} (k : Nat) : dval (xs.drop k) = nth xs k + 10 * dval (xs.drop (k + 1)) := by
  by_cases h : k < xs.length
  · rw [drop_eq_nth h, dval_cons]
  · rw [nth_none (by omega), List.drop_of_length_le (by omega), List.drop_of_length_le (by omega)]; rfl
theorem dval_split (xs : List Nat) (k : Nat) (h : k ≤ xs.length) : dval xs = dval (xs.take k) + dp k * dval (xs.drop k) := by
  have := dval_append (xs.take k) (xs.drop k)
  rw [List.take_append_drop, List.length_take, Nat.min_eq_left h] at this
  exact this
theorem dval_le_of_take {xs : List Nat} (k : Nat) (h : ∀ j, k ≤ j → j < xs.length → nth xs j = 0) : dval (xs.take k) = dval xs := by
  induction xs generalizing k with
  | nil => simp
  | cons x r ih =>
    cases k with
    | zero =>
      have hx : x = 0 := h 0 (by omega) (by simp)
      have hr := ih 0 (fun j _ hj => by have := h (j + 1) (by omega) (by simp; omega); rwa [nth_cons_succ] at this)
      rw [List.take_zero, dval_nil] at hr ⊢
      rw [dval_cons, hx, ← hr]
    | succ k =>
      rw [List.take_succ_cons, dval_cons, dval_cons, ih k (fun j hk hj => by have := h (j + 1) (by omega) (by simp; omega); rwa [nth_cons_succ] at this)]

theorem DCan.l32 {xs : List Nat} (h : DCan xs) : D10 xs := h.1
theorem DCan.nil : DCan [] := ⟨D10.nil, .inl rfl⟩
/-- A list without 0 at its end is no less than the place of its last limb. -/
theorem DCan.ge {xs : List Nat} (h : DCan xs) (hne : xs ≠ []) : dp (xs.length - 1) ≤ dval xs := by
  have hl : 0 < xs.length := List.length_pos_iff.2 hne
  have hn : nth xs (xs.length - 1) ≠ 0 := h.2.resolve_left hne
  rw [dval_split xs (xs.length - 1) (by omega)]
  have : dval (xs.drop (xs.length - 1)) = nth xs (xs.length - 1) := by
    rw [dval_drop, List.drop_of_length_le (by omega), dval_nil]; omega
  rw [this]
  have : dp (xs.length - 1) * 1 ≤ dp (xs.length - 1) * nth xs (xs.length - 1) := Nat.mul_le_mul_left _ (by omega)
  omega
theorem dp_mono {j k : Nat} (h : j ≤ k) : dp j ≤ dp k := Nat.pow_le_pow_right (by omega) h
theorem DCan.dval_zero {xs : List Nat} (h : DCan xs) (hv : dval xs = 0) : xs = [] := by
  by_cases hne : xs = []
  · exact hne
  · have := h.ge hne; have := dp_pos (xs.length - 1); omega
/-- A shorter one tells less. -/
theorem DCan.lt_of_length {xs ys : List Nat} (hx : D10 xs) (hy : DCan ys) (h : xs.length < ys.length) : dval xs < dval ys := by
  have h1 := dval_lt hx
  have h2 := hy.ge (by intro e; rw [e] at h; simp at h)
  have h3 : dp xs.length ≤ dp (ys.length - 1) := dp_mono (by omega)
  omega
theorem DCan.length_eq {xs ys : List Nat} (hx : DCan xs) (hy : DCan ys) (h : dval xs = dval ys) : xs.length = ys.length := by
  rcases Nat.lt_trichotomy xs.length ys.length with hl | hl | hl
  · have := DCan.lt_of_length hx.1 hy hl; omega
  · exact hl
  · have := DCan.lt_of_length hy.1 hx hl; omega
theorem dval_inj : ∀ {xs ys : List Nat}, D10 xs → D10 ys → xs.length = ys.length → dval xs = dval ys → xs = ys
  | [], [], _, _, _, _ => rfl
  | [], _ :: _, _, _, h, _ => by simp at h
  | _ :: _, [], _, _, h, _ => by simp at h
  | x :: r, y :: s, hx, hy, hl, hv => by
    obtain ⟨h1, h2⟩ := D10.cons.1 hx
    obtain ⟨h3, h4⟩ := D10.cons.1 hy
    rw [dval_cons, dval_cons] at hv
    have e1 : x = y := by omega
    have e2 : dval r = dval s := by omega
    rw [e1, dval_inj h2 h4 (by simpa using hl) e2]
/-- A list without 0 at its end is told by its number. -/
theorem DCan.inj {xs ys : List Nat} (hx : DCan xs) (hy : DCan ys) (h : dval xs = dval ys) : xs = ys := dval_inj hx.1 hy.1 (hx.length_eq hy h) h

theorem trimmed_dval (xs : List Nat) : dval (trimmed xs) = dval xs := dval_le_of_take _ (fun j h1 h2 => tl_zero xs _ j h1 h2)
theorem trimmed_dcan {xs : List Nat} (h : D10 xs) : DCan (trimmed xs) := by
  refine ⟨h.take _, ?_⟩
  by_cases hz : 0 < tl xs xs.length
  · right
    rw [trimmed_length]
    unfold trimmed
    rw [nth_take (by omega)]
    exact tl_pos xs _ hz
  · left
    apply List.eq_nil_of_length_eq_zero
    rw [trimmed_length]; omega
/-- What is no less than the place of its last limb has none that is 0 at its end. -/
theorem dcan_of_ge {zs : List Nat} (h : D10 zs) (hv : zs = [] ∨ dp (zs.length - 1) ≤ dval zs) : DCan zs := by
  refine ⟨h, ?_⟩
  rcases hv with e | hv
  · exact .inl e
  · by_cases hn : zs = []
    · exact .inl hn
    · right
      intro h0
      have hl : 0 < zs.length := List.length_pos_iff.2 hn
      have := dval_split zs (zs.length - 1) (by omega)
      rw [dval_drop, h0, List.drop_of_length_le (by omega), dval_nil] at this
      have h1 := dval_lt (h.take (zs.length - 1))
      rw [List.length_take, Nat.min_eq_left (by omega)] at h1
      omega
end Go.Proofs.YtpmdcahomkdfmaaGreatDoor

namespace Go.Proofs.YtpmdcahomkdfmaaGreatDoor
open Go.RowKit

def LI (xs : List Nat) : Prop := ∀ x ∈ xs, x < 9223372036854775808
theorem LI.take {xs : List Nat} (h : LI xs) (n : Nat) : LI (xs.take n) := fun x hx => h x (List.mem_of_mem_take hx)
theorem LI.nil : LI [] := fun _ h => absurd h (by simp)
theorem LI.append {xs ys : List Nat} (h1 : LI xs) (h2 : LI ys) : LI (xs ++ ys) := fun x hx => by
  rcases List.mem_append.1 hx with h | h
  · exact h1 x h
  · exact h2 x h
theorem LI.one {x : Nat} (h : x < 9223372036854775808) : LI [x] := fun y hy => by rw [List.mem_singleton.1 hy]; exact h
def i64s (xs : List Nat) : List Value := xs.map fun (x : Nat) => Value.int IntKind.i64 (x : Int)

/-- The slice value '.slice A n c' is a row of the call's own, from block base on, and holds the octets zs. -/
structure ResI (w : World) (base : Nat) (A : Option Addr) (n c : Nat) (zs : List Nat) : Prop where
  len : zs.length = n
  l32 : LI zs
  own : w.ownsRow base 3 1 (.slice A n c) n (i64s zs)

section
variable {w w' : World} {base n c : Nat} {A : Option Addr} {zs : List Nat}
theorem i64s_length (xs : List Nat) : (i64s xs).length = xs.length := by simp [i64s]
theorem i64s_get {xs : List Nat} {k : Nat} (h : k < xs.length) : (i64s xs)[k]? = some (.int IntKind.i64 (nth xs k : Int)) := by
  simp [i64s, nth_get h, h]
theorem i64s_append (xs ys : List Nat) : i64s (xs ++ ys) = i64s xs ++ i64s ys := by simp [i64s]
theorem i64s_take (xs : List Nat) (k : Nat) : i64s (xs.take k) = (i64s xs).take k := by simp [i64s]
theorem i64s_set (xs : List Nat) (k x : Nat) : i64s (xs.set k x) = (i64s xs).set k (.int IntKind.i64 (x : Int)) := by simp [i64s]
theorem LI.set {xs : List Nat} (h : LI xs) {k x : Nat} (hx : x < 9223372036854775808) : LI (xs.set k x) := fun y hy => by
  rcases List.mem_or_eq_of_mem_set hy with h1 | h1
  · exact h y h1
  · rw [h1]; exact hx

theorem ResI.nil (w : World) (base : Nat) : ResI w base none 0 0 [] := ⟨rfl, LI.nil, World.ownsRow_nil w base _ 1⟩
theorem ResI.form (h : ResI w base A n c zs) : (A = none ∧ n = 0 ∧ c = 0) ∨ ∃ g, A = some ⟨g, 0, none⟩ ∧ base ≤ g ∧ g < w.heap.size := by
  rcases h.own.2 with ⟨e, h0⟩ | ⟨g, cap, cur, e, hb, hh, _⟩
  · injection e with e1 e2 e3; exact .inl ⟨e1, e2, e3⟩
  · injection e with e1 e2 e3; exact .inr ⟨g, e1, hb, (Array.getElem?_eq_some_iff.1 hh).1⟩
theorem ResI.n_le (h : ResI w base A n c zs) : n ≤ c ∧ c ≤ maxLen := by
  rcases h.own.2 with ⟨e, h0⟩ | ⟨g, cap, cur, e, hb, hh, h1, h2, _⟩
  · injection e with e1 e2 e3; subst e3; exact ⟨by omega, Nat.zero_le _⟩
  · injection e with e1 e2 e3; subst e3; exact ⟨h1, h2⟩
theorem ResI.cell {g j : Nat} (h : ResI w base (some ⟨g, 0, none⟩) n c zs) (hj : j < n) : w.cell? ⟨g, j, none⟩ = some (.int IntKind.i64 (nth zs j : Int)) := by
  rw [h.own.cellAt j (by omega), i64s_get (by rw [h.len]; exact hj)]
theorem ResI.frozen {g : Nat} (h : ResI w base (some ⟨g, 0, none⟩) n c zs) (j : Nat) : w.frozen? ⟨g, j, none⟩ = false := h.own.frozenAt j
theorem ResI.take {k : Nat} (h : ResI w base A n c zs) (hk : k ≤ n) : ResI w base A k c (zs.take k) := by
  refine ⟨by rw [List.length_take, h.len]; omega, h.l32.take k, by rw [i64s_length, List.length_take, h.len]; omega, ?_⟩
  rcases h.own.2 with ⟨e, h0⟩ | ⟨g, cap, cur, e, hb, hh, h1, h2, h3, h4⟩
  · injection e with e1 e2 e3; subst e1 e3; exact .inl ⟨by rw [show k = 0 by omega], by omega⟩
  · injection e with e1 e2 e3; subst e1 e3
    exact .inr ⟨g, c, cur, rfl, hb, hh, by omega, h2, h3, by rw [i64s_take, ← h4, List.take_take]; congr 1; omega⟩
theorem ResI.set {g j x : Nat} (h : ResI w base (some ⟨g, 0, none⟩) n c zs) (hx : x < 9223372036854775808) : ResI (w.setCell ⟨g, j, none⟩ (.int IntKind.i64 (x : Int))) base (some ⟨g, 0, none⟩) n c (zs.set j x) :=
  ⟨by rw [List.length_set, h.len], h.l32.set hx, by rw [i64s_set]; exact (h.own.stored j _).1⟩
theorem ResI.more {base' : Nat} (h : ResI w base A n c zs) (hb : base' ≤ base) : ResI w base' A n c zs := by
  refine ⟨h.len, h.l32, h.own.1, ?_⟩
  rcases h.own.2 with h0 | ⟨g, cap, cur, e, hb', rest⟩
  · exact .inl h0
  · exact .inr ⟨g, cap, cur, e, by omega, rest⟩
/-- Kept where its block is left alone. -/
theorem ResI.keep (h : ResI w base A n c zs) (hk : ∀ g, A = some ⟨g, 0, none⟩ → w'.heap[g]? = w.heap[g]?) : ResI w' base A n c zs := by
  refine ⟨h.len, h.l32, h.own.1, ?_⟩
  rcases h.own.2 with h0 | ⟨g, cap, cur, e, hb', hh, rest⟩
  · exact .inl h0
  · refine .inr ⟨g, cap, cur, e, hb', ?_, rest⟩
    injection e with e1 e2 e3
    rw [hk g e1]; exact hh
theorem ResI.below {B : Nat} (h : ResI w base A n c zs) (hb : Below B w w') (hB : w.heap.size ≤ B) : ResI w' base A n c zs :=
  h.keep fun g e => by
    rcases h.form with ⟨h0, _⟩ | ⟨g', e', _, hlt⟩
    · rw [h0] at e; cases e
    · rw [e'] at e; injection e with e; injection e with e; subst e; exact hb.block g' (by omega)
theorem ResI.grown {row : Option Nat} (h : ResI w base A n c zs) (hg : w.grownBy w' row) (hr : ∀ g, A = some ⟨g, 0, none⟩ → some g ≠ row) : ResI w' base A n c zs :=
  h.keep fun g e => by
    rcases h.form with ⟨h0, _⟩ | ⟨g', e', _, hlt⟩
    · rw [h0] at e; cases e
    · have : g' = g := by rw [e'] at e; injection e with e; injection e
      subst this; exact hg.block g' hlt (hr _ e)
end

theorem infoI : (Tryz.prog.info? 3).map (fun i => (i.zero, i.size, i.bytes)) = some (some (.int IntKind.i64 0), 1, 8) := by kernel_rfl
theorem ResI.of_row {w : World} {base n : Nat} {v : Value} {xs : List Nat} (hl : xs.length = n) (hI : LI xs) (h : w.ownsRow base 3 1 v n (i64s xs)) : ∃ A c, v = .slice A n c ∧ ResI w base A n c xs := by
  rcases h.2 with ⟨e, h0⟩ | ⟨g, cap, cur, e, _⟩
  · subst h0
    exact ⟨none, 0, e, hl, hI, e ▸ h⟩
  · exact ⟨_, cap, e, hl, hI, e ▸ h⟩

end Go.Proofs.YtpmdcahomkdfmaaGreatDoor

namespace Go.Proofs.YtpmdcahomkdfmaaGreatDoor
open Go.RowKit

/-- The slice value '.slice A n c' reads as the numbers xs in world w, in blocks of S. -/
structure RdI (w : World) (S : Nat → Prop) (A : Option Addr) (n : Nat) (xs : List Nat) : Prop where
  len : xs.length = n
  li : LI xs
  cells : 0 < n → ∃ b off, A = some ⟨b, off, none⟩ ∧ S b ∧ ∀ j, j < n → w.cell? ⟨b, off + j, none⟩ = some (.int IntKind.i64 (nth xs j : Int))

section
variable {w w' : World} {S S' : Nat → Prop} {base n c : Nat} {A : Option Addr} {xs zs : List Nat}
theorem RdI.keep (h : RdI w S A n xs) (hk : ∀ p : Addr, S p.block → w'.cell? p = w.cell? p) : RdI w' S A n xs :=
  ⟨h.len, h.li, fun hn => by
    obtain ⟨b, off, e, hb, hc⟩ := h.cells hn
    exact ⟨b, off, e, hb, fun j hj => (hk _ hb).trans (hc j hj)⟩⟩
theorem RdI.more (h : RdI w S A n xs) (hS : ∀ b, S b → S' b) : RdI w S' A n xs :=
  ⟨h.len, h.li, fun hn => by
    obtain ⟨b, off, e, hb, hc⟩ := h.cells hn
    exact ⟨b, off, e, hS b hb, hc⟩⟩
theorem RdI.drew (h : RdI w S A n xs) : RdI w.drew S A n xs := h.keep fun _ _ => rfl
theorem RdI.drewN (h : RdI w S A n xs) (k : Nat) : RdI (w.drewN k) S A n xs := h.keep fun _ _ => rfl
theorem RdI.grown {row : Option Nat} (h : RdI w S A n xs) (hg : w.grownBy w' row) (hr : ∀ b, S b → b < w.heap.size ∧ some b ≠ row) : RdI w' S A n xs :=
  h.keep fun p hp => World.cell?_of_block (hg.block p.block (hr _ hp).1 (hr _ hp).2)
theorem RdI.below {B : Nat} (h : RdI w S A n xs) (hb : Below B w w') (hS : ∀ b, S b → b < B) : RdI w' S A n xs := h.keep fun _ hp => hb.cell (hS _ hp)
theorem RdI.setCell (h : RdI w S A n xs) {p : Addr} (hp : ¬ S p.block) (u : Value) : RdI (w.setCell p u) S A n xs :=
  h.keep fun q hq => World.cell?_setCell_other w p q u (fun e => by subst e; exact hp hq)
theorem RdI.nil (w : World) (S : Nat → Prop) (A : Option Addr) : RdI w S A 0 [] := ⟨rfl, LI.nil, fun h => absurd h (by omega)⟩
theorem RdI.at_ {k : Nat} (h : RdI w S A n xs) (hk : k < n) : ∃ b off, A = some ⟨b, off, none⟩ ∧ S b ∧ w.cell? ⟨b, off + k, none⟩ = some (.int IntKind.i64 (nth xs k : Int)) := by
  obtain ⟨b, off, e, hb, hc⟩ := h.cells (by omega)
  exact ⟨b, off, e, hb, hc k hk⟩
theorem RdI.take {k : Nat} (h : RdI w S A n xs) (hk : k ≤ n) : RdI w S A k (xs.take k) :=
  ⟨by rw [List.length_take, h.len]; omega, h.li.take k, fun h0 => by
    obtain ⟨b, off, e, hb, hc⟩ := h.cells (by omega)
    exact ⟨b, off, e, hb, fun j hj => by rw [nth_take hj]; exact hc j (by omega)⟩⟩
theorem ResI.rd (h : ResI w base A n c zs) : RdI w (fun b => base ≤ b ∧ b < w.heap.size) A n zs := by
  refine ⟨h.len, h.l32, fun hn => ?_⟩
  rcases h.form with ⟨_, h0, _⟩ | ⟨g, rfl, hb, hlt⟩
  · omega
  · refine ⟨g, 0, rfl, ⟨hb, hlt⟩, fun j hj => ?_⟩
    rw [Nat.zero_add, h.own.cellAt j (by omega), i64s_get (by rw [h.len]; exact hj)]
theorem ResI.le (h : ResI w base A n c zs) : n ≤ maxLen := by have := h.n_le; omega
theorem ResI.drew (h : ResI w base A n c zs) : ResI w.drew base A n c zs := h.keep fun _ _ => rfl
theorem ResI.drewN (h : ResI w base A n c zs) (k : Nat) : ResI (w.drewN k) base A n c zs := h.keep fun _ _ => rfl
theorem RdI.cellsAt {ad : Addr} (h : RdI w S (some ad) n xs) : ∀ j u, (i64s xs)[j]? = some u → w.cell? (ad.add j) = some u := by
  intro j u hu
  have hj : j < n := by
    have := (List.getElem?_eq_some_iff.1 hu).1
    rw [i64s_length, h.len] at this; exact this
  obtain ⟨b, off, e, _, hc⟩ := h.cells (by omega)
  injection e with e
  subst e
  rw [Addr.add_lit, hc j hj]
  rw [i64s_get (by rw [h.len]; exact hj)] at hu
  exact hu
theorem i64s_one (xs : List Nat) : ∀ u ∈ i64s xs, u.oneCell' = true := by
  intro u hu
  obtain ⟨x, _, rfl⟩ := List.mem_map.1 hu
  rfl
theorem RdI.none_nil (h : RdI w S none n xs) : n = 0 ∧ xs = [] := by
  rcases Nat.eq_zero_or_pos n with h0 | h0
  · exact ⟨h0, List.eq_nil_of_length_eq_zero (by rw [h.len]; exact h0)⟩
  · obtain ⟨b, off, e, _⟩ := h.cells h0; cases e

/-- What an append of one number leaves. -/
theorem ResI.snoc {g k c' x : Nat} {os : List Nat} (hl : os.length = k) (hI : LI os) (hx : x < 9223372036854775808)
    (ho : w.ownsRow base 3 1 (.slice (some ⟨g, 0, none⟩) (k + 1) c') (k + 1) (i64s os ++ [.int IntKind.i64 (x : Int)])) : ResI w base (some ⟨g, 0, none⟩) (k + 1) c' (os ++ [x]) :=
  ⟨by rw [List.length_append, hl]; rfl, hI.append (LI.one hx), by rw [i64s_append]; exact ho⟩
/-- What lies below stays, where a row of the call's own is appended to. -/
theorem ResI.below_append {B k : Nat} {W w1 : World} {os : List Nat} {o : Obj} (hbel : Below B W w) (hB : B ≤ w.heap.size) (hres : ResI w B A k c os) (hg : (w.alloc o).grownBy w1 (Value.slice A k c).ownBlock) : Below B W w1 :=
  (hbel.alloc hB _).grown hg (by simp; omega) (by
    intro q hq
    rcases hres.form with ⟨h1, _⟩ | ⟨g1, h1, h2, _⟩
    · rw [h1] at hq; simp [Value.ownBlock] at hq
    · rw [h1] at hq; simp [Value.ownBlock] at hq; omega)
theorem D10.li {xs : List Nat} (h : D10 xs) : LI xs := fun x hx => by have := h x hx; omega
theorem LI.snoc {xs : List Nat} (h : LI xs) {x : Nat} (hx : x < 9223372036854775808) : LI (xs ++ [x]) := h.append (LI.one hx)
end

theorem LI.replicate (n : Nat) : LI (List.replicate n 0) := fun x hx => by rw [(List.mem_replicate.1 hx).2]; omega
/-- A row of ints just laid. -/
theorem ResI.lit (w : World) (zs : List Nat) (n : Nat) (hn : zs.length = n) (hl : LI zs) (hm : n ≤ 1099511627776) : ResI (w.alloc (.cells (i64s zs).toArray 3)) w.heap.size (some ⟨w.heap.size, 0, none⟩) n n zs := by
  refine ⟨hn, hl, ?_⟩
  have h := World.ownsRow_lit (base := w.heap.size) (e := 3) (size := 1) w (i64s zs).toArray n (Nat.le_refl _) (by unfold maxLen; omega) (by simp [i64s_length, hn])
  simpa using h

/-- Digits are fewer than a power's exponent. -/
theorem DCan.len_le {ds : List Nat} {m : Nat} (h : DCan ds) (hv : dval ds < 10 ^ m) : ds.length ≤ m := by
  rcases Nat.lt_or_ge m ds.length with h1 | h1
  · have h2 := h.ge (by intro e; rw [e] at h1; simp at h1)
    have h3 := dp_mono (show m ≤ ds.length - 1 by omega)
    unfold dp at h2 h3
    omega
  · exact h1
end Go.Proofs.YtpmdcahomkdfmaaGreatDoor

namespace Go.Proofs.YtpmdcahomkdfmaaGreatDoor
open Go.RowKit

set_option maxRecDepth 100000 in
set_option maxHeartbeats 1000000 in
theorem times_c {base n c : Nat} {A : Option Addr} {ds : List Nat} (b m : Nat) (w : World) (h : ResI w base A n c ds) (hd : DCan ds) (hn : n ≤ 100000) (hb1 : 1 ≤ b) (hb2 : b ≤ 4294967296) (hm : m ≤ 4294967296) :
    Calls Tryz.prog 108 #[.slice A n c, .int .i64 (b : Int), .int .i64 (m : Int)] w fun e w' => ∃ A' n' c' os, e = .returned (.slice A' n' c') ∧ ResI w' w.heap.size A' n' c' os ∧ DCan os ∧ dval os = dval ds * b + m ∧ Below w.heap.size w w' := by
  have HL := Lib.hid h.len
  obtain ⟨i0, hi, hz0, hz1, hz2⟩ := info_parts infoI
  go_enter Tryz.func108, Tryz.ntmps108
  go_wp2
  go_loopw [2, 7, 8] (fun mv ov iv wr => ∃ (k mo : Nat) (Ao : Option Addr) (co : Nat) (os : List Nat), k ≤ n ∧ iv = .int .i64 (k : Int) ∧ mv = .int .i64 (mo : Int) ∧ mo ≤ 4294967296 ∧ ov = .slice Ao k co ∧
      ResI wr w.heap.size Ao k co os ∧ D10 os ∧ Hid (dval os + dp k * mo = dval (ds.take k) * b + m) ∧ Below w.heap.size w wr) (fun _ _ iv _ => n - (RowKit.intOf iv).toNat)
  case atStart => exact ⟨0, m, none, 0, [], Nat.zero_le _, rfl, rfl, hm, rfl, ResI.nil _ _, D10.nil, by show _ = _; rw [List.take_zero, dval_nil, dp_zero]; omega, Below.refl _ _⟩
  case round =>
    obtain ⟨k, mo, Ao, co, os, hk, rfl, rfl, hmo, rfl, hres, hos, hval, hbel⟩ := hrel
    by_cases h0 : k = n
    · subst h0
      have hv := hval.out
      rw [List.take_of_length_le (by rw [HL.out]; exact Nat.le_refl _)] at hv
      have HV := Lib.hid hv
      have hcan0 : Hid (mo = 0 → DCan os) := Lib.hid fun hz => by
        rw [hz, Nat.mul_zero, Nat.add_zero] at hv
        refine dcan_of_ge hos ?_
        rcases Nat.eq_zero_or_pos k with h1 | h1
        · left; exact List.eq_nil_of_length_eq_zero (by rw [hres.len]; exact h1)
        · right
          have h2 := hd.ge (by intro e; have := HL.out; rw [e] at this; simp at this; omega)
          rw [HL.out] at h2
          rw [hres.len, hv]
          have h3 : dval ds * 1 ≤ dval ds * b := Nat.mul_le_mul_left _ hb1
          omega
      clear hv hval hk
      go_wp2
      go_loopw [2, 7] (fun mv ov wr => ∃ (mo : Nat) (Ao : Option Addr) (no co : Nat) (os : List Nat), mv = .int .i64 (mo : Int) ∧ mo ≤ 4294967296 ∧ ov = .slice Ao no co ∧
          ResI wr w.heap.size Ao no co os ∧ D10 os ∧ Hid (dval os + dp no * mo = dval ds * b + m) ∧ Hid (mo = 0 → DCan os) ∧ Hid (∃ j, no = k + j ∧ mo * 10 ^ j ≤ 4294967296) ∧ no ≤ 100020 ∧ Below w.heap.size w wr) (fun mv _ _ => (RowKit.intOf mv).toNat)
      case atStart => exact ⟨mo, Ao, k, co, os, rfl, hmo, rfl, hres, hos, HV, hcan0, Lib.hid ⟨0, rfl, by omega⟩, by omega, hbel⟩
      case round =>
        clear hres hos HV hcan0 hbel hmo
        obtain ⟨mo, Ao, no, co, os, rfl, hmo, rfl, hres, hos, hval, hcan, hj, hno, hbel⟩ := hrel
        by_cases h0 : mo = 0
        · have hlast := hcan.out h0
          have hvl := hval.out
          rw [h0, Nat.mul_zero, Nat.add_zero] at hvl
          have HC := Lib.hid hlast
          have HVL := Lib.hid hvl
          have hm1 : mo < 1 := by omega
          clear h0 hlast hvl
          go_wp2
          go_ret
          exact ⟨_, _, _, os, rfl, hres, HC.out, HVL.out, hbel⟩
        · have hm1 : 0 < mo := by omega
          have hnn : no ≤ 100010 := by
            obtain ⟨j, h1, h2⟩ := hj.out
            rcases Nat.lt_or_ge 10 j with h3 | h3
            · have h4 : (10 : Nat) ^ 11 ≤ 10 ^ j := Nat.pow_le_pow_right (by omega) (by omega)
              have h5 : 1 * 10 ^ j ≤ mo * 10 ^ j := Nat.mul_le_mul_right _ hm1
              omega
            · omega
          have hro : ∀ o, (wr.alloc o).ownsRow w.heap.size 3 1 (.slice Ao no co) no (i64s os) := fun o => hres.own.alloc o
          clear h0
          go_wp2_with (at_builtin; refine wpList_append_own_at _ rfl (.tmp 32) (.tmp 35) _ rfl w.heap.size 3 i0 (.int .i64 0) 1 8 Tryz.underlying45 hi hz0 hz1 hz2 rfl (by decide) (.slice Ao no co) no (i64s os) rfl (hro _) ⟨wr.heap.size, 0, none⟩ 1 1 [.int .i64 ((mo % 10 : Nat) : Int)] rfl rfl (cell_new1 _ _ _ _ rfl) (by simp [Value.oneCell']) (by unfold maxLen; omega) (by omega) (by simp; have := hbel.size; omega) ?_; intro v' w1 hown1 hg1 _ hat1)
          obtain ⟨g', cap', hv'⟩ := ownsRow_succ hown1
          subst hv'
          have hd2 := hos.snoc (x := mo % 10) (by omega)
          refine ⟨⟨mo / 10, _, no + 1, _, os ++ [mo % 10], congrArg (Value.int .i64) (by omega), by omega, rfl, ⟨by rw [List.length_append, hres.len]; rfl, fun z hz => by have := hd2 z hz; omega, by rw [i64s_append]; exact hown1⟩, hd2, ?_, ?_, ?_, by omega, (((hbel.alloc hbel.size _).grown hg1 (by simp; have := hbel.size; omega) (by
          intro q hq
          rcases hres.form with ⟨h1, _⟩ | ⟨g1, h1, h2, _⟩
          · rw [h1] at hq; simp [Value.ownBlock] at hq
          · rw [h1] at hq; simp [Value.ownBlock] at hq; omega)))⟩, by simp [RowKit.intOf]; omega⟩
          · show _ = _
            rw [dval_snoc, hres.len, dp_succ]
            have e : dp no * (mo % 10) + 10 * dp no * (mo / 10) = dp no * mo := by
              conv => rhs; rw [← Nat.mod_add_div mo 10]
              rw [Nat.mul_add, ← Nat.mul_assoc, Nat.mul_comm 10 (dp no)]
            have e3 := hval.out
            omega
          · exact Lib.hid fun hz => ⟨hd2, .inr (by
              rw [List.length_append, List.length_singleton, Nat.add_sub_cancel, nth_append_right (Nat.le_refl _), Nat.sub_self, nth_cons_zero]
              omega)⟩
          · obtain ⟨j, h1, h2⟩ := hj.out
            refine Lib.hid ⟨j + 1, by omega, ?_⟩
            rw [Nat.pow_succ, Nat.mul_comm (10 ^ j), ← Nat.mul_assoc]
            exact Nat.le_trans (Nat.mul_le_mul_right _ (by omega)) h2
    · have hlt : k < n := by omega
      obtain ⟨g, hA⟩ : ∃ g, A = some ⟨g, 0, none⟩ := by
        rcases h.form with ⟨_, h, _⟩ | ⟨g, h, _⟩
        · omega
        · exact ⟨g, h⟩
      subst hA
      have hcell : wr.cell? ⟨g, k, none⟩ = some (.int .i64 (nth ds k : Int)) := by
        have hg : g < w.heap.size := by
          rcases h.form with ⟨h, _⟩ | ⟨g', h, _, hh⟩
          · cases h
          · injection h with h; injection h with h; omega
        exact (hbel.cell (p := ⟨g, k, none⟩) hg).trans (h.cell hlt)
      have hx := dth_lt hd.1 k
      obtain ⟨y, hy⟩ : ∃ y, y = nth ds k * b := ⟨_, rfl⟩
      have hyb : y ≤ 9 * 4294967296 := by rw [hy]; exact Nat.mul_le_mul (by omega) hb2
      have hyi : (nth ds k : Int) * (b : Int) = (y : Int) := by rw [hy]; simp
      obtain ⟨t, ht⟩ : ∃ t, t = mo + y := ⟨_, rfl⟩
      have hti : (mo : Int) + (y : Int) = (t : Int) := by omega
      have htb : t ≤ 10 * 4294967296 := by omega
      have hro : ∀ o, (wr.alloc o).ownsRow w.heap.size 3 1 (.slice Ao k co) k (i64s os) := fun o => hres.own.alloc o
      have HY := Lib.hid hy
      have HT := Lib.hid ht
      clear hy ht
      go_wp2_with (at_builtin; refine wpList_append_own_at _ rfl (.tmp 23) (.tmp 26) _ rfl w.heap.size 3 i0 (.int .i64 0) 1 8 Tryz.underlying45 hi hz0 hz1 hz2 rfl (by decide) (.slice Ao k co) k (i64s os) rfl (hro _) ⟨wr.heap.size, 0, none⟩ 1 1 [.int .i64 ((t % 10 : Nat) : Int)] rfl rfl (cell_new1 _ _ _ _ rfl) (by simp [Value.oneCell']) (by unfold maxLen; omega) (by omega) (by simp; have := hbel.size; omega) ?_; intro v' w1 hown1 hg1 _ hat1)
      obtain ⟨g', cap', hv'⟩ := ownsRow_succ hown1
      subst hv'
      have hd2 := hos.snoc (x := t % 10) (by omega)
      refine ⟨⟨k + 1, t / 10, _, _, os ++ [t % 10], by omega, by go_num, congrArg (Value.int .i64) (by omega), by omega, rfl, ⟨by rw [List.length_append, hres.len]; rfl, fun z hz => by have := hd2 z hz; omega, by rw [i64s_append]; exact hown1⟩, hd2, ?_, (((hbel.alloc hbel.size _).grown hg1 (by simp; have := hbel.size; omega) (by
          intro q hq
          rcases hres.form with ⟨h1, _⟩ | ⟨g1, h1, h2, _⟩
          · rw [h1] at hq; simp [Value.ownBlock] at hq
          · rw [h1] at hq; simp [Value.ownBlock] at hq; omega)))⟩, by simp [RowKit.intOf]; omega⟩
      · show _ = _
        rw [dval_snoc, hres.len, dval_take_succ, dp_succ]
        have e : dp k * (t % 10) + 10 * dp k * (t / 10) = dp k * t := by
          conv => rhs; rw [← Nat.mod_add_div t 10]
          rw [Nat.mul_add, ← Nat.mul_assoc, Nat.mul_comm 10 (dp k)]
        have e2 : dp k * t = dp k * mo + dp k * nth ds k * b := by rw [HT.out, HY.out, Nat.mul_add, Nat.mul_assoc]
        have e3 := hval.out
        rw [Nat.add_mul]
        omega
end Go.Proofs.YtpmdcahomkdfmaaGreatDoor
