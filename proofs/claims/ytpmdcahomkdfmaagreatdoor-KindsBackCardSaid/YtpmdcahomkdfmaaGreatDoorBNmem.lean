/-
  Plain mathematics of limbs of 32 bits: the number that a list of limbs tells, lists without 0 at their end, and that such a list is told by its number. No Go, no condition.
  Words for memory over this seat's program: a slice of 32-bit limbs that is read, kept over what a call does elsewhere. Plain definitions and lemmas; no condition.
-/
import Derived.Test.YtpmdcahomkdfmaaGreatDoorProg
import Derived.WalkKit
import Derived.ProofKit
import Derived.WalkSpells
import Derived.WalkLawsBesides
import Derived.Deep.Draws
import Derived.Lib.Hide
set_option linter.unusedVariables false
set_option linter.unusedSimpArgs false
namespace Go.Proofs.YtpmdcahomkdfmaaGreatDoor

/-- The element at a place, 0 behind the end. -/
def nth (xs : List Nat) (k : Nat) : Nat := xs.getD k 0
/-- All are limbs of 32 bits. -/
def L32 (xs : List Nat) : Prop := ∀ x ∈ xs, x < 4294967296
/-- The number that limbs tell, the lowest first. -/
def val : List Nat → Nat
  | [] => 0
  | x :: r => x + 4294967296 * val r
/-- 4294967296 to the k. -/
def bp (k : Nat) : Nat := 4294967296 ^ k
/-- No 0 at the end. -/
def Can (xs : List Nat) : Prop := L32 xs ∧ (xs = [] ∨ nth xs (xs.length - 1) ≠ 0)

theorem nth_lt {xs : List Nat} (h : L32 xs) (k : Nat) : nth xs k < 4294967296 := by
  unfold nth
  rw [List.getD_eq_getElem?_getD]
  by_cases hk : k < xs.length
  · rw [List.getElem?_eq_getElem hk]; exact h _ (List.getElem_mem hk)
  · rw [List.getElem?_eq_none (by omega)]; simp
theorem nth_get {xs : List Nat} {k : Nat} (h : k < xs.length) : nth xs k = xs[k] := by simp [nth, h]
theorem nth_none {xs : List Nat} {k : Nat} (h : xs.length ≤ k) : nth xs k = 0 := by simp [nth, h]
theorem nth_nil (k : Nat) : nth [] k = 0 := by simp [nth]
theorem nth_cons_zero (x : Nat) (r : List Nat) : nth (x :: r) 0 = x := by simp [nth]
theorem nth_cons_succ (x : Nat) (r : List Nat) (k : Nat) : nth (x :: r) (k + 1) = nth r k := by simp [nth]
theorem nth_append_left {xs ys : List Nat} {k : Nat} (h : k < xs.length) : nth (xs ++ ys) k = nth xs k := by
  unfold nth; simp [List.getD_eq_getElem?_getD, List.getElem?_append_left h]
theorem nth_append_right {xs ys : List Nat} {k : Nat} (h : xs.length ≤ k) : nth (xs ++ ys) k = nth ys (k - xs.length) := by
  unfold nth; simp [List.getD_eq_getElem?_getD, List.getElem?_append_right h]
theorem nth_take {xs : List Nat} {k n : Nat} (h : k < n) : nth (xs.take n) k = nth xs k := by
  unfold nth; simp [List.getD_eq_getElem?_getD, List.getElem?_take, h]
theorem nth_drop (xs : List Nat) (n k : Nat) : nth (xs.drop n) k = nth xs (n + k) := by
  unfold nth; simp [List.getD_eq_getElem?_getD]
theorem L32.nil : L32 [] := fun _ h => absurd h (by simp)
theorem L32.cons {x : Nat} {r : List Nat} : L32 (x :: r) ↔ x < 4294967296 ∧ L32 r := by simp [L32]
theorem L32.append {xs ys : List Nat} : L32 (xs ++ ys) ↔ L32 xs ∧ L32 ys := by
  constructor
  · intro h; exact ⟨fun x hx => h x (by simp [hx]), fun x hx => h x (by simp [hx])⟩
  · rintro ⟨h1, h2⟩ x hx
    rcases List.mem_append.1 hx with h | h
    · exact h1 x h
    · exact h2 x h
theorem L32.take {xs : List Nat} (h : L32 xs) (n : Nat) : L32 (xs.take n) := fun x hx => h x (List.mem_of_mem_take hx)
theorem L32.drop {xs : List Nat} (h : L32 xs) (n : Nat) : L32 (xs.drop n) := fun x hx => h x (List.mem_of_mem_drop hx)
theorem L32.snoc {xs : List Nat} {x : Nat} (h : L32 xs) (hx : x < 4294967296) : L32 (xs ++ [x]) := L32.append.2 ⟨h, L32.cons.2 ⟨hx, L32.nil⟩⟩
theorem L32.replicate (n : Nat) : L32 (List.replicate n 0) := fun x hx => by rw [(List.mem_replicate.1 hx).2]; omega

theorem bp_succ (k : Nat) : bp (k + 1) = 4294967296 * bp k := by unfold bp; rw [Nat.pow_succ, Nat.mul_comm]
theorem bp_pos (k : Nat) : 0 < bp k := Nat.pow_pos (by omega)

theorem val_nil : val [] = 0 := rfl
theorem val_cons (x : Nat) (r : List Nat) : val (x :: r) = x + 4294967296 * val r := rfl
theorem val_append (xs ys : List Nat) : val (xs ++ ys) = val xs + bp xs.length * val ys := by
  induction xs with
  | nil => simp [val, bp]
  | cons x r ih => simp only [List.cons_append, val_cons, ih, List.length_cons, bp_succ, Nat.mul_add, Nat.mul_assoc, Nat.add_assoc]
theorem val_snoc (xs : List Nat) (y : Nat) : val (xs ++ [y]) = val xs + bp xs.length * y := by rw [val_append]; simp [val]
theorem val_lt {xs : List Nat} (h : L32 xs) : val xs < bp xs.length := by
  induction xs with
  | nil => simp [val, bp]
  | cons x r ih =>
    obtain ⟨h1, h2⟩ := L32.cons.1 h
    have := ih h2
    rw [val_cons, List.length_cons, bp_succ]; omega
theorem take_succ_nth {xs : List Nat} {k : Nat} (h : k < xs.length) : xs.take (k + 1) = xs.take k ++ [nth xs k] := by
  rw [List.take_succ_eq_append_getElem h, nth_get h]
theorem drop_eq_nth {xs : List Nat} {k : Nat} (h : k < xs.length) : xs.drop k = nth xs k :: xs.drop (k + 1) := by
  rw [List.drop_eq_getElem_cons h, nth_get h]
theorem val_take_succ {xs : List Nat} (k : Nat) : val (xs.take (k + 1)) = val (xs.take k) + bp k * nth xs k := by
  by_cases h : k < xs.length
  · rw [take_succ_nth h, val_snoc, List.length_take, Nat.min_eq_left (by omega)]
  · rw [nth_none (by omega), List.take_of_length_le (by omega), List.take_of_length_le (by omega)]; omega
theorem val_drop {xs : List Nat} (k : Nat) : val (xs.drop k) = nth xs k + 4294967296 * val (xs.drop (k + 1)) := by
  by_cases h : k < xs.length
  · rw [drop_eq_nth h, val_cons]
  · rw [nth_none (by omega), List.drop_of_length_le (by omega), List.drop_of_length_le (by omega)]; rfl
theorem val_split (xs : List Nat) (k : Nat) (h : k ≤ xs.length) : val xs = val (xs.take k) + bp k * val (xs.drop k) := by
  have := val_append (xs.take k) (xs.drop k)
  rw [List.take_append_drop, List.length_take, Nat.min_eq_left h] at this
  exact this
theorem val_le_of_take {xs : List Nat} (k : Nat) (h : ∀ j, k ≤ j → j < xs.length → nth xs j = 0) : val (xs.take k) = val xs := by
  induction xs generalizing k with
  | nil => simp
  | cons x r ih =>
    cases k with
    | zero =>
      have hx : x = 0 := h 0 (by omega) (by simp)
      have hr := ih 0 (fun j _ hj => by have := h (j + 1) (by omega) (by simp; omega); rwa [nth_cons_succ] at this)
      rw [List.take_zero, val_nil] at hr ⊢
      rw [val_cons, hx, ← hr]
    | succ k =>
      rw [List.take_succ_cons, val_cons, val_cons, ih k (fun j hk hj => by have := h (j + 1) (by omega) (by simp; omega); rwa [nth_cons_succ] at this)]

theorem Can.l32 {xs : List Nat} (h : Can xs) : L32 xs := h.1
theorem Can.nil : Can [] := ⟨L32.nil, .inl rfl⟩
/-- A list without 0 at its end is no less than the place of its last limb. -/
theorem Can.ge {xs : List Nat} (h : Can xs) (hne : xs ≠ []) : bp (xs.length - 1) ≤ val xs := by
  have hl : 0 < xs.length := List.length_pos_iff.2 hne
  have hn : nth xs (xs.length - 1) ≠ 0 := h.2.resolve_left hne
  rw [val_split xs (xs.length - 1) (by omega)]
  have : val (xs.drop (xs.length - 1)) = nth xs (xs.length - 1) := by
    rw [val_drop, List.drop_of_length_le (by omega), val_nil]; omega
  rw [this]
  have : bp (xs.length - 1) * 1 ≤ bp (xs.length - 1) * nth xs (xs.length - 1) := Nat.mul_le_mul_left _ (by omega)
  omega
theorem bp_mono {j k : Nat} (h : j ≤ k) : bp j ≤ bp k := Nat.pow_le_pow_right (by omega) h
theorem Can.val_zero {xs : List Nat} (h : Can xs) (hv : val xs = 0) : xs = [] := by
  by_cases hne : xs = []
  · exact hne
  · have := h.ge hne; have := bp_pos (xs.length - 1); omega
/-- A shorter one tells less. -/
theorem Can.lt_of_length {xs ys : List Nat} (hx : L32 xs) (hy : Can ys) (h : xs.length < ys.length) : val xs < val ys := by
  have h1 := val_lt hx
  have h2 := hy.ge (by intro e; rw [e] at h; simp at h)
  have h3 : bp xs.length ≤ bp (ys.length - 1) := bp_mono (by omega)
  omega
theorem Can.length_eq {xs ys : List Nat} (hx : Can xs) (hy : Can ys) (h : val xs = val ys) : xs.length = ys.length := by
  rcases Nat.lt_trichotomy xs.length ys.length with hl | hl | hl
  · have := Can.lt_of_length hx.1 hy hl; omega
  · exact hl
  · have := Can.lt_of_length hy.1 hx hl; omega
theorem val_inj : ∀ {xs ys : List Nat}, L32 xs → L32 ys → xs.length = ys.length → val xs = val ys → xs = ys
  | [], [], _, _, _, _ => rfl
  | [], _ :: _, _, _, h, _ => by simp at h
  | _ :: _, [], _, _, h, _ => by simp at h
  | x :: r, y :: s, hx, hy, hl, hv => by
    obtain ⟨h1, h2⟩ := L32.cons.1 hx
    obtain ⟨h3, h4⟩ := L32.cons.1 hy
    rw [val_cons, val_cons] at hv
    have e1 : x = y := by omega
    have e2 : val r = val s := by omega
    rw [e1, val_inj h2 h4 (by simpa using hl) e2]
/-- A list without 0 at its end is told by its number. -/
theorem Can.inj {xs ys : List Nat} (hx : Can xs) (hy : Can ys) (h : val xs = val ys) : xs = ys := val_inj hx.1 hy.1 (hx.length_eq hy h) h

/-- How much is left when 0 at the end is dropped, of the first k. -/
def tl (xs : List Nat) : Nat → Nat
  | 0 => 0
  | k + 1 => if nth xs k = 0 then tl xs k else k + 1
theorem tl_le (xs : List Nat) (k : Nat) : tl xs k ≤ k := by
  induction k with
  | zero => simp [tl]
  | succ k ih => unfold tl; split <;> omega
theorem tl_zero (xs : List Nat) : ∀ (k j : Nat), tl xs k ≤ j → j < k → nth xs j = 0
  | 0, j, _, h2 => absurd h2 (by omega)
  | k + 1, j, h1, h2 => by
    unfold tl at h1
    split at h1
    · rename_i hz
      by_cases e : j = k
      · rw [e]; exact hz
      · exact tl_zero xs k j h1 (by omega)
    · omega
theorem tl_pos (xs : List Nat) : ∀ k, 0 < tl xs k → nth xs (tl xs k - 1) ≠ 0
  | 0, h => absurd h (by simp [tl])
  | k + 1, h => by
    by_cases hz : nth xs k = 0
    · have e : tl xs (k + 1) = tl xs k := by simp [tl, hz]
      rw [e] at h ⊢
      exact tl_pos xs k h
    · have e : tl xs (k + 1) = k + 1 := by simp [tl, hz]
      rw [e]
      exact hz
theorem tl_step {xs : List Nat} {j : Nat} (h : nth xs j = 0) : tl xs (j + 1) = tl xs j := by simp [tl, h]
theorem tl_stop {xs : List Nat} {j : Nat} (h : nth xs j ≠ 0) : tl xs (j + 1) = j + 1 := by simp [tl, h]
/-- What is left. -/
def trimmed (xs : List Nat) : List Nat := xs.take (tl xs xs.length)
theorem trimmed_length (xs : List Nat) : (trimmed xs).length = tl xs xs.length := by
  unfold trimmed; rw [List.length_take, Nat.min_eq_left (tl_le _ _)]
theorem trimmed_val (xs : List Nat) : val (trimmed xs) = val xs := val_le_of_take _ (fun j h1 h2 => tl_zero xs _ j h1 h2)
theorem trimmed_can {xs : List Nat} (h : L32 xs) : Can (trimmed xs) := by
  refine ⟨h.take _, ?_⟩
  by_cases hz : 0 < tl xs xs.length
  · right
    rw [trimmed_length]
    unfold trimmed
    rw [nth_take (by omega)]
    exact tl_pos xs _ hz
  · left
    apply List.eq_nil_of_length_eq_zero
    rw [trimmed_length]; omega
theorem div_cast (t : Nat) : ((t : Nat) : Int) / 4294967296 = ((t / 4294967296 : Nat) : Int) := by omega
theorem rem_cast (t : Nat) : ((t : Nat) : Int) % 4294967296 = ((t % 4294967296 : Nat) : Int) := by omega
/-- A sum cut into a limb and a carry, at its place. -/
theorem cut_place (k t : Nat) : bp k * (t % 4294967296) + bp (k + 1) * (t / 4294967296) = bp k * t := by
  rw [bp_succ]
  conv => rhs; rw [← Nat.mod_add_div t 4294967296]
  rw [Nat.mul_add, ← Nat.mul_assoc (bp k) 4294967296, Nat.mul_comm 4294967296 (bp k)]
/-- What is no less than the place of its last limb has none that is 0 at its end. -/
theorem can_of_ge {zs : List Nat} (h : L32 zs) (hv : zs = [] ∨ bp (zs.length - 1) ≤ val zs) : Can zs := by
  refine ⟨h, ?_⟩
  rcases hv with e | hv
  · exact .inl e
  · by_cases hn : zs = []
    · exact .inl hn
    · right
      intro h0
      have hl : 0 < zs.length := List.length_pos_iff.2 hn
      have := val_split zs (zs.length - 1) (by omega)
      rw [val_drop, h0, List.drop_of_length_le (by omega), val_nil] at this
      have h1 := val_lt (h.take (zs.length - 1))
      rw [List.length_take, Nat.min_eq_left (by omega)] at h1
      omega
theorem set_snoc (new rest : List Nat) {k : Nat} (x y : Nat) (h : k = new.length) : (new ++ (y :: rest)).set k x = (new ++ [x]) ++ rest := by
  subst h
  rw [List.set_append_right _ _ (by omega)]
  simp
theorem nth_snoc (new rest : List Nat) {k : Nat} (y : Nat) (h : k = new.length) : nth (new ++ (y :: rest)) k = y := by
  subst h
  rw [nth_append_right (by omega), Nat.sub_self, nth_cons_zero]
end Go.Proofs.YtpmdcahomkdfmaaGreatDoor

namespace Go.Proofs.YtpmdcahomkdfmaaGreatDoor
open Go.RowKit

def u32s (xs : List Nat) : List Value := xs.map fun (x : Nat) => Value.int .u32 (x : Int)

/-- The slice value '.slice A n c' reads as the limbs xs in world w, and lies below block B. -/
structure Rd (w : World) (S : Nat → Prop) (A : Option Addr) (n : Nat) (xs : List Nat) : Prop where
  len : xs.length = n
  l32 : L32 xs
  cells : 0 < n → ∃ b off, A = some ⟨b, off, none⟩ ∧ S b ∧ ∀ j, j < n → w.cell? ⟨b, off + j, none⟩ = some (.int .u32 (nth xs j : Int))

section
variable {w w' : World} {S S' : Nat → Prop} {n : Nat} {A : Option Addr} {xs : List Nat}
theorem Rd.keep (h : Rd w S A n xs) (hk : ∀ p : Addr, S p.block → w'.cell? p = w.cell? p) : Rd w' S A n xs :=
  ⟨h.len, h.l32, fun hn => by
    obtain ⟨b, off, e, hb, hc⟩ := h.cells hn
    exact ⟨b, off, e, hb, fun j hj => (hk _ hb).trans (hc j hj)⟩⟩
theorem Rd.more (h : Rd w S A n xs) (hS : ∀ b, S b → S' b) : Rd w S' A n xs :=
  ⟨h.len, h.l32, fun hn => by
    obtain ⟨b, off, e, hb, hc⟩ := h.cells hn
    exact ⟨b, off, e, hS b hb, hc⟩⟩
theorem Rd.drew (h : Rd w S A n xs) : Rd w.drew S A n xs := h.keep fun _ _ => rfl
theorem Rd.drewN (h : Rd w S A n xs) (k : Nat) : Rd (w.drewN k) S A n xs := h.keep fun _ _ => rfl
/-- Kept by whatever leaves its blocks alone. -/
theorem Rd.grown {row : Option Nat} (h : Rd w S A n xs) (hg : w.grownBy w' row) (hr : ∀ b, S b → b < w.heap.size ∧ some b ≠ row) : Rd w' S A n xs :=
  h.keep fun p hp => World.cell?_of_block (hg.block p.block (hr _ hp).1 (hr _ hp).2)
theorem Rd.below {B : Nat} (h : Rd w S A n xs) (hb : Below B w w') (hS : ∀ b, S b → b < B) : Rd w' S A n xs := h.keep fun _ hp => hb.cell (hS _ hp)
theorem Rd.setCell (h : Rd w S A n xs) {p : Addr} (hp : ¬ S p.block) (u : Value) : Rd (w.setCell p u) S A n xs :=
  h.keep fun q hq => World.cell?_setCell_other w p q u (fun e => by subst e; exact hp hq)
theorem Rd.nil (w : World) (S : Nat → Prop) (A : Option Addr) : Rd w S A 0 [] := ⟨rfl, L32.nil, fun h => absurd h (by omega)⟩
theorem Rd.at_ {k : Nat} (h : Rd w S A n xs) (hk : k < n) : ∃ b off, A = some ⟨b, off, none⟩ ∧ S b ∧ w.cell? ⟨b, off + k, none⟩ = some (.int .u32 (nth xs k : Int)) := by
  obtain ⟨b, off, e, hb, hc⟩ := h.cells (by omega)
  exact ⟨b, off, e, hb, hc k hk⟩
theorem Rd.lt (h : Rd w S A n xs) (k : Nat) : nth xs k < 4294967296 := nth_lt h.l32 k
theorem Rd.take {k : Nat} (h : Rd w S A n xs) (hk : k ≤ n) : Rd w S A k (xs.take k) :=
  ⟨by rw [List.length_take, h.len]; omega, h.l32.take k, fun h0 => by
    obtain ⟨b, off, e, hb, hc⟩ := h.cells (by omega)
    exact ⟨b, off, e, hb, fun j hj => by rw [nth_take hj]; exact hc j (by omega)⟩⟩
end

/-- The slice value '.slice A n c' is a row of the call's own, from block base on, and holds the limbs zs. -/
structure Res (w : World) (base : Nat) (A : Option Addr) (n c : Nat) (zs : List Nat) : Prop where
  len : zs.length = n
  l32 : L32 zs
  own : w.ownsRow base 72 1 (.slice A n c) n (u32s zs)

section
variable {w w' : World} {base n c : Nat} {A : Option Addr} {zs : List Nat}
theorem u32s_length (xs : List Nat) : (u32s xs).length = xs.length := by simp [u32s]
theorem u32s_get {xs : List Nat} {k : Nat} (h : k < xs.length) : (u32s xs)[k]? = some (.int .u32 (nth xs k : Int)) := by
  simp [u32s, nth_get h, h]
theorem u32s_append (xs ys : List Nat) : u32s (xs ++ ys) = u32s xs ++ u32s ys := by simp [u32s]
theorem u32s_take (xs : List Nat) (k : Nat) : u32s (xs.take k) = (u32s xs).take k := by simp [u32s]
theorem u32s_set (xs : List Nat) (k x : Nat) : u32s (xs.set k x) = (u32s xs).set k (.int .u32 (x : Int)) := by simp [u32s]
theorem L32.set {xs : List Nat} (h : L32 xs) {k x : Nat} (hx : x < 4294967296) : L32 (xs.set k x) := fun y hy => by
  rcases List.mem_or_eq_of_mem_set hy with h1 | h1
  · exact h y h1
  · rw [h1]; exact hx

theorem Res.nil (w : World) (base : Nat) : Res w base none 0 0 [] := ⟨rfl, L32.nil, World.ownsRow_nil w base _ 1⟩
theorem Res.form (h : Res w base A n c zs) : (A = none ∧ n = 0 ∧ c = 0) ∨ ∃ g, A = some ⟨g, 0, none⟩ ∧ base ≤ g ∧ g < w.heap.size := by
  rcases h.own.2 with ⟨e, h0⟩ | ⟨g, cap, cur, e, hb, hh, _⟩
  · injection e with e1 e2 e3; exact .inl ⟨e1, e2, e3⟩
  · injection e with e1 e2 e3; exact .inr ⟨g, e1, hb, (Array.getElem?_eq_some_iff.1 hh).1⟩
theorem Res.n_le (h : Res w base A n c zs) : n ≤ c ∧ c ≤ maxLen := by
  rcases h.own.2 with ⟨e, h0⟩ | ⟨g, cap, cur, e, hb, hh, h1, h2, _⟩
  · injection e with e1 e2 e3; subst e3; exact ⟨by omega, Nat.zero_le _⟩
  · injection e with e1 e2 e3; subst e3; exact ⟨h1, h2⟩
theorem Res.rd (h : Res w base A n c zs) : Rd w (fun b => base ≤ b ∧ b < w.heap.size) A n zs := by
  refine ⟨h.len, h.l32, fun hn => ?_⟩
  rcases h.form with ⟨_, h0, _⟩ | ⟨g, rfl, hb, hlt⟩
  · omega
  · refine ⟨g, 0, rfl, ⟨hb, hlt⟩, fun j hj => ?_⟩
    rw [Nat.zero_add, h.own.cellAt j (by omega), u32s_get (by rw [h.len]; exact hj)]
theorem Res.cell {g j : Nat} (h : Res w base (some ⟨g, 0, none⟩) n c zs) (hj : j < n) : w.cell? ⟨g, j, none⟩ = some (.int .u32 (nth zs j : Int)) := by
  rw [h.own.cellAt j (by omega), u32s_get (by rw [h.len]; exact hj)]
theorem Res.frozen {g : Nat} (h : Res w base (some ⟨g, 0, none⟩) n c zs) (j : Nat) : w.frozen? ⟨g, j, none⟩ = false := h.own.frozenAt j
theorem Res.take {k : Nat} (h : Res w base A n c zs) (hk : k ≤ n) : Res w base A k c (zs.take k) := by
  refine ⟨by rw [List.length_take, h.len]; omega, h.l32.take k, by rw [u32s_length, List.length_take, h.len]; omega, ?_⟩
  rcases h.own.2 with ⟨e, h0⟩ | ⟨g, cap, cur, e, hb, hh, h1, h2, h3, h4⟩
  · injection e with e1 e2 e3; subst e1 e3; exact .inl ⟨by rw [show k = 0 by omega], by omega⟩
  · injection e with e1 e2 e3; subst e1 e3
    exact .inr ⟨g, c, cur, rfl, hb, hh, by omega, h2, h3, by rw [u32s_take, ← h4, List.take_take]; congr 1; omega⟩
theorem Res.set {g j x : Nat} (h : Res w base (some ⟨g, 0, none⟩) n c zs) (hx : x < 4294967296) : Res (w.setCell ⟨g, j, none⟩ (.int .u32 (x : Int))) base (some ⟨g, 0, none⟩) n c (zs.set j x) :=
  ⟨by rw [List.length_set, h.len], h.l32.set hx, by rw [u32s_set]; exact (h.own.stored j _).1⟩
theorem Res.more {base' : Nat} (h : Res w base A n c zs) (hb : base' ≤ base) : Res w base' A n c zs := by
  refine ⟨h.len, h.l32, h.own.1, ?_⟩
  rcases h.own.2 with h0 | ⟨g, cap, cur, e, hb', rest⟩
  · exact .inl h0
  · exact .inr ⟨g, cap, cur, e, by omega, rest⟩
/-- Kept where its block is left alone. -/
theorem Res.keep (h : Res w base A n c zs) (hk : ∀ g, A = some ⟨g, 0, none⟩ → w'.heap[g]? = w.heap[g]?) : Res w' base A n c zs := by
  refine ⟨h.len, h.l32, h.own.1, ?_⟩
  rcases h.own.2 with h0 | ⟨g, cap, cur, e, hb', hh, rest⟩
  · exact .inl h0
  · refine .inr ⟨g, cap, cur, e, hb', ?_, rest⟩
    injection e with e1 e2 e3
    rw [hk g e1]; exact hh
theorem Res.below {B : Nat} (h : Res w base A n c zs) (hb : Below B w w') (hB : w.heap.size ≤ B) : Res w' base A n c zs :=
  h.keep fun g e => by
    rcases h.form with ⟨h0, _⟩ | ⟨g', e', _, hlt⟩
    · rw [h0] at e; cases e
    · rw [e'] at e; injection e with e; injection e with e; subst e; exact hb.block g' (by omega)
theorem Res.grown {row : Option Nat} (h : Res w base A n c zs) (hg : w.grownBy w' row) (hr : ∀ g, A = some ⟨g, 0, none⟩ → some g ≠ row) : Res w' base A n c zs :=
  h.keep fun g e => by
    rcases h.form with ⟨h0, _⟩ | ⟨g', e', _, hlt⟩
    · rw [h0] at e; cases e
    · have : g' = g := by rw [e'] at e; injection e with e; injection e
      subst this; exact hg.block g' hlt (hr _ e)
end

/-- A store into the row's own block. -/
theorem only_set {a w : World} {g : Nat} (h : a.grownBy w (some g)) (o : Nat) (u : Value) : a.grownBy (w.setCell ⟨g, o, none⟩ u) (some g) :=
  ⟨h.os, h.tape, h.output, by simpa [World.setCell] using h.size, fun i hi hne => (Below.heap_setCell w ⟨g, o, none⟩ u i (fun e => hne (by rw [e]))).trans (h.block i hi hne)⟩
theorem only_drew {a w : World} {row : Option Nat} (h : a.grownBy w row) : a.grownBy w.drew row := ⟨h.os, h.tape, h.output, h.size, h.block⟩
theorem only_trans {a b c : World} {row : Option Nat} (h : a.grownBy b row) (k : b.grownBy c row) : a.grownBy c row :=
  ⟨k.os.trans h.os, k.tape.trans h.tape, k.output.trans h.output, Nat.le_trans h.size k.size, fun i hi hne => (k.block i (Nat.lt_of_lt_of_le hi h.size) hne).trans (h.block i hi hne)⟩
theorem below_of_only {a b : World} {B g : Nat} (h : a.grownBy b (some g)) (hB : B ≤ g) (hs : B ≤ a.heap.size) : Below B a b :=
  ⟨h.os, h.tape, h.output, h.size, fun k hk => h.block k (by omega) (fun e => by injection e with e; omega)⟩
/-- A cell outside of the row's block is as it was. -/
theorem only_cell {a w : World} {g b o : Nat} {v : Value} (h : a.grownBy w (some g)) (hb : b ≠ g) (hc : a.cell? ⟨b, o, none⟩ = some v) : w.cell? ⟨b, o, none⟩ = some v :=
  (World.cell?_of_block (h.block b (World.block_lt_of_cell? a _ hc) (fun e => hb (by injection e)))).trans hc
theorem info32 : (Tryz.prog.info? 72).map (fun i => (i.zero, i.size, i.bytes)) = some (some (.int .u32 0), 1, 4) := by kernel_rfl
/-- The block that 'make' lays. -/
def zeros32 (n : Nat) : Obj := .cells (madeCells #[.int .u32 0] n) 72
theorem Res.room (w : World) (n : Nat) (h : n ≤ 1099511627776) : Res (w.alloc (zeros32 n)) w.heap.size (some ⟨w.heap.size, 0, none⟩) 0 n [] :=
  ⟨rfl, L32.nil, World.ownsRow_made (base := w.heap.size) (e := 72) (size := 1) w (madeCells #[.int .u32 0] n) n (Nat.le_refl _) (by unfold maxLen; omega) (by rw [size_madeCells, Nat.mul_one])⟩
/-- What an append leaves. -/
theorem Res.of_append {w : World} {base g n c x : Nat} {zs : List Nat} (h : zs.length = n) (hl : L32 zs) (hx : x < 4294967296)
    (ho : w.ownsRow base 72 1 (.slice (some ⟨g, 0, none⟩) (n + 1) c) (n + 1) (u32s zs ++ [.int .u32 (x : Int)])) : Res w base (some ⟨g, 0, none⟩) (n + 1) c (zs ++ [x]) :=
  ⟨by simp [h], hl.snoc hx, by rw [u32s_append]; exact ho⟩

/-- The one cell of a block just laid. -/
theorem cell_new1 (w : World) (v : Value) (t : TypeId) (b : Nat) (hb : b = w.heap.size) : ∀ j u, [v][j]? = some u → (w.alloc (.cells #[v] t)).cell? ((⟨b, 0, none⟩ : Addr).add j) = some u := by
  subst hb
  intro j u h
  cases j with
  | zero =>
    simp only [List.getElem?_cons_zero] at h
    injection h with h
    subst h
    rw [show (⟨w.heap.size, 0, none⟩ : Addr).add 0 = ⟨w.heap.size, 0, none⟩ from rfl, World.cell?_alloc_at _ _ _ _ rfl]; rfl
  | succ j => simp at h

/-- A limb put above another one. -/
theorem or_shl {r x : Nat} (hr : r < 4294967296) (hx : x < 4294967296) : bits .or .u64 ((r : Int) * 4294967296) (x : Int) = ((r * 4294967296 + x : Nat) : Int) := by
  have e : (r : Int) * 4294967296 = ((r * 4294967296 : Nat) : Int) := by simp
  rw [e, u64_or_nat _ _ (by omega) (by omega)]
  have h := Nat.two_pow_add_eq_or_of_lt (i := 32) (b := x) (by omega) r
  rw [show (2 : Nat) ^ 32 = 4294967296 from rfl, Nat.mul_comm] at h
  rw [h]

theorem quo_limb {t d : Nat} (h : t / d < 4294967296) : IntKind.u64.wrap ((t : Int) / (d : Int)) % 4294967296 = ((t / d : Nat) : Int) := by
  have e : (t : Int) / (d : Int) = ((t / d : Nat) : Int) := by rw [Int.natCast_ediv]
  rw [e]
  generalize t / d = q at h
  rw [IntWalk.u64_in _ (by omega)]
  omega
theorem rem_limb (t d : Nat) : (t : Int) % (d : Int) = ((t % d : Nat) : Int) := by rw [Int.natCast_emod]

end Go.Proofs.YtpmdcahomkdfmaaGreatDoor
