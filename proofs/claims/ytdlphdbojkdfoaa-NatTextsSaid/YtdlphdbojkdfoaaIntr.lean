/-
  Words for memory: a slice of ints that are not negative, read; what an append to a row of ints leaves. Plain definitions and lemmas; no condition.
-/
import Derived.Test.YtdlphdbojkdfoaaInts
import Derived.Outline
set_option linter.unusedVariables false
set_option linter.unusedSimpArgs false
namespace Go.Proofs.Ytdlphdbojkdfoaa
open Go.RowKit

/-- The slice value '.slice A n c' reads as the numbers xs in world w, in blocks of S. -/
structure RdI (w : World) (S : Nat → Prop) (A : Option Addr) (n : Nat) (xs : List Nat) : Prop where
  len : xs.length = n
  li : LI xs
  cells : 0 < n → ∃ b off, A = some ⟨b, off, none⟩ ∧ S b ∧ ∀ j, j < n → w.cell? ⟨b, off + j, none⟩ = some (.int IntKind.i64 (nth xs j : Int))

section
variable {w w' : World} {S S' : Nat → Prop} {base n c : Nat} {A : Option Addr} {xs zs : List Nat}
theorem RdI.keep (h : RdI w S A n xs) (hk : ∀ p : Addr, S p.block → w'.cell? p = w.cell? p) : RdI w' S A n xs :=
  ⟨h.len, h.li, fun hn => by
    obtain ⟨b, off, e, hb, hc⟩ := h.cells hn
    exact ⟨b, off, e, hb, fun j hj => (hk _ hb).trans (hc j hj)⟩⟩
theorem RdI.more (h : RdI w S A n xs) (hS : ∀ b, S b → S' b) : RdI w S' A n xs :=
  ⟨h.len, h.li, fun hn => by
    obtain ⟨b, off, e, hb, hc⟩ := h.cells hn
    exact ⟨b, off, e, hS b hb, hc⟩⟩
theorem RdI.drew (h : RdI w S A n xs) : RdI w.drew S A n xs := h.keep fun _ _ => rfl
theorem RdI.drewN (h : RdI w S A n xs) (k : Nat) : RdI (w.drewN k) S A n xs := h.keep fun _ _ => rfl
theorem RdI.grown {row : Option Nat} (h : RdI w S A n xs) (hg : w.grownBy w' row) (hr : ∀ b, S b → b < w.heap.size ∧ some b ≠ row) : RdI w' S A n xs :=
  h.keep fun p hp => World.cell?_of_block (hg.block p.block (hr _ hp).1 (hr _ hp).2)
theorem RdI.below {B : Nat} (h : RdI w S A n xs) (hb : Below B w w') (hS : ∀ b, S b → b < B) : RdI w' S A n xs := h.keep fun _ hp => hb.cell (hS _ hp)
theorem RdI.setCell (h : RdI w S A n xs) {p : Addr} (hp : ¬ S p.block) (u : Value) : RdI (w.setCell p u) S A n xs :=
  h.keep fun q hq => World.cell?_setCell_other w p q u (fun e => by subst e; exact hp hq)
theorem RdI.nil (w : World) (S : Nat → Prop) (A : Option Addr) : RdI w S A 0 [] := ⟨rfl, LI.nil, fun h => absurd h (by omega)⟩
theorem RdI.at_ {k : Nat} (h : RdI w S A n xs) (hk : k < n) : ∃ b off, A = some ⟨b, off, none⟩ ∧ S b ∧ w.cell? ⟨b, off + k, none⟩ = some (.int IntKind.i64 (nth xs k : Int)) := by
  obtain ⟨b, off, e, hb, hc⟩ := h.cells (by omega)
  exact ⟨b, off, e, hb, hc k hk⟩
theorem RdI.take {k : Nat} (h : RdI w S A n xs) (hk : k ≤ n) : RdI w S A k (xs.take k) :=
  ⟨by rw [List.length_take, h.len]; omega, h.li.take k, fun h0 => by
    obtain ⟨b, off, e, hb, hc⟩ := h.cells (by omega)
    exact ⟨b, off, e, hb, fun j hj => by rw [nth_take hj]; exact hc j (by omega)⟩⟩
theorem ResI.rd (h : ResI w base A n c zs) : RdI w (fun b => base ≤ b ∧ b < w.heap.size) A n zs := by
  refine ⟨h.len, h.l32, fun hn => ?_⟩
  rcases h.form with ⟨_, h0, _⟩ | ⟨g, rfl, hb, hlt⟩
  · omega
  · refine ⟨g, 0, rfl, ⟨hb, hlt⟩, fun j hj => ?_⟩
    rw [Nat.zero_add, h.own.cellAt j (by omega), i64s_get (by rw [h.len]; exact hj)]
theorem ResI.le (h : ResI w base A n c zs) : n ≤ maxLen := by have := h.n_le; omega
theorem ResI.drew (h : ResI w base A n c zs) : ResI w.drew base A n c zs := h.keep fun _ _ => rfl
theorem ResI.drewN (h : ResI w base A n c zs) (k : Nat) : ResI (w.drewN k) base A n c zs := h.keep fun _ _ => rfl
theorem RdI.cellsAt {ad : Addr} (h : RdI w S (some ad) n xs) : ∀ j u, (i64s xs)[j]? = some u → w.cell? (ad.add j) = some u := by
  intro j u hu
  have hj : j < n := by
    have := (List.getElem?_eq_some_iff.1 hu).1
    rw [i64s_length, h.len] at this; exact this
  obtain ⟨b, off, e, _, hc⟩ := h.cells (by omega)
  injection e with e
  subst e
  rw [Addr.add_lit, hc j hj]
  rw [i64s_get (by rw [h.len]; exact hj)] at hu
  exact hu
theorem i64s_one (xs : List Nat) : ∀ u ∈ i64s xs, u.oneCell' = true := by
  intro u hu
  obtain ⟨x, _, rfl⟩ := List.mem_map.1 hu
  rfl
theorem RdI.none_nil (h : RdI w S none n xs) : n = 0 ∧ xs = [] := by
  rcases Nat.eq_zero_or_pos n with h0 | h0
  · exact ⟨h0, List.eq_nil_of_length_eq_zero (by rw [h.len]; exact h0)⟩
  · obtain ⟨b, off, e, _⟩ := h.cells h0; cases e

/-- What an append of one number leaves. -/
theorem ResI.snoc {g k c' x : Nat} {os : List Nat} (hl : os.length = k) (hI : LI os) (hx : x < 9223372036854775808)
    (ho : w.ownsRow base 3 1 (.slice (some ⟨g, 0, none⟩) (k + 1) c') (k + 1) (i64s os ++ [.int IntKind.i64 (x : Int)])) : ResI w base (some ⟨g, 0, none⟩) (k + 1) c' (os ++ [x]) :=
  ⟨by rw [List.length_append, hl]; rfl, hI.append (LI.one hx), by rw [i64s_append]; exact ho⟩
/-- What lies below stays, where a row of the call's own is appended to. -/
theorem ResI.below_append {B k : Nat} {W w1 : World} {os : List Nat} {o : Obj} (hbel : Below B W w) (hB : B ≤ w.heap.size) (hres : ResI w B A k c os) (hg : (w.alloc o).grownBy w1 (Value.slice A k c).ownBlock) : Below B W w1 :=
  (hbel.alloc hB _).grown hg (by simp; omega) (by
    intro q hq
    rcases hres.form with ⟨h1, _⟩ | ⟨g1, h1, h2, _⟩
    · rw [h1] at hq; simp [Value.ownBlock] at hq
    · rw [h1] at hq; simp [Value.ownBlock] at hq; omega)
theorem ResI.below_grown {B k : Nat} {W w1 : World} {os : List Nat} (hbel : Below B W w) (hB : B ≤ w.heap.size) (hres : ResI w B A k c os) (hg : w.grownBy w1 (Value.slice A k c).ownBlock) : Below B W w1 :=
  hbel.grown hg (by omega) (by
    intro q hq
    rcases hres.form with ⟨h1, _⟩ | ⟨g1, h1, h2, _⟩
    · rw [h1] at hq; simp [Value.ownBlock] at hq
    · rw [h1] at hq; simp [Value.ownBlock] at hq; omega)
theorem D10.li {xs : List Nat} (h : D10 xs) : LI xs := fun x hx => by have := h x hx; omega
theorem LI.snoc {xs : List Nat} (h : LI xs) {x : Nat} (hx : x < 9223372036854775808) : LI (xs ++ [x]) := h.append (LI.one hx)
end

/-- The block that 'make' lays. -/
def zerosI (n : Nat) : Obj := .cells (madeCells #[.int IntKind.i64 0] n) 3
theorem makeI_at {z : Int} (n : Nat) (e : z = (n : Int)) (h : n ≤ 1099511627776) (w : World) : (Instr.makeSlice 58 (.int IntKind.i64 z) (.int IntKind.i64 z)).run Try.prog w =
    .ok (.slice (some ⟨w.heap.size, 0, none⟩) n n) (w.alloc (zerosI n)) := by
  subst e
  obtain ⟨i0, hi, hz0, hz1, hz2⟩ := info_parts infoI
  have hr := run_make (P := Try.prog) w 58 3 i0 (.int IntKind.i64 0) Try.underlying58 hi hz0 IntKind.i64 IntKind.i64 n n (by omega) (Int.le_refl _) (by rw [hz2]; omega) (by omega)
  rw [Int.toNat_natCast, hz1, Nat.mul_one] at hr
  exact hr
theorem LI.replicate (n : Nat) : LI (List.replicate n 0) := fun x hx => by rw [(List.mem_replicate.1 hx).2]; omega
theorem ResI.made (w : World) (n : Nat) (h : n ≤ 1099511627776) : ResI (w.alloc (zerosI n)) w.heap.size (some ⟨w.heap.size, 0, none⟩) n n (List.replicate n 0) := by
  refine ⟨by simp, LI.replicate n, ?_⟩
  have := World.ownsRow_lit (base := w.heap.size) (e := 3) (size := 1) w (madeCells #[.int IntKind.i64 0] n) n (Nat.le_refl _) (by unfold maxLen; omega) (by rw [size_madeCells, Nat.mul_one])
  rw [toList_madeCells_one] at this
  have e : i64s (List.replicate n 0) = List.replicate n (Value.int IntKind.i64 0) := by simp [i64s]
  rw [e]
  exact this
/-- A row of ints just laid. -/
theorem ResI.lit (w : World) (zs : List Nat) (n : Nat) (hn : zs.length = n) (hl : LI zs) (hm : n ≤ 1099511627776) : ResI (w.alloc (.cells (i64s zs).toArray 3)) w.heap.size (some ⟨w.heap.size, 0, none⟩) n n zs := by
  refine ⟨hn, hl, ?_⟩
  have h := World.ownsRow_lit (base := w.heap.size) (e := 3) (size := 1) w (i64s zs).toArray n (Nat.le_refl _) (by unfold maxLen; omega) (by simp [i64s_length, hn])
  simpa using h

/-- Digits are fewer than a power's exponent. -/
theorem DCan.len_le {ds : List Nat} {m : Nat} (h : DCan ds) (hv : dval ds < 10 ^ m) : ds.length ≤ m := by
  rcases Nat.lt_or_ge m ds.length with h1 | h1
  · have h2 := h.ge (by intro e; rw [e] at h1; simp at h1)
    have h3 := dp_mono (show m ≤ ds.length - 1 by omega)
    unfold dp at h2 h3
    omega
  · exact h1
end Go.Proofs.Ytdlphdbojkdfoaa
