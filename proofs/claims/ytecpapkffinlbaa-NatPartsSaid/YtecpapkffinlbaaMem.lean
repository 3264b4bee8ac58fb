/-
  Words for memory over this seat's program: a slice of 32-bit limbs that is read, kept over what a call does elsewhere. Plain definitions and lemmas; no condition.
-/
import Derived.Test.YtecpapkffinlbaaProg
import Derived.Test.YtecpapkffinlbaaLimb
import Derived.WalkKit
import Derived.ProofKit
import Derived.WalkSpells
import Derived.WalkLawsBesides
import Derived.Deep.Draws
import Derived.Lib.Hide
set_option linter.unusedVariables false
set_option linter.unusedSimpArgs false
namespace Go.Proofs.Ytecpapkffinlbaa
open Go.RowKit

def u32s (xs : List Nat) : List Value := xs.map fun (x : Nat) => Value.int .u32 (x : Int)

/-- The slice value '.slice A n c' reads as the limbs xs in world w, and lies below block B. -/
structure Rd (w : World) (S : Nat → Prop) (A : Option Addr) (n : Nat) (xs : List Nat) : Prop where
  len : xs.length = n
  l32 : L32 xs
  cells : 0 < n → ∃ b off, A = some ⟨b, off, none⟩ ∧ S b ∧ ∀ j, j < n → w.cell? ⟨b, off + j, none⟩ = some (.int .u32 (nth xs j : Int))

section
variable {w w' : World} {S S' : Nat → Prop} {n : Nat} {A : Option Addr} {xs : List Nat}
theorem Rd.keep (h : Rd w S A n xs) (hk : ∀ p : Addr, S p.block → w'.cell? p = w.cell? p) : Rd w' S A n xs :=
  ⟨h.len, h.l32, fun hn => by
    obtain ⟨b, off, e, hb, hc⟩ := h.cells hn
    exact ⟨b, off, e, hb, fun j hj => (hk _ hb).trans (hc j hj)⟩⟩
theorem Rd.more (h : Rd w S A n xs) (hS : ∀ b, S b → S' b) : Rd w S' A n xs :=
  ⟨h.len, h.l32, fun hn => by
    obtain ⟨b, off, e, hb, hc⟩ := h.cells hn
    exact ⟨b, off, e, hS b hb, hc⟩⟩
theorem Rd.drew (h : Rd w S A n xs) : Rd w.drew S A n xs := h.keep fun _ _ => rfl
theorem Rd.drewN (h : Rd w S A n xs) (k : Nat) : Rd (w.drewN k) S A n xs := h.keep fun _ _ => rfl
/-- Kept by whatever leaves its blocks alone. -/
theorem Rd.grown {row : Option Nat} (h : Rd w S A n xs) (hg : w.grownBy w' row) (hr : ∀ b, S b → b < w.heap.size ∧ some b ≠ row) : Rd w' S A n xs :=
  h.keep fun p hp => World.cell?_of_block (hg.block p.block (hr _ hp).1 (hr _ hp).2)
theorem Rd.below {B : Nat} (h : Rd w S A n xs) (hb : Below B w w') (hS : ∀ b, S b → b < B) : Rd w' S A n xs := h.keep fun _ hp => hb.cell (hS _ hp)
theorem Rd.setCell (h : Rd w S A n xs) {p : Addr} (hp : ¬ S p.block) (u : Value) : Rd (w.setCell p u) S A n xs :=
  h.keep fun q hq => World.cell?_setCell_other w p q u (fun e => by subst e; exact hp hq)
theorem Rd.nil (w : World) (S : Nat → Prop) (A : Option Addr) : Rd w S A 0 [] := ⟨rfl, L32.nil, fun h => absurd h (by omega)⟩
theorem Rd.at_ {k : Nat} (h : Rd w S A n xs) (hk : k < n) : ∃ b off, A = some ⟨b, off, none⟩ ∧ S b ∧ w.cell? ⟨b, off + k, none⟩ = some (.int .u32 (nth xs k : Int)) := by
  obtain ⟨b, off, e, hb, hc⟩ := h.cells (by omega)
  exact ⟨b, off, e, hb, hc k hk⟩
theorem Rd.lt (h : Rd w S A n xs) (k : Nat) : nth xs k < 4294967296 := nth_lt h.l32 k
theorem Rd.take {k : Nat} (h : Rd w S A n xs) (hk : k ≤ n) : Rd w S A k (xs.take k) :=
  ⟨by rw [List.length_take, h.len]; omega, h.l32.take k, fun h0 => by
    obtain ⟨b, off, e, hb, hc⟩ := h.cells (by omega)
    exact ⟨b, off, e, hb, fun j hj => by rw [nth_take hj]; exact hc j (by omega)⟩⟩
end

/-- The slice value '.slice A n c' is a row of the call's own, from block base on, and holds the limbs zs. -/
structure Res (w : World) (base : Nat) (A : Option Addr) (n c : Nat) (zs : List Nat) : Prop where
  len : zs.length = n
  l32 : L32 zs
  own : w.ownsRow base 40 1 (.slice A n c) n (u32s zs)

section
variable {w w' : World} {base n c : Nat} {A : Option Addr} {zs : List Nat}
theorem u32s_length (xs : List Nat) : (u32s xs).length = xs.length := by simp [u32s]
theorem u32s_get {xs : List Nat} {k : Nat} (h : k < xs.length) : (u32s xs)[k]? = some (.int .u32 (nth xs k : Int)) := by
  simp [u32s, nth_get h, h]
theorem u32s_append (xs ys : List Nat) : u32s (xs ++ ys) = u32s xs ++ u32s ys := by simp [u32s]
theorem u32s_take (xs : List Nat) (k : Nat) : u32s (xs.take k) = (u32s xs).take k := by simp [u32s]
theorem u32s_set (xs : List Nat) (k x : Nat) : u32s (xs.set k x) = (u32s xs).set k (.int .u32 (x : Int)) := by simp [u32s]
theorem L32.set {xs : List Nat} (h : L32 xs) {k x : Nat} (hx : x < 4294967296) : L32 (xs.set k x) := fun y hy => by
  rcases List.mem_or_eq_of_mem_set hy with h1 | h1
  · exact h y h1
  · rw [h1]; exact hx

theorem Res.nil (w : World) (base : Nat) : Res w base none 0 0 [] := ⟨rfl, L32.nil, World.ownsRow_nil w base _ 1⟩
theorem Res.form (h : Res w base A n c zs) : (A = none ∧ n = 0 ∧ c = 0) ∨ ∃ g, A = some ⟨g, 0, none⟩ ∧ base ≤ g ∧ g < w.heap.size := by
  rcases h.own.2 with ⟨e, h0⟩ | ⟨g, cap, cur, e, hb, hh, _⟩
  · injection e with e1 e2 e3; exact .inl ⟨e1, e2, e3⟩
  · injection e with e1 e2 e3; exact .inr ⟨g, e1, hb, (Array.getElem?_eq_some_iff.1 hh).1⟩
theorem Res.n_le (h : Res w base A n c zs) : n ≤ c ∧ c ≤ maxLen := by
  rcases h.own.2 with ⟨e, h0⟩ | ⟨g, cap, cur, e, hb, hh, h1, h2, _⟩
  · injection e with e1 e2 e3; subst e3; exact ⟨by omega, Nat.zero_le _⟩
  · injection e with e1 e2 e3; subst e3; exact ⟨h1, h2⟩
theorem Res.rd (h : Res w base A n c zs) : Rd w (fun b => base ≤ b ∧ b < w.heap.size) A n zs := by
  refine ⟨h.len, h.l32, fun hn => ?_⟩
  rcases h.form with ⟨_, h0, _⟩ | ⟨g, rfl, hb, hlt⟩
  · omega
  · refine ⟨g, 0, rfl, ⟨hb, hlt⟩, fun j hj => ?_⟩
    rw [Nat.zero_add, h.own.cellAt j (by omega), u32s_get (by rw [h.len]; exact hj)]
theorem Res.cell {g j : Nat} (h : Res w base (some ⟨g, 0, none⟩) n c zs) (hj : j < n) : w.cell? ⟨g, j, none⟩ = some (.int .u32 (nth zs j : Int)) := by
  rw [h.own.cellAt j (by omega), u32s_get (by rw [h.len]; exact hj)]
theorem Res.frozen {g : Nat} (h : Res w base (some ⟨g, 0, none⟩) n c zs) (j : Nat) : w.frozen? ⟨g, j, none⟩ = false := h.own.frozenAt j
theorem Res.take {k : Nat} (h : Res w base A n c zs) (hk : k ≤ n) : Res w base A k c (zs.take k) := by
  refine ⟨by rw [List.length_take, h.len]; omega, h.l32.take k, by rw [u32s_length, List.length_take, h.len]; omega, ?_⟩
  rcases h.own.2 with ⟨e, h0⟩ | ⟨g, cap, cur, e, hb, hh, h1, h2, h3, h4⟩
  · injection e with e1 e2 e3; subst e1 e3; exact .inl ⟨by rw [show k = 0 by omega], by omega⟩
  · injection e with e1 e2 e3; subst e1 e3
    exact .inr ⟨g, c, cur, rfl, hb, hh, by omega, h2, h3, by rw [u32s_take, ← h4, List.take_take]; congr 1; omega⟩
theorem Res.set {g j x : Nat} (h : Res w base (some ⟨g, 0, none⟩) n c zs) (hx : x < 4294967296) : Res (w.setCell ⟨g, j, none⟩ (.int .u32 (x : Int))) base (some ⟨g, 0, none⟩) n c (zs.set j x) :=
  ⟨by rw [List.length_set, h.len], h.l32.set hx, by rw [u32s_set]; exact (h.own.stored j _).1⟩
theorem Res.more {base' : Nat} (h : Res w base A n c zs) (hb : base' ≤ base) : Res w base' A n c zs := by
  refine ⟨h.len, h.l32, h.own.1, ?_⟩
  rcases h.own.2 with h0 | ⟨g, cap, cur, e, hb', rest⟩
  · exact .inl h0
  · exact .inr ⟨g, cap, cur, e, by omega, rest⟩
/-- Kept where its block is left alone. -/
theorem Res.keep (h : Res w base A n c zs) (hk : ∀ g, A = some ⟨g, 0, none⟩ → w'.heap[g]? = w.heap[g]?) : Res w' base A n c zs := by
  refine ⟨h.len, h.l32, h.own.1, ?_⟩
  rcases h.own.2 with h0 | ⟨g, cap, cur, e, hb', hh, rest⟩
  · exact .inl h0
  · refine .inr ⟨g, cap, cur, e, hb', ?_, rest⟩
    injection e with e1 e2 e3
    rw [hk g e1]; exact hh
theorem Res.below {B : Nat} (h : Res w base A n c zs) (hb : Below B w w') (hB : w.heap.size ≤ B) : Res w' base A n c zs :=
  h.keep fun g e => by
    rcases h.form with ⟨h0, _⟩ | ⟨g', e', _, hlt⟩
    · rw [h0] at e; cases e
    · rw [e'] at e; injection e with e; injection e with e; subst e; exact hb.block g' (by omega)
theorem Res.grown {row : Option Nat} (h : Res w base A n c zs) (hg : w.grownBy w' row) (hr : ∀ g, A = some ⟨g, 0, none⟩ → some g ≠ row) : Res w' base A n c zs :=
  h.keep fun g e => by
    rcases h.form with ⟨h0, _⟩ | ⟨g', e', _, hlt⟩
    · rw [h0] at e; cases e
    · have : g' = g := by rw [e'] at e; injection e with e; injection e
      subst this; exact hg.block g' hlt (hr _ e)
theorem Res.own_ne {base' n' c' : Nat} {zs' : List Nat} {g g' : Nat} (h : Res w base (some ⟨g, 0, none⟩) n c zs) (hb : g < base') (h' : Res w base' (some ⟨g', 0, none⟩) n' c' zs') : g ≠ g' := by
  rcases h'.form with ⟨h0, _⟩ | ⟨g2, e', hb2, _⟩
  · cases h0
  · injection e' with e'; injection e' with e'; omega
end

/-- A store into the row's own block. -/
theorem only_set {a w : World} {g : Nat} (h : a.grownBy w (some g)) (o : Nat) (u : Value) : a.grownBy (w.setCell ⟨g, o, none⟩ u) (some g) :=
  ⟨h.os, h.tape, h.output, by simpa [World.setCell] using h.size, fun i hi hne => (Below.heap_setCell w ⟨g, o, none⟩ u i (fun e => hne (by rw [e]))).trans (h.block i hi hne)⟩
theorem only_drew {a w : World} {row : Option Nat} (h : a.grownBy w row) : a.grownBy w.drew row := ⟨h.os, h.tape, h.output, h.size, h.block⟩
theorem only_drewN {a w : World} {row : Option Nat} (h : a.grownBy w row) (n : Nat) : a.grownBy (w.drewN n) row := ⟨h.os, h.tape, h.output, h.size, h.block⟩
theorem only_trans {a b c : World} {row : Option Nat} (h : a.grownBy b row) (k : b.grownBy c row) : a.grownBy c row :=
  ⟨k.os.trans h.os, k.tape.trans h.tape, k.output.trans h.output, Nat.le_trans h.size k.size, fun i hi hne => (k.block i (Nat.lt_of_lt_of_le hi h.size) hne).trans (h.block i hi hne)⟩
theorem below_of_only {a b : World} {B g : Nat} (h : a.grownBy b (some g)) (hB : B ≤ g) (hs : B ≤ a.heap.size) : Below B a b :=
  ⟨h.os, h.tape, h.output, h.size, fun k hk => h.block k (by omega) (fun e => by injection e with e; omega)⟩
/-- A cell outside of the row's block is as it was. -/
theorem only_cell {a w : World} {g b o : Nat} {v : Value} (h : a.grownBy w (some g)) (hb : b ≠ g) (hc : a.cell? ⟨b, o, none⟩ = some v) : w.cell? ⟨b, o, none⟩ = some v :=
  (World.cell?_of_block (h.block b (World.block_lt_of_cell? a _ hc) (fun e => hb (by injection e)))).trans hc
/-- The row within a longer list: what stands at a place of its middle part, and a store there. -/
theorem nth_mid (pre new rest post : List Nat) {k : Nat} (h : k = pre.length + new.length) (hr : rest ≠ []) : nth (pre ++ (new ++ (rest ++ post))) k = nth rest 0 := by
  subst h
  rw [nth_append_right (by omega), nth_append_right (by omega), nth_append_left (by have := List.length_pos_iff.2 hr; omega)]
  congr 1; omega
theorem set_mid (pre new rest post : List Nat) {k : Nat} (x y : Nat) (h : k = pre.length + new.length) : (pre ++ (new ++ (y :: rest ++ post))).set k x = pre ++ ((new ++ [x]) ++ (rest ++ post)) := by
  subst h
  rw [List.set_append_right _ _ (by omega), List.set_append_right _ _ (by omega)]
  rw [show pre.length + new.length - pre.length - new.length = 0 by omega]
  simp
/-- A quiet call within a region behind draws. -/
theorem quiet_more {P : Program} {f : FuncId} {args : Array Value} {w : World} {a n : Nat} {v : Value}
    (h : Calls P f args (w.drewN (a + n)) fun e w' => e = .returned v ∧ w.drewN (a + n) = w') :
    Calls P f args (w.drewN (a + n)) fun e w'' => e = .returned v ∧ ∃ m, w'' = w.drewN (a + m) :=
  h.mono fun _ _ ⟨he, hm⟩ => ⟨he, n, hm.symm⟩
theorem quiet_one {P : Program} {f : FuncId} {args : Array Value} {w : World} {n : Nat} {v : Value}
    (h : Calls P f args (w.drewN n) fun e w' => e = .returned v ∧ w.drewN n = w') :
    Calls P f args (w.drewN n) fun e w'' => e = .returned v ∧ ∃ m, w'' = w.drewN m :=
  h.mono fun _ _ ⟨he, hm⟩ => ⟨he, n, hm.symm⟩

theorem info32 : (Try.prog.info? 40).map (fun i => (i.zero, i.size, i.bytes)) = some (some (.int .u32 0), 1, 4) := by kernel_rfl
/-- The block that 'make' lays. -/
def zeros32 (n : Nat) : Obj := .cells (madeCells #[.int .u32 0] n) 40
/-- make of limbs: the new block. -/
theorem make_at {z : Int} (n : Nat) (e : z = (n : Int)) (h : n ≤ 1099511627776) (w : World) : (Instr.makeSlice 22 (.int .i64 z) (.int .i64 z)).run Try.prog w =
    .ok (.slice (some ⟨w.heap.size, 0, none⟩) n n) (w.alloc (zeros32 n)) := by
  subst e
  obtain ⟨i0, hi, hz0, hz1, hz2⟩ := info_parts info32
  have hr := run_make (P := Try.prog) w 22 40 i0 (.int .u32 0) Try.underlying22 hi hz0 .i64 .i64 n n (by omega) (Int.le_refl _) (by rw [hz2]; omega) (by omega)
  rw [Int.toNat_natCast, hz1, Nat.mul_one] at hr
  exact hr
theorem Res.made (w : World) (n : Nat) (h : n ≤ 1099511627776) : Res (w.alloc (zeros32 n)) w.heap.size (some ⟨w.heap.size, 0, none⟩) n n (List.replicate n 0) := by
  refine ⟨by simp, L32.replicate n, ?_⟩
  have := World.ownsRow_lit (base := w.heap.size) (e := 40) (size := 1) w (madeCells #[.int .u32 0] n) n (Nat.le_refl _) (by unfold maxLen; omega) (by rw [size_madeCells, Nat.mul_one])
  rw [toList_madeCells_one] at this
  have e : u32s (List.replicate n 0) = List.replicate n (Value.int .u32 0) := by simp [u32s]
  rw [e]
  exact this

/-- make of no limbs with room for n. -/
theorem make_room {z : Int} (n : Nat) (e : z = (n : Int)) (h : n ≤ 1099511627776) (w : World) : (Instr.makeSlice 22 (.int .i64 0) (.int .i64 z)).run Try.prog w =
    .ok (.slice (some ⟨w.heap.size, 0, none⟩) 0 n) (w.alloc (zeros32 n)) := by
  subst e
  obtain ⟨i0, hi, hz0, hz1, hz2⟩ := info_parts info32
  have hr := run_make (P := Try.prog) w 22 40 i0 (.int .u32 0) Try.underlying22 hi hz0 .i64 .i64 0 n (Int.le_refl _) (by omega) (by rw [hz2]; omega) (by omega)
  rw [Int.toNat_natCast, hz1, Nat.mul_one] at hr
  exact hr
theorem Res.room (w : World) (n : Nat) (h : n ≤ 1099511627776) : Res (w.alloc (zeros32 n)) w.heap.size (some ⟨w.heap.size, 0, none⟩) 0 n [] :=
  ⟨rfl, L32.nil, World.ownsRow_made (base := w.heap.size) (e := 40) (size := 1) w (madeCells #[.int .u32 0] n) n (Nat.le_refl _) (by unfold maxLen; omega) (by rw [size_madeCells, Nat.mul_one])⟩
/-- What an append leaves. -/
theorem Res.of_append {w : World} {base g n c x : Nat} {zs : List Nat} (h : zs.length = n) (hl : L32 zs) (hx : x < 4294967296)
    (ho : w.ownsRow base 40 1 (.slice (some ⟨g, 0, none⟩) (n + 1) c) (n + 1) (u32s zs ++ [.int .u32 (x : Int)])) : Res w base (some ⟨g, 0, none⟩) (n + 1) c (zs ++ [x]) :=
  ⟨by simp [h], hl.snoc hx, by rw [u32s_append]; exact ho⟩

/-- The one cell of a block just laid. -/
theorem cell_new1 (w : World) (v : Value) (t : TypeId) (b : Nat) (hb : b = w.heap.size) : ∀ j u, [v][j]? = some u → (w.alloc (.cells #[v] t)).cell? ((⟨b, 0, none⟩ : Addr).add j) = some u := by
  subst hb
  intro j u h
  cases j with
  | zero =>
    simp only [List.getElem?_cons_zero] at h
    injection h with h
    subst h
    rw [show (⟨w.heap.size, 0, none⟩ : Addr).add 0 = ⟨w.heap.size, 0, none⟩ from rfl, World.cell?_alloc_at _ _ _ _ rfl]; rfl
  | succ j => simp at h

/-- A limb put above another one. -/
theorem or_shl {r x : Nat} (hr : r < 4294967296) (hx : x < 4294967296) : bits .or .u64 ((r : Int) * 4294967296) (x : Int) = ((r * 4294967296 + x : Nat) : Int) := by
  have e : (r : Int) * 4294967296 = ((r * 4294967296 : Nat) : Int) := by simp
  rw [e, u64_or_nat _ _ (by omega) (by omega)]
  have h := Nat.two_pow_add_eq_or_of_lt (i := 32) (b := x) (by omega) r
  rw [show (2 : Nat) ^ 32 = 4294967296 from rfl, Nat.mul_comm] at h
  rw [h]

theorem quo_limb {t d : Nat} (h : t / d < 4294967296) : IntKind.u64.wrap ((t : Int) / (d : Int)) % 4294967296 = ((t / d : Nat) : Int) := by
  have e : (t : Int) / (d : Int) = ((t / d : Nat) : Int) := by rw [Int.natCast_ediv]
  rw [e]
  generalize t / d = q at h
  rw [IntWalk.u64_in _ (by omega)]
  omega
theorem rem_limb (t d : Nat) : (t : Int) % (d : Int) = ((t % d : Nat) : Int) := by rw [Int.natCast_emod]

end Go.Proofs.Ytecpapkffinlbaa
