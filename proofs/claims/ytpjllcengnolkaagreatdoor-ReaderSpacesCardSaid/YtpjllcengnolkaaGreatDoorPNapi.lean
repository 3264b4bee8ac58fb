/-
  Words for memory: a row of octets of the call's own.
  Plain mathematics: groups of nine decimal digits; the decimal text of a number, told once. No Go, no condition.
  Contracts of nat.groups and nat.Print: the decimal digits of a number.
  Contracts of nat.pairs, nat.sum: the sum of two numbers' limbs, without 0 at its end, in memory of its own.
  Contracts of the law's helper 'alive' (the page's example) and of nat.Compare, nat.Add, nat.Mul.
  Small lemmas that the laws' walks share: when two numbers' sum or product is told, lengths, worlds behind draws.
-/
import Derived.Test.YtpjllcengnolkaaGreatDoorPPow
import Derived.BigRegion
import Derived.Deep.RegionWith
import Derived.Test.YtpjllcengnolkaaGreatDoorPNdig
import Derived.Maps.OwnIn
import Derived.Laws.BytesArg
import Derived.Test.YtpjllcengnolkaaGreatDoorPNlimb
import Derived.Deep.QuietTactic
import Derived.BigQuiet
import Derived.Outline
set_option linter.unusedVariables false
set_option linter.unusedSimpArgs false
namespace Go.Proofs.YtpjllcengnolkaaGreatDoor
open Go.RowKit

def L8 (xs : List Nat) : Prop := ∀ x ∈ xs, x < 256
theorem L8.take {xs : List Nat} (h : L8 xs) (n : Nat) : L8 (xs.take n) := fun x hx => h x (List.mem_of_mem_take hx)
theorem L8.nil : L8 [] := fun _ h => absurd h (by simp)
theorem L8.append {xs ys : List Nat} (h1 : L8 xs) (h2 : L8 ys) : L8 (xs ++ ys) := fun x hx => by
  rcases List.mem_append.1 hx with h | h
  · exact h1 x h
  · exact h2 x h
theorem L8.one {x : Nat} (h : x < 256) : L8 [x] := fun y hy => by rw [List.mem_singleton.1 hy]; exact h
def u8s (xs : List Nat) : List Value := xs.map fun (x : Nat) => Value.int .u8 (x : Int)

/-- The slice value '.slice A n c' is a row of the call's own, from block base on, and holds the octets zs. -/
structure ResB (w : World) (base : Nat) (A : Option Addr) (n c : Nat) (zs : List Nat) : Prop where
  len : zs.length = n
  l32 : L8 zs
  own : w.ownsRow base 5 1 (.slice A n c) n (u8s zs)

section
variable {w w' : World} {base n c : Nat} {A : Option Addr} {zs : List Nat}
theorem u8s_length (xs : List Nat) : (u8s xs).length = xs.length := by simp [u8s]
theorem u8s_get {xs : List Nat} {k : Nat} (h : k < xs.length) : (u8s xs)[k]? = some (.int .u8 (nth xs k : Int)) := by
  simp [u8s, nth_get h, h]
theorem u8s_append (xs ys : List Nat) : u8s (xs ++ ys) = u8s xs ++ u8s ys := by simp [u8s]
theorem u8s_take (xs : List Nat) (k : Nat) : u8s (xs.take k) = (u8s xs).take k := by simp [u8s]
theorem u8s_set (xs : List Nat) (k x : Nat) : u8s (xs.set k x) = (u8s xs).set k (.int .u8 (x : Int)) := by simp [u8s]
theorem L8.set {xs : List Nat} (h : L8 xs) {k x : Nat} (hx : x < 256) : L8 (xs.set k x) := fun y hy => by
  rcases List.mem_or_eq_of_mem_set hy with h1 | h1
  · exact h y h1
  · rw [h1]; exact hx

theorem ResB.nil (w : World) (base : Nat) : ResB w base none 0 0 [] := ⟨rfl, L8.nil, World.ownsRow_nil w base _ 1⟩
theorem ResB.form (h : ResB w base A n c zs) : (A = none ∧ n = 0 ∧ c = 0) ∨ ∃ g, A = some ⟨g, 0, none⟩ ∧ base ≤ g ∧ g < w.heap.size := by
  rcases h.own.2 with ⟨e, h0⟩ | ⟨g, cap, cur, e, hb, hh, _⟩
  · injection e with e1 e2 e3; exact .inl ⟨e1, e2, e3⟩
  · injection e with e1 e2 e3; exact .inr ⟨g, e1, hb, (Array.getElem?_eq_some_iff.1 hh).1⟩
theorem ResB.n_le (h : ResB w base A n c zs) : n ≤ c ∧ c ≤ maxLen := by
  rcases h.own.2 with ⟨e, h0⟩ | ⟨g, cap, cur, e, hb, hh, h1, h2, _⟩
  · injection e with e1 e2 e3; subst e3; exact ⟨by omega, Nat.zero_le _⟩
  · injection e with e1 e2 e3; subst e3; exact ⟨h1, h2⟩
theorem ResB.cell {g j : Nat} (h : ResB w base (some ⟨g, 0, none⟩) n c zs) (hj : j < n) : w.cell? ⟨g, j, none⟩ = some (.int .u8 (nth zs j : Int)) := by
  rw [h.own.cellAt j (by omega), u8s_get (by rw [h.len]; exact hj)]
theorem ResB.frozen {g : Nat} (h : ResB w base (some ⟨g, 0, none⟩) n c zs) (j : Nat) : w.frozen? ⟨g, j, none⟩ = false := h.own.frozenAt j
theorem ResB.take {k : Nat} (h : ResB w base A n c zs) (hk : k ≤ n) : ResB w base A k c (zs.take k) := by
  refine ⟨by rw [List.length_take, h.len]; omega, h.l32.take k, by rw [u8s_length, List.length_take, h.len]; omega, ?_⟩
  rcases h.own.2 with ⟨e, h0⟩ | ⟨g, cap, cur, e, hb, hh, h1, h2, h3, h4⟩
  · injection e with e1 e2 e3; subst e1 e3; exact .inl ⟨by rw [show k = 0 by omega], by omega⟩
  · injection e with e1 e2 e3; subst e1 e3
    exact .inr ⟨g, c, cur, rfl, hb, hh, by omega, h2, h3, by rw [u8s_take, ← h4, List.take_take]; congr 1; omega⟩
theorem ResB.set {g j x : Nat} (h : ResB w base (some ⟨g, 0, none⟩) n c zs) (hx : x < 256) : ResB (w.setCell ⟨g, j, none⟩ (.int .u8 (x : Int))) base (some ⟨g, 0, none⟩) n c (zs.set j x) :=
  ⟨by rw [List.length_set, h.len], h.l32.set hx, by rw [u8s_set]; exact (h.own.stored j _).1⟩
theorem ResB.more {base' : Nat} (h : ResB w base A n c zs) (hb : base' ≤ base) : ResB w base' A n c zs := by
  refine ⟨h.len, h.l32, h.own.1, ?_⟩
  rcases h.own.2 with h0 | ⟨g, cap, cur, e, hb', rest⟩
  · exact .inl h0
  · exact .inr ⟨g, cap, cur, e, by omega, rest⟩
/-- Kept where its block is left alone. -/
theorem ResB.keep (h : ResB w base A n c zs) (hk : ∀ g, A = some ⟨g, 0, none⟩ → w'.heap[g]? = w.heap[g]?) : ResB w' base A n c zs := by
  refine ⟨h.len, h.l32, h.own.1, ?_⟩
  rcases h.own.2 with h0 | ⟨g, cap, cur, e, hb', hh, rest⟩
  · exact .inl h0
  · refine .inr ⟨g, cap, cur, e, hb', ?_, rest⟩
    injection e with e1 e2 e3
    rw [hk g e1]; exact hh
theorem ResB.below {B : Nat} (h : ResB w base A n c zs) (hb : Below B w w') (hB : w.heap.size ≤ B) : ResB w' base A n c zs :=
  h.keep fun g e => by
    rcases h.form with ⟨h0, _⟩ | ⟨g', e', _, hlt⟩
    · rw [h0] at e; cases e
    · rw [e'] at e; injection e with e; injection e with e; subst e; exact hb.block g' (by omega)
theorem ResB.grown {row : Option Nat} (h : ResB w base A n c zs) (hg : w.grownBy w' row) (hr : ∀ g, A = some ⟨g, 0, none⟩ → some g ≠ row) : ResB w' base A n c zs :=
  h.keep fun g e => by
    rcases h.form with ⟨h0, _⟩ | ⟨g', e', _, hlt⟩
    · rw [h0] at e; cases e
    · have : g' = g := by rw [e'] at e; injection e with e; injection e
      subst this; exact hg.block g' hlt (hr _ e)
end

theorem info8 : (Tryz.prog.info? 5).map (fun i => (i.zero, i.size, i.bytes)) = some (some (.int .u8 0), 1, 1) := by kernel_rfl
theorem ResB.of_row {w : World} {base n : Nat} {v : Value} {xs : List Nat} (hl : xs.length = n) (h8 : L8 xs) (h : w.ownsRow base 5 1 v n (u8s xs)) : ∃ A c, v = .slice A n c ∧ ResB w base A n c xs := by
  rcases h.2 with ⟨e, h0⟩ | ⟨g, cap, cur, e, _⟩
  · subst h0
    exact ⟨none, 0, e, hl, h8, e ▸ h⟩
  · exact ⟨_, cap, e, hl, h8, e ▸ h⟩

end Go.Proofs.YtpjllcengnolkaaGreatDoor

namespace Go.Proofs.YtpjllcengnolkaaGreatDoor

/-- A text of octets. -/
def txt (xs : List Nat) : ByteArray := ⟨(xs.map UInt8.ofNat).toArray⟩
/-- The decimal text of a number. -/
def IsDec (v : Nat) (s : ByteArray) : Prop := (v = 0 ∧ s = txt [48]) ∨ (0 < v ∧ ∃ ds, DCan ds ∧ dval ds = v ∧ s = txt ((ds.map (· + 48)).reverse))
end Go.Proofs.YtpjllcengnolkaaGreatDoor

namespace Go.Proofs.YtpjllcengnolkaaGreatDoor
open Go.RowKit
attribute [local go_sem] Oper.semAt_some

theorem chk_can {xs : List Nat} (h : Can xs) (hl : xs.length ≤ 256) : chk xs = 0 := by
  unfold chk
  rw [if_neg (by omega), if_neg]
  rintro ⟨h1, h2⟩
  rcases h.2 with e | e
  · rw [e] at h1; simp at h1
  · exact e h2

/-- Digits as octets. -/
def chars (ds : List Nat) : List Nat := ds.map (· + 48)
theorem chars_snoc (ds : List Nat) (d : Nat) : chars (ds ++ [d]) = chars ds ++ [d + 48] := by simp [chars]
theorem chars_l8 {ds : List Nat} (h : D10 ds) : L8 (chars ds) := fun x hx => by
  obtain ⟨d, hd, rfl⟩ := List.mem_map.1 hx
  have := h d hd
  omega

theorem str_txt (xs : List Nat) : strOfNums (xs.map fun (x : Nat) => (x : Int)) = txt xs := by
  simp [strOfNums, txt, Function.comp_def]
/-- A row of octets made a text. -/
theorem conv_txt {X : World} {base g n c : Nat} {zs : List Nat} (h : ResB X base (some ⟨g, 0, none⟩) n c zs) : (convert 22 9 (.slice (some ⟨g, 0, none⟩) n c)).run Tryz.prog X = .ok (.string (txt zs)) X := by
  have h1 := run_convert_bytes_arg (P := Tryz.prog) X 22 5 Tryz.underlying22 Tryz.underlying5 g 0 n c (zs.map fun (x : Nat) => (x : Int)) (by simp [h.len]) (fun i hi => by
    rw [Nat.zero_add, h.cell hi]
    have hl : i < zs.length := by rw [h.len]; exact hi
    simp [nth_get hl, hl]) 9 Tryz.underlying9
  rw [str_txt] at h1
  exact h1

end Go.Proofs.YtpjllcengnolkaaGreatDoor

namespace Go.Proofs.YtpjllcengnolkaaGreatDoor
open Go.RowKit

/-- The limbs of a number. -/
def lOf : Nat → Nat → List Nat
  | 0, _ => []
  | f + 1, v => if v = 0 then [] else v % 4294967296 :: lOf f (v / 4294967296)
def lim (v : Nat) : List Nat := lOf v v
theorem lOf_ok : ∀ (f v : Nat), v ≤ f → Can (lOf f v) ∧ val (lOf f v) = v
  | 0, v, h => by
    have e : v = 0 := by omega
    rw [e]
    exact ⟨Can.nil, rfl⟩
  | f + 1, v, h => by
    unfold lOf
    by_cases h0 : v = 0
    · rw [if_pos h0, h0]; exact ⟨Can.nil, rfl⟩
    · rw [if_neg h0]
      obtain ⟨hc, hv⟩ := lOf_ok f (v / 4294967296) (by omega)
      refine ⟨⟨L32.cons.2 ⟨by omega, hc.1⟩, .inr ?_⟩, by rw [val_cons, hv]; omega⟩
      rcases hc.2 with e | e
      · rw [e] at hv ⊢
        rw [val_nil] at hv
        simp [nth]
        omega
      · have hl : 0 < (lOf f (v / 4294967296)).length := by
          rcases Nat.eq_zero_or_pos (lOf f (v / 4294967296)).length with h1 | h1
          · rw [nth_none (by omega)] at e; exact absurd rfl e
          · exact h1
        rw [List.length_cons, show (lOf f (v / 4294967296)).length + 1 - 1 = ((lOf f (v / 4294967296)).length - 1) + 1 by omega, nth_cons_succ]
        exact e
theorem lim_can (v : Nat) : Can (lim v) := (lOf_ok v v (Nat.le_refl _)).1
theorem lim_val (v : Nat) : val (lim v) = v := (lOf_ok v v (Nat.le_refl _)).2
theorem eq_lim {zs : List Nat} (h : Can zs) : zs = lim (val zs) := h.inj (lim_can _) (lim_val _).symm

theorem can_of_chk {xs : List Nat} (hl : L32 xs) (h : chk xs = 0) : Can xs ∧ xs.length ≤ 256 := by
  unfold chk at h
  by_cases h1 : 256 < xs.length
  · rw [if_pos h1] at h; omega
  · rw [if_neg h1] at h
    refine ⟨⟨hl, ?_⟩, by omega⟩
    by_cases h2 : 0 < xs.length ∧ nth xs (xs.length - 1) = 0
    · rw [if_pos h2] at h; omega
    · by_cases h3 : xs = []
      · exact .inl h3
      · exact .inr fun e => h2 ⟨List.length_pos_iff.2 h3, e⟩
theorem long_iff {zs : List Nat} (h : Can zs) : 256 < zs.length ↔ bp 256 ≤ val zs := by
  constructor
  · intro hl
    have := h.ge (by intro e; rw [e] at hl; simp at hl)
    have := bp_mono (show 256 ≤ zs.length - 1 by omega)
    omega
  · intro hv
    rcases Nat.lt_or_ge 256 zs.length with h1 | h1
    · exact h1
    · have := val_lt h.1
      have := bp_mono h1
      omega
section
variable {S S' : Nat → Prop} {n m c d : Nat} {A B : Option Addr} {xs ys : List Nat}

end
end Go.Proofs.YtpjllcengnolkaaGreatDoor

namespace Go.Proofs.YtpjllcengnolkaaGreatDoor
open Go.RowKit

theorem lim_len {v : Nat} (h : v < bp 256) : (lim v).length ≤ 256 := by
  rcases Nat.lt_or_ge 256 (lim v).length with h1 | h1
  · have := (long_iff (lim_can v)).1 h1
    rw [lim_val] at this
    omega
  · exact h1

theorem Res.lt {w : World} {base n c : Nat} {A : Option Addr} {zs : List Nat} (h : Res w base A n c zs) : n ≤ 9223372036854775807 := by
  have := h.n_le; unfold maxLen at this; omega
theorem below_drewN {B : Nat} {a w : World} (h : Below B a w) (n : Nat) : Below B a (w.drewN n) := ⟨h.os, h.tape, h.output, h.size, h.block⟩

end Go.Proofs.YtpjllcengnolkaaGreatDoor
