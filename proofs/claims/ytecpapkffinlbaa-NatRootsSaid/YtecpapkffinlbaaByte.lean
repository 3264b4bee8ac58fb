/-
  Words for memory: a row of octets of the call's own.
-/
import Derived.Test.YtecpapkffinlbaaRed
import Derived.BigRegion
import Derived.Deep.RegionWith
set_option linter.unusedVariables false
set_option linter.unusedSimpArgs false
namespace Go.Proofs.Ytecpapkffinlbaa
open Go.RowKit

def L8 (xs : List Nat) : Prop := ∀ x ∈ xs, x < 256
theorem L8.take {xs : List Nat} (h : L8 xs) (n : Nat) : L8 (xs.take n) := fun x hx => h x (List.mem_of_mem_take hx)
theorem L8.nil : L8 [] := fun _ h => absurd h (by simp)
theorem L8.append {xs ys : List Nat} (h1 : L8 xs) (h2 : L8 ys) : L8 (xs ++ ys) := fun x hx => by
  rcases List.mem_append.1 hx with h | h
  · exact h1 x h
  · exact h2 x h
theorem L8.one {x : Nat} (h : x < 256) : L8 [x] := fun y hy => by rw [List.mem_singleton.1 hy]; exact h
theorem nth_lt8 {xs : List Nat} (h : L8 xs) (k : Nat) : nth xs k < 256 := by
  unfold nth
  rw [List.getD_eq_getElem?_getD]
  by_cases hk : k < xs.length
  · rw [List.getElem?_eq_getElem hk]; exact h _ (List.getElem_mem hk)
  · rw [List.getElem?_eq_none (by omega)]; simp
def u8s (xs : List Nat) : List Value := xs.map fun (x : Nat) => Value.int .u8 (x : Int)

/-- The slice value '.slice A n c' is a row of the call's own, from block base on, and holds the octets zs. -/
structure ResB (w : World) (base : Nat) (A : Option Addr) (n c : Nat) (zs : List Nat) : Prop where
  len : zs.length = n
  l32 : L8 zs
  own : w.ownsRow base 5 1 (.slice A n c) n (u8s zs)

section
variable {w w' : World} {base n c : Nat} {A : Option Addr} {zs : List Nat}
theorem u8s_length (xs : List Nat) : (u8s xs).length = xs.length := by simp [u8s]
theorem u8s_get {xs : List Nat} {k : Nat} (h : k < xs.length) : (u8s xs)[k]? = some (.int .u8 (nth xs k : Int)) := by
  simp [u8s, nth_get h, h]
theorem u8s_append (xs ys : List Nat) : u8s (xs ++ ys) = u8s xs ++ u8s ys := by simp [u8s]
theorem u8s_take (xs : List Nat) (k : Nat) : u8s (xs.take k) = (u8s xs).take k := by simp [u8s]
theorem u8s_set (xs : List Nat) (k x : Nat) : u8s (xs.set k x) = (u8s xs).set k (.int .u8 (x : Int)) := by simp [u8s]
theorem L8.set {xs : List Nat} (h : L8 xs) {k x : Nat} (hx : x < 256) : L8 (xs.set k x) := fun y hy => by
  rcases List.mem_or_eq_of_mem_set hy with h1 | h1
  · exact h y h1
  · rw [h1]; exact hx

theorem ResB.nil (w : World) (base : Nat) : ResB w base none 0 0 [] := ⟨rfl, L8.nil, World.ownsRow_nil w base _ 1⟩
theorem ResB.form (h : ResB w base A n c zs) : (A = none ∧ n = 0 ∧ c = 0) ∨ ∃ g, A = some ⟨g, 0, none⟩ ∧ base ≤ g ∧ g < w.heap.size := by
  rcases h.own.2 with ⟨e, h0⟩ | ⟨g, cap, cur, e, hb, hh, _⟩
  · injection e with e1 e2 e3; exact .inl ⟨e1, e2, e3⟩
  · injection e with e1 e2 e3; exact .inr ⟨g, e1, hb, (Array.getElem?_eq_some_iff.1 hh).1⟩
theorem ResB.n_le (h : ResB w base A n c zs) : n ≤ c ∧ c ≤ maxLen := by
  rcases h.own.2 with ⟨e, h0⟩ | ⟨g, cap, cur, e, hb, hh, h1, h2, _⟩
  · injection e with e1 e2 e3; subst e3; exact ⟨by omega, Nat.zero_le _⟩
  · injection e with e1 e2 e3; subst e3; exact ⟨h1, h2⟩
theorem ResB.cell {g j : Nat} (h : ResB w base (some ⟨g, 0, none⟩) n c zs) (hj : j < n) : w.cell? ⟨g, j, none⟩ = some (.int .u8 (nth zs j : Int)) := by
  rw [h.own.cellAt j (by omega), u8s_get (by rw [h.len]; exact hj)]
theorem ResB.frozen {g : Nat} (h : ResB w base (some ⟨g, 0, none⟩) n c zs) (j : Nat) : w.frozen? ⟨g, j, none⟩ = false := h.own.frozenAt j
theorem ResB.take {k : Nat} (h : ResB w base A n c zs) (hk : k ≤ n) : ResB w base A k c (zs.take k) := by
  refine ⟨by rw [List.length_take, h.len]; omega, h.l32.take k, by rw [u8s_length, List.length_take, h.len]; omega, ?_⟩
  rcases h.own.2 with ⟨e, h0⟩ | ⟨g, cap, cur, e, hb, hh, h1, h2, h3, h4⟩
  · injection e with e1 e2 e3; subst e1 e3; exact .inl ⟨by rw [show k = 0 by omega], by omega⟩
  · injection e with e1 e2 e3; subst e1 e3
    exact .inr ⟨g, c, cur, rfl, hb, hh, by omega, h2, h3, by rw [u8s_take, ← h4, List.take_take]; congr 1; omega⟩
theorem ResB.set {g j x : Nat} (h : ResB w base (some ⟨g, 0, none⟩) n c zs) (hx : x < 256) : ResB (w.setCell ⟨g, j, none⟩ (.int .u8 (x : Int))) base (some ⟨g, 0, none⟩) n c (zs.set j x) :=
  ⟨by rw [List.length_set, h.len], h.l32.set hx, by rw [u8s_set]; exact (h.own.stored j _).1⟩
theorem ResB.more {base' : Nat} (h : ResB w base A n c zs) (hb : base' ≤ base) : ResB w base' A n c zs := by
  refine ⟨h.len, h.l32, h.own.1, ?_⟩
  rcases h.own.2 with h0 | ⟨g, cap, cur, e, hb', rest⟩
  · exact .inl h0
  · exact .inr ⟨g, cap, cur, e, by omega, rest⟩
/-- Kept where its block is left alone. -/
theorem ResB.keep (h : ResB w base A n c zs) (hk : ∀ g, A = some ⟨g, 0, none⟩ → w'.heap[g]? = w.heap[g]?) : ResB w' base A n c zs := by
  refine ⟨h.len, h.l32, h.own.1, ?_⟩
  rcases h.own.2 with h0 | ⟨g, cap, cur, e, hb', hh, rest⟩
  · exact .inl h0
  · refine .inr ⟨g, cap, cur, e, hb', ?_, rest⟩
    injection e with e1 e2 e3
    rw [hk g e1]; exact hh
theorem ResB.below {B : Nat} (h : ResB w base A n c zs) (hb : Below B w w') (hB : w.heap.size ≤ B) : ResB w' base A n c zs :=
  h.keep fun g e => by
    rcases h.form with ⟨h0, _⟩ | ⟨g', e', _, hlt⟩
    · rw [h0] at e; cases e
    · rw [e'] at e; injection e with e; injection e with e; subst e; exact hb.block g' (by omega)
theorem ResB.grown {row : Option Nat} (h : ResB w base A n c zs) (hg : w.grownBy w' row) (hr : ∀ g, A = some ⟨g, 0, none⟩ → some g ≠ row) : ResB w' base A n c zs :=
  h.keep fun g e => by
    rcases h.form with ⟨h0, _⟩ | ⟨g', e', _, hlt⟩
    · rw [h0] at e; cases e
    · have : g' = g := by rw [e'] at e; injection e with e; injection e
      subst this; exact hg.block g' hlt (hr _ e)
theorem ResB.own_ne {base' n' c' : Nat} {zs' : List Nat} {g g' : Nat} (h : ResB w base (some ⟨g, 0, none⟩) n c zs) (hb : g < base') (h' : ResB w base' (some ⟨g', 0, none⟩) n' c' zs') : g ≠ g' := by
  rcases h'.form with ⟨h0, _⟩ | ⟨g2, e', hb2, _⟩
  · cases h0
  · injection e' with e'; injection e' with e'; omega
end

theorem info8 : (Try.prog.info? 5).map (fun i => (i.zero, i.size, i.bytes)) = some (some (.int .u8 0), 1, 1) := by kernel_rfl
theorem ResB.of_row {w : World} {base n : Nat} {v : Value} {xs : List Nat} (hl : xs.length = n) (h8 : L8 xs) (h : w.ownsRow base 5 1 v n (u8s xs)) : ∃ A c, v = .slice A n c ∧ ResB w base A n c xs := by
  rcases h.2 with ⟨e, h0⟩ | ⟨g, cap, cur, e, _⟩
  · subst h0
    exact ⟨none, 0, e, hl, h8, e ▸ h⟩
  · exact ⟨_, cap, e, hl, h8, e ▸ h⟩

/-- The places that have been turned after k exchanges. -/
def turned (zs ys : List Nat) (n k : Nat) : Prop := ∀ i, i < n → nth ys i = if i < k ∨ n - k ≤ i then nth zs (n - 1 - i) else nth zs i
theorem nth_set {xs : List Nat} {i j x : Nat} (h : i < xs.length) : nth (xs.set i x) j = if j = i then x else nth xs j := by
  unfold nth
  rw [List.getD_eq_getElem?_getD, List.getD_eq_getElem?_getD, List.getElem?_set]
  by_cases e : i = j
  · subst e; simp [h]
  · rw [if_neg e, if_neg (fun e' => e e'.symm)]
theorem turned_done {zs ys : List Nat} {n k : Nat} (hz : zs.length = n) (hy : ys.length = n) (h : turned zs ys n k) (hk : n ≤ 2 * k + 1) : ys = zs.reverse := by
  apply List.ext_getElem
  · simp [hz, hy]
  · intro i h1 h2
    have hi : i < n := by omega
    have := h i hi
    rw [nth_get h1] at this
    rw [List.getElem_reverse, this]
    split
    · rw [nth_get (by omega)]; congr 1; omega
    · have : i = n - 1 - i := by omega
      rw [nth_get (by omega)]; congr 1; omega
theorem turned_step {zs ys : List Nat} {n k : Nat} (hy : ys.length = n) (h : turned zs ys n k) (hk : 2 * k + 1 < n) :
    turned zs ((ys.set k (nth ys (n - 1 - k))).set (n - 1 - k) (nth ys k)) n (k + 1) := by
  intro i hi
  have h1 := h k (by omega)
  have h2 := h (n - 1 - k) (by omega)
  rw [if_neg (by omega)] at h1 h2
  rw [nth_set (by simp; omega), nth_set (by omega), h1, h2]
  by_cases e1 : i = n - 1 - k
  · subst e1
    rw [if_pos rfl, if_pos (.inr (by omega))]; congr 1; omega
  · rw [if_neg e1]
    by_cases e2 : i = k
    · subst e2; rw [if_pos rfl, if_pos (.inl (by omega))]
    · rw [if_neg e2, h i hi]
      by_cases e3 : i < k ∨ n - k ≤ i
      · rw [if_pos e3, if_pos (by omega)]
      · rw [if_neg e3, if_neg (by omega)]

set_option maxRecDepth 100000 in
theorem Reverse_c {base n c : Nat} {A : Option Addr} {zs : List Nat} (w : World) (hown : ResB w base A n c zs) (hn : n ≤ 1099511627776) :
    Calls Try.prog 29 #[.slice A n c] w fun e w' => (∃ v, e = .returned v) ∧ ResB w' base A n c zs.reverse ∧ w.grownBy w' (Value.slice A n c).ownBlock := by
  have HZ := Lib.hid hown.len
  go_enter Try.func29, Try.ntmps29
  go_wp2
  go_loopw [2, 3] (fun i j wr => ∃ (k : Nat) (ys : List Nat), 2 * k ≤ n + 1 ∧ i = .int .i64 (k : Int) ∧ j = .int .i64 ((n : Int) - 1 - (k : Int)) ∧ Hid (turned zs ys n k) ∧ ResB wr base A n c ys ∧ w.grownBy wr (Value.slice A n c).ownBlock) (fun i _ _ => n + 1 - (intOf i).toNat)
  case atStart => exact ⟨0, zs, by omega, rfl, by go_num, fun i hi => by rw [if_neg (by omega)], hown, World.grownBy.refl w _⟩
  case round =>
    obtain ⟨k, ys, hk, rfl, hj, ht, hr, hg⟩ := hrel
    by_cases hlt : 2 * k + 1 < n
    · obtain ⟨g, hA⟩ : ∃ g, A = some ⟨g, 0, none⟩ := by
        rcases hown.form with ⟨_, h, _⟩ | ⟨g, h, _⟩
        · omega
        · exact ⟨g, h⟩
      subst hA
      obtain ⟨m, hm⟩ : ∃ m, m = n - 1 - k := ⟨_, rfl⟩
      have hj2 := hj.trans (congrArg (Value.int .i64) (show (n : Int) - 1 - (k : Int) = (m : Int) by omega))
      clear hj
      subst hj2
      have hkm : k < m := by omega
      have hmn : m < n := by omega
      have hcm : wr.cell? ⟨g, m, none⟩ = some (.int .u8 (nth ys m : Int)) := hr.cell hmn
      have hck : wr.cell? ⟨g, k, none⟩ = some (.int .u8 (nth ys k : Int)) := hr.cell (by omega)
      have hfk : wr.frozen? ⟨g, k, none⟩ = false := hr.frozen _
      have hfm : wr.frozen? ⟨g, m, none⟩ = false := hr.frozen _
      have hne1 : ¬ k = m := by omega
      have hne2 : ¬ m = k := by omega
      have hx1 := nth_lt8 hr.l32 m
      have hx2 := nth_lt8 hr.l32 k
      have HM := Lib.hid hm
      clear hm
      go_wp2
      go_region
      go_wp2
      have h1 := (hr.set (j := k) hx1).set (j := m) hx2
      have hd : ResB (((wr.setCell ⟨g, k, none⟩ (.int .u8 (nth ys m : Int))).setCell ⟨g, m, none⟩ (.int .u8 (nth ys k : Int))).drew) base (some ⟨g, 0, none⟩) n c ((ys.set k (nth ys m)).set m (nth ys k)) := h1.keep fun _ _ => rfl
      refine ⟨⟨k + 1, (ys.set k (nth ys m)).set m (nth ys k), by omega, by go_num, congrArg (Value.int .i64) (by have := HM.out; omega), ?_, hd, only_drew (only_set (only_set hg _ _) _ _)⟩, by simp [intOf]; omega⟩
      have h2 := turned_step hr.len ht.out hlt
      rw [← HM.out] at h2
      exact h2
    · subst hj
      have hge : (n : Int) - 1 - (k : Int) ≤ (k : Int) := by omega
      have hd := turned_done HZ.out hr.len ht.out (by omega)
      subst hd
      go_wp2
      go_end0
      exact ⟨⟨_, rfl⟩, hr, hg⟩

end Go.Proofs.Ytecpapkffinlbaa
