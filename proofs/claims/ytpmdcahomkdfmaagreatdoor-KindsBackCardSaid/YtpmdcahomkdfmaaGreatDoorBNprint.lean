/-
  Words for memory: a row of octets of the call's own.
  Plain mathematics: groups of nine decimal digits; the decimal text of a number, told once. No Go, no condition.
  Contracts of nat.groups and nat.Print: the decimal digits of a number.
-/
import Derived.Test.YtpmdcahomkdfmaaGreatDoorBNaddm
import Derived.BigRegion
import Derived.Deep.RegionWith
import Derived.Test.YtpmdcahomkdfmaaGreatDoorBNdig
import Derived.Test.YtpmdcahomkdfmaaGreatDoorBPow
import Derived.Maps.OwnIn
import Derived.Laws.BytesArg
set_option linter.unusedVariables false
set_option linter.unusedSimpArgs false
namespace Go.Proofs.YtpmdcahomkdfmaaGreatDoor
open Go.RowKit

def L8 (xs : List Nat) : Prop := ∀ x ∈ xs, x < 256
theorem L8.take {xs : List Nat} (h : L8 xs) (n : Nat) : L8 (xs.take n) := fun x hx => h x (List.mem_of_mem_take hx)
theorem L8.nil : L8 [] := fun _ h => absurd h (by simp)
theorem L8.append {xs ys : List Nat} (h1 : L8 xs) (h2 : L8 ys) : L8 (xs ++ ys) := fun x hx => by
  rcases List.mem_append.1 hx with h | h
  · exact h1 x h
  · exact h2 x h
theorem L8.one {x : Nat} (h : x < 256) : L8 [x] := fun y hy => by rw [List.mem_singleton.1 hy]; exact h
theorem nth_lt8 {xs : List Nat} (h : L8 xs) (k : Nat) : nth xs k < 256 := by
  unfold nth
  rw [List.getD_eq_getElem?_getD]
  by_cases hk : k < xs.length
  · rw [List.getElem?_eq_getElem hk]; exact h _ (List.getElem_mem hk)
  · rw [List.getElem?_eq_none (by omega)]; simp
def u8s (xs : List Nat) : List Value := xs.map fun (x : Nat) => Value.int .u8 (x : Int)

/-- The slice value '.slice A n c' is a row of the call's own, from block base on, and holds the octets zs. -/
structure ResB (w : World) (base : Nat) (A : Option Addr) (n c : Nat) (zs : List Nat) : Prop where
  len : zs.length = n
  l32 : L8 zs
  own : w.ownsRow base 5 1 (.slice A n c) n (u8s zs)

section
variable {w w' : World} {base n c : Nat} {A : Option Addr} {zs : List Nat}
theorem u8s_length (xs : List Nat) : (u8s xs).length = xs.length := by simp [u8s]
theorem u8s_get {xs : List Nat} {k : Nat} (h : k < xs.length) : (u8s xs)[k]? = some (.int .u8 (nth xs k : Int)) := by
  simp [u8s, nth_get h, h]
theorem u8s_append (xs ys : List Nat) : u8s (xs ++ ys) = u8s xs ++ u8s ys := by simp [u8s]
theorem u8s_take (xs : List Nat) (k : Nat) : u8s (xs.take k) = (u8s xs).take k := by simp [u8s]
theorem u8s_set (xs : List Nat) (k x : Nat) : u8s (xs.set k x) = (u8s xs).set k (.int .u8 (x : Int)) := by simp [u8s]
theorem L8.set {xs : List Nat} (h : L8 xs) {k x : Nat} (hx : x < 256) : L8 (xs.set k x) := fun y hy => by
  rcases List.mem_or_eq_of_mem_set hy with h1 | h1
  · exact h y h1
  · rw [h1]; exact hx

theorem ResB.nil (w : World) (base : Nat) : ResB w base none 0 0 [] := ⟨rfl, L8.nil, World.ownsRow_nil w base _ 1⟩
theorem ResB.form (h : ResB w base A n c zs) : (A = none ∧ n = 0 ∧ c = 0) ∨ ∃ g, A = some ⟨g, 0, none⟩ ∧ base ≤ g ∧ g < w.heap.size := by
  rcases h.own.2 with ⟨e, h0⟩ | ⟨g, cap, cur, e, hb, hh, _⟩
  · injection e with e1 e2 e3; exact .inl ⟨e1, e2, e3⟩
  · injection e with e1 e2 e3; exact .inr ⟨g, e1, hb, (Array.getElem?_eq_some_iff.1 hh).1⟩
theorem ResB.n_le (h : ResB w base A n c zs) : n ≤ c ∧ c ≤ maxLen := by
  rcases h.own.2 with ⟨e, h0⟩ | ⟨g, cap, cur, e, hb, hh, h1, h2, _⟩
  · injection e with e1 e2 e3; subst e3; exact ⟨by omega, Nat.zero_le _⟩
  · injection e with e1 e2 e3; subst e3; exact ⟨h1, h2⟩
theorem ResB.cell {g j : Nat} (h : ResB w base (some ⟨g, 0, none⟩) n c zs) (hj : j < n) : w.cell? ⟨g, j, none⟩ = some (.int .u8 (nth zs j : Int)) := by
  rw [h.own.cellAt j (by omega), u8s_get (by rw [h.len]; exact hj)]
theorem ResB.frozen {g : Nat} (h : ResB w base (some ⟨g, 0, none⟩) n c zs) (j : Nat) : w.frozen? ⟨g, j, none⟩ = false := h.own.frozenAt j
theorem ResB.take {k : Nat} (h : ResB w base A n c zs) (hk : k ≤ n) : ResB w base A k c (zs.take k) := by
  refine ⟨by rw [List.length_take, h.len]; omega, h.l32.take k, by rw [u8s_length, List.length_take, h.len]; omega, ?_⟩
  rcases h.own.2 with ⟨e, h0⟩ | ⟨g, cap, cur, e, hb, hh, h1, h2, h3, h4⟩
  · injection e with e1 e2 e3; subst e1 e3; exact .inl ⟨by rw [show k = 0 by omega], by omega⟩
  · injection e with e1 e2 e3; subst e1 e3
    exact .inr ⟨g, c, cur, rfl, hb, hh, by omega, h2, h3, by rw [u8s_take, ← h4, List.take_take]; congr 1; omega⟩
theorem ResB.set {g j x : Nat} (h : ResB w base (some ⟨g, 0, none⟩) n c zs) (hx : x < 256) : ResB (w.setCell ⟨g, j, none⟩ (.int .u8 (x : Int))) base (some ⟨g, 0, none⟩) n c (zs.set j x) :=
  ⟨by rw [List.length_set, h.len], h.l32.set hx, by rw [u8s_set]; exact (h.own.stored j _).1⟩
theorem ResB.more {base' : Nat} (h : ResB w base A n c zs) (hb : base' ≤ base) : ResB w base' A n c zs := by
  refine ⟨h.len, h.l32, h.own.1, ?_⟩
  rcases h.own.2 with h0 | ⟨g, cap, cur, e, hb', rest⟩
  · exact .inl h0
  · exact .inr ⟨g, cap, cur, e, by omega, rest⟩
/-- Kept where its block is left alone. -/
theorem ResB.keep (h : ResB w base A n c zs) (hk : ∀ g, A = some ⟨g, 0, none⟩ → w'.heap[g]? = w.heap[g]?) : ResB w' base A n c zs := by
  refine ⟨h.len, h.l32, h.own.1, ?_⟩
  rcases h.own.2 with h0 | ⟨g, cap, cur, e, hb', hh, rest⟩
  · exact .inl h0
  · refine .inr ⟨g, cap, cur, e, hb', ?_, rest⟩
    injection e with e1 e2 e3
    rw [hk g e1]; exact hh
theorem ResB.below {B : Nat} (h : ResB w base A n c zs) (hb : Below B w w') (hB : w.heap.size ≤ B) : ResB w' base A n c zs :=
  h.keep fun g e => by
    rcases h.form with ⟨h0, _⟩ | ⟨g', e', _, hlt⟩
    · rw [h0] at e; cases e
    · rw [e'] at e; injection e with e; injection e with e; subst e; exact hb.block g' (by omega)
theorem ResB.grown {row : Option Nat} (h : ResB w base A n c zs) (hg : w.grownBy w' row) (hr : ∀ g, A = some ⟨g, 0, none⟩ → some g ≠ row) : ResB w' base A n c zs :=
  h.keep fun g e => by
    rcases h.form with ⟨h0, _⟩ | ⟨g', e', _, hlt⟩
    · rw [h0] at e; cases e
    · have : g' = g := by rw [e'] at e; injection e with e; injection e
      subst this; exact hg.block g' hlt (hr _ e)
end

theorem info8 : (Tryz.prog.info? 5).map (fun i => (i.zero, i.size, i.bytes)) = some (some (.int .u8 0), 1, 1) := by kernel_rfl
theorem ResB.of_row {w : World} {base n : Nat} {v : Value} {xs : List Nat} (hl : xs.length = n) (h8 : L8 xs) (h : w.ownsRow base 5 1 v n (u8s xs)) : ∃ A c, v = .slice A n c ∧ ResB w base A n c xs := by
  rcases h.2 with ⟨e, h0⟩ | ⟨g, cap, cur, e, _⟩
  · subst h0
    exact ⟨none, 0, e, hl, h8, e ▸ h⟩
  · exact ⟨_, cap, e, hl, h8, e ▸ h⟩

/-- The places that have been turned after k exchanges. -/
def turned (zs ys : List Nat) (n k : Nat) : Prop := ∀ i, i < n → nth ys i = if i < k ∨ n - k ≤ i then nth zs (n - 1 - i) else nth zs i
theorem nth_set {xs : List Nat} {i j x : Nat} (h : i < xs.length) : nth (xs.set i x) j = if j = i then x else nth xs j := by
  unfold nth
  rw [List.getD_eq_getElem?_getD, List.getD_eq_getElem?_getD, List.getElem?_set]
  by_cases e : i = j
  · subst e; simp [h]
  · rw [if_neg e, if_neg (fun e' => e e'.symm)]
theorem turned_done {zs ys : List Nat} {n k : Nat} (hz : zs.length = n) (hy : ys.length = n) (h : turned zs ys n k) (hk : n ≤ 2 * k + 1) : ys = zs.reverse := by
  apply List.ext_getElem
  · simp [hz, hy]
  · intro i h1 h2
    have hi : i < n := by omega
    have := h i hi
    rw [nth_get h1] at this
    rw [List.getElem_reverse, this]
    split
    · rw [nth_get (by omega)]; congr 1; omega
    · have : i = n - 1 - i := by omega
      rw [nth_get (by omega)]; congr 1; omega
theorem turned_step {zs ys : List Nat} {n k : Nat} (hy : ys.length = n) (h : turned zs ys n k) (hk : 2 * k + 1 < n) :
    turned zs ((ys.set k (nth ys (n - 1 - k))).set (n - 1 - k) (nth ys k)) n (k + 1) := by
  intro i hi
  have h1 := h k (by omega)
  have h2 := h (n - 1 - k) (by omega)
  rw [if_neg (by omega)] at h1 h2
  rw [nth_set (by simp; omega), nth_set (by omega), h1, h2]
  by_cases e1 : i = n - 1 - k
  · subst e1
    rw [if_pos rfl, if_pos (.inr (by omega))]; congr 1; omega
  · rw [if_neg e1]
    by_cases e2 : i = k
    · subst e2; rw [if_pos rfl, if_pos (.inl (by omega))]
    · rw [if_neg e2, h i hi]
      by_cases e3 : i < k ∨ n - k ≤ i
      · rw [if_pos e3, if_pos (by omega)]
      · rw [if_neg e3, if_neg (by omega)]

set_option maxRecDepth 100000 in
theorem Reverse_c {base n c : Nat} {A : Option Addr} {zs : List Nat} (w : World) (hown : ResB w base A n c zs) (hn : n ≤ 1099511627776) :
    Calls Tryz.prog 103 #[.slice A n c] w fun e w' => (∃ v, e = .returned v) ∧ ResB w' base A n c zs.reverse ∧ w.grownBy w' (Value.slice A n c).ownBlock := by
  have HZ := Lib.hid hown.len
  go_enter Tryz.func103, Tryz.ntmps103
  go_wp2
  go_loopw [2, 3] (fun i j wr => ∃ (k : Nat) (ys : List Nat), 2 * k ≤ n + 1 ∧ i = .int .i64 (k : Int) ∧ j = .int .i64 ((n : Int) - 1 - (k : Int)) ∧ Hid (turned zs ys n k) ∧ ResB wr base A n c ys ∧ w.grownBy wr (Value.slice A n c).ownBlock) (fun i _ _ => n + 1 - (RowKit.intOf i).toNat)
  case atStart => exact ⟨0, zs, by omega, rfl, by go_num, fun i hi => by rw [if_neg (by omega)], hown, World.grownBy.refl w _⟩
  case round =>
    obtain ⟨k, ys, hk, rfl, hj, ht, hr, hg⟩ := hrel
    by_cases hlt : 2 * k + 1 < n
    · obtain ⟨g, hA⟩ : ∃ g, A = some ⟨g, 0, none⟩ := by
        rcases hown.form with ⟨_, h, _⟩ | ⟨g, h, _⟩
        · omega
        · exact ⟨g, h⟩
      subst hA
      obtain ⟨m, hm⟩ : ∃ m, m = n - 1 - k := ⟨_, rfl⟩
      have hj2 := hj.trans (congrArg (Value.int .i64) (show (n : Int) - 1 - (k : Int) = (m : Int) by omega))
      clear hj
      subst hj2
      have hkm : k < m := by omega
      have hmn : m < n := by omega
      have hcm : wr.cell? ⟨g, m, none⟩ = some (.int .u8 (nth ys m : Int)) := hr.cell hmn
      have hck : wr.cell? ⟨g, k, none⟩ = some (.int .u8 (nth ys k : Int)) := hr.cell (by omega)
      have hfk : wr.frozen? ⟨g, k, none⟩ = false := hr.frozen _
      have hfm : wr.frozen? ⟨g, m, none⟩ = false := hr.frozen _
      have hne1 : ¬ k = m := by omega
      have hne2 : ¬ m = k := by omega
      have hx1 := nth_lt8 hr.l32 m
      have hx2 := nth_lt8 hr.l32 k
      have HM := Lib.hid hm
      clear hm
      go_wp2
      go_region
      go_wp2
      have h1 := (hr.set (j := k) hx1).set (j := m) hx2
      have hd : ResB (((wr.setCell ⟨g, k, none⟩ (.int .u8 (nth ys m : Int))).setCell ⟨g, m, none⟩ (.int .u8 (nth ys k : Int))).drew) base (some ⟨g, 0, none⟩) n c ((ys.set k (nth ys m)).set m (nth ys k)) := h1.keep fun _ _ => rfl
      refine ⟨⟨k + 1, (ys.set k (nth ys m)).set m (nth ys k), by omega, by go_num, congrArg (Value.int .i64) (by have := HM.out; omega), ?_, hd, only_drew (only_set (only_set hg _ _) _ _)⟩, by simp [RowKit.intOf]; omega⟩
      have h2 := turned_step hr.len ht.out hlt
      rw [← HM.out] at h2
      exact h2
    · subst hj
      have hge : (n : Int) - 1 - (k : Int) ≤ (k : Int) := by omega
      have hd := turned_done HZ.out hr.len ht.out (by omega)
      subst hd
      go_wp2
      go_end0
      exact ⟨⟨_, rfl⟩, hr, hg⟩

end Go.Proofs.YtpmdcahomkdfmaaGreatDoor

namespace Go.Proofs.YtpmdcahomkdfmaaGreatDoor

/-- The first k digits of g, the lowest first. -/
def digs (k g : Nat) : List Nat := (List.range k).map fun i => g / 10 ^ i % 10
theorem digs_zero (g : Nat) : digs 0 g = [] := rfl
theorem digs_succ (k g : Nat) : digs (k + 1) g = digs k g ++ [g / 10 ^ k % 10] := by simp [digs, List.range_succ]
theorem digs_length (k g : Nat) : (digs k g).length = k := by simp [digs]
theorem digs_d10 (k g : Nat) : D10 (digs k g) := fun x hx => by
  obtain ⟨i, _, rfl⟩ := List.mem_map.1 hx
  omega
theorem digs_val (k g : Nat) : dval (digs k g) = g % 10 ^ k := by
  induction k with
  | zero => simp [digs, dval, Nat.mod_one]
  | succ k ih =>
    rw [digs_succ, dval_snoc, ih, digs_length]
    unfold dp
    rw [Nat.mod_pow_succ]
theorem digs_nine {g : Nat} (h : g < 1000000000) : dval (digs 9 g) = g := by
  rw [digs_val]; exact Nat.mod_eq_of_lt h
/-- What groups tell. -/
def gval : List Nat → Nat
  | [] => 0
  | x :: r => x + 1000000000 * gval r
theorem gval_snoc (xs : List Nat) (y : Nat) : gval (xs ++ [y]) = gval xs + 1000000000 ^ xs.length * y := by
  induction xs with
  | nil => simp [gval]
  | cons x r ih => simp only [List.cons_append, gval, ih, List.length_cons, Nat.pow_succ, Nat.mul_add]; rw [← Nat.mul_assoc, Nat.mul_comm 1000000000 (1000000000 ^ r.length), Nat.add_assoc]
theorem dp_nine (k : Nat) : dp (9 * k) = 1000000000 ^ k := by unfold dp; rw [Nat.pow_mul]
/-- One group more. -/
theorem group_step {ds pre : List Nat} {g : Nat} (hl : ds.length = 9 * pre.length) (hv : dval ds = gval pre) (hg : g < 1000000000) : dval (ds ++ digs 9 g) = gval (pre ++ [g]) := by
  rw [dval_append, gval_snoc, digs_nine hg, hl, dp_nine, hv]

/-- A text of octets. -/
def txt (xs : List Nat) : ByteArray := ⟨(xs.map UInt8.ofNat).toArray⟩
/-- The decimal text of a number. -/
def IsDec (v : Nat) (s : ByteArray) : Prop := (v = 0 ∧ s = txt [48]) ∨ (0 < v ∧ ∃ ds, DCan ds ∧ dval ds = v ∧ s = txt ((ds.map (· + 48)).reverse))
end Go.Proofs.YtpmdcahomkdfmaaGreatDoor

namespace Go.Proofs.YtpmdcahomkdfmaaGreatDoor
open Go.RowKit
attribute [local go_sem] Oper.semAt_some

theorem groups_c (A : Option Addr) (n c : Nat) (w : World) :
    Calls Tryz.prog 102 #[.slice A n c] w fun e w' => e = .returned (.func (.func 128) #[] #[.pointer (some ⟨w.heap.size, 0, none⟩)]) ∧ w.alloc (.cells #[.slice A n c] 22) = w' := by
  have hmf : ∀ (fn : Fn) (first cap : Array Value) (w : World), (Instr.makeFunc fn first cap).run Tryz.prog w = .ok (.func fn first cap) w := fun _ _ _ _ => rfl
  go_enter Tryz.func102, Tryz.ntmps102
  go_wp2
  go_ret
  exact ⟨rfl, rfl⟩

theorem Print_err {S : Nat → Prop} {n c : Nat} {A : Option Addr} {xs : List Nat} (w : World) (ha : Rd w S A n xs) (hn : n ≤ 9223372036854775807) (he : chk xs ≠ 0) :
    Calls Tryz.prog 76 #[.slice A n c] w fun e w' => e = .returned (.tuple #[.string ⟨#[]⟩, .int .i64 (chk xs : Int)]) ∧ w = w' := by
  have h1 := Check_c (c := c) w ha hn
  have hb : (((chk xs : Nat) : Int) != 0) = true := by rw [bne_iff_ne]; omega
  have H1 := Lib.hid h1
  clear h1 he
  go_enter Tryz.func76, Tryz.ntmps76
  go_wp2_with fail
  refine H1.out.mono ?_
  rintro e w' ⟨rfl, rfl⟩
  go_wp2
  go_ret2
  exact ⟨rfl, rfl⟩

theorem chk_can {xs : List Nat} (h : Can xs) (hl : xs.length ≤ 256) : chk xs = 0 := by
  unfold chk
  rw [if_neg (by omega), if_neg]
  rintro ⟨h1, h2⟩
  rcases h.2 with e | e
  · rw [e] at h1; simp at h1
  · exact e h2

theorem gL_lt {v x : Nat} {pre rest : List Nat} : gL v = pre ++ x :: rest → x < 1000000000 := by
  intro h
  have hm : x ∈ gL v := by rw [h]; simp
  have key : ∀ f u, ∀ y ∈ gOf f u, y < 1000000000 := by
    intro f
    induction f with
    | zero => intro u y hy; simp [gOf] at hy
    | succ f ih =>
      intro u y hy
      unfold gOf at hy
      split at hy
      · simp at hy
      · rcases List.mem_cons.1 hy with h | h
        · omega
        · exact ih _ _ h
  exact key _ _ _ hm
theorem gval_gL (v : Nat) : gval (gL v) = v := by
  induction v using Nat.strongRecOn with
  | _ v ih =>
    rcases Nat.eq_zero_or_pos v with h | h
    · subst h; rfl
    · rw [gL_pos h, gval, ih _ (by omega)]; omega
theorem gL_length {v k : Nat} (h : v < 1000000000 ^ k) : (gL v).length ≤ k := by
  induction k generalizing v with
  | zero => simp at h; subst h; simp [gL_zero]
  | succ k ih =>
    rcases Nat.eq_zero_or_pos v with h0 | h0
    · subst h0; simp [gL_zero]
    · rw [gL_pos h0, List.length_cons]
      have := ih (v := v / 1000000000) (by rw [Nat.pow_succ] at h; exact Nat.div_lt_of_lt_mul (by rw [Nat.mul_comm]; exact h))
      omega
theorem two_pow_lt {j m : Nat} (h : j ≤ 29 * m) (hm : m ≠ 0) : 2 ^ j < 1000000000 ^ m := by
  have h2 : 2 ^ j ≤ (2 ^ 29) ^ m := by rw [← Nat.pow_mul]; exact Nat.pow_le_pow_right (by omega) h
  exact Nat.lt_of_le_of_lt h2 (Nat.pow_lt_pow_left (by decide) hm)
theorem bp_lt_g {n v : Nat} (h : n ≤ 256) (hv : v < bp n) : ∃ m, m ≤ 283 ∧ v < 1000000000 ^ m := by
  obtain ⟨m, hm⟩ : ∃ m, m = 283 := ⟨_, rfl⟩
  refine ⟨m, by omega, ?_⟩
  have h1 : bp n = 2 ^ (32 * n) := by unfold bp; rw [Nat.pow_mul]
  rw [h1] at hv
  exact Nat.lt_trans hv (two_pow_lt (by omega) (by omega))

/-- Digits as octets. -/
def chars (ds : List Nat) : List Nat := ds.map (· + 48)
theorem chars_snoc (ds : List Nat) (d : Nat) : chars (ds ++ [d]) = chars ds ++ [d + 48] := by simp [chars]
theorem chars_l8 {ds : List Nat} (h : D10 ds) : L8 (chars ds) := fun x hx => by
  obtain ⟨d, hd, rfl⟩ := List.mem_map.1 hx
  have := h d hd
  omega

theorem str_txt (xs : List Nat) : strOfNums (xs.map fun (x : Nat) => (x : Int)) = txt xs := by
  simp [strOfNums, txt, Function.comp_def]
theorem chars_get {ds : List Nat} {k : Nat} (h : k < ds.length) : nth (chars ds) k = nth ds k + 48 := by
  unfold chars
  rw [nth_get (by simpa using h), nth_get h]; simp
theorem tl_pos_of {ds : List Nat} (h : 0 < dval ds) : 0 < tl ds ds.length := by
  rcases Nat.eq_zero_or_pos (tl ds ds.length) with e | e
  · have h1 := trimmed_dval ds
    have h2 : trimmed ds = [] := by unfold trimmed; rw [e, List.take_zero]
    rw [h2, dval_nil] at h1
    omega
  · exact e

/-- A row of octets made a text. -/
theorem conv_txt {X : World} {base g n c : Nat} {zs : List Nat} (h : ResB X base (some ⟨g, 0, none⟩) n c zs) : (convert 78 9 (.slice (some ⟨g, 0, none⟩) n c)).run Tryz.prog X = .ok (.string (txt zs)) X := by
  have h1 := run_convert_bytes_arg (P := Tryz.prog) X 78 5 Tryz.underlying78 Tryz.underlying5 g 0 n c (zs.map fun (x : Nat) => (x : Int)) (by simp [h.len]) (fun i hi => by
    rw [Nat.zero_add, h.cell hi]
    have hl : i < zs.length := by rw [h.len]; exact hi
    simp [nth_get hl, hl]) 9 Tryz.underlying9
  rw [str_txt] at h1
  exact h1

set_option maxRecDepth 100000 in
theorem Print_ok {S : Nat → Prop} {n c : Nat} {A : Option Addr} {xs : List Nat} (w : World) (ha : Rd w S A n xs) (hS : ∀ b, S b → b < w.heap.size) (hcan : Can xs) (hn : n ≤ 256) :
    Calls Tryz.prog 76 #[.slice A n c] w fun e w' => ∃ s, e = .returned (.tuple #[.string s, .int .i64 0]) ∧ IsDec (val xs) s ∧ Below w.heap.size w w' := by
  have hl := ha.len
  have h1 := Check_c (c := c) w ha (by omega)
  rw [chk_can hcan (by omega)] at h1
  have H1 := Lib.hid h1
  clear h1
  by_cases h0 : n = 0
  · subst h0
    have hx : xs = [] := List.eq_nil_of_length_eq_zero hl
    have hd : IsDec (val xs) (txt [48]) := .inl ⟨by rw [hx]; rfl, rfl⟩
    clear hx hl
    go_enter Tryz.func76, Tryz.ntmps76
    go_wp2_with fail
    refine H1.out.mono ?_
    rintro e w' ⟨rfl, rfl⟩
    go_wp2
    go_ret2
    exact ⟨_, rfl, hd, Below.refl _ _⟩
  · have hne : ((n : Int) == 0) = false := by rw [beq_eq_false_iff_ne]; omega
    have hpos : 0 < val xs := by
      rcases Nat.eq_zero_or_pos (val xs) with h | h
      · have := hcan.val_zero h
        rw [this] at hl
        exact absurd hl.symm h0
      · exact h
    have HL := Lib.hid hl
    clear hl
    refine (callsIn_wide (n := 0)).1 ?_
    refine callsIn_of_wp_marks Tryz.func76 rfl trivial ?_ rfl
    simp only [Tryz.ntmps76, List.size_toArray, List.length_cons, List.length_nil, Nat.reduceAdd, Nat.reduceSub, Array.replicate_succ, Array.replicate_zero, List.push_toArray, List.append_toArray, List.nil_append, List.cons_append]
    gi_wp2_with (first
      | (refine ⟨trivial, rfl, ?_⟩; gi_at_call 101; refine (callsIn_wide.2 H1.out).mono ?_; rintro e w' ⟨rfl, rfl⟩)
      | (refine ⟨trivial, rfl, ?_⟩; gi_at_call 102; refine (callsIn_wide.2 (groups_c _ _ _ _)).mono ?_; rintro e w' ⟨rfl, rfl⟩))
    obtain ⟨W0, hW0⟩ : ∃ W0, (w.alloc (.cells #[.slice none 0 0] 78)).alloc (.cells #[.slice A n c] 22) = W0 := ⟨_, rfl⟩
    rw [hW0]
    have hz : W0.heap.size = w.heap.size + 2 := by rw [← hW0]; simp
    have hb0 : Below w.heap.size w W0 := by rw [← hW0]; exact ((Below.refl _ _).alloc (Nat.le_refl _) _).alloc (by simp) _
    have bO : Boxed W0 w.heap.size 78 (.slice none 0 0) := by
      rw [← hW0]
      exact (Boxed.new w 78 (.slice none 0 0)).alloc _
    have bA : Boxed W0 (w.heap.size + 1) 22 (.slice A n c) := by
      rw [← hW0]
      have h := Boxed.new (w.alloc (.cells #[.slice none 0 0] 78)) 22 (.slice A n c)
      rwa [World.size_alloc] at h
    clear hW0
    have hglen : (gL (val xs)).length ≤ 283 := by
      obtain ⟨m, hm, hv⟩ := bp_lt_g (v := val xs) hn (by have := val_lt hcan.l32; rwa [HL.out] at this)
      have := gL_length hv
      omega
    refine range_law (gf := 128) (lb := #[.pointer (some ⟨w.heap.size + 1, 0, none⟩)]) rfl (enters_of Tryz.func128 (by kernel_rfl) rfl) (encs := encu) (xs := gL (val xs)) (keep := fun _ => False)
      (fun W hW => groups1_iter W ((hW.cell (p := ⟨w.heap.size + 1, 0, none⟩) (by show w.heap.size + 1 < W0.heap.size; omega)).trans bA.cell)
        ((ha.below hb0 hS).below hW (fun b h => by have := hS b h; omega)) (fun b h => by have := hS b h; have := hW.size; omega) hcan (by omega))
      (fun _ => rfl) (fun k hk => hk.elim)
      (fun r pre W => ∃ (A' : Option Addr) (n' c' : Nat) (ds : List Nat), Boxed W w.heap.size 78 (.slice A' n' c') ∧ ResB W w.heap.size A' n' c' (chars ds) ∧ D10 ds ∧ Hid (n' = 9 * pre.length) ∧ Hid (dval ds = gval pre) ∧ Below w.heap.size w W ∧ (∀ g, A' = some ⟨g, 0, none⟩ → g ≠ w.heap.size ∧ ∀ k, r = some k → g ≠ k))
      ?_ ?_ ?_ ?_
    · rintro r pre X Y row ⟨A', n', c', ds, h1, h2, h3, h4, h5, h6, h7⟩ hg hr
      refine ⟨A', n', c', ds, h1.kept hg (fun e => by have := (hr _ e.symm).1; omega), h2.keep (fun g e => ?_), h3, h4, h5, h6.grown hg h6.size (fun k e => by have := (hr k e).1; omega), h7⟩
      rcases h2.form with ⟨h, _⟩ | ⟨g', h, _, hlt⟩
      · rw [h] at e; cases e
      · obtain rfl : g' = g := by rw [h] at e; injection e with e; injection e
        refine hg.block g' hlt (fun e' => ?_)
        rcases (hr g' e'.symm).2 with h8 | ⟨o, ho, hc⟩
        · exact (h7 g' e).2 g' h8 rfl
        · rcases h2.own.2 with ⟨e2, _⟩ | ⟨g2, cap, cur, e2, _, hh, _⟩
          · injection e2 with e2; rw [e2] at e; cases e
          · injection e2 with e2
            rw [e] at e2
            injection e2 with e2
            injection e2 with e2
            subst e2
            rw [hh] at ho
            injection ho with ho
            subst ho
            cases hc
    · intro r W hW hr
      exact ⟨none, 0, 0, [], (hW.block _ (by omega)).trans bO, ResB.nil _ _, D10.nil, rfl, rfl, hb0.trans (hW.mono (by omega)), fun g e => by cases e⟩
    · rintro l r pre x rest hx W K hK
      have hxlt := gL_lt hx
      have hpl : pre.length < 283 := by
        have := congrArg List.length hx
        simp at this
        omega
      dsimp only [encu]
      have HK := Lib.hid hK
      clear hK hx
      gi_wp2
      refine HK.out _ ?_
      rintro W2 ⟨A', n', c', ds, h1, h2, h3, h4, h5, h6, h7⟩ hz2 hr2
      gi_wp2
      have hn2 := Lib.hid h4.out
      gi_loopw [6, 18] (fun q i wr => ∃ (j qv n2 c2 : Nat) (A2 : Option Addr), j ≤ 9 ∧ i = .int .i64 (j : Int) ∧ q = .int .u32 (qv : Int) ∧ Hid (qv = x / 10 ^ j) ∧ qv < 1000000000 ∧ n2 ≤ 2547 + j ∧ Hid (n2 = n' + j) ∧ Boxed wr w.heap.size 78 (.slice A2 n2 c2) ∧
          ResB wr w.heap.size A2 n2 c2 (chars (ds ++ digs j x)) ∧ Below w.heap.size W2 wr ∧ KeepsOthers W2 wr ∧ (∀ k, r = some k → wr.heap[k]? = W2.heap[k]?) ∧ (∀ g, A2 = some ⟨g, 0, none⟩ → g ≠ w.heap.size ∧ ∀ k, r = some k → g ≠ k)) (fun _ i _ => 9 - (RowKit.intOf i).toNat)
      case atStart =>
        refine ⟨0, x, n', c', A', by omega, rfl, rfl, by show _ = _; simp, hxlt, by have := hn2.out; omega, rfl, h1, ?_, Below.refl _ _, KeepsOthers.refl _, fun _ _ => rfl, h7⟩
        rw [digs_zero, List.append_nil]; exact h2
      case round =>
        obtain ⟨j, qv, n2, c2, A2, hj, rfl, rfl, hq, hql, hnb, hnn, k1, k2, k3, k4, k5, k6⟩ := hrel
        by_cases hj9 : j = 9
        · subst hj9
          gi_wp2
          refine ⟨k4, ⟨k4.size, fun k hk => hk.elim False.elim (k5 k)⟩, A2, n2, c2, ds ++ digs 9 x, k1, k2, D10.append.2 ⟨h3, digs_d10 9 x⟩, ?_, ?_, h6.trans k3, k6⟩
          · show _ = _
            rw [hnn.out, hn2.out, List.length_append]; simp; omega
          · refine group_step ?_ h5.out hxlt
            have := h2.len
            simp [chars] at this
            rw [this, hn2.out]
        · have hlt : j < 9 := by omega
          have hc1 := k1.cell
          have hf1 := k1.frozen
          obtain ⟨i0, hi, hz0, hz1, hz2⟩ := info_parts info8
          have hro : ∀ o, (wr.alloc o).ownsRow w.heap.size 5 1 (.slice A2 n2 c2) n2 (u8s (chars (ds ++ digs j x))) := fun o => k2.own.alloc o
          have hsz := k3.size
          have hs6 := h6.size
          have hne : ∀ g, (Value.slice A2 n2 c2).ownBlock = some g → A2 = some ⟨g, 0, none⟩ := fun g e => by
            rcases k2.form with ⟨h, _⟩ | ⟨g', h, _, hlt⟩
            · rw [h] at e; simp [Value.ownBlock] at e
            · rw [h] at e ⊢; simp [Value.ownBlock] at e; rw [e]
          have hbx : ∀ o X, (wr.alloc o).grownBy X (Value.slice A2 n2 c2).ownBlock → Boxed X w.heap.size 78 (.slice A2 n2 c2) := fun o X hg => (k1.alloc o).kept hg (fun e => (k6 _ (hne _ e.symm)).1 rfl)
          have HNE := Lib.hid hne
          clear hne
          gi_wp2_with (gi_at_builtin; refine wpListIn_append_own_at _ rfl (.tmp 20) (.tmp 25) _ rfl w.heap.size 5 i0 (.int .u8 0) 1 1 Tryz.underlying78 hi hz0 hz1 hz2 rfl (by decide) (.slice A2 n2 c2) n2 (u8s (chars (ds ++ digs j x))) rfl (hro _) ⟨wr.heap.size, 0, none⟩ 1 1 [.int .u8 (48 + (qv : Int) % 10)] rfl rfl (cell_new1 _ _ _ _ rfl) (by simp [Value.oneCell']) (by unfold maxLen; omega) (by omega) (by simp; omega) ?_; intro v' w1 hown1 hg1 _ hat1; have kb := hbx _ _ hg1; obtain ⟨g', cap', rfl⟩ := ownsRow_succ hown1; have hc5 := kb.cell; have hf5 := kb.frozen)
          have hd48 : (48 + (qv : Int) % 10) = ((qv % 10 + 48 : Nat) : Int) := by omega
          have hdig : chars (ds ++ digs (j + 1) x) = chars (ds ++ digs j x) ++ [qv % 10 + 48] := by
            rw [digs_succ, ← List.append_assoc, chars_snoc, hq.out]
          rw [hd48] at hown1
          have hrb : ResB w1 w.heap.size (some ⟨g', 0, none⟩) (n2 + 1) cap' (chars (ds ++ digs (j + 1) x)) := by
            rw [hdig]
            exact ⟨by rw [List.length_append, k2.len]; rfl, L8.append k2.l32 (L8.one (by omega)), by unfold u8s at hown1 ⊢; rw [List.map_append]; exact hown1⟩
          have hg' : g' ≠ w.heap.size ∧ ∀ k, r = some k → g' ≠ k := by
            rcases hat1 with h | h
            · exact k6 g' (HNE.out g' (by rw [← h]; rfl))
            · simp [Value.ownBlock] at h
              have hlt0 := k1.lt
              refine ⟨by omega, fun k hk => ?_⟩
              have := hr2 k hk
              have := k4.size
              omega
          refine ⟨⟨j + 1, qv / 10, n2 + 1, cap', some ⟨g', 0, none⟩, by omega, by go_num, by go_num, ?_, by omega, by omega, ?_, kb.set _, ?_, ?_, ?_, ?_, ?_⟩, by simp [RowKit.intOf]; omega⟩
          · show _ = _
            rw [hq.out, Nat.div_div_eq_div_mul, Nat.pow_succ]
          · show _ = _
            rw [hnn.out]; rfl
          · refine hrb.grown (grownBy_setCell' _ _ _) (fun g e he => ?_)
            injection e with e
            injection e with e
            injection he with he
            exact hg'.1 (by omega)
          · refine ((k3.alloc (by omega) _).grown hg1 (by simp; omega) (fun k e => ?_)).setCell (p := ⟨w.heap.size, 0, none⟩) (Nat.le_refl _) _
            have e2 := HNE.out k e
            rcases k2.form with ⟨h, _⟩ | ⟨g2, h, hb, _⟩
            · rw [h] at e2; cases e2
            · rw [h] at e2; injection e2 with e2; injection e2 with e2; omega
          · refine ((k4.trans (KeepsOthers.alloc _ _)).trans (KeepsOthers.of_grownBy hg1 (fun k o e ho => ?_))).trans (KeepsOthers.setCell _ _ _)
            have e2 := HNE.out k e
            rcases (hro _).2 with ⟨e3, _⟩ | ⟨g2, cap, cur, e3, _, hh, _⟩
            · injection e3 with e3; rw [e3] at e2; cases e2
            · injection e3 with e3
              rw [e2] at e3
              injection e3 with e3
              injection e3 with e3
              subst e3
              rw [hh] at ho
              injection ho with ho
              subst ho; rfl
          · intro k hk
            have h8 := hr2 k hk
            have h9 := k4.size
            rw [Below.heap_setCell _ _ _ _ (show k ≠ w.heap.size by omega), hg1.block k (by simp; omega) (fun e => (k6 k (HNE.out k e.symm)).2 k hk rfl), Below.heap_alloc _ _ _ (by omega)]
            exact k5 k hk
          · intro g e
            injection e with e
            injection e with e
            subst e
            exact hg'
    · intro D r W ⟨A', n', c', ds, h1, h2, h3, h4, h5, h6, h7⟩ hD hK
      have hdv : dval ds = val xs := by rw [h5.out, gval_gL]
      have hdl : ds.length = n' := by have := h2.len; simpa [chars] using this
      have htp : 0 < tl ds n' := by rw [← hdl]; exact tl_pos_of (by omega)
      have hn'p : 0 < n' := by have := tl_le ds n'; omega
      obtain ⟨g, hA⟩ : ∃ g, A' = some ⟨g, 0, none⟩ := by
        rcases h2.form with ⟨_, h, _⟩ | ⟨g, h, _⟩
        · omega
        · exact ⟨g, h⟩
      subst hA
      have hgb := (h7 g rfl).1
      have hn'b : n' ≤ 2547 := by have := h4.out; omega
      have hc'n := h2.n_le
      have HDV := Lib.hid hdv
      have HDL := Lib.hid hdl
      clear hdv hdl h4 h5 h7
      gi_wp2
      gi_loopg [] n' (fun k wr => k ≤ n' ∧ Hid (tl ds k = tl ds n') ∧ Boxed wr w.heap.size 78 (.slice (some ⟨g, 0, none⟩) k c') ∧ W.grownBy wr (some w.heap.size))
      case atStart => exact ⟨Nat.le_refl _, rfl, h1, World.grownBy.refl W _⟩
      case round =>
        obtain ⟨hk, ht, hb, hg⟩ := hrel
        have hkp : 0 < gk := by have h := ht.out; have := tl_le ds gk; omega
        obtain ⟨j, rfl⟩ : ∃ j, gk = j + 1 := ⟨gk - 1, by omega⟩
        have hcell : wr.cell? ⟨g, j, none⟩ = some (.int .u8 ((nth ds j + 48 : Nat) : Int)) := by
          have := h2.cell (j := j) (by omega)
          rw [chars_get (by rw [HDL.out]; omega)] at this
          exact only_cell hg (fun e => hgb e) this
        have hc1 := hb.cell
        have hf1 := hb.frozen
        by_cases hz0 : nth ds j = 0
        · have hs := Lib.hid ((tl_step hz0).symm.trans ht.out)
          rw [hz0] at hcell
          clear hz0 ht
          gi_wp2
          gi_roundg j
          case measure => omega
          case rel => exact ⟨by omega, hs, hb.set _, only_set hg _ _⟩
        · have he := Lib.hid (ht.out.symm.trans (tl_stop hz0))
          have hbq : (((nth ds j + 48 : Nat) : Int) == 48) = false := by rw [beq_eq_false_iff_ne]; omega
          clear hz0 ht
          have hrow : ResB wr w.heap.size (some ⟨g, 0, none⟩) (j + 1) c' ((chars ds).take (j + 1)) := (h2.grown hg (fun g' e he => by injection e with e; injection e with e; injection he with he; omega)).take (by omega)
          have hsz := hg.size
          have hbx : ∀ X, wr.grownBy X (Value.slice (some ⟨g, 0, none⟩) (j + 1) c').ownBlock → Boxed X w.heap.size 78 (.slice (some ⟨g, 0, none⟩) (j + 1) c') := fun X h => hb.kept h (fun e => by simp [Value.ownBlock] at e; omega)
          gi_wp2_with (refine ⟨trivial, rfl, ?_⟩; gi_at_call 103; refine (callsIn_wide.2 (Reverse_c _ hrow (by omega))).mono ?_; rintro e w3 ⟨⟨v3, rfl⟩, hr3, hg3⟩; have kb := hbx _ hg3; have hc5 := kb.cell; have hcv := conv_txt hr3)
          obtain ⟨hgW, hgc⟩ : w.heap.size ≤ g ∧ ∃ cur, W.heap[g]? = some (.cells cur 5 (0, 0)) := by
            rcases h2.own.2 with ⟨e, _⟩ | ⟨g2, cap, cur, e, hb2, hh, _⟩
            · cases e
            · injection e with e; injection e with e; injection e with e; subst e; exact ⟨hb2, cur, hh⟩
          have hDl := (Array.getElem?_eq_some_iff.1 hK).1
          have hDg : D ≠ g := by
            rintro rfl
            obtain ⟨cur, hh⟩ := hgc
            rw [hh] at hK
            cases hK
          have hK1 : wr.heap[D]? = some (.deferred (some [])) := (hg.block D hDl (fun e => by injection e with e; omega)).trans hK
          have hK3 : w3.heap[D]? = some (.deferred (some [])) := (hg3.block D (by omega) (fun e => by simp [Value.ownBlock] at e; exact hDg e)).trans hK1
          have hb3 : Below w.heap.size w w3 := (h6.trans (below_of_only hg (Nat.le_refl _) h6.size)).grown hg3 (by have := h6.size; omega) (fun k e => by simp [Value.ownBlock] at e; omega)
          refine ⟨by simp, .inl ⟨_, _, rfl, run_takeDeferred hK3, ?_⟩⟩
          refine ⟨_, results_tmp2 rfl _ _ _, _, rfl, .inr ⟨hpos, trimmed ds, trimmed_dcan h3, (trimmed_dval ds).trans HDV.out, ?_⟩, hb3.trans (below_of_only (only_putObj _ _ _) (by omega) hb3.size)⟩
          unfold trimmed chars
          rw [HDL.out, he.out, List.map_take]
end Go.Proofs.YtpmdcahomkdfmaaGreatDoor
