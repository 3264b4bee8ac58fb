/-
  Values that may be, as the reference's Check goes through them. Pure, no program.
  Contracts of the reference's text, Deep and Size (bolterref05).
  Contract of dec's Int (its Settle ahead of it).
-/
import Derived.Test.YtpbfdgjeocmikaaGreatDoorRVchk
import Derived.Test.YtpbfdgjeocmikaaGreatDoorRDset
import Derived.Test.YtpbfdgjeocmikaaGreatDoorRDop
import Derived.Laws.Concat
import Derived.Test.YtpbfdgjeocmikaaGreatDoorRNparse
import Derived.PlainAid
import Derived.Test.YtpbfdgjeocmikaaGreatDoorRNrefe
import Derived.Deep.AppendLies
import Derived.Deep.RegionHeld3
import Derived.Test.YtpbfdgjeocmikaaGreatDoorRDprt
import Derived.Test.YtpbfdgjeocmikaaGreatDoorRUbounds
import Derived.Test.YtpbfdgjeocmikaaGreatDoorRUlib
import Derived.Test.YtpbfdgjeocmikaaGreatDoorRDref
import Derived.Test.YtpbfdgjeocmikaaGreatDoorRDbm
import Derived.Deep.QuietTactic
import Derived.BigQuiet
import Derived.Deep.Cut
import Derived.Deep.CutRange
import Derived.Laws.EntriesVeiled
import Derived.Test.YtpbfdgjeocmikaaGreatDoorRArgs
import Derived.Test.YtpbfdgjeocmikaaGreatDoorRUpure
import Derived.Deep.CutBlock
set_option linter.unusedVariables false
set_option linter.unusedSimpArgs false
namespace Go.Proofs.YtpbfdgjeocmikaaGreatDoor
open Go.RowKit

theorem preL_parts (lv : Nat) : ∀ l : List VT, (preL lv l).map (·.2) = l.flatMap partsV
  | [] => by simp [preL]
  | v :: r => by
    simp only [preL, List.map_append, List.flatMap_cons, preL_parts lv r]
    rw [pre_snd lv 0 v]; rfl
theorem parts_eq (x : VT) : partsV x = x :: x.inner.flatMap partsV := by
  unfold partsV
  rw [pre_eq]
  simp only [List.map_cons]
  rw [preL_parts]; rfl
/-- A value all of whose parts may be by themselves. -/
def Gd (x : VT) : Prop := ∀ y ∈ partsV x, alone y = 0
theorem Gd.own {x : VT} (h : Gd x) : alone x = 0 := h x (by rw [parts_eq]; exact List.mem_cons_self)
theorem Gd.sub {x z : VT} (h : Gd x) (hz : z ∈ x.inner) : Gd z := fun y hy => h y (by rw [parts_eq]; exact List.mem_cons_of_mem _ (List.mem_flatMap.2 ⟨z, hz, hy⟩))
theorem fitV_mk2 (k : Int) (n : Bool) (x : List Nat) (e : Int) (t : ByteArray) (l : List VT) (ks : List ByteArray) : fitV (.mk k n x e t l ks) =
    if k = 3 then okB n x e && decide (t.size + l.length + ks.length = 0)
    else if k = 4 then decide (x.length + l.length + ks.length = 0) && !n && decide (e = 0)
    else if k = 5 then decide (x.length + t.size + ks.length = 0) && !n && decide (e = 0)
    else if k = 6 then decide (ks.length = l.length) && rises ks && decide (x.length + t.size = 0) && !n && decide (e = 0)
    else decide (x.length + t.size + l.length + ks.length = 0) && !n && decide (e = 0) := rfl
theorem ownT_mk (k : Int) (n : Bool) (x : List Nat) (e : Int) (t : ByteArray) (l : List VT) (ks : List ByteArray) : ownT (.mk k n x e t l ks) = if k = 4 then [t] else if k = 6 then ks else [] := rfl
/-- What a value that may be by itself is. -/
theorem alone_zero {x : VT} (h : alone x = 0) : (0 ≤ x.kind ∧ x.kind ≤ 6) ∧ (∀ s ∈ ownT x, isT s.data.toList = true ∧ s.size ≤ 16384) ∧ (ownT x).length ≤ 4096 ∧ x.inner.length ≤ 4096 ∧ fitV x = true := by
  unfold alone at h
  split at h
  · exact absurd h (by decide)
  rename_i h1
  split at h
  · exact absurd h (by decide)
  rename_i h2
  split at h
  · exact absurd h (by decide)
  rename_i h3
  split at h
  · exact absurd h (by decide)
  rename_i h4
  split at h
  · rename_i h5
    refine ⟨by omega, fun s hs => ⟨?_, ?_⟩, by omega, by omega, h5⟩
    · rcases hh : isT s.data.toList with _ | _
      · exact absurd (List.any_eq_true.2 ⟨s, hs, by simp [hh]⟩) h2
      · rfl
    · rcases Nat.lt_or_ge 16384 s.size with h6 | h6
      · exact absurd (List.any_eq_true.2 ⟨s, hs, by simpa using h6⟩) h3
      · exact h6
  · exact absurd h (by decide)
/-- .. field by field. -/
theorem alone_fields {x : VT} (h : alone x = 0) : x.list = x.inner ∧
    (x.kind ≠ 3 → x.num = [] ∧ x.neg = false ∧ x.exp = 0) ∧ (x.kind = 3 → okB x.neg x.num x.exp = true) ∧ (x.kind ≠ 4 → x.text.size = 0) ∧ (x.kind = 4 → isT x.text.data.toList = true ∧ x.text.size ≤ 16384) ∧
    (x.kind ≠ 6 → x.keys = []) ∧ (x.kind = 6 → x.keys.length = x.list.length ∧ rises x.keys = true) ∧ (∀ s ∈ x.keys, isT s.data.toList = true ∧ s.size ≤ 16384) ∧ x.list.length ≤ 4096 ∧ x.keys.length ≤ 4096 ∧ (x.kind < 5 → x.list = []) := by
  obtain ⟨⟨h1, h2⟩, h3, h4, h5, h6⟩ := alone_zero h
  cases x with
  | mk k n xs e t l ks =>
    simp only [VT.kind, VT.list, VT.num, VT.neg, VT.exp, VT.text, VT.keys] at *
    rw [inner_mk] at h5 ⊢
    rw [fitV_mk2] at h6
    rw [ownT_mk] at h3 h4
    by_cases e3 : k = 3
    · subst e3
      rw [if_pos rfl] at h6
      simp only [Bool.and_eq_true, decide_eq_true_eq] at h6
      obtain ⟨h6, h7⟩ := h6
      have hl : l = [] := List.eq_nil_of_length_eq_zero (by omega)
      have hk : ks = [] := List.eq_nil_of_length_eq_zero (by omega)
      subst hl hk
      refine ⟨by simp [hold], fun h => absurd rfl h, fun _ => h6, fun _ => by omega, fun h => absurd h (by decide), fun _ => rfl, fun h => absurd h (by decide), fun s hs => absurd hs (by simp), by simp, by simp, fun _ => rfl⟩
    rw [if_neg e3] at h6
    by_cases e4 : k = 4
    · subst e4
      rw [if_pos rfl] at h6
      simp only [Bool.and_eq_true, decide_eq_true_eq, Bool.not_eq_true'] at h6
      obtain ⟨⟨h6, h7⟩, h8⟩ := h6
      have hl : l = [] := List.eq_nil_of_length_eq_zero (by omega)
      have hk : ks = [] := List.eq_nil_of_length_eq_zero (by omega)
      have hx : xs = [] := List.eq_nil_of_length_eq_zero (by omega)
      subst hl hk hx
      refine ⟨by simp [hold], fun _ => ⟨rfl, h7, h8⟩, fun h => absurd h (by decide), fun h => absurd rfl h, fun _ => h3 t (by simp), fun _ => rfl, fun h => absurd h (by decide), fun s hs => absurd hs (by simp), by simp, by simp, fun _ => rfl⟩
    rw [if_neg e4] at h6
    by_cases e5 : k = 5
    · subst e5
      rw [if_pos rfl] at h6
      simp only [Bool.and_eq_true, decide_eq_true_eq, Bool.not_eq_true'] at h6
      obtain ⟨⟨h6, h7⟩, h8⟩ := h6
      have hk : ks = [] := List.eq_nil_of_length_eq_zero (by omega)
      have hx : xs = [] := List.eq_nil_of_length_eq_zero (by omega)
      subst hk hx
      have hh : hold 5 = true := by decide
      rw [if_pos hh] at h5 ⊢
      refine ⟨rfl, fun _ => ⟨rfl, h7, h8⟩, fun h => absurd h (by decide), fun _ => by omega, fun h => absurd h (by decide), fun _ => rfl, fun h => absurd h (by decide), fun s hs => absurd hs (by simp), h5, by simp, fun h => absurd h (by decide)⟩
    rw [if_neg e5] at h6
    by_cases e6 : k = 6
    · subst e6
      rw [if_pos rfl] at h6
      simp only [Bool.and_eq_true, decide_eq_true_eq, Bool.not_eq_true'] at h6
      obtain ⟨⟨⟨⟨h6, h9⟩, h10⟩, h7⟩, h8⟩ := h6
      have hx : xs = [] := List.eq_nil_of_length_eq_zero (by omega)
      subst hx
      have hh : hold 6 = true := by decide
      rw [if_pos hh] at h5 ⊢
      rw [if_neg (by decide), if_pos rfl] at h3 h4
      refine ⟨rfl, fun _ => ⟨rfl, h7, h8⟩, fun h => absurd h (by decide), fun _ => by omega, fun h => absurd h (by decide), fun h => absurd rfl h, fun _ => ⟨h6, h9⟩, h3, h5, h4, fun h => absurd h (by decide)⟩
    rw [if_neg e6] at h6
    simp only [Bool.and_eq_true, decide_eq_true_eq, Bool.not_eq_true'] at h6
    obtain ⟨⟨h6, h7⟩, h8⟩ := h6
    have hl : l = [] := List.eq_nil_of_length_eq_zero (by omega)
    have hk : ks = [] := List.eq_nil_of_length_eq_zero (by omega)
    have hx : xs = [] := List.eq_nil_of_length_eq_zero (by omega)
    subst hl hk hx
    refine ⟨by simp, fun _ => ⟨rfl, h7, h8⟩, fun h => absurd h e3, fun _ => by omega, fun h => absurd h e4, fun _ => rfl, fun h => absurd h e6, fun s hs => absurd hs (by simp), by simp, by simp, fun _ => rfl⟩

/-- How deep a value goes, as far as is gone into. -/
def mxL : List Nat → Nat
  | [] => 0
  | a :: r => max a (mxL r)
theorem mxL_le {l : List Nat} {B : Nat} (h : ∀ a ∈ l, a ≤ B) : mxL l ≤ B := by
  induction l with
  | nil => simp [mxL]
  | cons b r ih =>
    have h1 := h b List.mem_cons_self
    have h2 := ih fun a ha => h a (List.mem_cons_of_mem _ ha)
    simp only [mxL]; omega
def dpt : Nat → VT → Nat
  | 0, _ => 0
  | n + 1, x => if hold x.kind then 1 + mxL (x.list.map (dpt n)) else 0
theorem deepL_mem {lv : Nat} {z : VT} : ∀ {l : List VT}, z ∈ l → deepL (pre lv z) ≤ deepL (preL lv l)
  | v :: r, h => by
    simp only [preL]
    rw [deepL_append]
    rcases List.mem_cons.1 h with rfl | h
    · omega
    · have := deepL_mem (lv := lv) h; omega
theorem dpt_deep : ∀ (n lv : Nat) (x : VT), dpt n x = 0 ∨ lv + dpt n x ≤ deepL (pre lv x)
  | 0, _, _ => .inl rfl
  | n + 1, lv, x => by
    unfold dpt
    by_cases h : hold x.kind = true
    · right
      rw [if_pos h, pre_eq]
      have hin : x.inner = x.list := by unfold VT.inner; rw [if_pos h]
      rw [hin]
      simp only [deepL]
      rw [if_pos h]
      have hm : mxL (x.list.map (dpt n)) ≤ max (lv + 1) (deepL (preL (lv + 1) x.list)) - (lv + 1) := mxL_le fun a ha => by
        obtain ⟨z, hz, rfl⟩ := List.mem_map.1 ha
        rcases dpt_deep n (lv + 1) z with h1 | h1
        · omega
        · have := deepL_mem (lv := lv + 1) hz
          omega
      omega
    · left; rw [if_neg h]
theorem okV_gd {x : VT} (h : okV x) : Gd x ∧ (partsV x).length ≤ 16384 ∧ dpt 1000 x ≤ 64 := by
  obtain ⟨h1, h2, h3⟩ := okV_parts h
  refine ⟨h1, h2, ?_⟩
  rcases dpt_deep 1000 0 x with h4 | h4 <;> omega
end Go.Proofs.YtpbfdgjeocmikaaGreatDoor

namespace Go.Proofs.YtpbfdgjeocmikaaGreatDoor
open Go.RowKit Go.Lib

theorem VIn.seven {w : World} {S : Nat → Prop} {x : VT} {cs : List Value} (h : VIn w S x cs) : ∃ k neg A n c e t LA ln lc KA kn kc, cs = [.int .i64 k, .bool neg, .slice A n c, .int .i64 e, .string t, .slice LA ln lc, .slice KA kn kc] ∧ x.kind = k ∧ RdL w S LA ln x.list := by
  cases x with
  | mk k neg xs e t l ks =>
    obtain ⟨A, n, c, LA, ln, lc, KA, kn, kc, rfl, _, _, _, hl, _⟩ := h.parts
    exact ⟨k, neg, A, n, c, e, t, LA, ln, lc, KA, kn, kc, rfl, rfl, hl⟩

end Go.Proofs.YtpbfdgjeocmikaaGreatDoor

namespace Go.Proofs.YtpbfdgjeocmikaaGreatDoor
open Go.RowKit

theorem stE_small {v : Nat} (h : v < 10 ^ 40) : stE v 0 = 0 := by
  by_cases h0 : v = 0
  · rw [h0]; exact (st_zero false 0).1
  · have hl : (dOf v).length ≤ 40 := by
      rcases Nat.lt_or_ge 40 (dOf v).length with h1 | h1
      · exfalso
        have h2 := (dOf_can v).ge (dOf_ne (by omega))
        rw [dOf_val] at h2
        have h3 : 10 ^ 40 ≤ dp ((dOf v).length - 1) := Nat.pow_le_pow_right (by omega) (by omega)
        omega
      · exact h1
    have h3 := lz_le (dOf v)
    unfold stE cf
    rw [if_neg h0, List.length_drop, if_neg (by omega), if_pos (by omega)]
theorem ten19 : (18446744073709551616 : Nat) < 10 ^ 40 := by decide
-- A number of so many limbs settles.
end Go.Proofs.YtpbfdgjeocmikaaGreatDoor
