/-
  A value that was printed is read as itself: the whole of it, and what the reader's Read makes of it. Pure, no program.
  Characters as the page has them printed in octets below 80 alone: each is read as itself. Pure, no program.
  Numbers as they are printed: each is read as itself, without white space and quotes. Pure, no program.
  What Read and All make of what was printed. Pure, no program.
  The widest line of a text, and that the law finds it. Pure, no program.
-/
import Derived.Test.YtpbfdgjeocmikaaGreatDoorRPv
import Derived.Test.YtpbfdgjeocmikaaGreatDoorRDbo
import Derived.Test.YtpbfdgjeocmikaaGreatDoorRDset
import Derived.Test.YtpbfdgjeocmikaaGreatDoorRDop
import Derived.Laws.Concat
import Derived.Test.YtpbfdgjeocmikaaGreatDoorRNparse
import Derived.PlainAid
import Derived.Test.YtpbfdgjeocmikaaGreatDoorRNrefe
import Derived.Deep.AppendLies
import Derived.Deep.RegionHeld3
import Derived.Test.YtpbfdgjeocmikaaGreatDoorRDprt
import Derived.Test.YtpbfdgjeocmikaaGreatDoorRUbounds
import Derived.Test.YtpbfdgjeocmikaaGreatDoorRUlib
import Derived.Test.YtpbfdgjeocmikaaGreatDoorRDref
import Derived.Test.YtpbfdgjeocmikaaGreatDoorRDbm
import Derived.Deep.QuietTactic
import Derived.BigQuiet
import Derived.Deep.Cut
import Derived.Deep.CutRange
import Derived.Laws.EntriesVeiled
import Derived.Test.YtpbfdgjeocmikaaGreatDoorRArgs
import Derived.Test.YtpbfdgjeocmikaaGreatDoorRUpure
import Derived.Deep.CutBlock
set_option linter.unusedVariables false
set_option linter.unusedSimpArgs false
namespace Go.Proofs.YtpbfdgjeocmikaaGreatDoor
open Go.Lib

theorem head_low {c : UInt8} (h : c = 45 ∨ isDg c = true) : isWs c = false ∧ (c == 91) = false ∧ (c == 123) = false ∧ (c == 34) = false ∧ (c == 110) = false ∧ (c == 102) = false ∧ (c == 116) = false ∧ (isDg c || (c == 34 || c == 45 || c == 110 || c == 102 || c == 116)) = true ∧ c ≠ 93 ∧ c ≠ 125 := by
  have key : ∀ x : UInt8, (!(x == 45 || isDg x) || (!isWs x && !(x == 91) && !(x == 123) && !(x == 34) && !(x == 110) && !(x == 102) && !(x == 116) && (isDg x || (x == 34 || x == 45 || x == 110 || x == 102 || x == 116)) && !(x == 93) && !(x == 125))) = true := fun x => by
    have h1 := List.all_eq_true.1 (show (List.range 256).all (fun n => (fun x : UInt8 => (!(x == 45 || isDg x) || (!isWs x && !(x == 91) && !(x == 123) && !(x == 34) && !(x == 110) && !(x == 102) && !(x == 116) && (isDg x || (x == 34 || x == 45 || x == 110 || x == 102 || x == 116)) && !(x == 93) && !(x == 125)))) n.toUInt8) = true by kernel_rfl) x.toNat (List.mem_range.2 x.toNat_lt)
    rwa [show x.toNat.toUInt8 = x from UInt8.ofNat_toNat] at h1
  have hk := key c
  have h0 : (c == 45 || isDg c) = true := by rcases h with rfl | h <;> simp [*]
  rw [h0] at hk
  simp only [Bool.not_true, Bool.false_or, Bool.and_eq_true, Bool.not_eq_true', beq_eq_false_iff_ne] at hk
  obtain ⟨⟨⟨⟨⟨⟨⟨⟨⟨a1, a2⟩, a3⟩, a4⟩, a5⟩, a6⟩, a7⟩, a8⟩, a9⟩, a10⟩ := hk
  exact ⟨a1, by simpa using a2, by simpa using a3, by simpa using a4, by simpa using a5, by simpa using a6, by simpa using a7, a8, a9, a10⟩
theorem prV_head {qc : Int → List UInt8} {nt : Bool → List Nat → Int → List UInt8} (hnt : NtOk nt) {st o : Nat} {x : VT} (hx : Gp x) : ∃ c t, prV qc nt st o x = c :: t ∧ isWs c = false ∧ c ≠ 93 ∧ c ≠ 125 := by
  obtain ⟨h0, hl⟩ := hx.own
  have hf := alone_fields h0
  cases x with
  | mk k n xs e t l ks =>
    unfold prV
    split
    · exact ⟨_, _, rfl, by decide, by decide, by decide⟩
    split
    · exact ⟨_, _, rfl, by decide, by decide, by decide⟩
    split
    · rename_i h3
      obtain ⟨-, -, -, -, c, t, hc, hd⟩ := hnt (n := n) (xs := xs) (e := e) hl (hf.2.2.1 h3)
      obtain ⟨a1, -, -, -, -, -, -, -, a9, a10⟩ := head_low hd
      exact ⟨c, t, hc, a1, a9, a10⟩
    split
    · exact ⟨_, _, rfl, by decide, by decide, by decide⟩
    split
    · exact ⟨_, _, rfl, by decide, by decide, by decide⟩
    split
    · exact ⟨_, _, rfl, by decide, by decide, by decide⟩
    · exact ⟨_, _, rfl, by decide, by decide, by decide⟩
end Go.Proofs.YtpbfdgjeocmikaaGreatDoor

namespace Go.Proofs.YtpbfdgjeocmikaaGreatDoor
open Go.Lib

/-- A number as an escape of four digits. -/
def dg4 (n : Nat) : List Nat := [n / 4096, n / 256 % 16, n / 16 % 16, n % 16]
def codedL (n : Nat) : List UInt8 := 92 :: 117 :: (dg4 n).map hxD
/-- A character, in octets below 80. -/
def quoteA (c : Int) : List UInt8 :=
  if c < 128 then quoteC c else if c < 65536 then codedL c.toNat else codedL (55296 + (c.toNat - 65536) / 1024) ++ codedL (56320 + (c.toNat - 65536) % 1024)
end Go.Proofs.YtpbfdgjeocmikaaGreatDoor

namespace Go.Proofs.YtpbfdgjeocmikaaGreatDoor
open Go.Lib

/-- An octet of a number's text. -/
def NumC (a : Nat) : Prop := a = 43 ∨ a = 45 ∨ a = 46 ∨ a = 101 ∨ (48 ≤ a ∧ a ≤ 57)
theorem numC_digits {s : List Nat} (h : allDig s = true) : ∀ a ∈ s, NumC a := fun a ha => by
  have h1 := List.all_eq_true.1 h a ha
  unfold isDig at h1
  have := of_decide_eq_true h1
  exact .inr (.inr (.inr (.inr this)))
theorem itoO_numC (z : Int) : ∀ a ∈ itoO z, NumC a := by
  unfold itoO Lib.itoa
  split
  · intro a ha
    rw [List.map_cons] at ha
    rcases List.mem_cons.1 ha with rfl | ha
    · exact .inr (.inl rfl)
    · exact numC_digits (decD _).1 a ha
  · exact numC_digits (decD _).1
theorem app_numC {s t : List Nat} (h : ∀ a ∈ s, NumC a) (k : ∀ a ∈ t, NumC a) : ∀ a ∈ s ++ t, NumC a := fun a ha => (List.mem_append.1 ha).elim (h a) (k a)
theorem cons_numC {c : Nat} {t : List Nat} (h : NumC c) (k : ∀ a ∈ t, NumC a) : ∀ a ∈ c :: t, NumC a := fun a ha => (List.mem_cons.1 ha).elim (fun e => e ▸ h) (k a)
theorem nil_numC : ∀ a ∈ ([] : List Nat), NumC a := fun a ha => absurd ha (by simp)
theorem zeros_numC (n : Nat) : ∀ a ∈ List.replicate n 48, NumC a := fun a ha => by
  rw [(List.mem_replicate.1 ha).2]; exact .inr (.inr (.inr (.inr (by omega))))
theorem prt_numC (neg : Bool) (v : Nat) (e : Int) : ∀ a ∈ prt neg v e, NumC a := by
  have hd := numC_digits (numO_dig v).1
  have c43 : NumC 43 := .inl rfl
  have c45 : NumC 45 := .inr (.inl rfl)
  have c46 : NumC 46 := .inr (.inr (.inl rfl))
  have c101 : NumC 101 := .inr (.inr (.inr (.inl rfl)))
  have c48 : NumC 48 := .inr (.inr (.inr (.inr (by omega))))
  have ht : ∀ n, ∀ a ∈ (numO v).take n, NumC a := fun n a ha => hd a (List.mem_of_mem_take ha)
  have hr : ∀ n, ∀ a ∈ (numO v).drop n, NumC a := fun n a ha => hd a (List.mem_of_mem_drop ha)
  unfold prt prtAt
  refine app_numC ?_ ?_
  · split
    · exact cons_numC c45 nil_numC
    · exact nil_numC
  split
  · unfold plainT
    split
    · exact app_numC (cons_numC c48 (cons_numC c46 nil_numC)) (app_numC (zeros_numC _) hd)
    split
    · exact app_numC (ht _) (cons_numC c46 (hr _))
    · exact app_numC hd (zeros_numC _)
  · unfold powT
    refine app_numC (app_numC (ht _) ?_) ?_
    · split
      · exact cons_numC c46 (hr _)
      · exact nil_numC
    · split
      · exact cons_numC c101 (cons_numC c45 (itoO_numC _))
      · exact cons_numC c101 (cons_numC c43 (itoO_numC _))
/-- A number as dec prints it. -/
def numP (n : Bool) (xs : List Nat) (e : Int) : List UInt8 := (prt n (val xs) e).map Nat.toUInt8
theorem numC_u8 {a : Nat} (h : NumC a) : (Nat.toUInt8 a).toNat = a := by
  show a % 256 = a
  unfold NumC at h; omega
theorem numP_nat (n : Bool) (xs : List Nat) (e : Int) : (numP n xs e).map (·.toNat) = prt n (val xs) e := by
  unfold numP
  rw [List.map_map]
  conv => rhs; rw [← List.map_id (prt n (val xs) e)]
  exact List.map_congr_left fun a ha => numC_u8 (prt_numC n (val xs) e a ha)
theorem form_head {s : List Nat} (h : fE s = 0) : ∃ a t, s = a :: t ∧ (a = 45 ∨ isDig a = true) := by
  have hf : form s = some s.length := by
    unfold fE at h
    split at h
    · rename_i hg; exact hg.1
    · split at h <;> omega
  cases s with
  | nil =>
    exfalso
    unfold form fWhole fSgn at hf
    first | (rw [if_neg (by decide), if_neg (by decide)] at hf; cases hf) | (rw [if_neg (by decide)] at hf; cases hf) | cases hf
  | cons a t =>
    refine ⟨a, t, rfl, ?_⟩
    by_cases h1 : a = 45
    · exact .inl h1
    · right
      unfold form fSgn at hf
      have h2 : ¬ nth (a :: t) 0 = 45 := h1
      rw [if_neg h2] at hf
      unfold fWhole at hf
      by_cases h3 : isDig (nth (a :: t) 0) = true
      · exact h3
      · rw [if_neg h3] at hf; cases hf
theorem numP_ok (hlen : ∀ {n xs e}, L32 xs → okB n xs e = true → (prt n (val xs) e).length ≤ 2000) : NtOk numP := fun {n xs e} hx hok => by
  obtain ⟨h1, h2, h3, h4⟩ := prt_back hx hok (hlen hx hok)
  rw [numP_nat]
  refine ⟨h1, h2, h3, h4, ?_⟩
  obtain ⟨a, t, ha, hc⟩ := form_head h1
  refine ⟨Nat.toUInt8 a, t.map Nat.toUInt8, by unfold numP; rw [ha]; rfl, ?_⟩
  have hn := numC_u8 (prt_numC n (val xs) e a (by rw [ha]; simp))
  rcases hc with rfl | hc
  · exact .inl rfl
  · right
    unfold isDig at hc
    have hc := of_decide_eq_true hc
    unfold isDg
    rw [Bool.and_eq_true, decide_eq_true_eq, decide_eq_true_eq]
    constructor
    · show (48 : UInt8).toNat ≤ (Nat.toUInt8 a).toNat
      rw [hn]; exact hc.1
    · show (Nat.toUInt8 a).toNat ≤ (57 : UInt8).toNat
      rw [hn]; exact hc.2
end Go.Proofs.YtpbfdgjeocmikaaGreatDoor

namespace Go.Proofs.YtpbfdgjeocmikaaGreatDoor
open Go.Lib

theorem okV_gp {x : VT} (h : okV x) (hl : ∀ y ∈ partsV x, L32 y.num) : Gp x ∧ (partsV x).length ≤ 16384 ∧ dpt 1000 x ≤ 64 := by
  obtain ⟨g1, g2, g3⟩ := okV_gd h
  exact ⟨fun y hy => ⟨g1 y hy, hl y hy⟩, g2, g3⟩
end Go.Proofs.YtpbfdgjeocmikaaGreatDoor

namespace Go.Proofs.YtpbfdgjeocmikaaGreatDoor
open Go.Lib

/-- The widest line, of octets of whose first line so many stand ahead. -/
def wideL : List UInt8 → Nat → Nat
  | [], k => k
  | c :: t, k => if c = 10 then max k (wideL t 0) else wideL t (k + 1)
/-- Whether a line is as wide, or one was found that is. -/
def foundL (w : Nat) : List UInt8 → Nat → Bool → Bool
  | [], k, f => f || k == w
  | c :: t, k, f => if c = 10 then foundL w t 0 (f || k == w) else foundL w t (k + 1) f
theorem foundL_true (w : Nat) : ∀ (s : List UInt8) (k : Nat), foundL w s k true = true
  | [], k => by simp [foundL]
  | c :: t, k => by
    unfold foundL
    split
    · simp [foundL_true w t]
    · exact foundL_true w t _
theorem foundL_wide : ∀ (s : List UInt8) (k : Nat) (f : Bool), foundL (wideL s k) s k f = true
  | [], k, f => by simp [foundL, wideL]
  | c :: t, k, f => by
    unfold foundL wideL
    split
    · rcases Nat.le_total (wideL t 0) k with h | h
      · rw [Nat.max_eq_left h]; simp [foundL_true]
      · rw [Nat.max_eq_right h]; exact foundL_wide t 0 _
    · exact foundL_wide t (k + 1) f
/-- The lines of a text, split at its newlines. -/
def linesOf : List UInt8 → List UInt8 → List (List UInt8)
  | [], acc => [acc]
  | c :: t, acc => if c = 10 then acc :: linesOf t [] else linesOf t (acc ++ [c])
theorem wideL_lines : ∀ (s acc : List UInt8), wideL s acc.length = (linesOf s acc).foldl (fun m l => max m l.length) 0
  | s, acc => by
    have key : ∀ (s acc : List UInt8) (m : Nat), max m (wideL s acc.length) = (linesOf s acc).foldl (fun m l => max m l.length) m := by
      intro s
      induction s with
      | nil => intro acc m; rfl
      | cons c t ih =>
        intro acc m
        unfold wideL linesOf
        split
        · rw [List.foldl_cons, ← ih [] (max m acc.length), List.length_nil]; omega
        · rw [← ih (acc ++ [c]) m, List.length_append]; rfl
    have := key s acc 0
    rw [← this]; omega
end Go.Proofs.YtpbfdgjeocmikaaGreatDoor
