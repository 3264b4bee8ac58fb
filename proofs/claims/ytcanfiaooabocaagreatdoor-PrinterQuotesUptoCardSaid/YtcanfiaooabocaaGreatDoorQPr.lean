/-
  Numbers as they are printed: each is read as itself, without white space and quotes. Pure, no program.
  What Read and All make of what was printed. Pure, no program.
-/
import Derived.Test.YtcanfiaooabocaaGreatDoorQPs
import Derived.Test.YtcanfiaooabocaaGreatDoorQDtab
set_option linter.unusedVariables false
set_option linter.unusedSimpArgs false
namespace Go.Proofs.YtcanfiaooabocaaGreatDoor
open Go.Lib

/-- An octet of a number's text. -/
def NumC (a : Nat) : Prop := a = 43 ∨ a = 45 ∨ a = 46 ∨ a = 101 ∨ (48 ≤ a ∧ a ≤ 57)
theorem numC_digits {s : List Nat} (h : allDig s = true) : ∀ a ∈ s, NumC a := fun a ha => by
  have h1 := List.all_eq_true.1 h a ha
  unfold isDig at h1
  have := of_decide_eq_true h1
  exact .inr (.inr (.inr (.inr this)))
theorem itoO_numC (z : Int) : ∀ a ∈ itoO z, NumC a := by
  unfold itoO Lib.itoa
  split
  · intro a ha
    rw [List.map_cons] at ha
    rcases List.mem_cons.1 ha with rfl | ha
    · exact .inr (.inl rfl)
    · exact numC_digits (decD _).1 a ha
  · exact numC_digits (decD _).1
theorem app_numC {s t : List Nat} (h : ∀ a ∈ s, NumC a) (k : ∀ a ∈ t, NumC a) : ∀ a ∈ s ++ t, NumC a := fun a ha => (List.mem_append.1 ha).elim (h a) (k a)
theorem cons_numC {c : Nat} {t : List Nat} (h : NumC c) (k : ∀ a ∈ t, NumC a) : ∀ a ∈ c :: t, NumC a := fun a ha => (List.mem_cons.1 ha).elim (fun e => e ▸ h) (k a)
theorem nil_numC : ∀ a ∈ ([] : List Nat), NumC a := fun a ha => absurd ha (by simp)
theorem zeros_numC (n : Nat) : ∀ a ∈ List.replicate n 48, NumC a := fun a ha => by
  rw [(List.mem_replicate.1 ha).2]; exact .inr (.inr (.inr (.inr (by omega))))
theorem prt_numC (neg : Bool) (v : Nat) (e : Int) : ∀ a ∈ prt neg v e, NumC a := by
  have hd := numC_digits (numO_dig v).1
  have c43 : NumC 43 := .inl rfl
  have c45 : NumC 45 := .inr (.inl rfl)
  have c46 : NumC 46 := .inr (.inr (.inl rfl))
  have c101 : NumC 101 := .inr (.inr (.inr (.inl rfl)))
  have c48 : NumC 48 := .inr (.inr (.inr (.inr (by omega))))
  have ht : ∀ n, ∀ a ∈ (numO v).take n, NumC a := fun n a ha => hd a (List.mem_of_mem_take ha)
  have hr : ∀ n, ∀ a ∈ (numO v).drop n, NumC a := fun n a ha => hd a (List.mem_of_mem_drop ha)
  unfold prt prtAt
  refine app_numC ?_ ?_
  · split
    · exact cons_numC c45 nil_numC
    · exact nil_numC
  split
  · unfold plainT
    split
    · exact app_numC (cons_numC c48 (cons_numC c46 nil_numC)) (app_numC (zeros_numC _) hd)
    split
    · exact app_numC (ht _) (cons_numC c46 (hr _))
    · exact app_numC hd (zeros_numC _)
  · unfold powT
    refine app_numC (app_numC (ht _) ?_) ?_
    · split
      · exact cons_numC c46 (hr _)
      · exact nil_numC
    · split
      · exact cons_numC c101 (cons_numC c45 (itoO_numC _))
      · exact cons_numC c101 (cons_numC c43 (itoO_numC _))
/-- A number as dec prints it. -/
def numP (n : Bool) (xs : List Nat) (e : Int) : List UInt8 := (prt n (val xs) e).map Nat.toUInt8
theorem numC_u8 {a : Nat} (h : NumC a) : (Nat.toUInt8 a).toNat = a := by
  show a % 256 = a
  unfold NumC at h; omega
theorem numP_nat (n : Bool) (xs : List Nat) (e : Int) : (numP n xs e).map (·.toNat) = prt n (val xs) e := by
  unfold numP
  rw [List.map_map]
  conv => rhs; rw [← List.map_id (prt n (val xs) e)]
  exact List.map_congr_left fun a ha => numC_u8 (prt_numC n (val xs) e a ha)
theorem form_head {s : List Nat} (h : fE s = 0) : ∃ a t, s = a :: t ∧ (a = 45 ∨ isDig a = true) := by
  have hf : form s = some s.length := by
    unfold fE at h
    split at h
    · rename_i hg; exact hg.1
    · split at h <;> omega
  cases s with
  | nil =>
    exfalso
    unfold form fWhole fSgn at hf
    first | (rw [if_neg (by decide), if_neg (by decide)] at hf; cases hf) | (rw [if_neg (by decide)] at hf; cases hf) | cases hf
  | cons a t =>
    refine ⟨a, t, rfl, ?_⟩
    by_cases h1 : a = 45
    · exact .inl h1
    · right
      unfold form fSgn at hf
      have h2 : ¬ nth (a :: t) 0 = 45 := h1
      rw [if_neg h2] at hf
      unfold fWhole at hf
      by_cases h3 : isDig (nth (a :: t) 0) = true
      · exact h3
      · rw [if_neg h3] at hf; cases hf
theorem numP_ok (hlen : ∀ {n xs e}, L32 xs → okB n xs e = true → (prt n (val xs) e).length ≤ 2000) : NtOk numP := fun {n xs e} hx hok => by
  obtain ⟨h1, h2, h3, h4⟩ := prt_back hx hok (hlen hx hok)
  rw [numP_nat]
  refine ⟨h1, h2, h3, h4, ?_⟩
  obtain ⟨a, t, ha, hc⟩ := form_head h1
  refine ⟨Nat.toUInt8 a, t.map Nat.toUInt8, by unfold numP; rw [ha]; rfl, ?_⟩
  have hn := numC_u8 (prt_numC n (val xs) e a (by rw [ha]; simp))
  rcases hc with rfl | hc
  · exact .inl rfl
  · right
    unfold isDig at hc
    have hc := of_decide_eq_true hc
    unfold isDg
    rw [Bool.and_eq_true, decide_eq_true_eq, decide_eq_true_eq]
    constructor
    · show (48 : UInt8).toNat ≤ (Nat.toUInt8 a).toNat
      rw [hn]; exact hc.1
    · show (Nat.toUInt8 a).toNat ≤ (57 : UInt8).toNat
      rw [hn]; exact hc.2
end Go.Proofs.YtcanfiaooabocaaGreatDoor

namespace Go.Proofs.YtcanfiaooabocaaGreatDoor
open Go.Lib

theorem okV_gp {x : VT} (h : okV x) (hl : ∀ y ∈ partsV x, L32 y.num) : Gp x ∧ (partsV x).length ≤ 16384 ∧ dpt 1000 x ≤ 64 := by
  obtain ⟨g1, g2, g3⟩ := okV_gd h
  exact ⟨fun y hy => ⟨g1 y hy, hl y hy⟩, g2, g3⟩
end Go.Proofs.YtcanfiaooabocaaGreatDoor
