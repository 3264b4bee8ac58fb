/-
  A region that draws its order, in a round of a range over a function: one walk in the order of the text serves where all but the last operations only read. Over any program.
  Contracts of nat.allDigits, nat.smallNumber and nat.Parse: the number that decimal digits tell.
  Texts of digits there and back, and nat.Print in all its cases. Plain lemmas and one contract; no condition.
-/
import Derived.Test.YtjjpagdnjafgaaaGreatDoorGNiter
import Derived.StillTailTactics
import Derived.OrdersIn
import Derived.Test.YtjjpagdnjafgaaaGreatDoorGNapi
import Derived.Lib.IndexBytes
set_option linter.unusedVariables false
set_option linter.unusedSimpArgs false
namespace Go.Proofs.YtjjpagdnjafgaaaGreatDoor
open Go.RowKit

/-- An operation that is no 'defer' goes in a round of the wide fence as it goes everywhere. -/
theorem op_round {P : Program} {l : Nat} {o : Oper} {a : Act} {w : World} {K : Act → World → Prop} {Q : Exit → Act → World → Prop} (hnd : ∀ c, o.op ≠ .defer c) (h : o.wp P a w K Q) :
    o.wpIn (Fence.wide.inRound l) 0 P a w K Q := by
  refine ⟨fun _ _ => trivial, ?_⟩
  have hs : o.semAt (Fence.wide.inRound l).round a.eval = execOp a.eval o := Oper.semAt_some l _ _ hnd
  rw [hs]
  unfold Oper.wp at h
  generalize (execOp a.eval o).run P w = r at h ⊢
  cases r with
  | ok nx w' =>
    cases nx with
    | value v => exact h
    | skip => exact h
    | defer d => exact h
    | enter f args => exact ⟨(fun h => absurd h (by simp [Fence.inRound, Fence.wide])), CallsIn.inRound l (callsIn_wide.2 h)⟩
    | row row args =>
      refine ⟨(fun h => absurd h (by simp [Fence.inRound, Fence.wide])), fun c cs _ => ?_⟩
      obtain ⟨v, w2, hr, hst⟩ := h c cs
      exact ⟨v, w2, hr, stepsIn_wide.2 hst⟩
    | _ => exact h.elim
  | halt x w' => cases x <;> exact h

theorem any_round {P : Program} {l : Nat} {md : Region.Mode} {ops : Array Oper} {Q : Exit → Act → World → Prop} (hnd : ∀ (i : Nat) (o : Oper), ops[i]? = some o → ∀ c, o.op ≠ .defer c) (hq : ¬ LetsOut Q) :
    ∀ (fuel : Nat) (listed : Array Bool) (a : Act) (w : World), wpAny P md ops Q fuel listed a w → wpAnyIn (Fence.wide.inRound l) 0 P md ops Q fuel listed a w
  | 0, _, _, _, h => h
  | fuel + 1, listed, a, w, h => by
    refine ⟨h.1, fun i hi => ?_⟩
    have h2 := h.2 i hi
    unfold wpOp at h2
    unfold wpOpIn
    cases ho : ops[i]? with
    | none =>
      simp only [ho] at h2 ⊢
      exact any_round hnd hq fuel _ _ _ h2
    | some o =>
      simp only [ho] at h2 ⊢
      by_cases hw : Region.wanted o (yielded ops a.tmps) = true
      · rw [if_pos hw] at h2 ⊢
        rcases h2 with h2 | h2
        · exact Oper.wpIn_mono (fun a' w' h3 => any_round hnd hq fuel _ _ _ h3) (op_round (hnd i o ho) h2)
        · exact absurd h2.2 hq
      · rw [if_neg hw] at h2 ⊢
        exact ⟨fun _ _ => trivial, any_round hnd hq fuel _ _ _ h2⟩

end Go.Proofs.YtjjpagdnjafgaaaGreatDoor

namespace Go.Proofs.YtjjpagdnjafgaaaGreatDoor
open Go.RowKit
attribute [local go_sem] Oper.semAt_some

/-- The octets of a text. -/
def octs (s : ByteArray) : List Nat := s.data.toList.map (·.toNat)
theorem octs_length (s : ByteArray) : (octs s).length = s.size := by unfold octs; rw [List.length_map, Array.length_toList]; rfl
theorem octs_get (s : ByteArray) (k : Nat) (h : k < s.size) : nth (octs s) k = (s[k]).toNat := by
  rw [nth_get (by rw [octs_length]; exact h)]
  simp [octs]
  rfl
def isDig (x : Nat) : Bool := decide (48 ≤ x ∧ x ≤ 57)
end Go.Proofs.YtjjpagdnjafgaaaGreatDoor

namespace Go.Proofs.YtjjpagdnjafgaaaGreatDoor
open Go.RowKit

theorem octs_txt {xs : List Nat} (h : L8 xs) : octs (txt xs) = xs := by
  unfold octs txt
  simp only [List.map_map]
  rw [List.map_congr_left (g := id)]
  · simp
  · intro x hx
    have := h x hx
    simp [Function.comp_def, UInt8.toNat_ofNat']
    omega
theorem isDec_size {v n : Nat} {s : ByteArray} (h : IsDec v s) (hn : 0 < n) (hv : v < 10 ^ n) : s.size ≤ n := by
  rcases h with ⟨h0, rfl⟩ | ⟨hp, ds, hc, hd, rfl⟩
  · have : (txt [48]).size = 1 := by decide
    omega
  · have h8 : L8 ((ds.map (· + 48)).reverse) := fun x hx => by
      rw [List.mem_reverse] at hx
      exact chars_l8 hc.1 x hx
    rw [← octs_length, octs_txt h8, List.length_reverse, List.length_map]
    by_cases hne : ds = []
    · rw [hne]; simp
    · have h1 := hc.ge hne
      rcases Nat.lt_or_ge n ds.length with h2 | h2
      · have h3 := dp_mono (show n ≤ ds.length - 1 by omega)
        unfold dp at h1 h3
        omega
      · exact h2

theorem bp_lt_ten {n v : Nat} (h : n ≤ 256) (hv : v < bp n) : ∃ m, 0 < m ∧ m ≤ 2731 ∧ v < 10 ^ m := by
  obtain ⟨m, hm⟩ : ∃ m, m = 2731 := ⟨_, rfl⟩
  refine ⟨m, by omega, by omega, ?_⟩
  have h1 : bp n = 2 ^ (32 * n) := by unfold bp; rw [Nat.pow_mul]
  rw [h1] at hv
  have h2 : 2 ^ (32 * n) ≤ (2 ^ 3) ^ m := by rw [← Nat.pow_mul]; exact Nat.pow_le_pow_right (by omega) (by omega)
  exact Nat.lt_trans (Nat.lt_of_lt_of_le hv h2) (Nat.pow_lt_pow_left (by decide) (by omega))
theorem Print_c {S : Nat → Prop} {n c : Nat} {A : Option Addr} {xs : List Nat} (w : World) (ha : Rd w S A n xs) (hS : ∀ b, S b → b < w.heap.size) (hn : n ≤ 9223372036854775807) :
    Calls Tryz.prog 116 #[.slice A n c] w fun e w' => ∃ s, e = .returned (.tuple #[.string s, .int .i64 (chk xs : Int)]) ∧ (chk xs = 0 → Can xs ∧ IsDec (val xs) s) ∧ (chk xs ≠ 0 → s = ⟨#[]⟩) ∧ s.size ≤ 2731 ∧ Below w.heap.size w w' := by
  by_cases he : chk xs = 0
  · obtain ⟨hc, hl⟩ := can_of_chk ha.l32 he
    refine (Print_ok w ha hS hc (by rw [← ha.len]; exact hl)).mono ?_
    rintro e w' ⟨s, rfl, hd, hb⟩
    rw [he]
    obtain ⟨m, hm0, hm, hv⟩ := bp_lt_ten hl (val_lt hc.l32)
    have := isDec_size hd hm0 hv
    exact ⟨s, rfl, fun _ => ⟨hc, hd⟩, fun h => absurd rfl h, by omega, hb⟩
  · refine (Print_err w ha hn he).mono ?_
    rintro e w' ⟨rfl, rfl⟩
    exact ⟨_, rfl, fun h => absurd h he, fun _ => rfl, by decide, Below.refl _ _⟩
end Go.Proofs.YtjjpagdnjafgaaaGreatDoor
