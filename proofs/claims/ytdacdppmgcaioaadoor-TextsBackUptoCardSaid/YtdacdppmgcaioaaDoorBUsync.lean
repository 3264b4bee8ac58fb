/-
  A text of characters stands in another one just at its characters; two rising lists of the same numbers are one. On plain lists. No condition.
-/
import Derived.Test.YtdacdppmgcaioaaDoorBUpure
set_option linter.unusedVariables false
set_option linter.unusedSimpArgs false
namespace Go.Proofs.YtdacdppmgcaioaaDoor
open Go.Lib

theorem toU8_toNat {z : Int} (h0 : 0 ≤ z) (h1 : z < 256) : (z.toNat.toUInt8).toNat = z.toNat := by
  rw [Nat.toUInt8_eq, UInt8.toNat_ofNat']
  omega
theorem enc_bytes {c : Int} (h : isCh c) : ∃ b rest, encodeRune c = b :: rest ∧ b.toNat / 64 ≠ 2 ∧ ∀ x ∈ rest, x.toNat / 64 = 2 := by
  unfold isCh at h
  unfold encodeRune
  by_cases h1 : c ≤ 127
  · rw [encodeRuneZ_one (by omega) h1]
    refine ⟨_, _, rfl, ?_, fun x hx => by simp at hx⟩
    rw [toU8_toNat (by omega) (by omega)]; omega
  by_cases h2 : c ≤ 2047
  · rw [encodeRuneZ_two (by omega) h2]
    refine ⟨_, _, rfl, ?_, ?_⟩
    · rw [toU8_toNat (by omega) (by omega)]; omega
    · intro x hx
      simp only [List.map_cons, List.map_nil, List.mem_cons, List.not_mem_nil, or_false] at hx
      subst hx
      rw [toU8_toNat (by omega) (by omega)]; omega
  by_cases h3 : c ≤ 65535
  · rw [encodeRuneZ_three (by omega)]
    refine ⟨_, _, rfl, ?_, ?_⟩
    · rw [toU8_toNat (by omega) (by omega)]; omega
    · intro x hx
      simp only [List.map_cons, List.map_nil, List.mem_cons, List.not_mem_nil, or_false] at hx
      rcases hx with rfl | rfl <;> rw [toU8_toNat (by omega) (by omega)] <;> omega
  · rw [encodeRuneZ_four (by omega) (by omega)]
    refine ⟨_, _, rfl, ?_, ?_⟩
    · rw [toU8_toNat (by omega) (by omega)]; omega
    · intro x hx
      simp only [List.map_cons, List.map_nil, List.mem_cons, List.not_mem_nil, or_false] at hx
      rcases hx with rfl | rfl | rfl <;> rw [toU8_toNat (by omega) (by omega)] <;> omega

/-- Where an octet stands that begins a character, a character begins. -/
theorem sync {cs : List Int} (h : ∀ c ∈ cs, isCh c) {p : Nat} {b : UInt8} {r : List UInt8} (hd : (enc cs).drop p = b :: r) (hb : b.toNat / 64 ≠ 2) : ∃ i, i < cs.length ∧ p = (enc (cs.take i)).length ∧ (enc cs).drop p = enc (cs.drop i) := by
  induction cs generalizing p with
  | nil => rw [enc_nil, List.drop_nil] at hd; cases hd
  | cons c cs ih =>
    rw [enc_cons] at hd ⊢
    rcases Nat.eq_zero_or_pos p with hp | hp
    · exact ⟨0, by simp, by rw [hp]; rfl, by rw [hp]; rfl⟩
    · by_cases hlt : p < (encodeRune c).length
      · obtain ⟨b0, rest, e1, _, e3⟩ := enc_bytes (h c (by simp))
        exfalso
        have h1 : (encodeRune c ++ enc cs)[p]? = some b := by
          have := congrArg (fun l => l[0]?) hd
          simpa using this
        rw [List.getElem?_append_left hlt, e1] at h1
        obtain ⟨q, rfl⟩ : ∃ q, p = q + 1 := ⟨p - 1, by omega⟩
        rw [List.getElem?_cons_succ] at h1
        exact hb (e3 b (List.mem_of_getElem? h1))
      · rw [List.drop_append, List.drop_eq_nil_of_le (by omega), List.nil_append] at hd ⊢
        obtain ⟨i, h1, h2, h3⟩ := ih (fun x hx => h x (by simp [hx])) hd
        refine ⟨i + 1, by simpa using h1, ?_, ?_⟩
        · rw [List.take_succ_cons, enc_cons, List.length_append, ← h2]; omega
        · rw [h3, List.drop_succ_cons]
theorem prefix_enc {a b : List Int} (ha : ∀ c ∈ a, isCh c) (hb : ∀ c ∈ b, isCh c) (h : enc a <+: enc b) : a <+: b := by
  obtain ⟨t, ht⟩ := h
  have h1 := pcs_text hb
  rw [← ht, pcs_enc ha] at h1
  have h2 := congrArg (List.map (·.2)) h1
  rw [List.map_append, List.map_map, List.map_map] at h2
  have e : ∀ l : List Int, l.map ((fun p : List UInt8 × Int => p.2) ∘ fun c => (encodeRune c, c)) = l := fun l => List.map_id' l
  rw [e, e] at h2
  exact ⟨_, h2⟩
theorem enc_prefix {a b : List Int} (h : a <+: b) : enc a <+: enc b := by
  obtain ⟨t, rfl⟩ := h
  exact ⟨enc t, (enc_append a t).symm⟩
/-- A text of characters stands at an octet of another one just where its characters stand. -/
theorem stands_iff {a b : List Int} (ha : ∀ c ∈ a, isCh c) (hb : ∀ c ∈ b, isCh c) (hne : b ≠ []) (p : Nat) : enc b <+: (enc a).drop p ↔ ∃ i, p = (enc (a.take i)).length ∧ i < a.length ∧ b <+: a.drop i := by
  constructor
  · intro h
    obtain ⟨t, ht⟩ := h
    cases b with
    | nil => exact absurd rfl hne
    | cons c b =>
      obtain ⟨b0, rest, e1, e2, _⟩ := enc_bytes (hb c (by simp))
      rw [enc_cons, e1] at ht
      obtain ⟨i, h1, h2, h3⟩ := sync ha (p := p) (b := b0) (r := rest ++ enc b ++ t) (by rw [← ht]; simp) e2
      refine ⟨i, h2, h1, ?_⟩
      refine prefix_enc hb (fun x hx => ha x (List.mem_of_mem_drop hx)) ⟨t, ?_⟩
      rw [← h3, ← ht, enc_cons, e1]
  · rintro ⟨i, rfl, _, h⟩
    have h1 : (enc a).drop (enc (a.take i)).length = enc (a.drop i) := by
      conv => lhs; rw [← List.take_append_drop i a]
      rw [enc_append, List.take_append_drop, List.drop_left]
    rw [h1]
    exact enc_prefix h
end Go.Proofs.YtdacdppmgcaioaaDoor
