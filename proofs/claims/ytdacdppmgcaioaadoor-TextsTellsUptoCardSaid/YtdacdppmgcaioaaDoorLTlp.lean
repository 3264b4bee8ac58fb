/-
  Letters, pure: a text mapped by characters is it mapped by octets, where what is mapped is below 80 hexadecimal; texts behind one another.
-/
import Derived.Test.YtdacdppmgcaioaaDoorLUcheck
import Derived.Test.YtdacdppmgcaioaaDoorLUrchk
import Derived.Test.YtdacdppmgcaioaaDoorLLsc
import Derived.Test.YtdacdppmgcaioaaDoorLUsync
import Derived.Shelf.Strings.MapAny
set_option linter.unusedVariables false
set_option linter.unusedSimpArgs false
namespace Go.Proofs.YtdacdppmgcaioaaDoor
open Go.RowKit Go.Lib

/-- A letter moved, as a character and as an octet. -/
def ltF (a b x : Int) : Int := if x < a ∨ a + 26 ≤ x then x else x - a + b
def lt8 (a b : Int) (x : UInt8) : UInt8 := (ltF a b (x.toNat : Int)).toNat.toUInt8
theorem ltF_hi {a b x : Int} (ha : a + 26 ≤ 128) (h : 128 ≤ x) : ltF a b x = x := if_pos (.inr (by omega))
theorem ltF_low {a b x : Int} (hab : (a = 65 ∧ b = 97) ∨ (a = 97 ∧ b = 65)) (h0 : 0 ≤ x) (h : x < 128) : 0 ≤ ltF a b x ∧ ltF a b x < 128 := by
  unfold ltF; split <;> omega
theorem ltF_ch {a b x : Int} (hab : (a = 65 ∧ b = 97) ∨ (a = 97 ∧ b = 65)) (h : isCh x) : isCh (ltF a b x) := by
  unfold isCh at *
  by_cases hx : x < 128
  · have := ltF_low (x := x) hab (by omega) hx; omega
  · rw [ltF_hi (by omega) (by omega)]; exact h
theorem ltF_in {a b : Int} (hab : (a = 65 ∧ b = 97) ∨ (a = 97 ∧ b = 65)) (x : Nat) (h : x ≤ 1114111) : 0 ≤ ltF a b x ∧ ltF a b x ≤ 2147483647 := by
  unfold ltF; split <;> omega

/-- What is mapped, by its characters. -/
theorem mapGo_enc (f : Int → Int) (hf : ∀ c, isCh c → 0 ≤ f c) : ∀ (n : Nat) (cs : List Int), (∀ c ∈ cs, isCh c) → (enc cs).length ≤ n → mapGoD f n (enc cs) = enc (cs.map f)
  | 0, [], _, _ => rfl
  | 0, c :: cs, _, h => by have := enc_len c; rw [enc_cons, List.length_append] at h; omega
  | n + 1, [], _, _ => by show (if ([] : List UInt8) = [] then [] else _) = _; rw [if_pos rfl]; rfl
  | n + 1, c :: cs, h, hl => by
    have hc := h c (by simp)
    have hd := decode_enc hc (enc cs)
    have hle := enc_len c
    have hcn : ((c.toNat : Nat) : Int) = c := by unfold isCh at hc; omega
    show (if enc (c :: cs) = [] then [] else _) = _
    rw [enc_cons] at hl ⊢
    rw [if_neg (enc_ne c (enc cs)), hd]
    simp only [hcn]
    rw [if_pos (hf c hc), List.map_cons, enc_cons, List.drop_left]
    rw [List.length_append] at hl
    rw [mapGo_enc f hf n cs (fun x hx => h x (by simp [hx])) (by omega)]
theorem mapD_enc {f : Int → Int} (hf : ∀ c, isCh c → 0 ≤ f c) {cs : List Int} (h : ∀ c ∈ cs, isCh c) : mapD f (enc cs) = enc (cs.map f) := mapGo_enc f hf _ cs h (Nat.le_refl _)
theorem u8n {k : Nat} (h : k < 256) : (k.toUInt8).toNat = k := by
  show k % 256 = k
  omega
/-- A letter's octets, moved. -/
theorem enc_move {a b c : Int} (hab : (a = 65 ∧ b = 97) ∨ (a = 97 ∧ b = 65)) (hc : isCh c) : encodeRune (ltF a b c) = (encodeRune c).map (lt8 a b) := by
  have hhi : ∀ k : Nat, 128 ≤ k → k < 256 → lt8 a b (k.toUInt8) = k.toUInt8 := fun k h1 h2 => by
    unfold lt8
    rw [u8n h2, ltF_hi (by omega) (by omega)]
    simp
  unfold isCh at hc
  by_cases h1 : c < 128
  · have hlow := ltF_low (x := c) hab (by omega) h1
    unfold encodeRune
    rw [encodeRuneZ_one (by omega) (by omega), encodeRuneZ_one (by omega) (by omega)]
    simp only [List.map_cons, List.map_nil]
    unfold lt8
    rw [u8n (by omega), show ((c.toNat : Nat) : Int) = c by omega]
  · rw [ltF_hi (by omega) (by omega)]
    unfold encodeRune
    rw [List.map_map]
    refine (List.map_congr_left fun z hz => ?_)
    show z.toNat.toUInt8 = lt8 a b (z.toNat.toUInt8)
    have hz2 : 128 ≤ z ∧ z < 256 := by
      by_cases h2 : c ≤ 2047
      · rw [encodeRuneZ_two (by omega) h2] at hz
        simp at hz; omega
      · by_cases h3 : c ≤ 65535
        · rw [encodeRuneZ_three (by omega)] at hz
          simp at hz; omega
        · rw [encodeRuneZ_four (by omega) (by omega)] at hz
          simp at hz; omega
    rw [hhi _ (by omega) (by omega)]
theorem mapD_move {a b : Int} (hab : (a = 65 ∧ b = 97) ∨ (a = 97 ∧ b = 65)) {l : List UInt8} (h : isT l = true) : mapD (ltF a b) l = l.map (lt8 a b) ∧ isT (l.map (lt8 a b)) = true := by
  have hch := chars_ch h
  have he := enc_chars h
  have hmap : ∀ cs : List Int, (∀ c ∈ cs, isCh c) → enc (cs.map (ltF a b)) = (enc cs).map (lt8 a b) := by
    intro cs
    induction cs with
    | nil => intro _; rfl
    | cons c cs ih =>
      intro hcs
      rw [List.map_cons, enc_cons, enc_cons, List.map_append, ih (fun x hx => hcs x (by simp [hx])), enc_move hab (hcs c (by simp))]
  have h1 := mapD_enc (f := ltF a b) (fun c hc => by have := ltF_ch hab hc; unfold isCh at this; omega) hch
  rw [he] at h1
  have h2 := hmap _ hch
  rw [he] at h2
  refine ⟨h1.trans h2, ?_⟩
  rw [← h2]
  refine isT_enc fun c hc => ?_
  obtain ⟨d, hd, rfl⟩ := List.mem_map.1 hc
  exact ltF_ch hab (hch d hd)
theorem lt8_out {a b : Int} {x : UInt8} (h : (x.toNat : Int) < a ∨ a + 26 ≤ x.toNat) : lt8 a b x = x := by
  unfold lt8 ltF
  rw [if_pos h]
  simp
end Go.Proofs.YtdacdppmgcaioaaDoor
