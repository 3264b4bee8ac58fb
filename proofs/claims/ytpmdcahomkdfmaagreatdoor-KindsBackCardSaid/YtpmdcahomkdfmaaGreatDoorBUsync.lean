/-
  Texts as characters, on plain lists of bytes: what a text falls into, that characters come back from their octets and octets from their characters. No condition.
  A text of characters stands in another one just at its characters; two rising lists of the same numbers are one. On plain lists. No condition.
-/
import Derived.Lib.MapLaws
set_option linter.unusedVariables false
set_option linter.unusedSimpArgs false
namespace Go.Proofs.YtpmdcahomkdfmaaGreatDoor
open Go.Lib

/-- A character. -/
def isCh (c : Int) : Prop := (0 ≤ c ∧ c < 55296) ∨ (57344 ≤ c ∧ c ≤ 1114111)
instance (c : Int) : Decidable (isCh c) := by unfold isCh; infer_instance
/-- What the first octets of a text are: a character, or -1. -/
def partOf (l : List UInt8) : Int := if (decodeL l).1 = 65533 ∧ (decodeL l).2 = 1 then -1 else ((decodeL l).1 : Int)
def wid (l : List UInt8) : Nat := (decodeL l).2

theorem wid_ge (l : List UInt8) : 1 ≤ wid l := by
  unfold wid
  rw [decodeL_N]
  exact decodeN_ge1 _ _ _ _ _
theorem wid_le {l : List UInt8} (h : l ≠ []) : wid l ≤ l.length := by
  have h0 : 0 < l.length := List.length_pos_iff.2 h
  unfold wid
  rw [decodeL_N]
  rcases decodeN_shape l.length (l.getD 0 0).toNat (l.getD 1 0).toNat (l.getD 2 0).toNat (l.getD 3 0).toNat with ⟨c, e⟩ | ⟨c1, c2, c3, cv, e⟩ | ⟨c1, c2, c3, c4, cv, cs, e⟩ | ⟨c1, c2, c3, c4, c5, cv, cw, e⟩ | e <;> rw [e] <;> dsimp only <;> omega
theorem rune_lt (l : List UInt8) : (decodeL l).1 ≤ 1114111 := by
  rw [decodeL_N]
  have k0 := (l.getD 0 0).toNat_lt
  have k1 := (l.getD 1 0).toNat_lt
  have k2 := (l.getD 2 0).toNat_lt
  have k3 := (l.getD 3 0).toNat_lt
  rcases decodeN_shape l.length (l.getD 0 0).toNat (l.getD 1 0).toNat (l.getD 2 0).toNat (l.getD 3 0).toNat with ⟨c, e⟩ | ⟨c1, c2, c3, cv, e⟩ | ⟨c1, c2, c3, c4, cv, cs, e⟩ | ⟨c1, c2, c3, c4, c5, cv, cw, e⟩ | e <;> rw [e] <;> dsimp only <;> omega
theorem rune_ch (l : List UInt8) : isCh ((decodeL l).1 : Int) := by
  rw [decodeL_N]
  have k0 := (l.getD 0 0).toNat_lt
  have k1 := (l.getD 1 0).toNat_lt
  have k2 := (l.getD 2 0).toNat_lt
  have k3 := (l.getD 3 0).toNat_lt
  unfold isCh
  rcases decodeN_shape l.length (l.getD 0 0).toNat (l.getD 1 0).toNat (l.getD 2 0).toNat (l.getD 3 0).toNat with ⟨c, e⟩ | ⟨c1, c2, c3, cv, e⟩ | ⟨c1, c2, c3, c4, cv, cs, e⟩ | ⟨c1, c2, c3, c4, c5, cv, cw, e⟩ | e <;> rw [e] <;> dsimp only <;> omega
/-- A part is a character that has just those octets, or it is -1 of one octet. -/
theorem part_cases {l : List UInt8} (h : l ≠ []) : (partOf l = -1 ∧ wid l = 1) ∨ (partOf l ≠ -1 ∧ isCh (partOf l) ∧ l.take (wid l) = encodeRune (partOf l) ∧ partOf l = ((decodeL l).1 : Int)) := by
  by_cases hb : (decodeL l).1 = 65533 ∧ (decodeL l).2 = 1
  · left
    exact ⟨by unfold partOf; rw [if_pos hb], hb.2⟩
  · right
    have he : partOf l = ((decodeL l).1 : Int) := by unfold partOf; rw [if_neg hb]
    refine ⟨by rw [he]; omega, by rw [he]; exact rune_ch l, ?_, he⟩
    rw [he]
    exact (encode_decode l h hb).symm
/-- A character's octets are read as it, whatever follows. -/
theorem decode_enc {c : Int} (h : isCh c) (t : List UInt8) : decodeL (encodeRune c ++ t) = (c.toNat, (encodeRune c).length) := by
  rw [decodeL_N]
  unfold isCh at h
  by_cases h1 : c ≤ 127
  · unfold encodeRune
    rw [encodeRuneZ_one (by omega) h1]
    obtain ⟨k, rfl⟩ : ∃ k : Nat, c = (k : Int) := ⟨c.toNat, by omega⟩
    simp [decodeN, UInt8.toNat_ofNat', show k % 256 < 128 by omega]
    omega
  by_cases h2 : c ≤ 2047
  · unfold encodeRune
    rw [encodeRuneZ_two (by omega) h2]
    obtain ⟨k, rfl⟩ : ∃ k : Nat, c = (k : Int) := ⟨c.toNat, by omega⟩
    have e1 : ((192 : Int) + (k : Int) / 64).toNat = 192 + k / 64 := by omega
    have e2 : ((128 : Int) + (k : Int) % 64).toNat = 128 + k % 64 := by omega
    simp only [List.map_cons, List.map_nil, e1, e2, List.cons_append, List.nil_append, List.getD_cons_zero, List.getD_cons_succ, Nat.toUInt8_eq, UInt8.toNat_ofNat', List.length_cons, List.length_nil]
    unfold decodeN
    rw [if_neg (by omega), if_pos ⟨by omega, by omega, by omega⟩, if_pos (by omega)]
    apply Prod.ext <;> simp only <;> omega
  by_cases h3 : c ≤ 65535
  · unfold encodeRune
    rw [encodeRuneZ_three (by omega)]
    obtain ⟨k, rfl⟩ : ∃ k : Nat, c = (k : Int) := ⟨c.toNat, by omega⟩
    have e1 : ((224 : Int) + (k : Int) / 4096).toNat = 224 + k / 4096 := by omega
    have e2 : ((128 : Int) + (k : Int) / 64 % 64).toNat = 128 + k / 64 % 64 := by omega
    have e3 : ((128 : Int) + (k : Int) % 64).toNat = 128 + k % 64 := by omega
    simp only [List.map_cons, List.map_nil, e1, e2, e3, List.cons_append, List.nil_append, List.getD_cons_zero, List.getD_cons_succ, Nat.toUInt8_eq, UInt8.toNat_ofNat', List.length_cons, List.length_nil]
    unfold decodeN
    rw [if_neg (by omega), if_neg (by omega), if_pos ⟨by omega, ⟨by omega, by omega⟩, by omega, by omega⟩, if_pos (by omega)]
    apply Prod.ext <;> simp only <;> omega
  · unfold encodeRune
    rw [encodeRuneZ_four (by omega) (by omega)]
    obtain ⟨k, rfl⟩ : ∃ k : Nat, c = (k : Int) := ⟨c.toNat, by omega⟩
    have e1 : ((240 : Int) + (k : Int) / 262144).toNat = 240 + k / 262144 := by omega
    have e4 : ((128 : Int) + (k : Int) / 4096 % 64).toNat = 128 + k / 4096 % 64 := by omega
    have e2 : ((128 : Int) + (k : Int) / 64 % 64).toNat = 128 + k / 64 % 64 := by omega
    have e3 : ((128 : Int) + (k : Int) % 64).toNat = 128 + k % 64 := by omega
    simp only [List.map_cons, List.map_nil, e1, e2, e3, e4, List.cons_append, List.nil_append, List.getD_cons_zero, List.getD_cons_succ, Nat.toUInt8_eq, UInt8.toNat_ofNat', List.length_cons, List.length_nil]
    unfold decodeN
    rw [if_neg (by omega), if_neg (by omega), if_neg (by omega), if_pos ⟨by omega, ⟨by omega, by omega⟩, ⟨by omega, by omega⟩, by omega, by omega⟩, if_pos (by omega)]
    apply Prod.ext <;> simp only <;> omega
theorem enc_len (c : Int) : 1 ≤ (encodeRune c).length ∧ (encodeRune c).length ≤ 4 := by
  have := encodeRuneZ_length c
  unfold encodeRune
  rw [List.length_map]
  exact this
theorem enc_ne (c : Int) (t : List UInt8) : encodeRune c ++ t ≠ [] := by
  intro h
  have h1 := congrArg List.length h
  have h2 := enc_len c
  rw [List.length_append, List.length_nil] at h1
  omega
/-- A character that the octets ef bf bd are is the sign itself, and has three octets: no part is told -1 for it. -/
theorem part_enc {c : Int} (h : isCh c) (t : List UInt8) : partOf (encodeRune c ++ t) = c ∧ wid (encodeRune c ++ t) = (encodeRune c).length := by
  have hd := decode_enc h t
  have hn : ¬ ((decodeL (encodeRune c ++ t)).1 = 65533 ∧ (decodeL (encodeRune c ++ t)).2 = 1) := by
    rw [hd]
    rintro ⟨e1, e2⟩
    dsimp only at e1 e2
    have : c = 65533 := by unfold isCh at h; omega
    subst this
    exact absurd e2 (by decide)
  constructor
  · unfold partOf
    rw [if_neg hn, hd]
    unfold isCh at h
    dsimp only
    omega
  · unfold wid; rw [hd]

/-- What a text falls into: its characters with their octets, and -1 for each octet that begins none. -/
def pcsF : Nat → List UInt8 → List (List UInt8 × Int)
  | 0, _ => []
  | f + 1, l => if l = [] then [] else (l.take (wid l), partOf l) :: pcsF f (l.drop (wid l))
def pcs (l : List UInt8) : List (List UInt8 × Int) := pcsF l.length l
theorem pcsF_nil (f : Nat) : pcsF f [] = [] := by cases f <;> rfl
theorem pcsF_eq : ∀ f g l, l.length ≤ f → l.length ≤ g → pcsF f l = pcsF g l := by
  intro f
  induction f with
  | zero =>
    intro g l h _
    rw [List.eq_nil_of_length_eq_zero (show l.length = 0 by omega), pcsF_nil, pcsF_nil]
  | succ f ih =>
    intro g l h1 h2
    by_cases hl : l = []
    · rw [hl, pcsF_nil, pcsF_nil]
    · have h0 : 0 < l.length := List.length_pos_iff.2 hl
      have hw := wid_ge l
      obtain ⟨g', rfl⟩ : ∃ g', g = g' + 1 := ⟨g - 1, by omega⟩
      unfold pcsF
      rw [if_neg hl, if_neg hl, ih g' _ (by rw [List.length_drop]; omega) (by rw [List.length_drop]; omega)]
theorem pcs_nil : pcs [] = [] := rfl
theorem pcs_cons {l : List UInt8} (h : l ≠ []) : pcs l = (l.take (wid l), partOf l) :: pcs (l.drop (wid l)) := by
  have h0 : 0 < l.length := List.length_pos_iff.2 h
  have hw := wid_ge l
  unfold pcs
  rw [pcsF_eq l.length (l.length + 1) l (Nat.le_refl _) (by omega)]
  conv => lhs; unfold pcsF
  rw [if_neg h, pcsF_eq _ (l.drop (wid l)).length _ (by rw [List.length_drop]; omega) (Nat.le_refl _)]
/-- By the length of a text. -/
theorem text_ind {p : List UInt8 → Prop} (h0 : p []) (h1 : ∀ l, l ≠ [] → p (l.drop (wid l)) → p l) (l : List UInt8) : p l := by
  obtain ⟨n, hn⟩ : ∃ n, l.length ≤ n := ⟨_, Nat.le_refl _⟩
  induction n generalizing l with
  | zero => rw [List.eq_nil_of_length_eq_zero (show l.length = 0 by omega)]; exact h0
  | succ n ih =>
    by_cases hl : l = []
    · rw [hl]; exact h0
    · have hw := wid_ge l
      have h3 : 0 < l.length := List.length_pos_iff.2 hl
      exact h1 l hl (ih _ (by rw [List.length_drop]; omega))
theorem pcs_flat (l : List UInt8) : (pcs l).flatMap (·.1) = l := by
  refine text_ind (p := fun l => (pcs l).flatMap (·.1) = l) rfl (fun l hl ih => ?_) l
  show (pcs l).flatMap (·.1) = l
  rw [pcs_cons hl, List.flatMap_cons, ih]
  exact List.take_append_drop _ _
theorem pcs_good (l : List UInt8) : ∀ p ∈ pcs l, p.2 ≠ -1 → isCh p.2 ∧ p.1 = encodeRune p.2 := by
  refine text_ind (p := fun l => ∀ p ∈ pcs l, p.2 ≠ -1 → isCh p.2 ∧ p.1 = encodeRune p.2) (fun p h => by cases h) (fun l hl ih => ?_) l
  intro p hp hn
  rw [pcs_cons hl, List.mem_cons] at hp
  rcases hp with rfl | hp
  · rcases part_cases hl with ⟨h, _⟩ | ⟨_, h1, h2, _⟩
    · exact absurd h hn
    · exact ⟨h1, h2⟩
  · exact ih p hp hn
theorem pcs_enc1 {c : Int} (h : isCh c) (t : List UInt8) : pcs (encodeRune c ++ t) = (encodeRune c, c) :: pcs t := by
  obtain ⟨h1, h2⟩ := part_enc h t
  rw [pcs_cons (enc_ne c t), h1, h2, List.take_left, List.drop_left]
/-- The octets of characters. -/
def enc (cs : List Int) : List UInt8 := cs.flatMap encodeRune
theorem enc_cons (c : Int) (cs : List Int) : enc (c :: cs) = encodeRune c ++ enc cs := rfl
theorem enc_append (a b : List Int) : enc (a ++ b) = enc a ++ enc b := by simp [enc]
theorem pcs_enc {cs : List Int} (h : ∀ c ∈ cs, isCh c) (t : List UInt8) : pcs (enc cs ++ t) = cs.map (fun c => (encodeRune c, c)) ++ pcs t := by
  induction cs with
  | nil => rfl
  | cons c cs ih =>
    rw [enc_cons, List.append_assoc, pcs_enc1 (h c (by simp)), ih (fun x hx => h x (by simp [hx]))]
    rfl
theorem pcs_text {cs : List Int} (h : ∀ c ∈ cs, isCh c) : pcs (enc cs) = cs.map (fun c => (encodeRune c, c)) := by
  have := pcs_enc h []
  rwa [List.append_nil, pcs_nil, List.append_nil] at this
theorem flatMap_same {α β : Type} (f g : α → List β) : ∀ l : List α, (∀ x ∈ l, f x = g x) → l.flatMap f = l.flatMap g
  | [], _ => rfl
  | x :: l, h => by rw [List.flatMap_cons, List.flatMap_cons, h x (by simp), flatMap_same f g l (fun y hy => h y (by simp [hy]))]
/-- The characters of a text. -/
def uchars (l : List UInt8) : List Int := (pcs l).map (·.2)
def isT (l : List UInt8) : Bool := (pcs l).all fun p => p.2 != -1
theorem isT_iff (l : List UInt8) : isT l = true ↔ ∀ p ∈ pcs l, p.2 ≠ -1 := by
  unfold isT
  rw [List.all_eq_true]
  simp
theorem enc_chars {l : List UInt8} (h : isT l = true) : enc (uchars l) = l := by
  rw [isT_iff] at h
  conv => rhs; rw [← pcs_flat l]
  unfold enc uchars
  rw [List.flatMap_map]
  refine flatMap_same _ _ _ fun p hp => ?_
  exact (pcs_good l p hp (h p hp)).2.symm
theorem chars_ch {l : List UInt8} (h : isT l = true) : ∀ c ∈ uchars l, isCh c := by
  intro c hc
  rw [isT_iff] at h
  unfold uchars at hc
  rw [List.mem_map] at hc
  obtain ⟨p, hp, rfl⟩ := hc
  exact (pcs_good l p hp (h p hp)).1
theorem chars_enc {cs : List Int} (h : ∀ c ∈ cs, isCh c) : uchars (enc cs) = cs := by
  unfold uchars
  rw [pcs_text h, List.map_map]
  exact List.map_id' cs
theorem isT_enc {cs : List Int} (h : ∀ c ∈ cs, isCh c) : isT (enc cs) = true := by
  rw [isT_iff, pcs_text h]
  intro p hp
  rw [List.mem_map] at hp
  obtain ⟨c, hc, rfl⟩ := hp
  have := h c hc
  unfold isCh at this
  show c ≠ -1
  omega
end Go.Proofs.YtpmdcahomkdfmaaGreatDoor

namespace Go.Proofs.YtpmdcahomkdfmaaGreatDoor
open Go.Lib

theorem toU8_toNat {z : Int} (h0 : 0 ≤ z) (h1 : z < 256) : (z.toNat.toUInt8).toNat = z.toNat := by
  rw [Nat.toUInt8_eq, UInt8.toNat_ofNat']
  omega
end Go.Proofs.YtpmdcahomkdfmaaGreatDoor
