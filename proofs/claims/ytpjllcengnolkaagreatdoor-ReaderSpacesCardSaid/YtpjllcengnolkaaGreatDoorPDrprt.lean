/-
  What is read may be: its texts are texts, its numbers may be, nothing is too long, too deep or too much. Pure, no program.
  The object that is made of keys and values that may be, may be alone. Pure, no program.
  The page's example, read: pure. No program.
  Contract of the reference's Word: digits as a text.
  Contracts of the reference's zeros and plain.
-/
import Derived.Test.YtpjllcengnolkaaGreatDoorPRspaces
import Derived.Test.YtpjllcengnolkaaGreatDoorPDfm
import Derived.Test.YtpjllcengnolkaaGreatDoorPRfull
import Derived.Test.YtpjllcengnolkaaGreatDoorPDa
import Derived.Test.YtpjllcengnolkaaGreatDoorPVord
import Derived.Lib.ItoaLen
set_option linter.unusedVariables false
set_option linter.unusedSimpArgs false
namespace Go.Proofs.YtpjllcengnolkaaGreatDoor
open Go.Lib

/-- A value that may be, with so many levels at most. -/
def Vok (k : Nat) (v : VT) : Prop := (∀ y ∈ partsV v, alone y = 0) ∧ (partsV v).length ≤ 16384 ∧ deepL (pre 0 v) ≤ k
theorem Vok.ok {v : VT} (h : Vok 64 v) : errV v = 0 := okV_of h.1 h.2.1 h.2.2
mutual
theorem pre_lift (d : Nat) : ∀ (x : VT) (lv : Nat), pre (lv + d) x = (pre lv x).map fun p => (p.1 + d, p.2)
  | .mk k n x e t l ks, lv => by
    have h := preL_lift d l (lv + 1)
    unfold pre
    by_cases hh : hold k = true
    · rw [if_pos hh, if_pos hh, List.map_cons, ← h, show lv + 1 + d = lv + d + 1 by omega]
    · rw [if_neg hh, if_neg hh]; rfl
theorem preL_lift (d : Nat) : ∀ (l : List VT) (lv : Nat), preL (lv + d) l = (preL lv l).map fun p => (p.1 + d, p.2)
  | [], lv => rfl
  | v :: r, lv => by
    unfold preL
    rw [List.map_append, ← pre_lift d v lv, ← preL_lift d r lv]
end
theorem deepL_lift (d : Nat) : ∀ (l : List (Nat × VT)), deepL (l.map fun p => (p.1 + d, p.2)) ≤ d + deepL l
  | [] => by simp [deepL]
  | p :: r => by
    have := deepL_lift d r
    simp only [List.map_cons, deepL]
    split <;> omega
theorem deepL_rows {k : Nat} : ∀ (l : List VT), (∀ x ∈ l, deepL (pre 0 x) ≤ k) → deepL (preL 1 l) ≤ k + 1
  | [], _ => by simp [preL, deepL]
  | v :: r, h => by
    have h1 := h v (by simp)
    have h2 := deepL_rows r fun x hx => h x (by simp [hx])
    have h3 := deepL_lift 1 (pre 0 v)
    rw [← pre_lift 1 v 0, Nat.zero_add] at h3
    unfold preL
    rw [deepL_append]
    omega
/-- A list or an object of such values. -/
theorem Vok.hold {k : Nat} {v : VT} (h0 : alone v = 0) (hl : (partsV v).length ≤ 16384) (hi : ∀ x ∈ v.inner, Vok k x) : Vok (k + 1) v := by
  refine ⟨fun y hy => ?_, hl, ?_⟩
  · rcases mem_parts.1 hy with rfl | ⟨z, hz, hy⟩
    · exact h0
    · exact (hi z hz).1 y hy
  · rw [pre_eq]
    have := deepL_rows (k := k) v.inner fun x hx => (hi x hx).2.2
    simp only [deepL, Nat.zero_add]
    split <;> omega
/-- One that holds none. -/
theorem Vok.flat {k : Nat} {v : VT} (h0 : alone v = 0) (hh : Proofs.YtpjllcengnolkaaGreatDoor.hold v.kind = false) : Vok k v := by
  have hin : v.inner = [] := by unfold VT.inner; rw [if_neg (by rw [hh]; decide)]
  have hp : partsV v = [v] := by unfold partsV; rw [pre_eq, hin]; simp [preL]
  refine ⟨fun y hy => ?_, by rw [hp]; simp, ?_⟩
  · rw [hp, List.mem_singleton] at hy; rw [hy]; exact h0
  · rw [pre_eq, hin]
    simp [preL, deepL, hh]

/-- What reading comes to is so. -/
def Inv {α : Type} (F : Rd1 α) (P : α → Prop) : Prop := ∀ b p a q, F b p = .ok a q → P a
theorem Inv.pure {α : Type} {P : α → Prop} {a : α} (h : P a) : Inv (rPure a) P := fun b p a2 q hf => by unfold rPure at hf; injection hf with h1 h2; rw [← h1]; exact h
theorem Inv.fail {α : Type} {P : α → Prop} {e : Nat} : Inv (rFail e : Rd1 α) P := fun b p a2 q hf => by unfold rFail at hf; cases hf
theorem Inv.any {α : Type} (F : Rd1 α) : Inv F fun _ => True := fun _ _ _ _ _ => trivial
theorem Inv.at {α β : Type} {F : Rd1 α} {G : α → Rd1 β} {P : α → Prop} {Q : β → Prop} (hF : Inv F P) (hG : ∀ a, P a → Inv (G a) Q) : Inv (rAt F G) Q := fun b p a2 q h => by
  unfold rAt at h
  cases hf : F b p with
  | ok a q1 => rw [hf] at h; exact hG a (hF b p a q1 hf) b q1 a2 q h
  | bad q1 e => rw [hf] at h; cases h
theorem Inv.ite {α : Type} {c : Prop} [Decidable c] {F G : Rd1 α} {P : α → Prop} (hF : c → Inv F P) (hG : ¬ c → Inv G P) : Inv (if c then F else G) P := by
  by_cases h : c
  · rw [if_pos h]; exact hF h
  · rw [if_neg h]; exact hG h
theorem Inv.over {α : Type} {G : Rd1 α} {P : α → Prop} (h : Inv G P) : Inv (fun b p => G b (p + 1)) P := fun b p a q hf => h b (p + 1) a q hf
theorem Inv.mono {α : Type} {F : Rd1 α} {P Q : α → Prop} (h : Inv F P) (hq : ∀ a, P a → Q a) : Inv F Q := fun b p a q hf => hq a (h b p a q hf)

theorem hexOf_lt {c : UInt8} {d : Nat} (h : hexOf c = some d) : d < 16 := by
  unfold hexOf at h
  split at h
  · rename_i h1
    simp only [Bool.and_eq_true, decide_eq_true_eq] at h1
    injection h with h
    have e1 := UInt8.le_iff_toNat_le.1 h1.1
    have e2 := UInt8.le_iff_toNat_le.1 h1.2
    have : (48 : UInt8).toNat = 48 := rfl
    have : (57 : UInt8).toNat = 57 := rfl
    omega
  · split at h
    · rename_i h1
      simp only [Bool.and_eq_true, decide_eq_true_eq] at h1
      injection h with h
      have e1 := UInt8.le_iff_toNat_le.1 h1.1
      have e2 := UInt8.le_iff_toNat_le.1 h1.2
      have : (97 : UInt8).toNat = 97 := rfl
      have : (102 : UInt8).toNat = 102 := rfl
      omega
    · split at h
      · rename_i h1
        simp only [Bool.and_eq_true, decide_eq_true_eq] at h1
        injection h with h
        have e1 := UInt8.le_iff_toNat_le.1 h1.1
        have e2 := UInt8.le_iff_toNat_le.1 h1.2
        have : (65 : UInt8).toNat = 65 := rfl
        have : (70 : UInt8).toNat = 70 := rfl
        omega
      · cases h
theorem Inv.hex : ∀ k n, Inv (rHex k n) fun z => n * 16 ^ k ≤ z ∧ z < (n + 1) * 16 ^ k
  | 0, n => Inv.pure (by simp)
  | k + 1, n => by
    unfold rHex
    refine (Inv.any rPeek).at fun c _ => ?_
    cases hd : hexOf c with
    | none => exact Inv.fail
    | some d =>
      have hl := hexOf_lt hd
      refine Inv.over ((Inv.hex k (n * 16 + d)).mono fun z hz => ?_)
      have e1 : (n * 16 + d) * 16 ^ k = n * 16 ^ (k + 1) + d * 16 ^ k := by rw [Nat.pow_succ, Nat.add_mul]; congr 1; rw [Nat.mul_assoc, Nat.mul_comm 16]
      have e2 : (n * 16 + d + 1) * 16 ^ k ≤ (n + 1) * 16 ^ (k + 1) := by
        have : n * 16 + d + 1 ≤ (n + 1) * 16 := by omega
        have := Nat.mul_le_mul_right (16 ^ k) this
        rw [Nat.pow_succ, Nat.mul_comm (16 ^ k) 16, ← Nat.mul_assoc]
        exact this
      omega
theorem Inv.must (m : Nat) (is : Bool) : Inv (rMust m is) fun _ => is = true := fun b p a q h => by
  cases is
  · cases h
  · rfl
theorem Inv.low (m : Nat) : Inv (rLow m) fun z => 56320 ≤ z ∧ z < 57344 := by
  unfold rLow
  refine (Inv.any rPeek).at fun c _ => (Inv.any _).at fun _ _ => Inv.over (G := rAt rPeek fun d => rAt (rMust m (d == 117)) fun _ => fun b p => _) ?_
  refine (Inv.any rPeek).at fun d _ => (Inv.any _).at fun _ _ => Inv.over (G := rAt (rHex 1 0) fun x => _) ?_
  refine (Inv.hex 1 0).at fun x hx => (Inv.must _ _).at fun _ h1 => (Inv.hex 1 0).at fun y hy => (Inv.must _ _).at fun _ h2 => (Inv.hex 2 0).at fun z hz => Inv.pure ?_
  have h1 : x = 13 := by simpa using h1
  have h2 : 220 ≤ x * 16 + y := by simpa using h2
  simp at hx hy hz
  omega
theorem Inv.coded (m : Nat) : Inv (rCoded m) isCh := by
  unfold rCoded
  refine (Inv.hex 4 0).at fun n hn => Inv.ite (fun h => Inv.pure ?_) fun h => Inv.ite (fun h2 => fun b p a q hf => by cases hf) fun h2 => (Inv.low m).at fun z hz => Inv.pure ?_
  · unfold isCh
    simp at hn
    omega
  · unfold isCh
    simp at hn
    omega
theorem Inv.escape : Inv rEscape isCh := fun b p a q h => by
  have key : Inv (rAt rPeek fun c => if c == 117 then fun b q => rCoded p b (q + 1) else match escOf c with
    | some x => fun _ q => .ok x (q + 1)
    | none => fun _ _ => .bad p 33) isCh := (Inv.any rPeek).at fun c _ => Inv.ite (fun _ => Inv.over (Inv.coded p)) fun _ => by
      cases he : escOf c with
      | none => exact fun b p a q hf => by cases hf
      | some x =>
        refine Inv.over (G := rPure x) (Inv.pure ?_)
        unfold escOf at he
        unfold isCh
        repeat' split at he
        all_goals first
          | (injection he with he; omega)
          | cases he
  exact key b (p + 1) a q h

theorem Inv.char : Inv rChar isCh := by
  unfold rChar
  refine (Inv.any rPeek).at fun c _ => Inv.ite (fun _ => Inv.escape) fun _ => Inv.ite (fun _ => Inv.fail) fun _ => fun b p a q h => ?_
  split at h
  · split at h
    · cases h
    · rename_i hf hn
      injection h with h1 h2
      rw [← h1]
      have hne : b.drop p ≠ [] := fun e => by rw [e] at hf; cases hf
      rcases part_cases hne with ⟨e, -⟩ | ⟨-, e, -⟩
      · exact absurd e hn
      · exact e
  · cases h
theorem Inv.chars : ∀ n (acc : List UInt8), (∃ cs, (∀ c ∈ cs, isCh c) ∧ acc = enc cs) → Inv (rChars n acc) fun t => isT t = true
  | 0, acc, _ => Inv.fail
  | n + 1, acc, h => by
    obtain ⟨cs, hcs, rfl⟩ := h
    unfold rChars
    refine (Inv.any rPeek).at fun c _ => Inv.ite (fun _ => Inv.over (G := rPure (enc cs)) (Inv.pure (isT_enc hcs))) fun _ => Inv.char.at fun x hx => ?_
    have e : enc cs ++ encodeRune x = enc (cs ++ [x]) := by rw [enc_append, enc_cons, enc_nil, List.append_nil]
    rw [e]
    exact Inv.chars n _ ⟨cs ++ [x], fun c hc => by
      rcases List.mem_append.1 hc with hc | hc
      · exact hcs c hc
      · rw [List.mem_singleton] at hc; rw [hc]; exact hx, rfl⟩
/-- A text that may be. -/
def Tok (t : ByteArray) : Prop := isT t.data.toList = true ∧ t.size ≤ 16384
theorem Inv.text : Inv rText Tok := fun b p a q h => by
  unfold rText at h
  cases hf : rChars fuelR [] b (p + 1) with
  | bad q1 e => rw [hf] at h; cases h
  | ok t q1 =>
    rw [hf] at h
    simp only [RR.bind] at h
    split at h
    · cases h
    · rename_i hl
      injection h with h1 h2
      rw [← h1]
      refine ⟨?_, ?_⟩
      · exact Inv.chars fuelR [] ⟨[], fun c hc => by simp at hc, rfl⟩ b (p + 1) t q1 hf
      · show t.toArray.size ≤ _
        rw [List.size_toArray]
        omega
theorem Inv.number (k : Nat) : Inv rNumber (Vok k) := fun b p a q h => by
  unfold rNumber at h
  cases hf : rNumeral b p with
  | bad q1 e => rw [hf] at h; cases h
  | ok a1 q1 =>
    rw [hf] at h
    simp only [RR.bind] at h
    split at h
    · rename_i h0
      cases ha : rApart b q1 with
      | bad q2 e => rw [ha] at h; cases h
      | ok a2 q2 =>
        rw [ha] at h
        injection h with h1 h2
        rw [← h1]
        refine Vok.flat ?_ rfl
        have hok := f_may2 h0
        unfold numV alone ownT
        simp only [VT.kind, VT.inner, fitV, VT.neg, VT.num, VT.exp, VT.text, VT.list, VT.keys, Proofs.YtpjllcengnolkaaGreatDoor.hold]
        simp [hok, show (⟨#[]⟩ : ByteArray) = ByteArray.empty from rfl]
    · cases h
theorem text_alone {t : ByteArray} (h : Tok t) : alone (.mk 4 false [] 0 t [] []) = 0 := by
  unfold alone ownT
  simp only [VT.kind, VT.inner, fitV, VT.neg, VT.num, VT.exp, VT.text, VT.list, VT.keys, Proofs.YtpjllcengnolkaaGreatDoor.hold]
  have h1 := h.1
  have h2 := h.2
  simp [h1]
  omega
theorem word_alone {k : Int} (h : k = 0 ∨ k = 1 ∨ k = 2) : alone (numT0 k) = 0 := by
  rcases h with rfl | rfl | rfl <;> decide
/-- The items of a list or an object: each as it may be, no more than 4096. -/
theorem Inv.itemsF {α : Type} {P : α → Prop} {end_ : UInt8} {item : Nat → Rd1 α} (hi : ∀ nth, Inv (item nth) fun a => P a ∧ nth ≤ 4096) : ∀ n nth, nth ≤ 4097 → Inv (rItemsF end_ item n nth) fun l => (∀ a ∈ l, P a) ∧ nth + l.length ≤ 4097
  | 0, nth, _ => Inv.fail
  | n + 1, nth, hn => by
    unfold rItemsF
    refine (Inv.any rPeek).at fun c _ => Inv.ite (fun _ => Inv.over (G := rPure []) (Inv.pure ⟨fun a ha => by simp at ha, by simpa using hn⟩)) fun _ => (Inv.any _).at fun _ _ => (hi nth).at fun a ha => (Inv.any _).at fun _ _ => (Inv.itemsF hi n (nth + 1) (by omega)).at fun l hl => Inv.pure ⟨fun x hx => ?_, ?_⟩
    · rcases List.mem_cons.1 hx with rfl | hx
      · exact ha.1
      · exact hl.1 x hx
    · rw [List.length_cons]
      have := hl.2
      omega
theorem Inv.items {α : Type} {P : α → Prop} {end_ : UInt8} {item : Nat → Rd1 α} (hi : ∀ nth, Inv (item nth) fun a => P a ∧ nth ≤ 4096) : Inv (rItems end_ item) fun l => (∀ a ∈ l, P a) ∧ l.length ≤ 4096 :=
  Inv.over ((Inv.any _).at fun _ _ => (Inv.itemsF hi fuelR 1 (by omega)).mono fun l hl => ⟨hl.1, by have := hl.2; omega⟩)
theorem Inv.held {α : Type} {F : Rd1 α} {P : α → Prop} (hF : Inv F P) (mk : α → VT) : Inv (fun b p => (F b p).bind fun l q => rHeld p (mk l) b q) fun v => ∃ l, P l ∧ v = mk l ∧ (partsV v).length ≤ 16384 := fun b p a q h => by
  cases hf : F b p with
  | bad q1 e => simp only [hf, RR.bind] at h; cases h
  | ok l q1 =>
    simp only [hf, RR.bind] at h
    unfold rHeld at h
    split at h
    · cases h
    · rename_i hl
      injection h with h1 h2
      refine ⟨l, hF b p l q1 hf, h1.symm, ?_⟩
      rw [← h1]
      unfold seen at hl
      rw [List.length_take] at hl
      unfold partsV
      rw [List.length_map]
      unfold mostP at hl
      omega
theorem Inv.begin (k nth : Nat) : Inv (rBegin k nth) fun _ => nth ≤ 4096 := by
  unfold rBegin
  exact (Inv.any rPeek).at fun c _ => Inv.ite (fun _ => Inv.fail) fun _ => Inv.ite (fun _ => Inv.fail) fun _ => Inv.ite (fun _ => Inv.fail) fun h => Inv.pure (by omega)
theorem Inv.key (nth : Nat) : Inv (rKey nth) Tok := by
  unfold rKey
  exact (Inv.any rPeek).at fun c _ => Inv.ite (fun _ => Inv.ite (fun _ => Inv.fail) fun _ => Inv.text) fun _ => Inv.fail
theorem list_alone {l : List VT} (h : l.length ≤ 4096) : alone (.mk 5 false [] 0 ⟨#[]⟩ l []) = 0 := by
  unfold alone ownT
  simp only [VT.kind, VT.inner, fitV, VT.neg, VT.num, VT.exp, VT.text, VT.list, VT.keys, Proofs.YtpjllcengnolkaaGreatDoor.hold]
  simp [show (⟨#[]⟩ : ByteArray) = ByteArray.empty from rfl]
  omega
/-- How objects are made: of keys and values that may be, one that may be alone, of those values. -/
def MkOk (mk : List (ByteArray × VT) → VT) : Prop := ∀ l, (∀ p ∈ l, Tok p.1) → l.length ≤ 4096 → alone (mk l) = 0 ∧ ∀ x ∈ (mk l).inner, ∃ p ∈ l, x = p.2
theorem Inv.value {mk : List (ByteArray × VT) → VT} (hmk : MkOk mk) : ∀ k nth, Inv (rValue mk k nth) fun v => Vok k v ∧ nth ≤ 4096
  | 0, nth => by
    unfold rValue
    refine (Inv.begin 0 nth).at fun _ hn => (Inv.any rPeek).at fun c _ => ?_
    refine Inv.ite (fun _ => Inv.text.at fun t ht => Inv.pure ⟨Vok.flat (text_alone ht) rfl, hn⟩) fun _ => ?_
    refine Inv.ite (fun _ => (Inv.any _).at fun _ _ => Inv.pure ⟨Vok.flat (word_alone (.inl rfl)) rfl, hn⟩) fun _ => ?_
    refine Inv.ite (fun _ => (Inv.any _).at fun _ _ => Inv.pure ⟨Vok.flat (word_alone (.inr (.inl rfl))) rfl, hn⟩) fun _ => ?_
    refine Inv.ite (fun _ => (Inv.any _).at fun _ _ => Inv.pure ⟨Vok.flat (word_alone (.inr (.inr rfl))) rfl, hn⟩) fun _ => ?_
    exact (Inv.number 0).mono fun v hv => ⟨hv, hn⟩
  | k + 1, nth => by
    have ih := Inv.value hmk k
    unfold rValue
    refine (Inv.begin (k + 1) nth).at fun _ hn => (Inv.any rPeek).at fun c _ => ?_
    refine Inv.ite (fun _ => (Inv.held (Inv.items ih) _).mono ?_) fun _ => ?_
    · rintro v ⟨l, hl, rfl, hp⟩
      exact ⟨Vok.hold (list_alone hl.2) hp (fun x hx => hl.1 x (by simpa [VT.inner, VT.kind, VT.list, Proofs.YtpjllcengnolkaaGreatDoor.hold] using hx)), hn⟩
    refine Inv.ite (fun _ => (Inv.held (Inv.items (P := fun p : ByteArray × VT => Tok p.1 ∧ Vok k p.2) fun n => (Inv.key n).at fun key hk => (Inv.any _).at fun _ _ => (Inv.any _).at fun _ _ => (Inv.any _).at fun _ _ => (ih n).at fun v hv => Inv.pure ⟨⟨hk, hv.1⟩, hv.2⟩) _).mono ?_) fun _ => ?_
    · rintro v ⟨l, hl, rfl, hp⟩
      obtain ⟨h1, h2⟩ := hmk l (fun p hp => (hl.1 p hp).1) hl.2
      refine ⟨Vok.hold h1 hp (fun x hx => ?_), hn⟩
      obtain ⟨p, hp, rfl⟩ := h2 x hx
      exact (hl.1 p hp).2
    refine Inv.ite (fun _ => Inv.text.at fun t ht => Inv.pure ⟨Vok.flat (text_alone ht) rfl, hn⟩) fun _ => ?_
    refine Inv.ite (fun _ => (Inv.any _).at fun _ _ => Inv.pure ⟨Vok.flat (word_alone (.inl rfl)) rfl, hn⟩) fun _ => ?_
    refine Inv.ite (fun _ => (Inv.any _).at fun _ _ => Inv.pure ⟨Vok.flat (word_alone (.inr (.inl rfl))) rfl, hn⟩) fun _ => ?_
    refine Inv.ite (fun _ => (Inv.any _).at fun _ _ => Inv.pure ⟨Vok.flat (word_alone (.inr (.inr rfl))) rfl, hn⟩) fun _ => ?_
    exact (Inv.number (k + 1)).mono fun v hv => ⟨hv, hn⟩
end Go.Proofs.YtpjllcengnolkaaGreatDoor

namespace Go.Proofs.YtpjllcengnolkaaGreatDoor
open Go.Lib

theorem keysL_lt (ks : List ByteArray) : (keysL ks).Pairwise (· < ·) := by
  have tr : ∀ a b c : List UInt8, leB a b = true → leB b c = true → leB a c = true := fun a b c h1 h2 => by simp only [leB, decide_eq_true_eq] at *; exact List.le_trans h1 h2
  have tot : ∀ a b : List UInt8, (leB a b || leB b a) = true := fun a b => by simp only [leB, Bool.or_eq_true, decide_eq_true_eq]; exact List.le_total a b
  have h1 : (keysL ks).Pairwise (fun a b => leB a b = true) := List.pairwise_mergeSort tr tot _
  have h2 : (keysL ks).Nodup := (List.mergeSort_perm _ _).nodup_iff.2 (lastD_nodup ks ks.length)
  refine (h1.and h2).imp fun {a b} h => ?_
  have h3 : a ≤ b := by simpa [leB] using h.1
  rcases List.le_iff_lt_or_eq.1 h3 with h4 | h4
  · exact h4
  · exact absurd h4 h.2
theorem keysB_rises (ks : List ByteArray) : rises (keysB ks) = true := by
  rw [rises_iff]
  intro j a b hj ha hb
  unfold keysB at ha hb hj
  rw [List.length_map] at hj
  rw [List.getElem?_map, List.getElem?_eq_getElem (by omega)] at ha hb
  injection ha with ha
  injection hb with hb
  subst ha hb
  rw [bytesLess_eq]
  rw [ByteArray.toList_eq, ByteArray.toList_eq]
  exact decide_eq_true (List.pairwise_iff_getElem.1 (keysL_lt ks) j (j + 1) (by omega) (by omega) (by omega))
theorem lastAt_mem {ks : List ByteArray} {s : ByteArray} {i : Nat} (h : lastAt ks s ks.length = some i) : i < ks.length ∧ s ∈ ks := by
  obtain ⟨h1, h2, _⟩ := lastAt_some h
  refine ⟨h1, ?_⟩
  rw [← h2, List.getD_eq_getElem?_getD, List.getElem?_eq_getElem h1]
  exact List.getElem_mem h1
theorem keysB_in {ks : List ByteArray} {s : ByteArray} (h : s ∈ keysB ks) : s ∈ ks := by
  have h1 := keysB_mem.1 h
  cases h2 : lastAt ks s ks.length with
  | none => rw [h2] at h1; cases h1
  | some i => exact (lastAt_mem h2).2
/-- The object of keys and values. -/
def mkObj (l : List (ByteArray × VT)) : VT := objV (l.map (·.1)) (l.map (·.2))
theorem MkOk.obj : MkOk mkObj := fun l hT hl => by
  have hk : ∀ s ∈ keysB (l.map (·.1)), Tok s := fun s hs => by
    obtain ⟨p, hp, rfl⟩ := List.mem_map.1 (keysB_in hs)
    exact hT p hp
  refine ⟨?_, fun x hx => ?_⟩
  · unfold mkObj objV
    rw [alone_mk]
    have hlen := keysB_length (l.map (·.1))
    rw [List.length_map] at hlen
    have h1 : (keysB (l.map (·.1))).any (fun s => !isT s.data.toList) = false := by
      rw [List.any_eq_false]
      intro s hs
      simp [(hk s hs).1]
    have h2 : (keysB (l.map (·.1))).any (fun s => decide (16384 < s.size)) = false := by
      rw [List.any_eq_false]
      intro s hs
      have := (hk s hs).2
      simp only [decide_eq_true_eq]
      omega
    have h3 : fitN 6 false [] 0 ⟨#[]⟩ ((keysB (l.map (·.1))).map (lastV (l.map (·.1)) (l.map (·.2)))).length (keysB (l.map (·.1))) = true := by
      unfold fitN
      rw [if_neg (by decide), if_neg (by decide), if_neg (by decide), if_pos rfl, List.length_map, keysB_rises]
      rw [show ((⟨#[]⟩ : ByteArray).size) = 0 from rfl]
      simp
    unfold aloneN aloneT ownTx
    rw [if_neg (by decide), if_neg (show ¬ (6 : Int) = 4 by decide), if_pos rfl, h1, h2, h3]
    have hh : (if hold 6 = true then ((keysB (l.map (·.1))).map (lastV (l.map (·.1)) (l.map (·.2)))).length else 0) = (keysB (l.map (·.1))).length := by
      rw [if_pos (by decide), List.length_map]
    rw [hh, if_neg (by decide), if_neg (by decide), if_neg (by omega), if_pos rfl]
  · unfold mkObj objV at hx
    rw [inner_mk, if_pos (by decide)] at hx
    obtain ⟨s, hs, rfl⟩ := List.mem_map.1 hx
    have h1 := keysB_mem.1 hs
    cases h2 : lastAt (l.map (·.1)) s (l.map (·.1)).length with
    | none => rw [h2] at h1; cases h1
    | some i =>
      have h3 := (lastAt_mem h2).1
      rw [List.length_map] at h3
      refine ⟨l[i], List.getElem_mem h3, ?_⟩
      unfold lastV
      rw [h2]
      show (l.map (·.2)).getD i VT0 = _
      rw [List.getD_eq_getElem?_getD, List.getElem?_map, List.getElem?_eq_getElem h3]
      rfl
end Go.Proofs.YtpjllcengnolkaaGreatDoor

namespace Go.Proofs.YtpjllcengnolkaaGreatDoor
open Go.Lib

/-- "[1, 2.50]". -/
def exB : List UInt8 := [91, 49, 44, 32, 50, 46, 53, 48, 93]
theorem alive_read : rRead mkObj exB = (.mk 5 false [] 0 ⟨#[]⟩ [numV [49], numV [50, 46, 53, 48]] [], 9, 0) := by kernel_rfl
theorem alive_num : numV [50, 46, 53, 48] = .mk 3 false [25] (-1) ⟨#[]⟩ [] [] := by kernel_rfl
end Go.Proofs.YtpjllcengnolkaaGreatDoor

namespace Go.Proofs.YtpjllcengnolkaaGreatDoor
open Go.RowKit

set_option maxRecDepth 100000 in
theorem Word_c {S : Nat → Prop} {n c : Nat} {A : Option Addr} {ds : List Nat} (w : World) (h : RdI w S A n ds) (hS : ∀ b, S b → b < w.heap.size) (hx : DCan ds) (hn : n ≤ 100000) :
    Calls Tryz.prog 24 #[.slice A n c] w fun e w' => ∃ s, e = .returned (.string s) ∧ IsDec (dval ds) s ∧ Below w.heap.size w w' := by
  have HL := Lib.hid h.len
  have HX := Lib.hid hx
  clear hx
  obtain ⟨i0, hi, hz0, hz1, hz2⟩ := info_parts info8
  go_enter Tryz.func24, Tryz.ntmps24
  go_wp2
  go_loopw [3, 4] (fun bv iv wr => ∃ (k no co : Nat) (Ao : Option Addr), k ≤ n ∧ no + k = n ∧ iv = .int .i64 ((k : Int) - 1) ∧ bv = .slice Ao no co ∧ ResB wr w.heap.size Ao no co (chars ((ds.drop k).reverse)) ∧ Below w.heap.size w wr)
    (fun _ iv _ => (intOf iv + 1).toNat)
  case atStart => exact ⟨n, 0, 0, none, Nat.le_refl _, by omega, rfl, rfl, by rw [List.drop_of_length_le (by rw [HL.out]; exact Nat.le_refl _)]; exact ResB.nil _ _, Below.refl _ _⟩
  case round =>
    obtain ⟨k, no, co, Ao, hk, hno, rfl, rfl, hres, hbel⟩ := hrel
    by_cases h0 : k = 0
    · subst h0
      rw [List.drop_zero] at hres
      by_cases hn0 : n = 0
      · have hd : Hid (dval ds = 0) := by
          have : ds = [] := List.eq_nil_of_length_eq_zero (by rw [HL.out]; exact hn0)
          show _ = _
          rw [this]; rfl
        obtain rfl : no = 0 := by omega
        clear hn0 hno
        go_wp2
        go_ret
        exact ⟨_, rfl, .inl ⟨hd.out, rfl⟩, hbel⟩
      · obtain ⟨g, hA⟩ : ∃ g, Ao = some ⟨g, 0, none⟩ := by
          rcases hres.form with ⟨_, h, _⟩ | ⟨g, h, _⟩
          · omega
          · exact ⟨g, h⟩
        subst hA
        have hcv := conv_txt hres
        have hnb : ((no : Int) == 0) = false := by rw [beq_eq_false_iff_ne]; omega
        have hpos : Hid (0 < dval ds) := by
          show _ < _
          rcases Nat.eq_zero_or_pos (dval ds) with h | h
          · have := HX.out.dval_zero h
            have h2 := HL.out
            rw [this] at h2
            exact absurd h2.symm hn0
          · exact h
        clear hn0 hno
        go_wp2
        go_ret
        refine ⟨_, rfl, .inr ⟨hpos.out, ds, HX.out, rfl, ?_⟩, hbel⟩
        unfold chars
        rw [List.map_reverse]
    · obtain ⟨j, rfl⟩ : ∃ j, k = j + 1 := ⟨k - 1, by omega⟩
      obtain ⟨b, off, rfl, hSb, hcell0⟩ := h.at_ (k := j) (by omega)
      have hcell : wr.cell? ⟨b, off + j, none⟩ = some (.int .i64 (nth ds j : Int)) := (hbel.cell (p := ⟨b, off + j, none⟩) (hS _ hSb)).trans hcell0
      have hx9 := dth_lt HX.out.1 j
      have hro : ∀ o, (wr.alloc o).ownsRow w.heap.size 5 1 (.slice Ao no co) no (u8s (chars ((ds.drop (j + 1)).reverse))) := fun o => hres.own.alloc o
      obtain ⟨t, ht⟩ : ∃ t, t = nth ds j + 48 := ⟨_, rfl⟩
      have hti : 48 + (nth ds j : Int) = (t : Int) := by omega
      have htb : t ≤ 57 := by omega
      have HT := Lib.hid ht
      clear ht h0
      go_wp2_with (at_builtin; refine wpList_append_own_at _ rfl (.tmp 12) (.tmp 19) _ rfl w.heap.size 5 i0 (.int .u8 0) 1 1 Tryz.underlying22 hi hz0 hz1 hz2 rfl (by decide) (.slice Ao no co) no (u8s (chars ((ds.drop (j + 1)).reverse))) rfl (hro _) ⟨wr.heap.size, 0, none⟩ 1 1 [.int .u8 (t : Int)] rfl rfl (cell_new1 _ _ _ _ rfl) (by simp [Value.oneCell']) (by unfold maxLen; omega) (by omega) (by simp; have := hbel.size; omega) ?_; intro v1 w1 hown1 hg1 _ hat1)
      obtain ⟨g', cap', hv'⟩ := ownsRow_succ hown1
      subst hv'
      have hs := ResB.snoc hres.len hres.l32 (by omega) hown1
      rw [HT.out, ← chars_rev ds (by rw [HL.out]; omega)] at hs
      exact ⟨⟨j, no + 1, _, _, by omega, by omega, by go_num, rfl, hs, hres.below_append hbel hbel.size hg1⟩, by simp [intOf]⟩

end Go.Proofs.YtpjllcengnolkaaGreatDoor

namespace Go.Proofs.YtpjllcengnolkaaGreatDoor
open Go.RowKit

theorem ResB.one (w : World) (x : Nat) (hx : x < 256) : ResB (w.alloc (.cells #[.int .u8 (x : Int)] 5)) w.heap.size (some ⟨w.heap.size, 0, none⟩) 1 1 [x] := by
  refine ⟨rfl, L8.one hx, ?_⟩
  have h := World.ownsRow_lit (base := w.heap.size) (e := 5) (size := 1) w #[.int .u8 (x : Int)] 1 (Nat.le_refl _) (by unfold maxLen; omega) (by simp)
  show World.ownsRow _ _ _ _ _ _ [Value.int .u8 (x : Int)]
  simpa using h
end Go.Proofs.YtpjllcengnolkaaGreatDoor
