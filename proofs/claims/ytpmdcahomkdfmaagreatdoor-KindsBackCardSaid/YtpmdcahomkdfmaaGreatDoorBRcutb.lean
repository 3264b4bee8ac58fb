/-
  What is cut off within: an octet at a time, characters, texts. Pure, no program.
-/
import Derived.Test.YtpmdcahomkdfmaaGreatDoorBRcut
set_option linter.unusedVariables false
set_option linter.unusedSimpArgs false
namespace Go.Proofs.YtpmdcahomkdfmaaGreatDoor
open Go.Lib

/-- Reading from where an octet stands, which goes over it. -/
structure E2 {α : Type} (F : Rd1 α) : Prop where
  up : ∀ b p a q, p < b.length → F b p = .ok a q → p < q ∧ q ≤ b.length
  back : ∀ b p a q n, p < n → n ≤ b.length → F b p = .ok a q → q ≤ n → F (b.take n) p = .ok a q
  cut : ∀ b p a q n, p < n → n ≤ b.length → F b p = .ok a q → n < q → Early n (F (b.take n) p)
/-- The same, of what may end anywhere. -/
structure E3 {α : Type} (F : Rd1 α) : Prop where
  up : ∀ b p a q, p < b.length → F b p = .ok a q → p < q ∧ q ≤ b.length
  back : ∀ b p a q n, p < n → n ≤ b.length → F b p = .ok a q → q ≤ n → F (b.take n) p = .ok a q
  cut : ∀ b p a q n, p < n → n ≤ b.length → F b p = .ok a q → n < q → Early n (F (b.take n) p) ∨ ∃ a', F (b.take n) p = .ok a' n
theorem E2.e3 {α : Type} {F : Rd1 α} (h : E2 F) : E3 F := ⟨h.up, h.back, fun b p a q n h1 h2 h3 h4 => .inl (h.cut b p a q n h1 h2 h3 h4)⟩
theorem E2.c2 {α : Type} {F : Rd1 α} (h : E2 F) (hN : Needs F) : C2 F := by
  refine ⟨fun b p a q hp hf => ?_, fun b p a q n hp hn hf hq => ?_, fun b p a q n hp hn hf hq => ?_⟩
  · rcases Nat.lt_or_ge p b.length with hl | hl
    · have := h.up b p a q hl hf; omega
    · obtain rfl : p = b.length := by omega
      rw [hN b] at hf; cases hf
  · rcases Nat.lt_or_ge p n with hl | hl
    · exact h.back b p a q n hl hn hf hq
    · obtain rfl : p = n := by omega
      rcases Nat.lt_or_ge p b.length with hl | hl
      · have := h.up b p a q hl hf; omega
      · obtain rfl : p = b.length := by omega
        rw [hN b] at hf; cases hf
  · rcases Nat.lt_or_ge p n with hl | hl
    · exact h.cut b p a q n hl hn hf hq
    · obtain rfl : p = n := by omega
      have h4 := hN (b.take p)
      rw [take_len hn] at h4
      exact .inl h4
theorem E3.c3 {α : Type} {F : Rd1 α} (h : E3 F) (hN : Needs F) : C3 F := by
  refine ⟨fun b p a q hp hf => ?_, fun b p a q n hp hn hf hq => ?_, fun b p a q n hp hn hf hq => ?_⟩
  · rcases Nat.lt_or_ge p b.length with hl | hl
    · have := h.up b p a q hl hf; omega
    · obtain rfl : p = b.length := by omega
      rw [hN b] at hf; cases hf
  · rcases Nat.lt_or_ge p n with hl | hl
    · exact h.back b p a q n hl hn hf hq
    · obtain rfl : p = n := by omega
      rcases Nat.lt_or_ge p b.length with hl | hl
      · have := h.up b p a q hl hf; omega
      · obtain rfl : p = b.length := by omega
        rw [hN b] at hf; cases hf
  · rcases Nat.lt_or_ge p n with hl | hl
    · exact h.cut b p a q n hl hn hf hq
    · obtain rfl : p = n := by omega
      have h4 := hN (b.take p)
      rw [take_len hn] at h4
      exact .inl (.inl h4)
theorem E2.fail {α : Type} {m : Nat → Nat} {e : Nat} : E2 (fun _ p => .bad (m p) e : Rd1 α) := by
  refine ⟨fun b p a2 q hp h => ?_, fun b p a2 q n hp hn h hq => ?_, fun b p a2 q n hp hn h hq => ?_⟩ <;> cases h
theorem E2.ite {α : Type} {c : Prop} [Decidable c] {F G : Rd1 α} (hF : E2 F) (hG : E2 G) : E2 (if c then F else G) := by
  by_cases h : c
  · rw [if_pos h]; exact hF
  · rw [if_neg h]; exact hG
theorem E3.ite {α : Type} {c : Prop} [Decidable c] {F G : Rd1 α} (hF : E3 F) (hG : E3 G) : E3 (if c then F else G) := by
  by_cases h : c
  · rw [if_pos h]; exact hF
  · rw [if_neg h]; exact hG
theorem E2.over {α : Type} {G : Nat → Rd1 α} (hG : ∀ m, C2 (G m)) : E2 (fun b p => G p b (p + 1)) := by
  refine ⟨fun b p a q hp h => ?_, fun b p a q n hp hn h hq => ?_, fun b p a q n hp hn h hq => ?_⟩
  · have := (hG p).up b (p + 1) a q (by omega) h
    omega
  · exact (hG p).back b (p + 1) a q n (by omega) hn h hq
  · exact (hG p).cut b (p + 1) a q n (by omega) hn h hq
theorem E2.at {α β : Type} {F : Rd1 α} {G : Nat → α → Rd1 β} (hF : E2 F) (hG : ∀ m a, C2 (G m a)) : E2 (fun b p => (F b p).bind fun a q => G p a b q) := by
  refine ⟨fun b p a2 q hp h => ?_, fun b p a2 q n hp hn h hq => ?_, fun b p a2 q n hp hn h hq => ?_⟩ <;> (try simp only at h ⊢) <;> cases hf : F b p with
    | bad q1 e => rw [hf] at h; cases h
    | ok a q1 =>
      rw [hf] at h
      have h1 := hF.up b p a q1 (by omega) hf
      have h2 := (hG p a).up b q1 a2 q h1.2 h
      first
        | (exact ⟨by omega, h2.2⟩)
        | (rw [hF.back b p a q1 n hp hn hf (by omega)]
           exact (hG p a).back b q1 a2 q n (by omega) hn h hq)
        | (rcases Nat.lt_or_ge n q1 with hl | hl
           · exact (hF.cut b p a q1 n hp hn hf hl).bind
           · rw [hF.back b p a q1 n hp hn hf hl]
             exact (hG p a).cut b q1 a2 q n hl hn h hq)
theorem E2.at' {α β : Type} {F : Rd1 α} {G : α → Rd1 β} (hF : E2 F) (hG : ∀ a, C2 (G a)) : E2 (rAt F G) := E2.at (G := fun _ => G) hF fun _ => hG
/-- What stays, and looks no farther than at the octet. -/
structure Stay {α : Type} (F : Rd1 α) : Prop where
  still : ∀ b p a q, F b p = .ok a q → q = p
  same : ∀ b p n, p < n → n ≤ b.length → F (b.take n) p = F b p
theorem Stay.peek : Stay rPeek := by
  refine ⟨fun b p a q h => ?_, fun b p n hp hn => ?_⟩
  · unfold rPeek at h
    split at h
    · injection h with h1 h2; exact h2.symm
    · cases h
  · unfold rPeek
    rw [take_get hp]
theorem Stay.must (m : Nat) (is : Bool) : Stay (rMust m is) := by
  refine ⟨fun b p a q h => ?_, fun b p n hp hn => rfl⟩
  unfold rMust at h
  split at h
  · injection h with h1 h2; exact h2.symm
  · cases h
theorem Stay.pure {α : Type} (a : α) : Stay (rPure a) := by
  refine ⟨fun b p a q h => ?_, fun b p n hp hn => rfl⟩
  unfold rPure at h
  injection h with h1 h2; exact h2.symm
theorem Stay.fail {α : Type} (e : Nat) : Stay (rFail e : Rd1 α) := by
  refine ⟨fun b p a q h => ?_, fun b p n hp hn => rfl⟩
  unfold rFail at h
  cases h
theorem Stay.ite {α : Type} {c : Prop} [Decidable c] {F G : Rd1 α} (hF : Stay F) (hG : Stay G) : Stay (if c then F else G) := by
  by_cases h : c
  · rw [if_pos h]; exact hF
  · rw [if_neg h]; exact hG
theorem Stay.at {α β : Type} {F : Rd1 α} {G : α → Rd1 β} (hF : Stay F) (hG : ∀ a, Stay (G a)) : Stay (rAt F G) := by
  refine ⟨fun b p a2 q h => ?_, fun b p n hp hn => ?_⟩ <;> (first | unfold rAt at h | unfold rAt) <;> cases hf : F b p with
    | bad q1 e =>
      first
        | (rw [hf] at h; cases h; done)
        | (rw [hF.same b p n hp hn, hf]; rfl)
    | ok a q1 =>
      obtain rfl := hF.still b p a q1 hf
      first
        | (rw [hf] at h
           exact (hG a).still b q1 a2 q h)
        | (rw [hF.same b q1 n hp hn, hf]
           exact (hG a).same b q1 n hp hn)
theorem E2.stay {α β : Type} {F : Rd1 α} {G : α → Rd1 β} (hF : Stay F) (hG : ∀ a, E2 (G a)) : E2 (rAt F G) := by
  refine ⟨fun b p a2 q hp h => ?_, fun b p a2 q n hp hn h hq => ?_, fun b p a2 q n hp hn h hq => ?_⟩ <;> (first | unfold rAt at h ⊢ | unfold rAt at h) <;> cases hf : F b p with
    | bad q1 e => rw [hf] at h; cases h
    | ok a q1 =>
      rw [hf] at h
      obtain rfl := hF.still b p a q1 hf
      first
        | (exact (hG a).up b q1 a2 q hp h)
        | (rw [hF.same b q1 n hp hn, hf]
           exact (hG a).back b q1 a2 q n hp hn h hq)
        | (rw [hF.same b q1 n hp hn, hf]
           exact (hG a).cut b q1 a2 q n hp hn h hq)
theorem E3.stay {α β : Type} {F : Rd1 α} {G : α → Rd1 β} (hF : Stay F) (hG : ∀ a, E3 (G a)) : E3 (rAt F G) := by
  refine ⟨fun b p a2 q hp h => ?_, fun b p a2 q n hp hn h hq => ?_, fun b p a2 q n hp hn h hq => ?_⟩ <;> (first | unfold rAt at h ⊢ | unfold rAt at h) <;> cases hf : F b p with
    | bad q1 e => rw [hf] at h; cases h
    | ok a q1 =>
      rw [hf] at h
      obtain rfl := hF.still b p a q1 hf
      first
        | (exact (hG a).up b q1 a2 q hp h)
        | (rw [hF.same b q1 n hp hn, hf]
           exact (hG a).back b q1 a2 q n hp hn h hq)
        | (rw [hF.same b q1 n hp hn, hf]
           exact (hG a).cut b q1 a2 q n hp hn h hq)
theorem E2.see {α : Type} {H : UInt8 → Rd1 α} (hH : ∀ c, E2 (H c)) : E2 (rAt rPeek H) := E2.stay Stay.peek hH
theorem C2.see {α : Type} {H : UInt8 → Rd1 α} (hH : ∀ c, E2 (H c)) : C2 (rAt rPeek H) := (E2.see hH).c2 Needs.see
theorem C2.hex : ∀ k n, C2 (rHex k n)
  | 0, n => C2.pure n
  | k + 1, n => by
    unfold rHex
    refine C2.see fun c => ?_
    cases hexOf c with
    | none => exact E2.fail (m := fun p => p)
    | some d => exact E2.over (G := fun _ => rHex k (n * 16 + d)) fun _ => C2.hex k _
theorem C2.low (m : Nat) : C2 (rLow m) := by
  unfold rLow
  refine C2.see fun c => E2.stay (Stay.must m _) fun _ => E2.over (G := fun _ => _) fun _ => ?_
  refine C2.see fun d => E2.stay (Stay.must m _) fun _ => E2.over (G := fun _ => _) fun _ => ?_
  exact (C2.hex 1 0).at fun x => (C2.must m _).at fun _ => (C2.hex 1 0).at fun y => (C2.must m _).at fun _ => (C2.hex 2 0).at fun z => C2.pure _
theorem C2.coded (m : Nat) : C2 (rCoded m) := by
  unfold rCoded
  exact (C2.hex 4 0).at fun n => C2.ite (C2.pure _) (C2.ite (C2.stop m) ((C2.low m).at fun z => C2.pure _))
theorem E2.step {α : Type} (x : α) : E2 (fun _ p => .ok x (p + 1) : Rd1 α) := E2.over (G := fun _ => rPure x) fun _ => C2.pure x
theorem E2.escape : E2 rEscape := by
  unfold rEscape
  refine E2.over (G := fun m => rAt rPeek fun c => if c == 117 then fun b q => rCoded m b (q + 1) else match escOf c with
    | some x => fun _ q => .ok x (q + 1)
    | none => fun _ _ => .bad m 33) fun m => C2.see fun c => E2.ite (E2.over (G := fun _ => rCoded m) fun _ => C2.coded m) ?_
  cases escOf c with
  | none => exact E2.fail (m := fun _ => m)
  | some x => exact E2.step x
/-- A whole character's proper beginning is not whole. -/
theorem cut_N {n b0 b1 b2 b3 i c1 c2 : Nat} (k0 : b0 < 256) (k1 : b1 < 256) (k2 : b2 < 256) (hv : ¬ ((decodeN n b0 b1 b2 b3).1 = 65533 ∧ (decodeN n b0 b1 b2 b3).2 = 1)) (hi : 1 ≤ i) (hw : i < (decodeN n b0 b1 b2 b3).2) (h1 : 1 < i → c1 = b1) (h2 : 2 < i → c2 = b2) : ¬ fullN i b0 c1 c2 := by
  intro hf
  unfold fullN at hf
  rcases decodeN_shape n b0 b1 b2 b3 with ⟨c, e⟩ | ⟨d1, d2, d3, dv, e⟩ | ⟨d1, d2, d3, d4, dv, ds, e⟩ | ⟨d1, d2, d3, d4, d5, dv, dw, e⟩ | e
  · rw [e] at hw; simp only at hw; omega
  · rw [e] at hw; simp only at hw
    rcases hf with h | h | h | h | h
    · omega
    · omega
    · split at h <;> omega
    · omega
    · omega
  · rw [e] at hw; simp only at hw
    have hs : 1 < i → c1 < (if b0 = 224 then 160 else if b0 = 240 then 144 else 128) ∨ (if b0 = 237 then 159 else if b0 = 244 then 143 else 191) < c1 → False := fun hl h => by
      have h1' := h1 hl
      rcases sec b0 c1 h with h | h | h | h | h | h <;> omega
    rcases hf with h | h | h | h | h
    · omega
    · omega
    · split at h
      · omega
      · split at h <;> omega
    · exact hs h.1 h.2
    · omega
  · rw [e] at hw; simp only at hw
    have hs : 1 < i → c1 < (if b0 = 224 then 160 else if b0 = 240 then 144 else 128) ∨ (if b0 = 237 then 159 else if b0 = 244 then 143 else 191) < c1 → False := fun hl h => by
      have h1' := h1 hl
      rcases sec b0 c1 h with h | h | h | h | h | h <;> omega
    rcases hf with h | h | h | h | h
    · omega
    · omega
    · split at h
      · omega
      · split at h <;> omega
    · exact hs h.1 h.2
    · have h2' := h2 h.1
      omega
  · rw [e] at hv; exact hv ⟨rfl, rfl⟩
theorem part_ok {l : List UInt8} (h : partOf l ≠ -1) : ¬ ((decodeL l).1 = 65533 ∧ (decodeL l).2 = 1) := fun e => h (by unfold partOf; rw [if_pos e])
theorem full_cut {l : List UInt8} (h : partOf l ≠ -1) {i : Nat} (hi : i < wid l) : fullL (l.take i) = false := by
  have hv := part_ok h
  unfold wid at hi
  cases i with
  | zero => rfl
  | succ k =>
    cases l with
    | nil => rfl
    | cons a t =>
      rw [List.take_succ_cons]
      have g0 : (a :: t).getD 0 0 = a := rfl
      have g1 : (a :: t).getD 1 0 = t.getD 0 0 := rfl
      have g2 : (a :: t).getD 2 0 = t.getD 1 0 := rfl
      rw [decodeL_N, g0, g1, g2] at hv hi
      cases hf : fullL (a :: t.take k) with
      | false => rfl
      | true =>
        exfalso
        have hN := full_N hf
        have hkl : (t.take k).length + 1 ≤ k + 1 := by rw [List.length_take]; omega
        have g : ∀ j, j < (t.take k).length → (t.take k).getD j 0 = t.getD j 0 := fun j hj => by
          rw [List.getD_eq_getElem?_getD, List.getD_eq_getElem?_getD, List.getElem?_take, if_pos (by rw [List.length_take] at hj; omega)]
        refine cut_N (a.toNat_lt) ((t.getD 0 0).toNat_lt) ((t.getD 1 0).toNat_lt) hv (i := (t.take k).length + 1) (by omega) (by omega) (fun hl => ?_) (fun hl => ?_) hN
        · rw [g 0 (by omega)]
        · rw [g 1 (by omega)]
theorem full_part {l : List UInt8} (hl : l ≠ []) (h : partOf l ≠ -1) : fullL l = true := by
  have hv := part_ok h
  cases l with
  | nil => exact absurd rfl hl
  | cons a t =>
    have e194 : a < 194 ↔ a.toNat < 194 := u8_lt a 194 (by omega)
    have e244 : 244 < a ↔ 244 < a.toNat := u8_gt a 244 (by omega)
    have e224 : a < 224 ↔ a.toNat < 224 := u8_lt a 224 (by omega)
    have e240 : a < 240 ↔ a.toNat < 240 := u8_lt a 240 (by omega)
    have k0 := a.toNat_lt
    rw [decodeL_N] at hv
    have g0 : (a :: t).getD 0 0 = a := rfl
    rw [g0] at hv
    unfold fullL
    simp only [e194, e244, e224, e240]
    by_cases c1 : a.toNat < 194 ∨ 244 < a.toNat
    · rw [if_pos c1]
    · rw [if_neg c1]
      have hlen : (a :: t).length = t.length + 1 := List.length_cons
      have c2 : (if a.toNat < 224 then 1 else if a.toNat < 240 then 2 else 3) ≤ t.length := by
        rcases decodeN_shape (a :: t).length a.toNat ((a :: t).getD 1 0).toNat ((a :: t).getD 2 0).toNat ((a :: t).getD 3 0).toNat with ⟨c, e⟩ | ⟨d1, d2, d3, dv, e⟩ | ⟨d1, d2, d3, d4, dv, ds, e⟩ | ⟨d1, d2, d3, d4, d5, dv, dw, e⟩ | e
        · omega
        · split
          · omega
          · split <;> omega
        · split
          · omega
          · split <;> omega
        · split
          · omega
          · split <;> omega
        · rw [e] at hv; exact absurd ⟨rfl, rfl⟩ hv
      rw [if_pos c2]
theorem part_take {l : List UInt8} (hl : l ≠ []) (h : partOf l ≠ -1) {i : Nat} (hi : wid l ≤ i) : fullL (l.take i) = true ∧ partOf (l.take i) = partOf l ∧ wid (l.take i) = wid l := by
  have hf : fullL (l.take (wid l)) = true := by
    rcases part_cases hl with ⟨e, _⟩ | ⟨_, h1, h2, _⟩
    · exact absurd e h
    · rw [h2]
      obtain ⟨p1, p2⟩ := part_enc h1 []
      rw [List.append_nil] at p1 p2
      refine full_part ?_ (by rw [p1]; exact h)
      have := enc_ne (partOf l) []
      rw [List.append_nil] at this
      exact this
  have e : l.take i = l.take (wid l) ++ (l.drop (wid l)).take (i - wid l) := by
    conv => lhs; rw [show i = wid l + (i - wid l) by omega, List.take_add]
  have e2 : decodeL (l.take i) = decodeL l := by
    rw [e, full_dec _ hf]
    conv => rhs; rw [← List.take_append_drop (wid l) l]
    rw [full_dec _ hf]
  refine ⟨by rw [e]; exact full_more _ hf, ?_, ?_⟩
  · unfold partOf; rw [e2]
  · unfold wid; rw [e2]
theorem E2.raw : E2 (fun b p => if fullL (b.drop p) then (if partOf (b.drop p) = -1 then .bad p 61 else .ok (partOf (b.drop p)) (p + wid (b.drop p))) else .bad b.length 8 : Rd1 Int) := by
  have hd : ∀ (b : List UInt8) (p : Nat) (a : Int) (q : Nat), p < b.length → (if fullL (b.drop p) then (if partOf (b.drop p) = -1 then .bad p 61 else .ok (partOf (b.drop p)) (p + wid (b.drop p))) else .bad b.length 8 : RR Int) = .ok a q → b.drop p ≠ [] ∧ partOf (b.drop p) ≠ -1 ∧ a = partOf (b.drop p) ∧ q = p + wid (b.drop p) := fun b p a q hp h => by
    split at h
    · split at h
      · cases h
      · rename_i hn
        injection h with h1 h2
        exact ⟨fun e => by rw [List.drop_eq_nil_iff] at e; omega, hn, h1.symm, h2.symm⟩
    · cases h
  refine ⟨fun b p a q hp h => ?_, fun b p a q n hp hn h hq => ?_, fun b p a q n hp hn h hq => ?_⟩ <;> obtain ⟨h0, h1, h2, h3⟩ := hd b p a q (by omega) h
  · have w1 := wid_ge (b.drop p)
    have w2 := wid_le h0
    rw [List.length_drop] at w2
    omega
  · rw [take_drop2]
    obtain ⟨e1, e2, e3⟩ := part_take h0 h1 (i := n - p) (by omega)
    rw [if_pos e1, e2, if_neg h1, e3, h2, h3]
  · rw [take_drop2, full_cut h1 (by omega)]
    rw [if_neg (by simp), take_len hn]
    exact .inl rfl
theorem E2.char : E2 rChar := by
  unfold rChar
  exact E2.see fun c => E2.ite E2.escape (E2.ite (E2.fail (m := fun p => p)) E2.raw)
theorem C2.char : C2 rChar := E2.char.c2 Needs.see
theorem C2.chars : ∀ n acc, C2 (rChars n acc)
  | 0, acc => C2.fail
  | n + 1, acc => by
    unfold rChars
    exact C2.see fun c => E2.ite (E2.step acc) (E2.at' E2.char fun x => C2.chars n _)
theorem E2.text : E2 rText := by
  have key : C2 (rAt (rChars fuelR []) fun t => fun _ q => if 16384 < t.length then .bad q 5 else .ok (⟨t.toArray⟩ : ByteArray) q) := by
    refine (C2.chars _ _).at fun t => ?_
    by_cases h : 16384 < t.length
    · simp only [if_pos h]
      exact C2.fail
    · simp only [if_neg h]
      exact C2.pure _
  refine ⟨fun b p a q hp h => ?_, fun b p a q n hp hn h hq => ?_, fun b p a q n hp hn h hq => ?_⟩
  all_goals
    have hb : ∀ b : List UInt8, ∀ a q, rText b p = .ok a q → rAt (rChars fuelR []) (fun t => fun _ q => if 16384 < t.length then .bad q 5 else .ok (⟨t.toArray⟩ : ByteArray) q) b (p + 1) = .ok a q := fun b a q h => by
      unfold rText at h
      unfold rAt
      cases hf : rChars fuelR [] b (p + 1) with
      | bad q1 e => rw [hf] at h; cases h
      | ok t q1 =>
        rw [hf] at h
        simp only [RR.bind] at h ⊢
        split at h
        · cases h
        · rename_i hs; rw [if_neg hs]; exact h
    have hk := hb b a q h
  · have := key.up b (p + 1) a q (by omega) hk
    omega
  · have h4 := key.back b (p + 1) a q n (by omega) hn hk hq
    unfold rAt at h4
    unfold rText
    cases hf : rChars fuelR [] (b.take n) (p + 1) with
    | bad q1 e => rw [hf] at h4; cases h4
    | ok t q1 =>
      rw [hf] at h4
      simp only [RR.bind] at h4 ⊢
      split at h4
      · cases h4
      · rename_i hs; rw [if_neg hs]; exact h4
  · unfold rAt at hk
    unfold rText at h ⊢
    cases hf : rChars fuelR [] b (p + 1) with
    | bad q1 e => rw [hf] at h; cases h
    | ok t q1 =>
      rw [hf] at h
      simp only [RR.bind] at h
      split at h
      · cases h
      · injection h with _ h2
        exact ((C2.chars _ _).cut b (p + 1) t q1 n (by omega) hn hf (by omega)).bind
end Go.Proofs.YtpmdcahomkdfmaaGreatDoor
