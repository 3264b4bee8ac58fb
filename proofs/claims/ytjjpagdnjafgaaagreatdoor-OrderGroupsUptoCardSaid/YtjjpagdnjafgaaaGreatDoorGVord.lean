/-
  How two trees stand to each other is one order: the other way round the other way, 0 just of the same, and goes on. Pure, no program.
-/
import Derived.Test.YtjjpagdnjafgaaaGreatDoorGVprt
import Derived.Test.YtjjpagdnjafgaaaGreatDoorGDsgn
import Derived.Sort.Walk0
set_option linter.unusedVariables false
set_option linter.unusedSimpArgs false
namespace Go.Proofs.YtjjpagdnjafgaaaGreatDoor
open Go.RowKit Go.Deep

/-- How two texts stand, octet by octet. -/
def cmpB (a b : ByteArray) : Int := if Go.Op.bytesLess a.toList b.toList then -1 else if Go.Op.bytesLess b.toList a.toList then 1 else 0
/-- How two rows stand. -/
def lexC {α : Type} (f : α → α → Int) : List α → List α → Int
  | [], [] => 0
  | [], _ :: _ => -1
  | _ :: _, [] => 1
  | a :: r, b :: s => if f a b = 0 then lexC f r s else f a b
mutual
/-- How two values that may be stand. -/
def ordV : VT → VT → Int
  | .mk k n x e t l ks, .mk k' n' x' e' t' l' ks' =>
    if k = k' then
      (if k = 3 then cmpI (sv n (val x) e) (sv n' (val x') e')
      else if k = 4 then cmpB t t'
      else if lexC cmpB ks ks' = 0 then ordL l l' else lexC cmpB ks ks')
    else cmpI k k'
def ordL : List VT → List VT → Int
  | [], [] => 0
  | [], _ :: _ => -1
  | _ :: _, [] => 1
  | a :: r, b :: s => if ordV a b = 0 then ordL r s else ordV a b
end
theorem ordL_lex : ∀ l m, ordL l m = lexC ordV l m
  | [], [] => by simp [ordL, lexC]
  | [], _ :: _ => by simp [ordL, lexC]
  | _ :: _, [] => by simp [ordL, lexC]
  | a :: r, b :: s => by simp [ordL, lexC, ordL_lex r s]

/-- Three stand as in an order. -/
def Ord3 (x y z : Int) : Prop := (x < 0 → y ≤ 0 → z < 0) ∧ (x ≤ 0 → y < 0 → z < 0) ∧ (x = 0 → y = 0 → z = 0)

theorem cmpI_anti (x y : Int) : cmpI y x = - cmpI x y := by
  unfold cmpI; repeat' split
  all_goals omega
theorem cmpI_goes (x y z : Int) : Ord3 (cmpI x y) (cmpI y z) (cmpI x z) := by
  unfold Ord3 cmpI; repeat' split
  all_goals (refine ⟨fun _ _ => ?_, fun _ _ => ?_, fun _ _ => ?_⟩ <;> omega)
theorem cmpI_eq {x y : Int} : cmpI x y = 0 ↔ x = y := by
  unfold cmpI; repeat' split
  all_goals omega

theorem ba_eq {a b : ByteArray} (h : a.toList = b.toList) : a = b := by
  rw [Lib.toList_data, Lib.toList_data] at h
  cases a; cases b
  congr 1
  exact Array.toList_inj.1 h
theorem cmpB_three (a b : ByteArray) : (a.toList < b.toList ∧ cmpB a b = -1) ∨ (a = b ∧ cmpB a b = 0) ∨ (b.toList < a.toList ∧ cmpB a b = 1) := by
  unfold cmpB
  rw [bytesLess_eq, bytesLess_eq]
  by_cases h1 : a.toList < b.toList
  · exact .inl ⟨h1, by simp [h1]⟩
  · by_cases h2 : b.toList < a.toList
    · exact .inr (.inr ⟨h2, by simp [h1, h2]⟩)
    · exact .inr (.inl ⟨ba_eq (List.le_antisymm (List.not_lt.1 h2) (List.not_lt.1 h1)), by simp [h1, h2]⟩)
theorem cmpB_anti (a b : ByteArray) : cmpB b a = - cmpB a b := by
  rcases cmpB_three a b with ⟨h, e⟩ | ⟨h, e⟩ | ⟨h, e⟩ <;> rcases cmpB_three b a with ⟨h', e'⟩ | ⟨h', e'⟩ | ⟨h', e'⟩ <;> rw [e, e'] <;> first | rfl | skip
  all_goals first
    | exact absurd h' (List.lt_asymm h)
    | (subst h; exact absurd h' (List.lt_irrefl _))
    | (subst h'; exact absurd h (List.lt_irrefl _))
theorem cmpB_eq {a b : ByteArray} : cmpB a b = 0 ↔ a = b := by
  rcases cmpB_three a b with ⟨h, e⟩ | ⟨h, e⟩ | ⟨h, e⟩
  · rw [e]; exact ⟨fun h => by omega, fun h' => by subst h'; exact absurd h (List.lt_irrefl _)⟩
  · exact ⟨fun _ => h, fun _ => e⟩
  · rw [e]; exact ⟨fun h => by omega, fun h' => by subst h'; exact absurd h (List.lt_irrefl _)⟩
theorem cmpB_goes (a b c : ByteArray) : Ord3 (cmpB a b) (cmpB b c) (cmpB a c) := by
  rcases cmpB_three a b with ⟨h, e⟩ | ⟨h, e⟩ | ⟨h, e⟩ <;> rcases cmpB_three b c with ⟨h', e'⟩ | ⟨h', e'⟩ | ⟨h', e'⟩ <;> rw [e, e'] <;> unfold Ord3
  all_goals first
    | (refine ⟨fun _ _ => ?_, fun _ _ => ?_, fun _ _ => ?_⟩ <;> omega)
    | skip
  · have : cmpB a c = -1 := by
      rcases cmpB_three a c with ⟨_, e2⟩ | ⟨h2, _⟩ | ⟨h2, _⟩
      · exact e2
      · subst h2; exact absurd h' (List.lt_asymm h)
      · exact absurd (List.lt_trans h2 h) (List.lt_asymm h')
    rw [this]; refine ⟨fun _ _ => ?_, fun _ _ => ?_, fun _ _ => ?_⟩ <;> omega
  · subst h'; rw [e]; refine ⟨fun _ _ => ?_, fun _ _ => ?_, fun _ _ => ?_⟩ <;> omega
  · subst h; rw [e']; refine ⟨fun _ _ => ?_, fun _ _ => ?_, fun _ _ => ?_⟩ <;> omega
  · subst h; rw [e']; refine ⟨fun _ _ => ?_, fun _ _ => ?_, fun _ _ => ?_⟩ <;> omega

theorem goes_if {x y z x' y' z' : Int} (h : Ord3 x y z) (h0 : x = 0 → y = 0 → Ord3 x' y' z') (hz : x = 0 → (y < 0 → z < 0) ∧ (0 < y → 0 < z)) (hz2 : y = 0 → (x < 0 → z < 0) ∧ (0 < x → 0 < z)) :
    Ord3 (if x = 0 then x' else x) (if y = 0 then y' else y) (if z = 0 then z' else z) := by
  obtain ⟨h1, h2, h3⟩ := h
  unfold Ord3 at h0
  unfold Ord3
  repeat' split
  all_goals (try have := h0 (by assumption) (by assumption))
  all_goals (refine ⟨fun _ _ => ?_, fun _ _ => ?_, fun _ _ => ?_⟩)
  all_goals omega

/-- What stands one way round stands the other way round. -/
def Anti {α : Type} (f : α → α → Int) : Prop := ∀ a b, f b a = - f a b
theorem lexC_anti {α : Type} {f : α → α → Int} : ∀ l m, (∀ a ∈ l, ∀ b, f b a = - f a b) → lexC f m l = - lexC f l m
  | [], [], _ => by simp [lexC]
  | [], _ :: _, _ => by simp [lexC]
  | _ :: _, [], _ => by simp [lexC]
  | a :: r, b :: s, h => by
    have h1 := h a (by simp) b
    have h2 := lexC_anti r s (fun x hx => h x (by simp [hx]))
    simp only [lexC, h1, h2]
    repeat' split
    all_goals omega
/-- Zero ahead or behind tells the third. -/
def Zero (x y z : Int) : Prop := (x = 0 → (y < 0 → z < 0) ∧ (0 < y → 0 < z)) ∧ (y = 0 → (x < 0 → z < 0) ∧ (0 < x → 0 < z))
theorem zero_of {x y z x2 y2 z2 : Int} (h : Ord3 x y z) (h' : Ord3 y2 x2 z2) (hx : x2 = - x) (hy : y2 = - y) (hz : z2 = - z) : Zero x y z := by
  obtain ⟨h1, h2, h3⟩ := h
  obtain ⟨h4, h5, h6⟩ := h'
  refine ⟨fun h0 => ⟨fun a => h2 (by omega) a, fun a => ?_⟩, fun h0 => ⟨fun a => h1 a (by omega), fun a => ?_⟩⟩
  · have := h4 (by omega) (by omega); omega
  · have := h5 (by omega) (by omega); omega
theorem lexC_goes {α : Type} {f : α → α → Int} : ∀ l m n, (∀ a ∈ l, ∀ b c, Ord3 (f a b) (f b c) (f a c)) → (∀ a ∈ l, ∀ b c, Zero (f a b) (f b c) (f a c)) → Ord3 (lexC f l m) (lexC f m n) (lexC f l n)
  | [], [], n, _, _ => by cases n <;> simp [lexC, Ord3]
  | [], _ :: _, [], _, _ => by simp [lexC, Ord3]
  | [], _ :: _, _ :: _, _, _ => by simp [lexC, Ord3]
  | _ :: _, [], [], _, _ => by simp [lexC, Ord3]
  | _ :: _, [], _ :: _, _, _ => by simp [lexC, Ord3]
  | a :: r, b :: s, [], _, _ => by
    simp only [lexC, Ord3]
    refine ⟨fun _ _ => ?_, fun _ _ => ?_, fun _ _ => ?_⟩ <;> omega
  | a :: r, b :: s, c :: t, h, hz => by
    have h1 := h a (by simp) b c
    have h2 := hz a (by simp) b c
    have h3 := lexC_goes r s t (fun x hx => h x (by simp [hx])) (fun x hx => hz x (by simp [hx]))
    exact goes_if h1 (fun _ _ => h3) h2.1 h2.2
mutual
theorem ordV_anti : ∀ a b, ordV b a = - ordV a b
  | .mk k n x e t l ks, .mk k' n' x' e' t' l' ks' => by
    have h1 := ordL_anti l l'
    have h2 : lexC cmpB ks' ks = - lexC cmpB ks ks' := lexC_anti ks ks' (fun a _ b => cmpB_anti a b)
    unfold ordV
    rw [h1, h2, cmpI_anti (sv n (val x) e), cmpB_anti t, cmpI_anti k]
    by_cases hk : k = k'
    · subst hk
      simp only [if_true]
      repeat' split
      all_goals first | rfl | omega
    · rw [if_neg hk, if_neg (fun h => hk h.symm)]
theorem ordL_anti : ∀ l m, ordL m l = - ordL l m
  | [], [] => by simp [ordL]
  | [], _ :: _ => by simp [ordL]
  | _ :: _, [] => by simp [ordL]
  | a :: r, b :: s => by
    have h1 := ordV_anti a b
    have h2 := ordL_anti r s
    unfold ordL
    rw [h1, h2]
    repeat' split
    all_goals omega
end
theorem zero_anti {α : Type} {f : α → α → Int} (ha : Anti f) {a b c : α} (h : Ord3 (f a b) (f b c) (f a c)) (h' : Ord3 (f c b) (f b a) (f c a)) : Zero (f a b) (f b c) (f a c) :=
  zero_of h h' (ha a b) (ha b c) (ha a c)
theorem cmpB_zero (a b c : ByteArray) : Zero (cmpB a b) (cmpB b c) (cmpB a c) := zero_anti cmpB_anti (cmpB_goes a b c) (cmpB_goes c b a)

/-- Either way round. -/
def Both (f : VT → VT → Int) (a b c : VT) : Prop := Ord3 (f a b) (f b c) (f a c) ∧ Zero (f a b) (f b c) (f a c)
theorem cmpI_zero (a b c : Int) : Zero (cmpI a b) (cmpI b c) (cmpI a c) := zero_of (cmpI_goes a b c) (cmpI_goes c b a) (cmpI_anti a b) (cmpI_anti b c) (cmpI_anti a c)
theorem lexB_goes (l m n : List ByteArray) : Ord3 (lexC cmpB l m) (lexC cmpB m n) (lexC cmpB l n) := lexC_goes l m n (fun a _ b c => cmpB_goes a b c) (fun a _ b c => cmpB_zero a b c)
theorem lexB_anti (l m : List ByteArray) : lexC cmpB m l = - lexC cmpB l m := lexC_anti l m (fun a _ b => cmpB_anti a b)
theorem lexB_zero (l m n : List ByteArray) : Zero (lexC cmpB l m) (lexC cmpB m n) (lexC cmpB l n) := zero_of (lexB_goes l m n) (lexB_goes n m l) (lexB_anti l m) (lexB_anti m n) (lexB_anti l n)
theorem zero_if {x y z x' y' z' : Int} (h : Zero x y z) (hg : x = 0 → y = 0 → z = 0) (h0 : x = 0 → y = 0 → Zero x' y' z') : Zero (if x = 0 then x' else x) (if y = 0 then y' else y) (if z = 0 then z' else z) := by
  obtain ⟨h1, h2⟩ := h
  unfold Zero at h0
  unfold Zero
  repeat' split
  all_goals (try have := h0 (by assumption) (by assumption))
  all_goals omega

mutual
theorem ordV_both : ∀ a b c, Both ordV a b c
  | .mk k n x e t l ks, .mk k' n' x' e' t' l' ks', .mk k2 n2 x2 e2 t2 l2 ks2 => by
    have h1 := ordL_both l l' l2
    by_cases hk : k = k'
    · subst hk
      by_cases hk2 : k = k2
      · subst hk2
        unfold Both ordV
        simp only [if_true]
        by_cases h3 : k = 3
        · simp only [if_pos h3]; exact ⟨cmpI_goes _ _ _, cmpI_zero _ _ _⟩
        · simp only [if_neg h3]
          by_cases h4 : k = 4
          · simp only [if_pos h4]; exact ⟨cmpB_goes _ _ _, cmpB_zero _ _ _⟩
          · simp only [if_neg h4]
            have hg := lexB_goes ks ks' ks2
            have hz := lexB_zero ks ks' ks2
            exact ⟨goes_if hg (fun _ _ => h1.1) hz.1 hz.2, zero_if hz hg.2.2 (fun _ _ => h1.2)⟩
      · have e1 : ordV (.mk k n' x' e' t' l' ks') (.mk k2 n2 x2 e2 t2 l2 ks2) = cmpI k k2 := by unfold ordV; rw [if_neg hk2]
        have e2' : ordV (.mk k n x e t l ks) (.mk k2 n2 x2 e2 t2 l2 ks2) = cmpI k k2 := by unfold ordV; rw [if_neg hk2]
        unfold Both
        rw [e1, e2']
        have : cmpI k k2 ≠ 0 := fun h => hk2 (cmpI_eq.1 h)
        unfold Ord3 Zero
        omega
    · have e1 : ordV (.mk k n x e t l ks) (.mk k' n' x' e' t' l' ks') = cmpI k k' := by unfold ordV; rw [if_neg hk]
      have hne : cmpI k k' ≠ 0 := fun h => hk (cmpI_eq.1 h)
      by_cases hk2 : k' = k2
      · subst hk2
        have e2' : ordV (.mk k n x e t l ks) (.mk k' n2 x2 e2 t2 l2 ks2) = cmpI k k' := by unfold ordV; rw [if_neg hk]
        unfold Both
        rw [e1, e2']
        unfold Ord3 Zero
        omega
      · have e2' : ordV (.mk k' n' x' e' t' l' ks') (.mk k2 n2 x2 e2 t2 l2 ks2) = cmpI k' k2 := by unfold ordV; rw [if_neg hk2]
        have hne2 : cmpI k' k2 ≠ 0 := fun h => hk2 (cmpI_eq.1 h)
        have hg := cmpI_goes k k' k2
        unfold Both
        rw [e1, e2']
        by_cases hk3 : k = k2
        · subst hk3
          have := cmpI_anti k k'
          unfold Ord3 Zero
          omega
        · have e3 : ordV (.mk k n x e t l ks) (.mk k2 n2 x2 e2 t2 l2 ks2) = cmpI k k2 := by unfold ordV; rw [if_neg hk3]
          rw [e3]
          exact ⟨hg, cmpI_zero _ _ _⟩
theorem ordL_both : ∀ l m n, Ord3 (ordL l m) (ordL m n) (ordL l n) ∧ Zero (ordL l m) (ordL m n) (ordL l n)
  | [], [], n => by cases n <;> simp [ordL, Ord3, Zero]
  | [], _ :: _, [] => by simp [ordL, Ord3, Zero]
  | [], b :: s, c :: t => by
    simp only [ordL, Ord3, Zero]
    omega
  | _ :: _, [], [] => by simp [ordL, Ord3, Zero]
  | _ :: _, [], _ :: _ => by simp [ordL, Ord3, Zero]
  | a :: r, b :: s, [] => by
    simp only [ordL, Ord3, Zero]
    omega
  | a :: r, b :: s, c :: t => by
    have h1 := ordV_both a b c
    have h3 := ordL_both r s t
    unfold ordL
    exact ⟨goes_if h1.1 (fun _ _ => h3.1) h1.2.1 h1.2.2, zero_if h1.2 h1.1.2.2 (fun _ _ => h3.2)⟩
end

/-- A value all whose parts keep their rules, with limbs below 2^32. -/
def fine (x : VT) : Prop := ∀ y ∈ partsV x, alone y = 0 ∧ L32 y.num
theorem fine_in {x y : VT} (h : fine x) (hy : y ∈ x.inner) : fine y := fun z hz => h z (mem_parts.2 (.inr ⟨y, hy, hz⟩))
theorem fine_self {x : VT} (h : fine x) : alone x = 0 ∧ L32 x.num := h x (mem_parts.2 (.inl rfl))
/-- What a kind does not use is zero. -/
theorem alone_fit {x : VT} (h : alone x = 0) : 0 ≤ x.kind ∧ x.kind ≤ 6 ∧ fitV x = true := by
  unfold alone at h
  repeat' split at h
  all_goals first
    | (exfalso; revert h; decide)
    | skip
  rename_i h1 _ _ _ h2
  exact ⟨by omega, by omega, h2⟩
theorem ordV_self (a : VT) : ordV a a = 0 := by have := ordV_anti a a; omega
end Go.Proofs.YtjjpagdnjafgaaaGreatDoor
