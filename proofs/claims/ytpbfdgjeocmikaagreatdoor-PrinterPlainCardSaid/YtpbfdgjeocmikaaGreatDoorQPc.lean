/-
  Numbers as they are printed: each is read as itself, without white space and quotes. Pure, no program.
  What Read and All make of what was printed. Pure, no program.
  What is printed in octets below 80 has none above, and none below a blank. Pure, no program.
-/
import Derived.Test.YtpbfdgjeocmikaaGreatDoorQPs
import Derived.Test.YtpbfdgjeocmikaaGreatDoorQDbo
set_option linter.unusedVariables false
set_option linter.unusedSimpArgs false
namespace Go.Proofs.YtpbfdgjeocmikaaGreatDoor
open Go.Lib

/-- An octet of a number's text. -/
def NumC (a : Nat) : Prop := a = 43 ∨ a = 45 ∨ a = 46 ∨ a = 101 ∨ (48 ≤ a ∧ a ≤ 57)
theorem numC_digits {s : List Nat} (h : allDig s = true) : ∀ a ∈ s, NumC a := fun a ha => by
  have h1 := List.all_eq_true.1 h a ha
  unfold isDig at h1
  have := of_decide_eq_true h1
  exact .inr (.inr (.inr (.inr this)))
theorem itoO_numC (z : Int) : ∀ a ∈ itoO z, NumC a := by
  unfold itoO Lib.itoa
  split
  · intro a ha
    rw [List.map_cons] at ha
    rcases List.mem_cons.1 ha with rfl | ha
    · exact .inr (.inl rfl)
    · exact numC_digits (decD _).1 a ha
  · exact numC_digits (decD _).1
theorem app_numC {s t : List Nat} (h : ∀ a ∈ s, NumC a) (k : ∀ a ∈ t, NumC a) : ∀ a ∈ s ++ t, NumC a := fun a ha => (List.mem_append.1 ha).elim (h a) (k a)
theorem cons_numC {c : Nat} {t : List Nat} (h : NumC c) (k : ∀ a ∈ t, NumC a) : ∀ a ∈ c :: t, NumC a := fun a ha => (List.mem_cons.1 ha).elim (fun e => e ▸ h) (k a)
theorem nil_numC : ∀ a ∈ ([] : List Nat), NumC a := fun a ha => absurd ha (by simp)
theorem zeros_numC (n : Nat) : ∀ a ∈ List.replicate n 48, NumC a := fun a ha => by
  rw [(List.mem_replicate.1 ha).2]; exact .inr (.inr (.inr (.inr (by omega))))
theorem prt_numC (neg : Bool) (v : Nat) (e : Int) : ∀ a ∈ prt neg v e, NumC a := by
  have hd := numC_digits (numO_dig v).1
  have c43 : NumC 43 := .inl rfl
  have c45 : NumC 45 := .inr (.inl rfl)
  have c46 : NumC 46 := .inr (.inr (.inl rfl))
  have c101 : NumC 101 := .inr (.inr (.inr (.inl rfl)))
  have c48 : NumC 48 := .inr (.inr (.inr (.inr (by omega))))
  have ht : ∀ n, ∀ a ∈ (numO v).take n, NumC a := fun n a ha => hd a (List.mem_of_mem_take ha)
  have hr : ∀ n, ∀ a ∈ (numO v).drop n, NumC a := fun n a ha => hd a (List.mem_of_mem_drop ha)
  unfold prt prtAt
  refine app_numC ?_ ?_
  · split
    · exact cons_numC c45 nil_numC
    · exact nil_numC
  split
  · unfold plainT
    split
    · exact app_numC (cons_numC c48 (cons_numC c46 nil_numC)) (app_numC (zeros_numC _) hd)
    split
    · exact app_numC (ht _) (cons_numC c46 (hr _))
    · exact app_numC hd (zeros_numC _)
  · unfold powT
    refine app_numC (app_numC (ht _) ?_) ?_
    · split
      · exact cons_numC c46 (hr _)
      · exact nil_numC
    · split
      · exact cons_numC c101 (cons_numC c45 (itoO_numC _))
      · exact cons_numC c101 (cons_numC c43 (itoO_numC _))
/-- A number as dec prints it. -/
def numP (n : Bool) (xs : List Nat) (e : Int) : List UInt8 := (prt n (val xs) e).map Nat.toUInt8
theorem numC_u8 {a : Nat} (h : NumC a) : (Nat.toUInt8 a).toNat = a := by
  show a % 256 = a
  unfold NumC at h; omega
theorem numP_nat (n : Bool) (xs : List Nat) (e : Int) : (numP n xs e).map (·.toNat) = prt n (val xs) e := by
  unfold numP
  rw [List.map_map]
  conv => rhs; rw [← List.map_id (prt n (val xs) e)]
  exact List.map_congr_left fun a ha => numC_u8 (prt_numC n (val xs) e a ha)
theorem form_head {s : List Nat} (h : fE s = 0) : ∃ a t, s = a :: t ∧ (a = 45 ∨ isDig a = true) := by
  have hf : form s = some s.length := by
    unfold fE at h
    split at h
    · rename_i hg; exact hg.1
    · split at h <;> omega
  cases s with
  | nil =>
    exfalso
    unfold form fWhole fSgn at hf
    first | (rw [if_neg (by decide), if_neg (by decide)] at hf; cases hf) | (rw [if_neg (by decide)] at hf; cases hf) | cases hf
  | cons a t =>
    refine ⟨a, t, rfl, ?_⟩
    by_cases h1 : a = 45
    · exact .inl h1
    · right
      unfold form fSgn at hf
      have h2 : ¬ nth (a :: t) 0 = 45 := h1
      rw [if_neg h2] at hf
      unfold fWhole at hf
      by_cases h3 : isDig (nth (a :: t) 0) = true
      · exact h3
      · rw [if_neg h3] at hf; cases hf
theorem numP_ok (hlen : ∀ {n xs e}, L32 xs → okB n xs e = true → (prt n (val xs) e).length ≤ 2000) : NtOk numP := fun {n xs e} hx hok => by
  obtain ⟨h1, h2, h3, h4⟩ := prt_back hx hok (hlen hx hok)
  rw [numP_nat]
  refine ⟨h1, h2, h3, h4, ?_⟩
  obtain ⟨a, t, ha, hc⟩ := form_head h1
  refine ⟨Nat.toUInt8 a, t.map Nat.toUInt8, by unfold numP; rw [ha]; rfl, ?_⟩
  have hn := numC_u8 (prt_numC n (val xs) e a (by rw [ha]; simp))
  rcases hc with rfl | hc
  · exact .inl rfl
  · right
    unfold isDig at hc
    have hc := of_decide_eq_true hc
    unfold isDg
    rw [Bool.and_eq_true, decide_eq_true_eq, decide_eq_true_eq]
    constructor
    · show (48 : UInt8).toNat ≤ (Nat.toUInt8 a).toNat
      rw [hn]; exact hc.1
    · show (Nat.toUInt8 a).toNat ≤ (57 : UInt8).toNat
      rw [hn]; exact hc.2
theorem numP_in : NtIn numP := fun {n xs e} _ _ c hc => by
  unfold numP at hc
  obtain ⟨a, ha, rfl⟩ := List.mem_map.1 hc
  have h := prt_numC n (val xs) e a ha
  have hn := numC_u8 h
  refine ⟨?_, ?_, fun e => ?_⟩
  · show (32 : UInt8).toNat < (Nat.toUInt8 a).toNat
    rw [hn]; show 32 < a; unfold NumC at h; omega
  · show (Nat.toUInt8 a).toNat ≤ (126 : UInt8).toNat
    rw [hn]; show a ≤ 126; unfold NumC at h; omega
  · have := congrArg UInt8.toNat e
    rw [hn] at this
    have h34 : (34 : UInt8).toNat = 34 := rfl
    unfold NumC at h; omega
end Go.Proofs.YtpbfdgjeocmikaaGreatDoor

namespace Go.Proofs.YtpbfdgjeocmikaaGreatDoor
open Go.Lib

theorem okV_gp {x : VT} (h : okV x) (hl : ∀ y ∈ partsV x, L32 y.num) : Gp x ∧ (partsV x).length ≤ 16384 ∧ dpt 1000 x ≤ 64 := by
  obtain ⟨g1, g2, g3⟩ := okV_gd h
  exact ⟨fun y hy => ⟨g1 y hy, hl y hy⟩, g2, g3⟩
end Go.Proofs.YtpbfdgjeocmikaaGreatDoor

namespace Go.Proofs.YtpbfdgjeocmikaaGreatDoor
open Go.Lib

def Asc (l : List UInt8) : Prop := ∀ d ∈ l, 32 ≤ d ∧ d ≤ 126
theorem Asc.app {a b : List UInt8} (h : Asc a) (k : Asc b) : Asc (a ++ b) := fun d hd => (List.mem_append.1 hd).elim (h d) (k d)
theorem Asc.nil : Asc [] := fun d hd => absurd hd (by simp)
theorem coded_asc {n : Nat} (h : n < 65536) : Asc (codedL n) := fun d hd => by
  unfold codedL at hd
  rcases List.mem_cons.1 hd with rfl | hd
  · decide
  rcases List.mem_cons.1 hd with rfl | hd
  · decide
  obtain ⟨e, he, rfl⟩ := List.mem_map.1 hd
  have := hx_in (dg4_lt h e he)
  exact ⟨this.2.2.1, this.2.2.2⟩
theorem ascii_asc {c : Int} (h : isCh c) : Asc (quoteA c) := by
  unfold quoteA
  have h0 : 0 ≤ c ∧ c ≤ 1114111 := by unfold isCh at h; omega
  split
  · rename_i h1
    unfold quoteC
    split
    · exact (by decide : ∀ d ∈ ([92, 34] : List UInt8), 32 ≤ d ∧ d ≤ 126)
    split
    · exact (by decide : ∀ d ∈ ([92, 92] : List UInt8), 32 ≤ d ∧ d ≤ 126)
    split
    · exact (by decide : ∀ d ∈ ([92, 98] : List UInt8), 32 ≤ d ∧ d ≤ 126)
    split
    · exact (by decide : ∀ d ∈ ([92, 116] : List UInt8), 32 ≤ d ∧ d ≤ 126)
    split
    · exact (by decide : ∀ d ∈ ([92, 110] : List UInt8), 32 ≤ d ∧ d ≤ 126)
    split
    · exact (by decide : ∀ d ∈ ([92, 102] : List UInt8), 32 ≤ d ∧ d ≤ 126)
    split
    · exact (by decide : ∀ d ∈ ([92, 114] : List UInt8), 32 ≤ d ∧ d ≤ 126)
    split
    · rename_i hl
      intro d hd
      simp only [List.mem_cons, List.not_mem_nil, or_false] at hd
      have a1 := hx_in (d := c.toNat / 16) (by omega)
      have a2 := hx_in (d := c.toNat % 16) (by omega)
      rcases hd with rfl | rfl | rfl | rfl | rfl | rfl
      · decide
      · decide
      · decide
      · decide
      · exact ⟨a1.2.2.1, a1.2.2.2⟩
      · exact ⟨a2.2.2.1, a2.2.2.2⟩
    · rename_i hl
      rw [enc_low h0.1 h1]
      intro d hd
      have hd : d = c.toNat.toUInt8 := by simpa using hd
      have h2 := u8_of (x := c) h0.1 (by omega)
      rw [hd]
      constructor
      · show (32 : UInt8).toNat ≤ (c.toNat.toUInt8).toNat
        rw [h2]; show 32 ≤ _; omega
      · show (c.toNat.toUInt8).toNat ≤ (126 : UInt8).toNat
        rw [h2]; show _ ≤ 126; omega
  split
  · exact coded_asc (by omega)
  · exact (coded_asc (by omega)).app (coded_asc (by omega))
theorem txt_asc {s : ByteArray} (hT : isT s.data.toList = true) : Asc (txtL quoteA s) := by
  unfold txtL
  refine Asc.app (a := [34]) (by unfold Asc; decide) (Asc.app (fun d hd => ?_) (by unfold Asc; decide))
  unfold qL at hd
  obtain ⟨c, hc, hd⟩ := List.mem_flatMap.1 hd
  exact ascii_asc ((charsT hT).2 c hc) d hd
mutual
theorem asc_value {nt : Bool → List Nat → Int → List UInt8} (hnt : NtIn nt) (o : Nat) : ∀ (x : VT), Gp x → Asc (prV quoteA nt 0 o x)
  | .mk k n xs e t l ks, hx => by
    obtain ⟨h0, hl⟩ := hx.own
    obtain ⟨hin, -, f3', -, f4', -, f6', ftx, -, -, -⟩ := alone_fields h0
    simp only [VT.kind, VT.list, VT.num, VT.neg, VT.exp, VT.text, VT.keys] at hin f3' f4' f6' ftx hl
    have hsub : ∀ z ∈ l, Gp z := fun z hz => hx.sub (hin ▸ hz)
    have hgap : (if l.isEmpty then [] else lineL 0 (o + 1)) = [] := by split <;> rfl
    unfold prV
    split
    · unfold Asc; decide
    split
    · unfold Asc; decide
    split
    · rename_i h3
      exact fun c hc => by
        have := hnt (n := n) (xs := xs) (e := e) hl (f3' h3) c hc
        exact ⟨Nat.le_of_lt this.1, this.2.1⟩
    split
    · rename_i h4
      exact txt_asc (f4' h4).1
    split
    · rw [hgap, List.nil_append]
      exact Asc.app (a := [91]) (by unfold Asc; decide) (asc_items hnt o l hsub true)
    split
    · rename_i h6
      rw [hgap, List.nil_append]
      exact Asc.app (a := [123]) (by unfold Asc; decide) (asc_keys hnt o l ks (f6' h6).1 hsub (fun s hs => (ftx s hs).1) true)
    · unfold Asc; decide
theorem asc_items {nt : Bool → List Nat → Int → List UInt8} (hnt : NtIn nt) (o : Nat) : ∀ (l : List VT), (∀ z ∈ l, Gp z) → ∀ (first : Bool), Asc (itT 0 o 93 first (prI quoteA nt 0 o l))
  | [], _, first => by unfold prI itT Asc; decide
  | v :: l, hv, first => by
    unfold prI itT
    have h1 : (if first then [] else 44 :: lineL 0 (o + 1)) = (if first then [] else [44] : List UInt8) := by cases first <;> rfl
    have h2 : (if (prI quoteA nt 0 o l).isEmpty then lineL 0 o else []) = [] := by split <;> rfl
    rw [h1, h2, List.nil_append]
    exact Asc.app (by cases first <;> (unfold Asc; decide)) (Asc.app (asc_value hnt (o + 1) v (hv v (by simp))) (asc_items hnt o l (fun z hz => hv z (by simp [hz])) false))
theorem asc_keys {nt : Bool → List Nat → Int → List UInt8} (hnt : NtIn nt) (o : Nat) : ∀ (l : List VT) (ks : List ByteArray), ks.length = l.length → (∀ z ∈ l, Gp z) → (∀ s ∈ ks, isT s.data.toList = true) → ∀ (first : Bool), Asc (itT 0 o 125 first (prK quoteA nt 0 o l ks))
  | [], _, _, _, _, first => by unfold prK itT Asc; decide
  | v :: l, [], hk, _, _, _ => absurd hk (by simp)
  | v :: l, s :: ks, hk, hv, hs, first => by
    unfold prK itT
    have h1 : (if first then [] else 44 :: lineL 0 (o + 1)) = (if first then [] else [44] : List UInt8) := by cases first <;> rfl
    have h2 : (if (prK quoteA nt 0 o l (s :: ks).tail).isEmpty then lineL 0 o else []) = [] := by split <;> rfl
    simp only [h1, h2, List.nil_append, if_true]
    refine Asc.app (by cases first <;> (unfold Asc; decide)) (Asc.app ?_ (asc_keys hnt o l ks (by simpa using hk) (fun z hz => hv z (by simp [hz])) (fun t ht => hs t (by simp [ht])) false))
    exact Asc.app (txt_asc (hs s (by simp))) (Asc.app (by unfold Asc; decide) (asc_value hnt (o + 1) v (hv v (by simp))))
end
end Go.Proofs.YtpbfdgjeocmikaaGreatDoor
