/-
  Contract of slices.Reverse of a row of values.
  Reverse: texts turned round; slices.Clone of a row of values; rows turned round.
-/
import Derived.Test.YtpmdcahomkdfmaaGreatDoorBKut
set_option linter.unusedVariables false
set_option linter.unusedSimpArgs false
namespace Go.Proofs.YtpmdcahomkdfmaaGreatDoor
open Go.RowKit Go.Lib

/-- The rows when i of them are turned round at each end. -/
def revI (cs : Nat → List Value) (n i k : Nat) : List Value := if k < i ∨ n ≤ k + i then cs (n - 1 - k) else cs k
/-- A row of values as it stands in a block of the call's own, i of them turned round at each end. -/
structure RevS (w X : World) (b off n i : Nat) (cs : Nat → List Value) : Prop where
  cells : ∀ k, k < n → ∀ a, a < 7 → X.cell? ⟨b, off + (k * 7 + a), none⟩ = (revI cs n i k)[a]?
  froz : ∀ j, X.frozen? ⟨b, j, none⟩ = false
  but : But (fun k => k = b) w X
theorem RevS.step {w X : World} {b off n i j : Nat} {cs : Nat → List Value} (h : RevS w X b off n i cs) (hij : i + j + 1 = n) (hlt : i < j) (h7 : ∀ k, k < n → (cs k).length = 7) : RevS w ((X.setCells b (off + i * 7) (cs j)).setCells b (off + j * 7) (cs i)).drew b off n (i + 1) cs := by
  have hsome : ∀ k, k < n → ∀ a, a < 7 → (X.cell? ⟨b, off + (k * 7 + a), none⟩).isSome = true := fun k hk a ha => by
    rw [h.cells k hk a ha]
    have hl : (revI cs n i k).length = 7 := by
      unfold revI
      split
      · exact h7 _ (by omega)
      · exact h7 _ hk
    rw [List.getElem?_eq_getElem (by omega)]; rfl
  refine ⟨fun k hk a ha => ?_, fun q => ?_, ?_⟩
  · show (((X.setCells b (off + i * 7) (cs j)).setCells b (off + j * 7) (cs i))).cell? _ = _
    by_cases hkj : k = j
    · subst hkj
      have hr : revI cs n (i + 1) k = cs i := by unfold revI; rw [if_pos (by omega), show n - 1 - k = i by omega]
      have hl := h7 i (by omega)
      rw [hr, List.getElem?_eq_getElem (by omega), ← Nat.add_assoc]
      refine World.cell?_setCells_in b (cs i) _ _ (fun q hq => ?_) a (by omega)
      rw [World.cell?_setCells_out b _ _ _ _ (fun _ _ => .inr (by show off + i * 7 + (cs k).length ≤ off + k * 7 + q; rw [h7 k hk]; omega)), Nat.add_assoc]
      exact hsome k hk q (by omega)
    · by_cases hki : k = i
      · subst hki
        have hr : revI cs n (k + 1) k = cs j := by unfold revI; rw [if_pos (by omega), show n - 1 - k = j by omega]
        have hl := h7 j (by omega)
        rw [World.cell?_setCells_out b _ _ _ _ (fun _ _ => .inl (by show off + (k * 7 + a) < off + j * 7; omega)), hr, List.getElem?_eq_getElem (by omega), ← Nat.add_assoc]
        refine World.cell?_setCells_in b (cs j) _ _ (fun q hq => ?_) a (by omega)
        rw [Nat.add_assoc]
        exact hsome k hk q (by omega)
      · have hr : revI cs n (i + 1) k = revI cs n i k := by
          unfold revI
          by_cases hc : k < i ∨ n ≤ k + i
          · rw [if_pos hc, if_pos (by omega)]
          · rw [if_neg hc, if_neg (by omega)]
        have hli := h7 i (by omega)
        have hlj := h7 j (by omega)
        rw [World.cell?_setCells_out b _ _ _ _ (fun _ _ => by show off + (k * 7 + a) < off + j * 7 ∨ off + j * 7 + (cs i).length ≤ off + (k * 7 + a); rw [hli]; omega),
          World.cell?_setCells_out b _ _ _ _ (fun _ _ => by show off + (k * 7 + a) < off + i * 7 ∨ off + i * 7 + (cs j).length ≤ off + (k * 7 + a); rw [hlj]; omega), hr]
        exact h.cells k hk a ha
  · show (((X.setCells b (off + i * 7) (cs j)).setCells b (off + j * 7) (cs i))).frozen? _ = _
    rw [World.frozen?_setCells, World.frozen?_setCells]; exact h.froz q
  · have hset : ∀ (vs : List Value) (o : Nat) (Y : World), But (fun k => k = b) w Y → But (fun k => k = b) w (Y.setCells b o vs) := by
      intro vs
      induction vs with
      | nil => intro o Y hY; exact hY
      | cons v r ih => intro o Y hY; exact ih (o + 1) _ (hY.setCell (.inl rfl) _)
    exact (hset _ _ _ (hset _ _ _ h.but)).drew
set_option maxRecDepth 1000000 in
set_option maxHeartbeats 8000000 in
theorem reverseV_c {b off n c : Nat} {cs : Nat → List Value} (w : World) (hn : n ≤ 1256584717458) (hr : RevS w w b off n 0 cs) (h7 : ∀ k, k < n → ∃ k1 neg1 A1 n1 c1 e1 t1 LA1 ln1 lc1 KA1 kn1 kc1, cs k = [.int .i64 k1, .bool neg1, .slice A1 n1 c1, .int .i64 e1, .string t1, .slice LA1 ln1 lc1, .slice KA1 kn1 kc1]) :
    Calls Tryz.prog 27 #[.slice (some ⟨b, off, none⟩) n c] w fun e w' => e = .returned (.tuple #[]) ∧ ∃ i, n ≤ 2 * i + 1 ∧ i ≤ n ∧ RevS w w' b off n i cs := by
  have HR := Lib.hid hr
  have H7 := Lib.hid h7
  clear hr h7
  by_cases hn0 : n = 0
  · subst hn0
    go_enter Tryz.func27, Tryz.ntmps27
    go_upto_region 1 with fail
    go_loopw [2, 3] (fun iv jv wr => iv = .int .i64 0 ∧ jv = .int .i64 (-1) ∧ w = wr) (fun iv _ _ => 0)
    case atStart => exact ⟨rfl, rfl, rfl⟩
    case round =>
      obtain ⟨rfl, rfl, rfl⟩ := hrel
      go_wp2_with fail
      go_end0
      exact ⟨rfl, 0, by omega, by omega, HR.out⟩
  · have hw1 : IntKind.i64.wrap ((n : Int) - 1) = ((n - 1 : Nat) : Int) := by rw [IntWalk.i64_in _ (by omega)]; omega
    go_enter Tryz.func27, Tryz.ntmps27
    go_upto_region 1 with fail
    go_loopw [2, 3] (fun iv jv wr => ∃ i j : Nat, i + j + 1 = n ∧ i ≤ j + 1 ∧ iv = .int .i64 (i : Int) ∧ jv = .int .i64 (j : Int) ∧ Hid (RevS w wr b off n i cs)) (fun iv _ _ => n - (RowKit.intOf iv).toNat)
    case atStart => exact ⟨0, n - 1, by omega, by omega, rfl, rfl, HR.out⟩
    case round =>
      obtain ⟨i, j, hij, hi1, rfl, rfl, hst⟩ := hrel
      have HST := Lib.hid hst.out
      clear hst
      by_cases hlt : i < j
      · have hltz : (i : Int) < (j : Int) := by omega
        have hi0 : (0 : Int) ≤ (i : Int) := by omega
        have hj0 : (0 : Int) ≤ (j : Int) := by omega
        have hin : (i : Int) < (n : Int) := by omega
        have hjn : (j : Int) < (n : Int) := by omega
        have hit : ((i : Int)).toNat = i := by omega
        have hjt : ((j : Int)).toNat = j := by omega
        have hiw : IntKind.i64.wrap ((i : Int) + 1) = ((i + 1 : Nat) : Int) := by rw [IntWalk.i64_in _ (by omega)]; omega
        have hjw : IntKind.i64.wrap ((j : Int) - 1) = ((j - 1 : Nat) : Int) := by rw [IntWalk.i64_in _ (by omega)]; omega
        obtain ⟨k1, neg1, A1, n1, c1, e1, t1, LA1, ln1, lc1, KA1, kn1, kc1, hd⟩ := H7.out i (by omega)
        obtain ⟨k2, neg2, A2, n2, c2, e2, t2, LA2, ln2, lc2, KA2, kn2, kc2, he⟩ := H7.out j (by omega)
        have hci : ∀ a, a < 7 → wr.cell? ⟨b, off + (i * 7 + a), none⟩ = (cs i)[a]? := fun a ha => by
          rw [HST.out.cells i (by omega) a ha]; unfold revI; rw [if_neg (by omega)]
        have hcj : ∀ a, a < 7 → wr.cell? ⟨b, off + (j * 7 + a), none⟩ = (cs j)[a]? := fun a ha => by
          rw [HST.out.cells j (by omega) a ha]; unfold revI; rw [if_neg (by omega)]
        rw [hd] at hci
        rw [he] at hcj
        have d0 : wr.cell? ⟨b, off + i * 7, none⟩ = some (.int .i64 k1) := hci 0 (by omega)
        have d1 : wr.cell? ⟨b, off + i * 7 + 1, none⟩ = some (.bool neg1) := hci 1 (by omega)
        have d2 : wr.cell? ⟨b, off + i * 7 + 2, none⟩ = some (.slice A1 n1 c1) := hci 2 (by omega)
        have d3 : wr.cell? ⟨b, off + i * 7 + 3, none⟩ = some (.int .i64 e1) := hci 3 (by omega)
        have d4 : wr.cell? ⟨b, off + i * 7 + 4, none⟩ = some (.string t1) := hci 4 (by omega)
        have d5 : wr.cell? ⟨b, off + i * 7 + 5, none⟩ = some (.slice LA1 ln1 lc1) := hci 5 (by omega)
        have d6 : wr.cell? ⟨b, off + i * 7 + 6, none⟩ = some (.slice KA1 kn1 kc1) := hci 6 (by omega)
        have f0 : wr.cell? ⟨b, off + j * 7, none⟩ = some (.int .i64 k2) := hcj 0 (by omega)
        have f1 : wr.cell? ⟨b, off + j * 7 + 1, none⟩ = some (.bool neg2) := hcj 1 (by omega)
        have f2 : wr.cell? ⟨b, off + j * 7 + 2, none⟩ = some (.slice A2 n2 c2) := hcj 2 (by omega)
        have f3 : wr.cell? ⟨b, off + j * 7 + 3, none⟩ = some (.int .i64 e2) := hcj 3 (by omega)
        have f4 : wr.cell? ⟨b, off + j * 7 + 4, none⟩ = some (.string t2) := hcj 4 (by omega)
        have f5 : wr.cell? ⟨b, off + j * 7 + 5, none⟩ = some (.slice LA2 ln2 lc2) := hcj 5 (by omega)
        have f6 : wr.cell? ⟨b, off + j * 7 + 6, none⟩ = some (.slice KA2 kn2 kc2) := hcj 6 (by omega)
        have fz : ∀ q, wr.frozen? ⟨b, q, none⟩ = false := HST.out.froz
        have HD := Lib.hid hd
        have HE := Lib.hid he
        clear hci hcj hd he
        go_upto_region 3 with fail
        go_region
        have hst := HST.out.step hij hlt (fun k hk => by obtain ⟨_, _, _, _, _, _, _, _, _, _, _, _, _, h⟩ := H7.out k hk; rw [h]; rfl)
        rw [HD.out, HE.out] at hst
        obtain ⟨X, hX⟩ : ∃ X, ((wr.setCells b (off + i * 7) [.int .i64 k2, .bool neg2, .slice A2 n2 c2, .int .i64 e2, .string t2, .slice LA2 ln2 lc2, .slice KA2 kn2 kc2]).setCells b (off + j * 7) [.int .i64 k1, .bool neg1, .slice A1 n1 c1, .int .i64 e1, .string t1, .slice LA1 ln1 lc1, .slice KA1 kn1 kc1]).drew = X := ⟨_, rfl⟩
        rw [hX] at hst
        rw [show ((((((((((((((wr.setCell ⟨b, off + i * 7, none⟩ (.int .i64 k2)).setCell ⟨b, off + i * 7 + 1, none⟩ (.bool neg2)).setCell ⟨b, off + i * 7 + 2, none⟩ (.slice A2 n2 c2)).setCell ⟨b, off + i * 7 + 3, none⟩ (.int .i64 e2)).setCell ⟨b, off + i * 7 + 4, none⟩ (.string t2)).setCell ⟨b, off + i * 7 + 5, none⟩ (.slice LA2 ln2 lc2)).setCell ⟨b, off + i * 7 + 6, none⟩ (.slice KA2 kn2 kc2)).setCell ⟨b, off + j * 7, none⟩ (.int .i64 k1)).setCell ⟨b, off + j * 7 + 1, none⟩ (.bool neg1)).setCell ⟨b, off + j * 7 + 2, none⟩ (.slice A1 n1 c1)).setCell ⟨b, off + j * 7 + 3, none⟩ (.int .i64 e1)).setCell ⟨b, off + j * 7 + 4, none⟩ (.string t1)).setCell ⟨b, off + j * 7 + 5, none⟩ (.slice LA1 ln1 lc1)).setCell ⟨b, off + j * 7 + 6, none⟩ (.slice KA1 kn1 kc1)).drew = X from hX]
        have HST2 := Lib.hid hst
        clear hst hX d0 f0 d1 f1 d2 f2 d3 f3 d4 f4 d5 f5 d6 f6 fz
        go_wp2_with fail
        go_roundw
        case rel => exact ⟨i + 1, j - 1, by omega, by omega, by go_num, by go_num, HST2.out⟩
        case measure => simp [RowKit.intOf]; omega
      · have hltz : ¬ (i : Int) < (j : Int) := by omega
        go_wp2_with fail
        go_end0
        exact ⟨rfl, i, by omega, by omega, HST.out⟩
end Go.Proofs.YtpmdcahomkdfmaaGreatDoor

namespace Go.Proofs.YtpmdcahomkdfmaaGreatDoor
open Go.RowKit Go.Lib

theorem text_ofK {x : VT} (h : okV x) (h4 : x.kind = 4) : x = textV x.text ∧ isT x.text.data.toList = true ∧ x.text.size ≤ 16384 := by
  have ha := alone_of h
  cases x with
  | mk k n xs e t l ks =>
    have h4 : k = 4 := h4
    subst h4
    unfold alone at ha
    split at ha
    · exact absurd ha (by decide)
    split at ha
    · exact absurd ha (by decide)
    rename_i hb
    split at ha
    · exact absurd ha (by decide)
    rename_i hs
    split at ha
    · exact absurd ha (by decide)
    split at ha
    · rename_i hf
      rw [fitV_mk, if_neg (by decide), if_pos rfl] at hf
      simp only [Bool.and_eq_true, decide_eq_true_eq, Bool.not_eq_true'] at hf
      obtain ⟨⟨h1, h2⟩, h3⟩ := hf
      have e1 : xs = [] := List.eq_nil_of_length_eq_zero (by omega)
      have e2 : l = [] := List.eq_nil_of_length_eq_zero (by omega)
      have e3 : ks = [] := List.eq_nil_of_length_eq_zero (by omega)
      subst e1 e2 e3 h2 h3
      have ho : ownT (VT.mk 4 false [] 0 t [] []) = [t] := rfl
      rw [ho] at hb hs
      refine ⟨rfl, ?_, ?_⟩
      · show isT t.data.toList = true
        simpa using hb
      · show t.size ≤ 16384
        simpa using hs
    · exact absurd ha (by decide)
theorem rev_text {L : List UInt8} (h : isT L = true) : textE (runesT L).reverse = 0 ∧ textT (runesT L).reverse = revT L ∧ L64 (runesT L).reverse := by
  have e3 : runesT L = uchars L := by unfold runesT; rw [if_pos h]
  have hc : ∀ c ∈ (uchars L).reverse, isCh c := fun c hm => chars_ch h c (List.mem_reverse.1 hm)
  have hb : badC (uchars L).reverse = false := by
    cases hb : badC (uchars L).reverse with
    | false => rfl
    | true =>
      unfold badC at hb
      rw [List.any_eq_true] at hb
      obtain ⟨c, hm, h2⟩ := hb
      rw [decide_eq_true (hc c hm)] at h2; cases h2
  rw [e3]
  refine ⟨?_, ?_, fun z hz => ?_⟩
  · unfold textE; rw [hb]; rfl
  · unfold textT revT; rw [hb]; rfl
  · have := hc z hz
    unfold isCh at this
    omega
theorem oneC_rowK {W : World} {S : Nat → Prop} {l : List VT} {gs : Nat → List Value} (h : ∀ i x, l[i]? = some x → VIn W S x (gs i)) : ∀ m, m ≤ l.length → ∀ u ∈ flatC gs id m, u.oneCell' = true
  | 0, _, u, hu => absurd hu (by simp [flatC])
  | m + 1, hm, u, hu => by
    rw [flatC_succ] at hu
    rcases List.mem_append.1 hu with hu | hu
    · exact oneC_rowK h m (by omega) u hu
    · have hv := h m _ (List.getElem?_eq_getElem (by omega))
      obtain ⟨k, neg, A, n, c, e, t, LA, ln, lc, KA, kn, kc, hc, -, -⟩ := hv.seven
      rw [show gs (id m) = gs m from rfl, hc] at hu
      simp only [List.mem_cons, List.not_mem_nil, or_false] at hu
      rcases hu with rfl | rfl | rfl | rfl | rfl | rfl | rfl <;> rfl
set_option maxRecDepth 1000000 in
set_option maxHeartbeats 4000000 in
theorem cloneV_c {S : Nat → Prop} {A : Option Addr} {n c : Nat} {l : List VT} (w : World) (h : RdL w S A n l) (hS : ∀ b, S b → b < w.heap.size) (hn : n ≤ 1256584717458) :
    Calls Tryz.prog 26 #[.slice A n c] w fun e w' => ∃ A' c' cs, e = .returned (.slice A' n c') ∧ w'.ownsRow w.heap.size 28 7 (.slice A' n c') n (flatC cs id n) ∧ (∀ i, i < n → (cs i).length = 7) ∧ (∀ i x, l[i]? = some x → VIn w S x (cs i)) ∧ Below w.heap.size w w' := by
  have q : ∀ (w : World) (a : Option Addr) (n c n' c' : Nat), (binOp .eql 25 (.slice a n c) (.slice none n' c')).run Tryz.prog w = .ok (.bool a.isNone) w := fun w a n c n' c' => Lib.run_eql_slice_nil w _ _ a n c n' c' Tryz.underlying25
  obtain ⟨h1, h2, cs, h3, h4⟩ := h
  cases A with
  | none =>
    obtain rfl : n = 0 := by
      rcases Nat.eq_zero_or_pos n with h | h
      · exact h
      · obtain ⟨b, off, e, _⟩ := h3 h; cases e
    go_enter Tryz.func26, Tryz.ntmps26
    go_wp2
    go_ret
    exact ⟨none, 0, cs, rfl, ⟨rfl, .inl ⟨rfl, rfl⟩⟩, fun i hi => absurd hi (by omega), h4, Below.refl _ _⟩
  | some ad =>
    obtain ⟨i7, hi7, hp7, hq7, hr7⟩ := info_parts infoV7
    have h7 : ∀ i, i < n → (cs i).length = 7 := fun i hi => by
      obtain ⟨b, off, e, _, h5⟩ := h3 (by omega)
      exact (h5 i hi).1
    have hlen := flatC_length (cs := cs) (ix := id) (j := n) fun q hq => h7 q hq
    obtain ⟨w1, hw1⟩ : ∃ y, w.alloc (.cells #[] 28) = y := ⟨_, rfl⟩
    have g1 : Below w.heap.size w w1 := by rw [← hw1]; exact (Below.refl _ w).alloc (Nat.le_refl _) _
    have s1 : w.heap.size ≤ w1.heap.size := g1.size
    have hro : w1.ownsRow w.heap.size 28 7 (.slice (some ⟨w.heap.size, 0, none⟩) 0 0) 0 [] := by rw [← hw1]; exact World.ownsRow_made (e := 28) (size := 7) w #[] 0 (Nat.le_refl _) (by unfold maxLen; omega) rfl
    have hnew : ∀ (j : Nat) (u : Value), (flatC cs id n)[j]? = some u → w1.cell? (ad.add j) = some u := fun j u hj => by
      have hjl := (List.getElem?_eq_some_iff.1 hj).1
      rw [hlen] at hjl
      obtain ⟨b, off, e, hSb, h5⟩ := h3 (by omega)
      injection e with e
      subst e
      have h6 := flatC_get (cs := cs) (ix := id) (fun q hq => h7 q hq) (j / 7) (j % 7) (by omega) (Nat.mod_lt _ (by omega))
      rw [show j / 7 * 7 + j % 7 = j by omega, hj] at h6
      have h8 := (h5 (j / 7) (by omega)).2 (j % 7) (Nat.mod_lt _ (by omega))
      rw [show j / 7 * 7 + j % 7 = j by omega] at h8
      rw [Addr.add_lit, g1.cell (p := ⟨b, off + j, none⟩) (hS _ hSb), h8]
      exact h6.symm
    have hone := oneC_rowK h4 n (by omega)
    have H4 := Lib.hid h4
    have H7 := Lib.hid h7
    have HNEW := Lib.hid hnew
    have HRO := Lib.hid hro
    have HG := Lib.hid g1
    have HLEN := Lib.hid hlen
    have HW1 := Lib.hid hw1
    have HONE := Lib.hid hone
    clear h1 h3 h4 h7 hnew hro g1 hlen hw1 hone hS
    go_enter Tryz.func26, Tryz.ntmps26
    go_wp2_with (at_builtin; rw [HW1.out]; refine wpList_append_own_at _ rfl (.tmp 5) (.tmp 6) _ rfl w.heap.size 28 i7 (.agg #[.int .i64 0, .bool false, .slice none 0 0, .int .i64 0, .string ⟨#[]⟩, .slice none 0 0, .slice none 0 0]) 7 112 Tryz.underlying25 hi7 hp7 hq7 hr7 rfl (by decide) (.slice (some ⟨w.heap.size, 0, none⟩) 0 0) 0 [] rfl HRO.out ad n c (flatC cs id n) rfl HLEN.out HNEW.out HONE.out (by unfold maxLen; omega) (by omega) s1 ?_; intro v2 w2 hown hg _ hat)
    go_ret
    rw [Nat.zero_add, List.nil_append] at hown
    obtain ⟨A', c', rfl⟩ : ∃ A' c', v2 = .slice A' n c' := by
      rcases hown.2 with ⟨e, h0⟩ | ⟨g, cap, cur, e, _⟩
      · exact ⟨none, 0, by rw [e, h0]⟩
      · exact ⟨_, _, e⟩
    exact ⟨A', c', cs, rfl, hown, H7.out, H4.out, HG.out.grown hg s1 (by intro k hk; simp [Value.ownBlock] at hk; omega)⟩
set_option maxRecDepth 1000000 in
set_option maxHeartbeats 4000000 in
theorem reverse0V_c {A : Option Addr} {c : Nat} (w : World) :
    Calls Tryz.prog 27 #[.slice A 0 c] w fun e w' => e = .returned (.tuple #[]) ∧ w = w' := by
  go_enter Tryz.func27, Tryz.ntmps27
  go_upto_region 1 with fail
  go_loopw [2, 3] (fun iv jv wr => iv = .int .i64 0 ∧ jv = .int .i64 (-1) ∧ w = wr) (fun iv _ _ => 0)
  case atStart => exact ⟨rfl, rfl, rfl⟩
  case round =>
    obtain ⟨rfl, rfl, rfl⟩ := hrel
    go_wp2_with fail
    go_end0
    exact ⟨rfl, rfl⟩
/-- A row of the call's own, turned round. -/
theorem reverseL_c {S : Nat → Prop} {A : Option Addr} {n c N : Nat} {l : List VT} {cs : Nat → List Value} (w : World) (hl : l.length = n) (hn : n ≤ 1256584717458) (ho : w.ownsRow N 28 7 (.slice A n c) n (flatC cs id n)) (h7 : ∀ i, i < n → (cs i).length = 7) (hv : ∀ i x, l[i]? = some x → VIn w S x (cs i)) (hS : ∀ b, S b → b < N) :
    Calls Tryz.prog 27 #[.slice A n c] w fun e w' => e = .returned (.tuple #[]) ∧ RdL w' (fun b => S b ∨ (N ≤ b ∧ b < w'.heap.size)) A n l.reverse ∧ n ≤ c ∧ But (fun k => N ≤ k) w w' := by
  rcases ho.2 with ⟨e, h0⟩ | ⟨g, cap, cur, e1, e2, e3, e4, e5, e6, e7⟩
  · injection e with e1 e2 e3
    subst e1 e2 e3
    refine (reverse0V_c w).mono ?_
    rintro e9 w9 ⟨rfl, rfl⟩
    obtain rfl : l = [] := List.eq_nil_of_length_eq_zero hl
    exact ⟨rfl, ⟨rfl, by omega, cs, fun h => absurd h (by omega), fun i x hx => absurd hx (by simp)⟩, by omega, But.refl _ _⟩
  · injection e1 with e8 e9 e10
    subst e8 e10
    have hglt : g < w.heap.size := (Array.getElem?_eq_some_iff.1 e3).1
    have hst : RevS w w g 0 n 0 cs := by
      refine ⟨fun k hk a ha => ?_, fun j => frozen_of_row _ _ j _ _ e3, But.refl _ _⟩
      have hr : revI cs n 0 k = cs k := by unfold revI; rw [if_neg (by omega)]
      have h8 : a < (cs k).length := by rw [h7 k hk]; exact ha
      have h9 := flatC_get (cs := cs) (ix := id) (j := n) (fun q hq => h7 q hq) k a hk ha
      rw [show (cs (id k))[a]? = some ((cs k)[a]) from List.getElem?_eq_getElem h8] at h9
      rw [hr, List.getElem?_eq_getElem h8, Nat.zero_add]
      exact ownsRow_cellK ho h9
    refine (reverseV_c (b := g) (off := 0) (n := n) (c := c) (cs := cs) w hn hst fun k hk => ?_).mono ?_
    · obtain ⟨k1, neg, A1, n1, c1, e, t, LA, ln, lc, KA, kn, kc, hc, -, -⟩ := (hv k l[k] (List.getElem?_eq_getElem (by omega))).seven
      exact ⟨k1, neg, A1, n1, c1, e, t, LA, ln, lc, KA, kn, kc, hc⟩
    · rintro e9 w9 ⟨rfl, i, hi1, hi2, hR⟩
      have hrev : ∀ k, k < n → revI cs n i k = cs (n - 1 - k) := fun k hk => by
        unfold revI
        by_cases hc : k < i ∨ n ≤ k + i
        · rw [if_pos hc]
        · rw [if_neg hc, show n - 1 - k = k by omega]
      have hsz : w.heap.size ≤ w9.heap.size := hR.but.size
      refine ⟨rfl, ⟨by rw [List.length_reverse]; exact hl, by omega, fun k => cs (n - 1 - k), fun h0 => ⟨g, 0, rfl, .inr ⟨e2, by omega⟩, fun k hk => ⟨h7 _ (by omega), fun a ha => ?_⟩⟩, fun k x hx => ?_⟩, e4, ⟨hR.but.os, hR.but.tape, hR.but.output, hR.but.size, fun k hk hc => hR.but.block k hk (by rintro rfl; exact hc e2)⟩⟩
      · rw [hR.cells k hk a ha, hrev k hk]
      · have hkn : k < n := by
          have := (List.getElem?_eq_some_iff.1 hx).1
          rw [List.length_reverse] at this
          omega
        rw [List.getElem?_reverse (by omega), hl] at hx
        exact ((hv _ _ hx).keep fun p hp => hR.but.cell (by have := hS _ hp; omega) (by have := hS _ hp; show ¬ p.block = g; omega)).more fun b hb => .inl hb
end Go.Proofs.YtpmdcahomkdfmaaGreatDoor
