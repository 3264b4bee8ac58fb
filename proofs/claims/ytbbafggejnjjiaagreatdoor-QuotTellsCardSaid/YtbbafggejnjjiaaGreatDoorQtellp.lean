/-
  Two answers that keep one rule are the same; the reference's Abs of any decimal.
-/
import Derived.Test.YtbbafggejnjjiaaGreatDoorQrdiv
import Derived.Test.YtbbafggejnjjiaaGreatDoorQrsqrt
import Derived.Test.YtbbafggejnjjiaaGreatDoorQlaw
set_option linter.unusedVariables false
set_option linter.unusedSimpArgs false
namespace Go.Proofs.YtbbafggejnjjiaaGreatDoor
open Go.RowKit

def Uniq (P : Nat → Bool → Nat → Int → Prop) : Prop := ∀ E s Z lo E' s' Z' lo', P E s Z lo → P E' s' Z' lo' → E = E' ∧ (E = 0 → s = s' ∧ Z = Z' ∧ lo = lo')
/-- One answer for all that keep a rule. -/
theorem pair_told {P : Nat → Bool → Nat → Int → Prop} (hU : Uniq P) : ∃ N X, ∃ E : Nat, ∃ L, ∀ e w' base, ToldP P e w' base → ∃ A' n' c', e = .returned (.tuple #[dv N A' n' c' X, .int .i64 (E : Int)]) ∧ Res w' base A' n' c' L := by
  by_cases hex : ∃ E s Z lo, P E s Z lo
  · obtain ⟨E, s, Z, lo, hP⟩ := hex
    refine ⟨opN E s Z lo, opX E Z lo, opE E Z lo, opZ E Z lo, ?_⟩
    rintro e w' base ⟨E', s', Z', lo', hP', h⟩
    obtain ⟨rfl, h2⟩ := hU _ _ _ _ _ _ _ _ hP hP'
    by_cases h0 : E = 0
    · obtain ⟨rfl, rfl, rfl⟩ := h2 h0
      exact h
    · unfold Told at h
      unfold opN opX opE opZ at *
      simp only [if_neg h0] at *
      exact h
  · exact ⟨false, 0, 0, [], fun e w' base ⟨E, s, Z, lo, hP, _⟩ => absurd ⟨E, s, Z, lo, hP⟩ hex⟩
theorem Uniq.chk {E : Nat} {P : Nat → Bool → Nat → Int → Prop} (h : Uniq P) : Uniq (Chk E P) := by
  rintro E1 s Z lo E2 s' Z' lo' (⟨h1, rfl⟩ | ⟨h1, h2⟩) (⟨h3, h4⟩ | ⟨h3, h4⟩)
  · exact ⟨h4.symm, fun h0 => absurd h0 h1⟩
  · exact absurd h3 h1
  · exact absurd h1 h3
  · exact h _ _ _ _ _ _ _ _ h2 h4
theorem uq_div (na : Bool) (v1 : Nat) (e1 : Int) (nb : Bool) (v2 : Nat) (e2 : Int) : Uniq (PDiv na v1 e1 nb v2 e2) := by
  rintro E1 s Z lo E2 s' Z' lo' (⟨h1, rfl⟩ | ⟨h1, rfl, rfl, rfl, rfl⟩) (⟨h3, rfl⟩ | ⟨h3, rfl, rfl, rfl, rfl⟩)
  · exact ⟨rfl, fun h => absurd h (by decide)⟩
  · exact absurd h1 h3
  · exact absurd h3 h1
  · exact ⟨rfl, fun _ => ⟨rfl, rfl, rfl⟩⟩
theorem uq_mod (na : Bool) (v1 : Nat) (e1 : Int) (v2 : Nat) (e2 : Int) : Uniq (PMod na v1 e1 v2 e2) := by
  rintro E1 s Z lo E2 s' Z' lo' (⟨h1, rfl⟩ | ⟨h1, rfl, rfl, rfl, rfl⟩) (⟨h3, rfl⟩ | ⟨h3, rfl, rfl, rfl, rfl⟩)
  · exact ⟨rfl, fun h => absurd h (by decide)⟩
  · exact absurd h1 h3
  · exact absurd h3 h1
  · exact ⟨rfl, fun _ => ⟨rfl, rfl, rfl⟩⟩
theorem uq_whole (na : Bool) (v : Nat) (e : Int) (U : Bool) : Uniq (PWhole na v e U) := by
  rintro E1 s Z lo E2 s' Z' lo' ⟨rfl, rfl, rfl, rfl⟩ ⟨rfl, rfl, rfl, rfl⟩
  exact ⟨rfl, fun _ => ⟨rfl, rfl, rfl⟩⟩
theorem uq_abs (v : Nat) (e : Int) : Uniq (PAbs v e) := by
  rintro E1 s Z lo E2 s' Z' lo' ⟨rfl, rfl, rfl, rfl⟩ ⟨rfl, rfl, rfl, rfl⟩
  exact ⟨rfl, fun _ => ⟨rfl, rfl, rfl⟩⟩
theorem sq_one {R Q X : Nat} (h1 : R * R ≤ X) (h2 : X < (Q + 1) * (Q + 1)) : R ≤ Q := by
  rcases Nat.lt_or_ge Q R with h | h
  · exfalso
    have := Nat.mul_le_mul (show Q + 1 ≤ R from h) (show Q + 1 ≤ R from h)
    omega
  · exact h
theorem uq_sqrt (na : Bool) (v : Nat) (e : Int) : Uniq (PSqrt na v e) := by
  rintro E1 s Z lo E2 s' Z' lo' (⟨h1, rfl⟩ | ⟨h1, rfl, rfl, a1, a2, rfl⟩) (⟨h3, rfl⟩ | ⟨h3, rfl, rfl, b1, b2, rfl⟩)
  · exact ⟨rfl, fun h => absurd h (by decide)⟩
  · rw [h1] at h3; exact absurd h3 (by decide)
  · rw [h1] at h3; exact absurd h3 (by decide)
  · have c1 := sq_one a1 b2
    have c2 := sq_one b1 a2
    exact ⟨rfl, fun _ => ⟨rfl, by omega, rfl⟩⟩
theorem tp_div {na nb : Bool} {xs ys : List Nat} {e1 e2 : Int} {e : Ending} {w' : World} {base : Nat} (h : Told e w' base (eDiv na xs e1 nb ys e2) (na != nb) (qZ (val xs) (val ys)) (qX (val xs) (val ys) e1 e2)) : ToldP (Chk (okE2 na xs e1 nb ys e2) (PDiv na (val xs) e1 nb (val ys) e2)) e w' base := by
  refine ⟨_, _, _, _, ?_, h⟩
  unfold eDiv Chk PDiv
  by_cases h0 : okE2 na xs e1 nb ys e2 = 0
  · rw [if_pos h0]
    by_cases hv : val ys = 0
    · rw [if_pos hv]; exact .inr ⟨h0, .inl ⟨hv, rfl⟩⟩
    · rw [if_neg hv]; exact .inr ⟨h0, .inr ⟨hv, rfl, rfl, rfl, rfl⟩⟩
  · rw [if_neg h0]; exact .inl ⟨h0, rfl⟩
theorem tp_mod {na nb : Bool} {xs ys : List Nat} {e1 e2 : Int} {e : Ending} {w' : World} {base : Nat} (h : Told e w' base (eMod na xs e1 nb ys e2) na (wq (val xs) e1 % wq (val ys) e2) 0) : ToldP (Chk (okE2 na xs e1 nb ys e2) (PMod na (val xs) e1 (val ys) e2)) e w' base := by
  refine ⟨_, _, _, _, ?_, h⟩
  unfold eMod Chk PMod
  by_cases h0 : okE2 na xs e1 nb ys e2 = 0
  · rw [if_pos h0]
    by_cases hv : wq (val ys) e2 = 0
    · rw [if_pos hv]; exact .inr ⟨h0, .inl ⟨hv, rfl⟩⟩
    · rw [if_neg hv]; exact .inr ⟨h0, .inr ⟨hv, rfl, rfl, rfl, rfl⟩⟩
  · rw [if_neg h0]; exact .inl ⟨h0, rfl⟩
theorem tp_whole {na : Bool} {xs : List Nat} {e1 : Int} {U : Bool} {e : Ending} {w' : World} {base : Nat} (h : Told e w' base (okE na xs e1) na (wq (val xs) e1 + (if U = true then 1 else 0)) 0) : ToldP (Chk (okE na xs e1) (PWhole na (val xs) e1 U)) e w' base := by
  refine ⟨_, _, _, _, ?_, h⟩
  by_cases h0 : okE na xs e1 = 0
  · exact .inr ⟨h0, h0, rfl, rfl, rfl⟩
  · exact .inl ⟨h0, rfl⟩

set_option maxRecDepth 100000 in
set_option maxHeartbeats 2000000 in
theorem RAbsT_c {S : Nat → Prop} {n c : Nat} {A : Option Addr} {xs : List Nat} (na : Bool) (e1 : Int) (w : World) (ha : Rd w S A n xs) (hS : ∀ b, S b → b < w.heap.size) (hn : n ≤ 9223372036854775807) :
    Calls Tryz.prog 28 #[dv na A n c e1] w fun e w' => ToldP (Chk (okE na xs e1) (PAbs (val xs) e1)) e w' w.heap.size ∧ Below w.heap.size w w' := by
  rcases okE_cases na xs e1 with ⟨hok, k1⟩ | ⟨hok, k1⟩
  · refine (RAbs_c (c := c) na e1 w ha hS hn k1).mono ?_
    rintro e w' ⟨A', n', c', rfl, hr, hb⟩
    obtain ⟨_, _, _, a4, _, _⟩ := okB_true ha.l32 k1
    obtain ⟨h1, h2, h3, h4⟩ := settle_back (na := false) (s := false) (lo := e1) (Z := val xs) ha.l32 (okB_false k1) (by omega) (by rw [sv_eq])
    refine ⟨⟨0, false, val xs, e1, .inr ⟨hok, rfl, rfl, rfl, rfl⟩, A', n', c', ?_, ?_⟩, hb⟩
    · unfold opN opX opE
      rw [if_pos rfl, if_pos rfl, if_pos rfl, h1, h2, h3]; rfl
    · unfold opZ
      rw [if_pos rfl, h4]; exact hr
  · have up : ∀ {V : World}, Below w.heap.size w V → ∀ b, b < w.heap.size → b < V.heap.size := fun h b hb => by have := h.size; omega
    have HC := Lib.hid (fun V (h1 : Rd V S A n xs) hs => RCheck_c (c := c) na e1 V h1 hs hn)
    unfold dv at HC
    have hW : Below w.heap.size w ((w.alloc (.cells #[.bool na, .slice A n c, .int .i64 e1] 24)).alloc (.cells #[.bool false, .slice none 0 0, .int .i64 0] 24)) := ((Below.refl w.heap.size w).alloc (Nat.le_refl _) _).alloc (by simp) _
    obtain ⟨ma, mr⟩ := two_new w (.cells #[.bool na, .slice A n c, .int .i64 e1] 24) (.cells #[.bool false, .slice none 0 0, .int .i64 0] 24)
    rw [hok] at HC
    have hfin : ∀ w' base, ToldP (Chk (okE na xs e1) (PAbs (val xs) e1)) (.returned (.tuple #[dv false none 0 0 0, .int .i64 9])) w' base := fun w' base => ⟨9, false, 0, 0, .inl ⟨by rw [hok]; decide, hok.symm⟩, told53 (by decide)⟩
    unfold dv
    unfold dv at hfin
    go_enter Tryz.func28, Tryz.ntmps28
    go_wp2_with fail
    generalize ((w.alloc (.cells #[.bool na, .slice A n c, .int .i64 e1] 24)).alloc (.cells #[.bool false, .slice none 0 0, .int .i64 0] 24)) = W at ma mr hW ⊢
    obtain ⟨x0, x1, x2⟩ := box3_of ma
    refine (HC.out W (ha.below hW hS) (fun b h => up hW b (hS b h))).mono ?_
    rintro e w1 ⟨rfl, hb0⟩
    have mr := heldz hb0 mr
    have hB := hW.trans (hb0.mono hW.size)
    obtain ⟨g0, g1, g2⟩ := box3_of mr
    have f0 := frozen_of 0 mr
    have f1 := frozen_of 1 mr
    have f2 := frozen_of 2 mr
    clear x0 x1 x2 hb0 hW
    go_wp2
    refine bodyPost_ret (v := .tuple #[.agg #[.bool false, .slice none 0 0, .int .i64 0], .int .i64 9]) (by simp [results, Tryz.results28, go_sem, g0, g1, g2]) rfl ?_
    exact ⟨hfin _ _, ((hB.setCell (p := ⟨w.heap.size + 1, 0, none⟩) (by simp) _).setCell (p := ⟨w.heap.size + 1, 1, none⟩) (by simp) _).setCell (p := ⟨w.heap.size + 1, 2, none⟩) (by simp) _⟩
end Go.Proofs.YtbbafggejnjjiaaGreatDoor
