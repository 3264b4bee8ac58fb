/-
  Contract of the reference's Same: are two decimals one?
  What the walks of several laws share: words and lemmas (Dordb).
  The answers of dec's Add, Sub and Mul, in numbers, in one form each. Contracts in that form.
  What the walks of several laws share: words and lemmas (Dsumb).
-/
import Derived.Test.YtklpfgjnlheikaaGreatDoorDref
import Derived.Test.YtklpfgjnlheikaaGreatDoorDq
import Derived.Deep.Cut
import Derived.Test.YtklpfgjnlheikaaGreatDoorDv
import Derived.Test.YtklpfgjnlheikaaGreatDoorDsm
import Derived.Test.YtklpfgjnlheikaaGreatDoorDadd
set_option linter.unusedVariables false
set_option linter.unusedSimpArgs false
namespace Go.Proofs.YtklpfgjnlheikaaGreatDoor
open Go.RowKit

end Go.Proofs.YtklpfgjnlheikaaGreatDoor

namespace Go.Proofs.YtklpfgjnlheikaaGreatDoor
open Go.RowKit

/-- What Compare answers, in numbers. -/
def cmpV (na : Bool) (xs : List Nat) (e1 : Int) (nb : Bool) (ys : List Nat) (e2 : Int) : Int := if okE2 na xs e1 nb ys e2 = 0 then cmpI (sv na (val xs) e1) (sv nb (val ys) e2) else 0
theorem okE2_zero {na nb : Bool} {xs ys : List Nat} {e1 e2 : Int} : okE2 na xs e1 nb ys e2 = 0 ↔ okB na xs e1 = true ∧ okB nb ys e2 = true := by
  unfold okE2 okE
  by_cases h1 : okB na xs e1 = true
  · rw [if_pos h1]
    by_cases h2 : okB nb ys e2 = true
    · rw [if_pos h2]; exact ⟨fun _ => ⟨h1, h2⟩, fun _ => rfl⟩
    · rw [if_neg h2]; exact ⟨fun h => by omega, fun h => absurd h.2 h2⟩
  · rw [if_neg h1]; exact ⟨fun h => by omega, fun h => absurd h.1 h1⟩
theorem okE2_val (na nb : Bool) (xs ys : List Nat) (e1 e2 : Int) : okE2 na xs e1 nb ys e2 = 0 ∨ okE2 na xs e1 nb ys e2 = 9 := by
  unfold okE2 okE
  split
  · split
    · exact .inl rfl
    · exact .inr rfl
  · exact .inr rfl
theorem DCompare_v {S : Nat → Prop} {n m c d : Nat} {A B : Option Addr} {xs ys : List Nat} (na nb : Bool) (e1 e2 : Int) (w : World)
    (ha1 : Rd w S A n xs) (ha2 : Rd w S B m ys) (hS : ∀ b, S b → b < w.heap.size) (hn : n ≤ 9223372036854775807) (hm : m ≤ 9223372036854775807) :
    Calls Tryz.prog 13 #[dv na A n c e1, dv nb B m d e2] w fun e w' => e = .returned (.tuple #[.int .i64 (cmpV na xs e1 nb ys e2), .int .i64 (okE2 na xs e1 nb ys e2 : Int)]) ∧ Below w.heap.size w w' := by
  obtain ⟨P1, hP1⟩ : ∃ P1 : Nat, e1 - min e1 e2 = (P1 : Int) := ⟨(e1 - min e1 e2).toNat, by omega⟩
  obtain ⟨P2, hP2⟩ : ∃ P2 : Nat, e2 - min e1 e2 = (P2 : Int) := ⟨(e2 - min e1 e2).toNat, by omega⟩
  refine (DCompare_c (c := c) (d := d) na nb e1 e2 _ P1 P2 w ha1 ha2 hS hn hm rfl hP1 hP2).mono ?_
  rintro e w' ⟨hbad, hgood, hb⟩
  refine ⟨?_, hb⟩
  unfold cmpV
  by_cases h0 : okE2 na xs e1 nb ys e2 = 0
  · obtain ⟨k1, k2⟩ := okE2_zero.1 h0
    obtain ⟨_, _, _, r1, _, _⟩ := okB_true ha1.l32 k1
    obtain ⟨_, _, _, r2, _, _⟩ := okB_true ha2.l32 k2
    rw [hgood h0, if_pos h0, h0, dcN_sv (okB_pos ha1.l32 k1) (okB_pos ha2.l32 k2) (by omega) hP1 hP2]
    rfl
  · rw [hbad h0, if_neg h0]

theorem cmpI_three (x y : Int) : (x < y ∧ cmpI x y = -1) ∨ (x = y ∧ cmpI x y = 0) ∨ (y < x ∧ cmpI x y = 1) := by
  unfold cmpI
  rcases Int.lt_trichotomy x y with h | h | h
  · exact .inl ⟨h, if_pos h⟩
  · exact .inr (.inl ⟨h, by rw [if_neg (by omega), if_neg (by omega)]⟩)
  · exact .inr (.inr ⟨h, by rw [if_neg (by omega), if_pos h]⟩)
end Go.Proofs.YtklpfgjnlheikaaGreatDoor

namespace Go.Proofs.YtklpfgjnlheikaaGreatDoor
open Go.RowKit

def lo2 (e1 e2 : Int) : Int := min e1 e2
def p1 (e1 e2 : Int) : Nat := (e1 - min e1 e2).toNat
def addZ (na : Bool) (v1 : Nat) (e1 : Int) (nb : Bool) (v2 : Nat) (e2 : Int) : Nat := sgV na nb (v1 * 10 ^ p1 e1 e2) (v2 * 10 ^ p1 e2 e1)
def addS (na : Bool) (v1 : Nat) (e1 : Int) (nb : Bool) (v2 : Nat) (e2 : Int) : Bool := sgB na nb (v1 * 10 ^ p1 e1 e2) (v2 * 10 ^ p1 e2 e1)

theorem add_sv (na : Bool) (v1 : Nat) (e1 : Int) (nb : Bool) (v2 : Nat) (e2 : Int) (h1 : -5000 ≤ e1) (h2 : -5000 ≤ e2) : sg (addS na v1 e1 nb v2 e2) (addZ na v1 e1 nb v2 e2) * (sp (lo2 e1 e2) : Int) = sv na v1 e1 + sv nb v2 e2 := by
  unfold addS addZ lo2
  exact sum_sv (by omega) (by unfold p1; omega) (by unfold p1; omega)
theorem ops_sv (nb : Bool) (ys : List Nat) (e : Int) : sv (ops nb ys) (val ys) e = - sv nb (val ys) e := by
  unfold ops
  by_cases h : ys = []
  · subst h
    cases nb <;> simp [sv, sg, val]
  · rw [decide_eq_true h]
    cases nb <;> simp [sv, sg]
theorem st_same {s s' : Bool} {Z : Nat} {lo : Int} (h : sg s Z = sg s' Z) : stN s Z lo = stN s' Z lo := by
  by_cases h0 : Z = 0
  · subst h0
    rw [(st_zero s lo).2.1, (st_zero s' lo).2.1]
  · rw [(sg_inj h).2 (by omega)]
theorem okE2_comm (na nb : Bool) (xs ys : List Nat) (e1 e2 : Int) : okE2 na xs e1 nb ys e2 = okE2 nb ys e2 na xs e1 := by
  have h1 := okE2_val na nb xs ys e1 e2
  have h2 := okE2_val nb na ys xs e2 e1
  have h3 : okE2 na xs e1 nb ys e2 = 0 ↔ okE2 nb ys e2 na xs e1 = 0 := by rw [okE2_zero, okE2_zero]; exact And.comm
  omega
/-- A sum goes either way round. -/
theorem add_comm_op (E : Nat) (na : Bool) (v1 : Nat) (e1 : Int) (nb : Bool) (v2 : Nat) (e2 : Int) :
    opE E (addZ na v1 e1 nb v2 e2) (lo2 e1 e2) = opE E (addZ nb v2 e2 na v1 e1) (lo2 e2 e1) ∧ opN E (addS na v1 e1 nb v2 e2) (addZ na v1 e1 nb v2 e2) (lo2 e1 e2) = opN E (addS nb v2 e2 na v1 e1) (addZ nb v2 e2 na v1 e1) (lo2 e2 e1) ∧
    opX E (addZ na v1 e1 nb v2 e2) (lo2 e1 e2) = opX E (addZ nb v2 e2 na v1 e1) (lo2 e2 e1) ∧ opZ E (addZ na v1 e1 nb v2 e2) (lo2 e1 e2) = opZ E (addZ nb v2 e2 na v1 e1) (lo2 e2 e1) := by
  have h1 : sg (addS na v1 e1 nb v2 e2) (addZ na v1 e1 nb v2 e2) = sg (addS nb v2 e2 na v1 e1) (addZ nb v2 e2 na v1 e1) := by
    unfold addS addZ
    rw [sg_sum, sg_sum, Int.add_comm]
  have h2 := (sg_inj h1).1
  have h3 : lo2 e1 e2 = lo2 e2 e1 := by unfold lo2; omega
  rw [h2] at h1 ⊢
  rw [h3]
  refine ⟨rfl, ?_, rfl, rfl⟩
  unfold opN
  rw [st_same h1]

/-- What is taken away again leaves what there was. -/
theorem sub_back {na nb : Bool} {xs ys : List Nat} {e1 e2 : Int} (hx : L32 xs) (hy : L32 ys) (h1 : okB na xs e1 = true) (h2 : okB nb ys e2 = true) {s : Bool} {Z : Nat} {lo : Int} (hs : s = addS na (val xs) e1 nb (val ys) e2) (hZ : Z = addZ na (val xs) e1 nb (val ys) e2) (hlo : lo = lo2 e1 e2) (h : stE Z lo = 0) {s' : Bool} {Z' : Nat} {lo' : Int}
    (hs' : s' = addS (stN s Z lo) (val (stZ Z lo)) (stX Z lo) (ops nb ys) (val ys) e2) (hZ' : Z' = addZ (stN s Z lo) (val (stZ Z lo)) (stX Z lo) (ops nb ys) (val ys) e2) (hlo' : lo' = lo2 (stX Z lo) e2) :
    okB (stN s Z lo) (stZ Z lo) (stX Z lo) = true ∧ stE Z' lo' = 0 ∧ stN s' Z' lo' = na ∧ stX Z' lo' = e1 ∧ stZ Z' lo' = xs := by
  obtain ⟨_, _, _, r1, _, _⟩ := okB_true hx h1
  obtain ⟨_, _, _, r2, _, _⟩ := okB_true hy h2
  have hlo2 : -5000 ≤ lo := by rw [hlo]; unfold lo2; omega
  obtain ⟨m1, m2, m3, _⟩ := settle_may (s := s) hlo2 h
  obtain ⟨_, _, _, r3, _, _⟩ := okB_true m2 m1
  refine ⟨m1, ?_⟩
  have hlo3 : -5000 ≤ lo' := by rw [hlo']; unfold lo2; omega
  refine settle_back hx h1 hlo3 ?_
  rw [hs', hZ', hlo', add_sv _ _ _ _ _ _ (by omega) (by omega), m3, ops_sv, hs, hZ, hlo, add_sv _ _ _ _ _ _ (by omega) (by omega)]
  omega

section
variable {S : Nat → Prop} {n m c d : Nat} {A B : Option Addr} {xs ys : List Nat}
theorem DAdd_v (na nb : Bool) (e1 e2 : Int) (w : World) (ha1 : Rd w S A n xs) (ha2 : Rd w S B m ys) (hS : ∀ b, S b → b < w.heap.size) (hn : n ≤ 9223372036854775807) (hm : m ≤ 9223372036854775807) :
    Calls Tryz.prog 15 #[dv na A n c e1, dv nb B m d e2] w fun e w' => Told e w' w.heap.size (okE2 na xs e1 nb ys e2) (addS na (val xs) e1 nb (val ys) e2) (addZ na (val xs) e1 nb (val ys) e2) (lo2 e1 e2) ∧ Below w.heap.size w w' := by
  refine (DAdd_c (c := c) (d := d) na nb e1 e2 (lo2 e1 e2) (p1 e1 e2) (p1 e2 e1) w ha1 ha2 hS hn hm rfl (by unfold p1 lo2; omega) (by unfold p1 lo2; omega) _ _ rfl rfl).mono ?_
  rintro e w' ⟨hbad, hgood, hb⟩
  exact ⟨told_of hbad hgood, hb⟩
theorem DSub_v (na nb : Bool) (e1 e2 : Int) (w : World) (ha1 : Rd w S A n xs) (ha2 : Rd w S B m ys) (hS : ∀ b, S b → b < w.heap.size) (hn : n ≤ 9223372036854775807) (hm : m ≤ 9223372036854775807) :
    Calls Tryz.prog 17 #[dv na A n c e1, dv nb B m d e2] w fun e w' => Told e w' w.heap.size (okE2 na xs e1 nb ys e2) (addS na (val xs) e1 (ops nb ys) (val ys) e2) (addZ na (val xs) e1 (ops nb ys) (val ys) e2) (lo2 e1 e2) ∧ Below w.heap.size w w' := by
  refine (DSub_w (c := c) (d := d) na nb e1 e2 (lo2 e1 e2) w ha1 ha2 hS hn hm ?_ (addZ na (val xs) e1 (ops nb ys) (val ys) e2) (addS na (val xs) e1 (ops nb ys) (val ys) e2) ?_).mono ?_
  · intro k1 k2
    obtain ⟨_, _, _, r1, _, _⟩ := okB_true ha1.l32 k1
    obtain ⟨_, _, _, r2, _, _⟩ := okB_true ha2.l32 k2
    unfold lo2
    omega
  · intro k1 k2 W hW m0 m1
    obtain ⟨a1, a2, a3, a4, _, _⟩ := okB_true ha1.l32 k1
    obtain ⟨b1, b2, b3, b4, _, _⟩ := okB_true ha2.l32 k2
    exact subf_c (c := c) (d := d) na nb e1 e2 (lo2 e1 e2) (p1 e1 e2) (p1 e2 e1) W m0 m1 (ha1.below hW hS) (ha2.below hW hS) (fun b h => by have := hS b h; have := hW.size; omega) a1 b1 (by rw [← ha1.len]; exact a2) (by rw [← ha2.len]; exact b2) a3 b3 a4 b4 rfl (by unfold p1 lo2; omega) (by unfold p1 lo2; omega) _ _ rfl rfl
  · rintro e w' ⟨hbad, hgood, hb⟩
    exact ⟨told_of hbad hgood, hb⟩
theorem DMul_v (na nb : Bool) (e1 e2 : Int) (w : World) (ha1 : Rd w S A n xs) (ha2 : Rd w S B m ys) (hS : ∀ b, S b → b < w.heap.size) (hn : n ≤ 9223372036854775807) (hm : m ≤ 9223372036854775807) :
    Calls Tryz.prog 19 #[dv na A n c e1, dv nb B m d e2] w fun e w' => Told e w' w.heap.size (okE2 na xs e1 nb ys e2) (na != nb) (val xs * val ys) (e1 + e2) ∧ Below w.heap.size w w' := by
  refine (DMul_w (c := c) (d := d) na nb e1 e2 (e1 + e2) w ha1 ha2 hS hn hm ?_ (val xs * val ys) (na != nb) ?_).mono ?_
  · intro k1 k2
    obtain ⟨_, _, _, r1, _, _⟩ := okB_true ha1.l32 k1
    obtain ⟨_, _, _, r2, _, _⟩ := okB_true ha2.l32 k2
    omega
  · intro k1 k2 W hW m0 m1
    obtain ⟨a1, a2, a3, a4, _, _⟩ := okB_true ha1.l32 k1
    obtain ⟨b1, b2, b3, b4, _, _⟩ := okB_true ha2.l32 k2
    exact mulf_c (c := c) (d := d) na nb e1 e2 W m0 m1 (ha1.below hW hS) (ha2.below hW hS) (fun b h => by have := hS b h; have := hW.size; omega) a1 b1 (by rw [← ha1.len]; exact a2) (by rw [← ha2.len]; exact b2) a3 b3 a4 b4
  · rintro e w' ⟨hbad, hgood, hb⟩
    exact ⟨told_of hbad hgood, hb⟩
end
end Go.Proofs.YtklpfgjnlheikaaGreatDoor

namespace Go.Proofs.YtklpfgjnlheikaaGreatDoor
open Go.RowKit

/-- An operation's answer, in letters. -/
def Answ (e : Ending) (w' : World) (base : Nat) (N : Bool) (X : Int) (Z : List Nat) (E : Nat) : Prop := ∃ A' n' c', e = .returned (.tuple #[dv N A' n' c' X, .int .i64 (E : Int)]) ∧ Res w' base A' n' c' Z
theorem Told.answ {e : Ending} {w' : World} {base E : Nat} {s : Bool} {Z : Nat} {lo : Int} (h : Told e w' base E s Z lo) {N : Bool} {X : Int} {L : List Nat} {F : Nat} (h1 : opN E s Z lo = N) (h2 : opX E Z lo = X) (h3 : opZ E Z lo = L) (h4 : opE E Z lo = F) : Answ e w' base N X L F := by
  subst h1 h2 h3 h4
  exact h

end Go.Proofs.YtklpfgjnlheikaaGreatDoor
