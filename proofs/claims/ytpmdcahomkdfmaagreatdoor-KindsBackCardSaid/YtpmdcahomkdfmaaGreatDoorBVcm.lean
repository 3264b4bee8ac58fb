/-
  Contract of the reference's Same.
  JSON's form of a number over octets; contracts of the reference's digit and Ends.
  Plain mathematics: a number's text in its parts, what its mantissa and its exponent tell. No Go.
  A law for the walk: 'append(a, b...)' of ints, a the call's own, b any slice that reads as numbers, nil or not.
  Contract of the reference's Parse.
  Contract of the reference's Parse, of texts that have the form.
  Contract of the reference's Parse, of any text.
  Contracts of the law's num and Of (of a text).
  Contract of dec.opposite: a decimal with the other sign, in memory of its own.
  Contracts of dec's compare and Compare: the order of two decimals.
  Decimals as whole numbers (times a power of ten): their order, their sums, and that each number has one decimal. Plain lemmas, no Go.
  Contracts of dec.Sub, of the function that it hands on, and of workOut with it.
  Contracts of dec.Mul, of the function that it hands on, and of workOut with it.
  Contract of the reference's Same: are two decimals one?
  What the walks of several laws share: words and lemmas (Dordb).
  The answers of dec's Add, Sub and Mul, in numbers, in one form each. Contracts in that form.
  What the walks of several laws share: words and lemmas (Dsumb).
  Contracts of the library's cmp.Compare and slices.Compare at this program: numbers, texts, rows of texts.
  Contract of value's compare: how two values that may be stand, as ordV tells of their trees.
  Contract of value's compare, by induction on the tree.
  Contract of value's Compare: the error of the first value that has one, else how they stand.
-/
import Derived.Test.YtpmdcahomkdfmaaGreatDoorBVord
import Derived.Deep.Cut
import Derived.Deep.CutRange
import Derived.Deep.CutBlock
import Derived.Test.YtpmdcahomkdfmaaGreatDoorBNparse
import Derived.Test.YtpmdcahomkdfmaaGreatDoorBDset
import Derived.Test.YtpmdcahomkdfmaaGreatDoorBNdig
import Derived.Laws.AppendOwnNone
import Derived.Test.YtpmdcahomkdfmaaGreatDoorBDintc
import Derived.Test.YtpmdcahomkdfmaaGreatDoorBNapi
import Derived.PlainAid
import Derived.Test.YtpmdcahomkdfmaaGreatDoorBNrefe
import Derived.Test.YtpmdcahomkdfmaaGreatDoorBNaddm
import Derived.Deep.AppendLies
import Derived.Deep.RegionHeld3
import Derived.Lib.ItoaNum
import Derived.Test.YtpmdcahomkdfmaaGreatDoorBVchk
import Derived.Deep.QuietTactic
import Derived.Maps.OwnIn
set_option linter.unusedVariables false
set_option linter.unusedSimpArgs false
namespace Go.Proofs.YtpmdcahomkdfmaaGreatDoor
open Go.RowKit

set_option maxRecDepth 100000 in
set_option maxHeartbeats 2000000 in
theorem DSame_c {S S' : Nat → Prop} {n m c d : Nat} {A B : Option Addr} {xs ys : List Nat} (na nb : Bool) (e1 e2 : Int) (w : World) (ha : Rd w S A n xs) (hb : Rd w S' B m ys) (hS : ∀ b, S b → b < w.heap.size) (hS' : ∀ b, S' b → b < w.heap.size) (hn : n ≤ 9223372036854775807) (hm : m ≤ 9223372036854775807) :
    Calls Tryz.prog 20 #[dv na A n c e1, dv nb B m d e2] w fun e w' => e = .returned (.bool (decide (na = nb ∧ e1 = e2 ∧ xs = ys))) ∧ Below w.heap.size w w' := by
  have hl1 := ha.len
  have hl2 := hb.len
  subst hl1 hl2
  unfold dv
  obtain ⟨r, hr⟩ : ∃ r, Hid (decide (na = nb ∧ e1 = e2 ∧ xs = ys) = r) := ⟨_, Lib.hid rfl⟩
  rw [hr.out]
  obtain ⟨m0, m1⟩ := two_new w (.cells #[.bool na, .slice A xs.length c, .int .i64 e1] 24) (.cells #[.bool nb, .slice B ys.length d, .int .i64 e2] 24)
  have hW : Below w.heap.size w ((w.alloc (.cells #[.bool na, .slice A xs.length c, .int .i64 e1] 24)).alloc (.cells #[.bool nb, .slice B ys.length d, .int .i64 e2] 24)) := ((Below.refl _ w).alloc (Nat.le_refl _) _).alloc (by simp) _
  by_cases h1 : na = nb
  · subst h1
    by_cases h2 : e1 = e2
    · subst h2
      by_cases h3 : xs.length = ys.length
      · have hne : ((xs.length : Int) != (ys.length : Int)) = false := by rw [h3]; simp
        have HL := Lib.hid h3
        clear h3
        go_enter Tryz.func20, Tryz.ntmps20
        go_upto_region 1 with fail
        generalize ((w.alloc (.cells #[.bool na, .slice A xs.length c, .int .i64 e1] 24)).alloc (.cells #[.bool na, .slice B ys.length d, .int .i64 e1] 24)) = W at m0 m1 hW ⊢
        have haW := ha.below hW hS
        have hbW := hb.below hW hS'
        have p0 : W.cell? ⟨w.heap.size, 0, none⟩ = some (.bool na) := cell_of m0 rfl
        have p1 : W.cell? ⟨w.heap.size, 1, none⟩ = some (.slice A xs.length c) := cell_of m0 rfl
        have p2 : W.cell? ⟨w.heap.size, 2, none⟩ = some (.int .i64 e1) := cell_of m0 rfl
        have p3 : W.cell? ⟨w.heap.size + 1, 0, none⟩ = some (.bool na) := cell_of m1 rfl
        have p4 : W.cell? ⟨w.heap.size + 1, 1, none⟩ = some (.slice B ys.length d) := cell_of m1 rfl
        have p5 : W.cell? ⟨w.heap.size + 1, 2, none⟩ = some (.int .i64 e1) := cell_of m1 rfl
        go_wp2
        go_loopw [5] (fun i wr => ∃ k q : Nat, k ≤ xs.length ∧ (∀ j, j < k → Hid (nth xs j = nth ys j)) ∧ i = .int .i64 (k : Int) ∧ wr = W.drewN q) (fun i _ => xs.length - (RowKit.intOf i).toNat)
        case atStart => exact ⟨0, 0, Nat.zero_le _, (fun j hj => absurd hj (by omega)), rfl, rfl⟩
        case round =>
          obtain ⟨k, q, hk, ht, rfl, rfl⟩ := hrel
          by_cases h0 : k = xs.length
          · have he : Hid (xs = ys) := by
              show _ = _
              apply List.ext_getElem HL.out
              intro i h1 h2
              have := (ht i (by omega)).out
              rwa [nth_get h1, nth_get h2] at this
            subst h0
            clear ht
            go_wp2
            go_ret
            obtain rfl : r = true := hr.out.symm.trans (decide_eq_true (by simpa using he.out))
            exact ⟨rfl, by first | exact below_drewN hW _ | (simp only [World.drewN_drewN]; exact below_drewN hW _)⟩
          · have hlt : k < xs.length := by omega
            obtain ⟨b1, o1, rfl, _, hc1⟩ := haW.at_ hlt
            obtain ⟨b2, o2, rfl, _, hc2⟩ := hbW.at_ (k := k) (by rw [← HL.out]; omega)
            have hj2 : (k : Int) < (ys.length : Int) := by rw [← HL.out]; omega
            by_cases heq : nth xs k = nth ys k
            · have ht2 : ∀ j, j < k + 1 → Hid (nth xs j = nth ys j) := fun j hj => by
                by_cases e : j = k
                · subst e; exact heq
                · exact ht j (by omega)
              have hbn : (((nth xs k : Nat) : Int) != ((nth ys k : Nat) : Int)) = false := by rw [heq]; simp
              clear ht heq
              have HT := Lib.hid ht2
              clear ht2
              go_wp2
              go_quiet (fail)
              go_wp2
              go_roundw
              case rel => exact ⟨k + 1, _, by omega, HT.out, by go_num, rfl⟩
              case measure => simp [RowKit.intOf]; omega
            · have he : Hid (¬ xs = ys) := fun e => heq (by rw [e])
              have hbn : (((nth xs k : Nat) : Int) != ((nth ys k : Nat) : Int)) = true := by rw [bne_iff_ne]; omega
              clear ht heq
              go_wp2
              go_quiet (fail)
              go_wp2
              go_ret
              obtain rfl : r = false := hr.out.symm.trans (decide_eq_false (fun h => he.out h.2.2))
              exact ⟨rfl, by first | exact below_drewN hW _ | (simp only [World.drewN_drewN]; exact below_drewN hW _)⟩
      · have hne : ((xs.length : Int) != (ys.length : Int)) = true := by rw [bne_iff_ne]; omega
        have HE : Hid (¬ xs = ys) := fun e => h3 (by rw [e])
        clear h3
        go_enter Tryz.func20, Tryz.ntmps20
        go_upto_region 1 with fail
        generalize ((w.alloc (.cells #[.bool na, .slice A xs.length c, .int .i64 e1] 24)).alloc (.cells #[.bool na, .slice B ys.length d, .int .i64 e1] 24)) = W at m0 m1 hW ⊢
        have p0 : W.cell? ⟨w.heap.size, 0, none⟩ = some (.bool na) := cell_of m0 rfl
        have p1 : W.cell? ⟨w.heap.size, 1, none⟩ = some (.slice A xs.length c) := cell_of m0 rfl
        have p2 : W.cell? ⟨w.heap.size, 2, none⟩ = some (.int .i64 e1) := cell_of m0 rfl
        have p3 : W.cell? ⟨w.heap.size + 1, 0, none⟩ = some (.bool na) := cell_of m1 rfl
        have p4 : W.cell? ⟨w.heap.size + 1, 1, none⟩ = some (.slice B ys.length d) := cell_of m1 rfl
        have p5 : W.cell? ⟨w.heap.size + 1, 2, none⟩ = some (.int .i64 e1) := cell_of m1 rfl
        go_wp2
        go_ret
        obtain rfl : r = false := hr.out.symm.trans (decide_eq_false (fun h => HE.out h.2.2))
        exact ⟨rfl, hW⟩
    · have hne : (e1 != e2) = true := by rw [bne_iff_ne]; exact h2
      have HE := Lib.hid h2
      clear h2
      go_enter Tryz.func20, Tryz.ntmps20
      go_upto_region 1 with fail
      generalize ((w.alloc (.cells #[.bool na, .slice A xs.length c, .int .i64 e1] 24)).alloc (.cells #[.bool na, .slice B ys.length d, .int .i64 e2] 24)) = W at m0 m1 hW ⊢
      have p0 : W.cell? ⟨w.heap.size, 0, none⟩ = some (.bool na) := cell_of m0 rfl
      have p2 : W.cell? ⟨w.heap.size, 2, none⟩ = some (.int .i64 e1) := cell_of m0 rfl
      have p3 : W.cell? ⟨w.heap.size + 1, 0, none⟩ = some (.bool na) := cell_of m1 rfl
      have p5 : W.cell? ⟨w.heap.size + 1, 2, none⟩ = some (.int .i64 e2) := cell_of m1 rfl
      go_wp2
      go_ret
      obtain rfl : r = false := hr.out.symm.trans (decide_eq_false (fun h => HE.out h.2.1))
      exact ⟨rfl, hW⟩
  · have hne : (na != nb) = true := by rw [bne_iff_ne]; exact h1
    have HE := Lib.hid h1
    clear h1
    go_enter Tryz.func20, Tryz.ntmps20
    go_upto_region 1 with fail
    generalize ((w.alloc (.cells #[.bool na, .slice A xs.length c, .int .i64 e1] 24)).alloc (.cells #[.bool nb, .slice B ys.length d, .int .i64 e2] 24)) = W at m0 m1 hW ⊢
    have p0 : W.cell? ⟨w.heap.size, 0, none⟩ = some (.bool na) := cell_of m0 rfl
    have p3 : W.cell? ⟨w.heap.size + 1, 0, none⟩ = some (.bool nb) := cell_of m1 rfl
    go_wp2
    go_ret
    obtain rfl : r = false := hr.out.symm.trans (decide_eq_false (fun h => HE.out h.1))
    exact ⟨rfl, hW⟩
end Go.Proofs.YtpmdcahomkdfmaaGreatDoor

namespace Go.Proofs.YtpmdcahomkdfmaaGreatDoor
open Go.RowKit

/-- Where the digits that begin at a place end. -/
def dEnd (xs : List Nat) (k : Nat) : Nat := k + ((xs.drop k).takeWhile isDig).length
/-- The parts of the form: where each ends, if it may stand there. -/
def fSgn (xs : List Nat) : Nat := if nth xs 0 = 45 then 1 else 0
def fWhole (xs : List Nat) (k : Nat) : Option Nat := if isDig (nth xs k) = true then some (if nth xs k = 48 then k + 1 else dEnd xs k) else none
def fFrac (xs : List Nat) (k : Nat) : Option Nat := if nth xs k = 46 then (if isDig (nth xs (k + 1)) = true then some (dEnd xs (k + 1)) else none) else some k
def fSg (xs : List Nat) (k : Nat) : Nat := if nth xs k = 43 ∨ nth xs k = 45 then k + 1 else k
def fPow (xs : List Nat) (k : Nat) : Option Nat := if nth xs k = 101 ∨ nth xs k = 69 then (if isDig (nth xs (fSg xs (k + 1))) = true then some (dEnd xs (fSg xs (k + 1))) else none) else some k
def form (xs : List Nat) : Option Nat := (fWhole xs (fSgn xs)).bind fun k => (fFrac xs k).bind (fPow xs)

end Go.Proofs.YtpmdcahomkdfmaaGreatDoor

namespace Go.Proofs.YtpmdcahomkdfmaaGreatDoor

/-- The mantissa, octet by octet: digits (the lowest first), the point seen, digits behind it. -/
def mstep (st : List Nat × Bool × Nat) (c : Nat) : List Nat × Bool × Nat :=
  if c = 46 then (st.1, true, st.2.2) else if c = 45 then st else ((c - 48) :: st.1, st.2.1, if st.2.1 = true then st.2.2 + 1 else st.2.2)
def mfold (xs : List Nat) : List Nat × Bool × Nat := xs.foldl mstep ([], false, 0)
/-- The exponent, octet by octet. -/
def pstep (st : Bool × Nat) (c : Nat) : Bool × Nat := if c = 45 then (true, st.2) else if c = 43 then st else (st.1, st.2 * 10 + (c - 48))
def pfold (xs : List Nat) : Bool × Nat := xs.foldl pstep (false, 0)
end Go.Proofs.YtpmdcahomkdfmaaGreatDoor


namespace Go.Proofs.YtpmdcahomkdfmaaGreatDoor
open Go.RowKit

/-- The octets ahead of the exponent. -/
def cutE (xs : List Nat) : List Nat := xs.takeWhile (fun c => decide (c ≠ 101 ∧ c ≠ 69))
def tMan (xs : List Nat) : List Nat × Bool × Nat := mfold (cutE xs)
def tPow (xs : List Nat) : Bool × Nat := pfold (xs.drop ((cutE xs).length + 1))
def tNeg (xs : List Nat) : Bool := nth xs 0 == 45
def tVal (xs : List Nat) : Nat := dval (tMan xs).1
def tExp (xs : List Nat) : Int := (if (tPow xs).1 = true then -((tPow xs).2 : Int) else ((tPow xs).2 : Int)) - ((tMan xs).2.2 : Int)
end Go.Proofs.YtpmdcahomkdfmaaGreatDoor

namespace Go.Proofs.YtpmdcahomkdfmaaGreatDoor
open Go.RowKit

/-- What a text tells, settled. -/
def gE (xs : List Nat) : Nat := if 1000000 ≤ (tPow xs).2 then 52 else stE (tVal xs) (tExp xs)
def gN (xs : List Nat) : Bool := if 1000000 ≤ (tPow xs).2 then false else stN (tNeg xs) (tVal xs) (tExp xs)
def gX (xs : List Nat) : Int := if 1000000 ≤ (tPow xs).2 then 0 else stX (tVal xs) (tExp xs)
def gZ (xs : List Nat) : List Nat := if 1000000 ≤ (tPow xs).2 then [] else stZ (tVal xs) (tExp xs)
end Go.Proofs.YtpmdcahomkdfmaaGreatDoor

namespace Go.Proofs.YtpmdcahomkdfmaaGreatDoor
open Go.RowKit

/-- What any text tells. -/
def fGood (xs : List Nat) : Prop := form xs = some xs.length ∧ xs.length ≤ 2000
instance (xs : List Nat) : Decidable (fGood xs) := inferInstanceAs (Decidable (_ ∧ _))
def fE (xs : List Nat) : Nat := if fGood xs then gE xs else if form xs = some xs.length then 5 else 32
def fN (xs : List Nat) : Bool := if fGood xs then gN xs else false
def fX (xs : List Nat) : Int := if fGood xs then gX xs else 0
def fZ (xs : List Nat) : List Nat := if fGood xs then gZ xs else []

end Go.Proofs.YtpmdcahomkdfmaaGreatDoor

namespace Go.Proofs.YtpmdcahomkdfmaaGreatDoor
open Go.RowKit

/-- The sign of the opposite. -/
def ops (nb : Bool) (ys : List Nat) : Bool := !nb && decide (ys ≠ [])

end Go.Proofs.YtpmdcahomkdfmaaGreatDoor



namespace Go.Proofs.YtpmdcahomkdfmaaGreatDoor
open Go.RowKit

def p1 (e1 e2 : Int) : Nat := (e1 - min e1 e2).toNat
section
variable {S : Nat → Prop} {n m c d : Nat} {A B : Option Addr} {xs ys : List Nat}
end
end Go.Proofs.YtpmdcahomkdfmaaGreatDoor



namespace Go.Proofs.YtpmdcahomkdfmaaGreatDoor
open Go.RowKit Go.Lib

theorem size_list {k : Int} {n : Bool} {x : List Nat} {e : Int} {t : ByteArray} {l : List VT} {ks : List ByteArray} {y : VT} (h : y ∈ l) : SizeOf.sizeOf y < SizeOf.sizeOf (VT.mk k n x e t l ks) := by
  have := List.sizeOf_lt_of_mem h
  simp
  omega
end Go.Proofs.YtpmdcahomkdfmaaGreatDoor

namespace Go.Proofs.YtpmdcahomkdfmaaGreatDoor
open Go.RowKit

theorem VIn.l32 {w : World} {S : Nat → Prop} {x : VT} {cs : List Value} (h : VIn w S x cs) : ∀ y ∈ partsV x, L32 y.num := by
  induction h with
  | @mk k neg xs e t l ks A LA KA n c ln lc kn kc cs hr hn ht hks hkn hl hln hlc hrow hall ih =>
    intro y hy
    rcases mem_parts.1 hy with rfl | ⟨z, hz, hyz⟩
    · exact hr.l32
    · rw [inner_mk] at hz
      split at hz
      · obtain ⟨i, hi⟩ := List.mem_iff_getElem?.1 hz
        exact ih i z hi y hyz
      · simp at hz
end Go.Proofs.YtpmdcahomkdfmaaGreatDoor
