/-
  Contract of the reference's Same.
  Contract of dec.opposite: a decimal with the other sign, in memory of its own.
  Contracts of dec's compare and Compare: the order of two decimals.
  Decimals as whole numbers (times a power of ten): their order, their sums, and that each number has one decimal. Plain lemmas, no Go.
  Contracts of dec.Sub, of the function that it hands on, and of workOut with it.
  Contracts of dec.Mul, of the function that it hands on, and of workOut with it.
  Contract of the reference's Same: are two decimals one?
  What the walks of several laws share: words and lemmas (Dordb).
  The answers of dec's Add, Sub and Mul, in numbers, in one form each. Contracts in that form.
  What the walks of several laws share: words and lemmas (Dsumb).
  Contracts of the library's cmp.Compare and slices.Compare at this program: numbers, texts, rows of texts.
  Contract of value's compare: how two values that may be stand, as ordV tells of their trees.
  Contract of value's compare, by induction on the tree.
  Contract of value's Compare: the error of the first value that has one, else how they stand.
  A slice appended to nil: a copy in memory of the call's own, of whatever elements. Contract of value's fresh.
  Contract of value's fresh: a value in memory of its own, but for the values that it holds.
  Words for a tree that is copied row by row: what a row awaits, and what stays while rows are filled in. No function's contract.
  What holds between the rounds of value.copiedWithin, and how a round keeps it. No function's contract.
  Contract of value's copiedWithin: a value in memory of its own, whole where there is room.
  Contracts of value's copied, Text, Number and List: values in memory of their own.
-/
import Derived.Test.YtpjllcengnolkaaGreatDoorPDpar
import Derived.Deep.Cut
import Derived.Test.YtpjllcengnolkaaGreatDoorPDop
import Derived.Test.YtpjllcengnolkaaGreatDoorPNapi
import Derived.PlainAid
import Derived.Test.YtpjllcengnolkaaGreatDoorPDa
import Derived.Test.YtpjllcengnolkaaGreatDoorPPow
import Derived.Deep.AppendLies
import Derived.Deep.RegionHeld3
import Derived.Test.YtpjllcengnolkaaGreatDoorPVord
import Derived.Deep.QuietTactic
import Derived.Maps.OwnIn
import Derived.Laws.AppendOwnNone
import Derived.Maps.AppendAt
import Derived.Deep.RegionWith
import Derived.BigQuiet
import Derived.Deep.LoopGhost
set_option linter.unusedVariables false
set_option linter.unusedSimpArgs false
namespace Go.Proofs.YtpjllcengnolkaaGreatDoor
open Go.RowKit

set_option maxRecDepth 100000 in
set_option maxHeartbeats 2000000 in
theorem DSame_c {S S' : Nat → Prop} {n m c d : Nat} {A B : Option Addr} {xs ys : List Nat} (na nb : Bool) (e1 e2 : Int) (w : World) (ha : Rd w S A n xs) (hb : Rd w S' B m ys) (hS : ∀ b, S b → b < w.heap.size) (hS' : ∀ b, S' b → b < w.heap.size) (hn : n ≤ 9223372036854775807) (hm : m ≤ 9223372036854775807) :
    Calls Tryz.prog 22 #[dv na A n c e1, dv nb B m d e2] w fun e w' => e = .returned (.bool (decide (na = nb ∧ e1 = e2 ∧ xs = ys))) ∧ Below w.heap.size w w' := by
  have hl1 := ha.len
  have hl2 := hb.len
  subst hl1 hl2
  unfold dv
  obtain ⟨r, hr⟩ : ∃ r, Hid (decide (na = nb ∧ e1 = e2 ∧ xs = ys) = r) := ⟨_, Lib.hid rfl⟩
  rw [hr.out]
  obtain ⟨m0, m1⟩ := two_new w (.cells #[.bool na, .slice A xs.length c, .int .i64 e1] 31) (.cells #[.bool nb, .slice B ys.length d, .int .i64 e2] 31)
  have hW : Below w.heap.size w ((w.alloc (.cells #[.bool na, .slice A xs.length c, .int .i64 e1] 31)).alloc (.cells #[.bool nb, .slice B ys.length d, .int .i64 e2] 31)) := ((Below.refl _ w).alloc (Nat.le_refl _) _).alloc (by simp) _
  by_cases h1 : na = nb
  · subst h1
    by_cases h2 : e1 = e2
    · subst h2
      by_cases h3 : xs.length = ys.length
      · have hne : ((xs.length : Int) != (ys.length : Int)) = false := by rw [h3]; simp
        have HL := Lib.hid h3
        clear h3
        go_enter Tryz.func22, Tryz.ntmps22
        go_upto_region 1 with fail
        generalize ((w.alloc (.cells #[.bool na, .slice A xs.length c, .int .i64 e1] 31)).alloc (.cells #[.bool na, .slice B ys.length d, .int .i64 e1] 31)) = W at m0 m1 hW ⊢
        have haW := ha.below hW hS
        have hbW := hb.below hW hS'
        have p0 : W.cell? ⟨w.heap.size, 0, none⟩ = some (.bool na) := cell_of m0 rfl
        have p1 : W.cell? ⟨w.heap.size, 1, none⟩ = some (.slice A xs.length c) := cell_of m0 rfl
        have p2 : W.cell? ⟨w.heap.size, 2, none⟩ = some (.int .i64 e1) := cell_of m0 rfl
        have p3 : W.cell? ⟨w.heap.size + 1, 0, none⟩ = some (.bool na) := cell_of m1 rfl
        have p4 : W.cell? ⟨w.heap.size + 1, 1, none⟩ = some (.slice B ys.length d) := cell_of m1 rfl
        have p5 : W.cell? ⟨w.heap.size + 1, 2, none⟩ = some (.int .i64 e1) := cell_of m1 rfl
        go_wp2
        go_loopw [5] (fun i wr => ∃ k q : Nat, k ≤ xs.length ∧ (∀ j, j < k → Hid (nth xs j = nth ys j)) ∧ i = .int .i64 (k : Int) ∧ wr = W.drewN q) (fun i _ => xs.length - (intOf i).toNat)
        case atStart => exact ⟨0, 0, Nat.zero_le _, (fun j hj => absurd hj (by omega)), rfl, rfl⟩
        case round =>
          obtain ⟨k, q, hk, ht, rfl, rfl⟩ := hrel
          by_cases h0 : k = xs.length
          · have he : Hid (xs = ys) := by
              show _ = _
              apply List.ext_getElem HL.out
              intro i h1 h2
              have := (ht i (by omega)).out
              rwa [nth_get h1, nth_get h2] at this
            subst h0
            clear ht
            go_wp2
            go_ret
            obtain rfl : r = true := hr.out.symm.trans (decide_eq_true (by simpa using he.out))
            exact ⟨rfl, by first | exact below_drewN hW _ | (simp only [World.drewN_drewN]; exact below_drewN hW _)⟩
          · have hlt : k < xs.length := by omega
            obtain ⟨b1, o1, rfl, _, hc1⟩ := haW.at_ hlt
            obtain ⟨b2, o2, rfl, _, hc2⟩ := hbW.at_ (k := k) (by rw [← HL.out]; omega)
            have hj2 : (k : Int) < (ys.length : Int) := by rw [← HL.out]; omega
            by_cases heq : nth xs k = nth ys k
            · have ht2 : ∀ j, j < k + 1 → Hid (nth xs j = nth ys j) := fun j hj => by
                by_cases e : j = k
                · subst e; exact heq
                · exact ht j (by omega)
              have hbn : (((nth xs k : Nat) : Int) != ((nth ys k : Nat) : Int)) = false := by rw [heq]; simp
              clear ht heq
              have HT := Lib.hid ht2
              clear ht2
              go_wp2
              go_quiet (fail)
              go_wp2
              go_roundw
              case rel => exact ⟨k + 1, _, by omega, HT.out, by go_num, rfl⟩
              case measure => simp [intOf]; omega
            · have he : Hid (¬ xs = ys) := fun e => heq (by rw [e])
              have hbn : (((nth xs k : Nat) : Int) != ((nth ys k : Nat) : Int)) = true := by rw [bne_iff_ne]; omega
              clear ht heq
              go_wp2
              go_quiet (fail)
              go_wp2
              go_ret
              obtain rfl : r = false := hr.out.symm.trans (decide_eq_false (fun h => he.out h.2.2))
              exact ⟨rfl, by first | exact below_drewN hW _ | (simp only [World.drewN_drewN]; exact below_drewN hW _)⟩
      · have hne : ((xs.length : Int) != (ys.length : Int)) = true := by rw [bne_iff_ne]; omega
        have HE : Hid (¬ xs = ys) := fun e => h3 (by rw [e])
        clear h3
        go_enter Tryz.func22, Tryz.ntmps22
        go_upto_region 1 with fail
        generalize ((w.alloc (.cells #[.bool na, .slice A xs.length c, .int .i64 e1] 31)).alloc (.cells #[.bool na, .slice B ys.length d, .int .i64 e1] 31)) = W at m0 m1 hW ⊢
        have p0 : W.cell? ⟨w.heap.size, 0, none⟩ = some (.bool na) := cell_of m0 rfl
        have p1 : W.cell? ⟨w.heap.size, 1, none⟩ = some (.slice A xs.length c) := cell_of m0 rfl
        have p2 : W.cell? ⟨w.heap.size, 2, none⟩ = some (.int .i64 e1) := cell_of m0 rfl
        have p3 : W.cell? ⟨w.heap.size + 1, 0, none⟩ = some (.bool na) := cell_of m1 rfl
        have p4 : W.cell? ⟨w.heap.size + 1, 1, none⟩ = some (.slice B ys.length d) := cell_of m1 rfl
        have p5 : W.cell? ⟨w.heap.size + 1, 2, none⟩ = some (.int .i64 e1) := cell_of m1 rfl
        go_wp2
        go_ret
        obtain rfl : r = false := hr.out.symm.trans (decide_eq_false (fun h => HE.out h.2.2))
        exact ⟨rfl, hW⟩
    · have hne : (e1 != e2) = true := by rw [bne_iff_ne]; exact h2
      have HE := Lib.hid h2
      clear h2
      go_enter Tryz.func22, Tryz.ntmps22
      go_upto_region 1 with fail
      generalize ((w.alloc (.cells #[.bool na, .slice A xs.length c, .int .i64 e1] 31)).alloc (.cells #[.bool na, .slice B ys.length d, .int .i64 e2] 31)) = W at m0 m1 hW ⊢
      have p0 : W.cell? ⟨w.heap.size, 0, none⟩ = some (.bool na) := cell_of m0 rfl
      have p2 : W.cell? ⟨w.heap.size, 2, none⟩ = some (.int .i64 e1) := cell_of m0 rfl
      have p3 : W.cell? ⟨w.heap.size + 1, 0, none⟩ = some (.bool na) := cell_of m1 rfl
      have p5 : W.cell? ⟨w.heap.size + 1, 2, none⟩ = some (.int .i64 e2) := cell_of m1 rfl
      go_wp2
      go_ret
      obtain rfl : r = false := hr.out.symm.trans (decide_eq_false (fun h => HE.out h.2.1))
      exact ⟨rfl, hW⟩
  · have hne : (na != nb) = true := by rw [bne_iff_ne]; exact h1
    have HE := Lib.hid h1
    clear h1
    go_enter Tryz.func22, Tryz.ntmps22
    go_upto_region 1 with fail
    generalize ((w.alloc (.cells #[.bool na, .slice A xs.length c, .int .i64 e1] 31)).alloc (.cells #[.bool nb, .slice B ys.length d, .int .i64 e2] 31)) = W at m0 m1 hW ⊢
    have p0 : W.cell? ⟨w.heap.size, 0, none⟩ = some (.bool na) := cell_of m0 rfl
    have p3 : W.cell? ⟨w.heap.size + 1, 0, none⟩ = some (.bool nb) := cell_of m1 rfl
    go_wp2
    go_ret
    obtain rfl : r = false := hr.out.symm.trans (decide_eq_false (fun h => HE.out h.1))
    exact ⟨rfl, hW⟩
end Go.Proofs.YtpjllcengnolkaaGreatDoor

namespace Go.Proofs.YtpjllcengnolkaaGreatDoor
open Go.RowKit

/-- The sign of the opposite. -/
def ops (nb : Bool) (ys : List Nat) : Bool := !nb && decide (ys ≠ [])

end Go.Proofs.YtpjllcengnolkaaGreatDoor

namespace Go.Proofs.YtpjllcengnolkaaGreatDoor
open Go.RowKit

def p1 (e1 e2 : Int) : Nat := (e1 - min e1 e2).toNat
section
variable {S : Nat → Prop} {n m c d : Nat} {A B : Option Addr} {xs ys : List Nat}
end
end Go.Proofs.YtpjllcengnolkaaGreatDoor

namespace Go.Proofs.YtpjllcengnolkaaGreatDoor
open Go.RowKit Go.Lib

theorem size_list {k : Int} {n : Bool} {x : List Nat} {e : Int} {t : ByteArray} {l : List VT} {ks : List ByteArray} {y : VT} (h : y ∈ l) : SizeOf.sizeOf y < SizeOf.sizeOf (VT.mk k n x e t l ks) := by
  have := List.sizeOf_lt_of_mem h
  simp
  omega
end Go.Proofs.YtpjllcengnolkaaGreatDoor

namespace Go.Proofs.YtpjllcengnolkaaGreatDoor
open Go.RowKit

theorem VIn.l32 {w : World} {S : Nat → Prop} {x : VT} {cs : List Value} (h : VIn w S x cs) : ∀ y ∈ partsV x, L32 y.num := by
  induction h with
  | @mk k neg xs e t l ks A LA KA n c ln lc kn kc cs hr hn ht hks hkn hl hln hlc hrow hall ih =>
    intro y hy
    rcases mem_parts.1 hy with rfl | ⟨z, hz, hyz⟩
    · exact hr.l32
    · rw [inner_mk] at hz
      split at hz
      · obtain ⟨i, hi⟩ := List.mem_iff_getElem?.1 hz
        exact ih i z hi y hyz
      · simp at hz
end Go.Proofs.YtpjllcengnolkaaGreatDoor

namespace Go.Proofs.YtpjllcengnolkaaGreatDoor
open Go.RowKit

theorem infoV7 : (Tryz.prog.info? 34).map (fun i => (i.zero, i.size, i.bytes)) = some (some (.agg #[.int .i64 0, .bool false, .slice none 0 0, .int .i64 0, .string ⟨#[]⟩, .slice none 0 0, .slice none 0 0]), 7, 112) := by kernel_rfl
end Go.Proofs.YtpjllcengnolkaaGreatDoor

namespace Go.Proofs.YtpjllcengnolkaaGreatDoor
open Go.RowKit Go.Lib

/-- Texts as cells. -/
def strs (ks : List ByteArray) : List Value := ks.map .string
theorem RdT.cells {w : World} {S : Nat → Prop} {A : Option Addr} {n : Nat} {ks : List ByteArray} (h : RdT w S A n ks) : 0 < n → ∃ b off, A = some ⟨b, off, none⟩ ∧ ∀ j u, (strs ks)[j]? = some u → w.cell? ⟨b, off + j, none⟩ = some u := fun h0 => by
  obtain ⟨b, off, e, _, h2⟩ := h.2 h0
  refine ⟨b, off, e, fun j u hj => ?_⟩
  unfold strs at hj
  rw [List.getElem?_map, Option.map_eq_some_iff] at hj
  obtain ⟨s, hs, rfl⟩ := hj
  exact (h2 j s hs).1
theorem own_mono {w : World} {base base' : Nat} {e : TypeId} {size : Nat} {v : Value} {n : Nat} {xs : List Value} (h : w.ownsRow base e size v n xs) (hb : base' ≤ base) : w.ownsRow base' e size v n xs :=
  ⟨h.1, h.2.imp id fun ⟨g, cap, cur, e1, e2, e3⟩ => ⟨g, cap, cur, e1, Nat.le_trans hb e2, e3⟩⟩
end Go.Proofs.YtpjllcengnolkaaGreatDoor

namespace Go.Proofs.YtpjllcengnolkaaGreatDoor
open Go.RowKit

mutual
/-- How many values stand in a value, whatever its kind. -/
def under : VT → Nat
  | .mk _ _ _ _ _ l _ => underL l
def underL : List VT → Nat
  | [] => 0
  | a :: r => 1 + under a + underL r
end
/-- A row of values that is to be filled in: its slice, and the trees that it holds. -/
structure Row where
  A : Option Addr
  n : Nat
  c : Nat
  l : List VT
def Row.val (r : Row) : Value := .slice r.A r.n r.c
/-- The block of a row that holds something. -/
def Row.at (r : Row) (b : Nat) : Prop := 0 < r.n ∧ r.A = some ⟨b, 0, none⟩
/-- What stands under the values of a row. -/
def unL : List VT → Nat
  | [] => 0
  | a :: r => under a + unL r
def need (st : List Row) : Nat := (st.map fun r => unL r.l).sum
theorem VIn.one {w : World} {S : Nat → Prop} {x : VT} {cs : List Value} (h : VIn w S x cs) : cs.length = 7 ∧ ∀ u ∈ cs, u.oneCell' = true := by
  cases h with
  | mk => exact ⟨rfl, by intro u hu; simp only [List.mem_cons, List.not_mem_nil, or_false] at hu; rcases hu with rfl | rfl | rfl | rfl | rfl | rfl | rfl <;> rfl⟩
/-- A row's cells, one behind the other. -/
theorem RdL.flat {w : World} {S : Nat → Prop} {A : Option Addr} {n : Nat} {l : List VT} (h : RdL w S A n l) :
    ∃ (cv : List Value) (cs : Nat → List Value), cv.length = n * 7 ∧ (∀ i, i < n → (cs i).length = 7 ∧ ∀ j, j < 7 → cv[i * 7 + j]? = (cs i)[j]?) ∧ (0 < n → ∃ b off, A = some ⟨b, off, none⟩ ∧ S b ∧ ∀ j u, cv[j]? = some u → w.cell? ⟨b, off + j, none⟩ = some u) ∧ (∀ u ∈ cv, u.oneCell' = true) ∧ ∀ i x, l[i]? = some x → VIn w S x (cs i) := by
  obtain ⟨h1, _, cs, h3, h4⟩ := h
  have hlen : ∀ i, i < n → (cs i).length = 7 := fun i hi => (h4 i _ (List.getElem?_eq_getElem (by omega))).one.1
  have hcv : ∀ i j, i < n → j < 7 → ((List.range (n * 7)).map fun q => ((cs (q / 7))[q % 7]?).getD undef)[i * 7 + j]? = (cs i)[j]? := fun i j hi hj => by
    have hl := hlen i hi
    rw [List.getElem?_map, List.getElem?_range (by omega)]
    have e1 : (i * 7 + j) / 7 = i := by omega
    have e2 : (i * 7 + j) % 7 = j := by omega
    simp only [Option.map_some, e1, e2]
    rw [List.getElem?_eq_getElem (by omega)]; rfl
  have hat : ∀ q u, ((List.range (n * 7)).map fun q => ((cs (q / 7))[q % 7]?).getD undef)[q]? = some u → q / 7 < n ∧ q % 7 < 7 ∧ (cs (q / 7))[q % 7]? = some u := fun q u hq => by
    have hlt : q < n * 7 := by have := (List.getElem?_eq_some_iff.1 hq).1; simpa using this
    have e0 : q / 7 * 7 + q % 7 = q := by omega
    have h5 := hcv (q / 7) (q % 7) (by omega) (by omega)
    rw [e0, hq] at h5
    exact ⟨by omega, by omega, h5.symm⟩
  refine ⟨_, cs, by simp, fun i hi => ⟨hlen i hi, fun j hj => hcv i j hi hj⟩, fun h0 => ?_, fun u hu => ?_, h4⟩
  · obtain ⟨b, off, e, hS, h5⟩ := h3 h0
    refine ⟨b, off, e, hS, fun q u hq => ?_⟩
    obtain ⟨a1, a2, a3⟩ := hat q u hq
    have := (h5 (q / 7) a1).2 (q % 7) a2
    rw [show q / 7 * 7 + q % 7 = q by omega] at this
    rw [this, a3]
  · obtain ⟨q, hq⟩ := List.mem_iff_getElem?.1 hu
    obtain ⟨a1, a2, a3⟩ := hat q u hq
    exact (h4 (q / 7) _ (List.getElem?_eq_getElem (by omega))).one.2 u (List.mem_of_getElem? a3)
end Go.Proofs.YtpjllcengnolkaaGreatDoor
