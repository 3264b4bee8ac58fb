/-
  Contract of the reference's Same.
  Contract of dec.opposite: a decimal with the other sign, in memory of its own.
  Contracts of dec's compare and Compare: the order of two decimals.
  Decimals as whole numbers (times a power of ten): their order, their sums, and that each number has one decimal. Plain lemmas, no Go.
  Contracts of dec.Sub, of the function that it hands on, and of workOut with it.
  Contracts of dec.Mul, of the function that it hands on, and of workOut with it.
  Contract of the reference's Same: are two decimals one?
  What the walks of several laws share: words and lemmas (Dordb).
  The answers of dec's Add, Sub and Mul, in numbers, in one form each. Contracts in that form.
  What the walks of several laws share: words and lemmas (Dsumb).
  Contracts of the library's cmp.Compare and slices.Compare at this program: numbers, texts, rows of texts.
  Contract of value's compare: how two values that may be stand, as ordV tells of their trees.
  Contract of value's compare, by induction on the tree.
  Contract of value's Compare: the error of the first value that has one, else how they stand.
  A slice appended to nil: a copy in memory of the call's own, of whatever elements. Contract of value's fresh.
  Contract of value's fresh: a value in memory of its own, but for the values that it holds.
  Words for a tree that is copied row by row: what a row awaits, and what stays while rows are filled in. No function's contract.
  What holds between the rounds of value.copiedWithin, and how a round keeps it. No function's contract.
  Contract of value's copiedWithin: a value in memory of its own, whole where there is room.
  Contracts of value's copied, Text, Number and List: values in memory of their own.
  The map of the last places at which a key stands, as a datum. Pure.
  A value that may be has no more under it than Check counts. Pure.
  The keys of an object that is made, each once, and the value that stands last with each. Pure.
  Contract of value's Object: each key once, rising, with the last value that stands with it.
-/
import Derived.Test.YtpjllcengnolkaaGreatDoorMDpar
import Derived.Deep.Cut
import Derived.Test.YtpjllcengnolkaaGreatDoorMDop
import Derived.Test.YtpjllcengnolkaaGreatDoorMNapi
import Derived.PlainAid
import Derived.Test.YtpjllcengnolkaaGreatDoorMDa
import Derived.Test.YtpjllcengnolkaaGreatDoorMPow
import Derived.Deep.AppendLies
import Derived.Deep.RegionHeld3
import Derived.Test.YtpjllcengnolkaaGreatDoorMDsgn
import Derived.Test.YtpjllcengnolkaaGreatDoorMVprt
import Derived.Sort.Walk0
import Derived.Deep.QuietTactic
import Derived.Maps.OwnIn
import Derived.Laws.AppendOwnNone
import Derived.Maps.AppendAt
import Derived.Deep.RegionWith
import Derived.BigQuiet
import Derived.Deep.LoopGhost
import Derived.Maps.OwnOps
import Derived.Maps.OwnSet
import Derived.Sort.KeysCollected
import Derived.Test.YtpjllcengnolkaaGreatDoorIter
set_option linter.unusedVariables false
set_option linter.unusedSimpArgs false
namespace Go.Proofs.YtpjllcengnolkaaGreatDoor
open Go.RowKit

set_option maxRecDepth 100000 in
set_option maxHeartbeats 2000000 in
theorem DSame_c {S S' : Nat → Prop} {n m c d : Nat} {A B : Option Addr} {xs ys : List Nat} (na nb : Bool) (e1 e2 : Int) (w : World) (ha : Rd w S A n xs) (hb : Rd w S' B m ys) (hS : ∀ b, S b → b < w.heap.size) (hS' : ∀ b, S' b → b < w.heap.size) (hn : n ≤ 9223372036854775807) (hm : m ≤ 9223372036854775807) :
    Calls Tryz.prog 22 #[dv na A n c e1, dv nb B m d e2] w fun e w' => e = .returned (.bool (decide (na = nb ∧ e1 = e2 ∧ xs = ys))) ∧ Below w.heap.size w w' := by
  have hl1 := ha.len
  have hl2 := hb.len
  subst hl1 hl2
  unfold dv
  obtain ⟨r, hr⟩ : ∃ r, Hid (decide (na = nb ∧ e1 = e2 ∧ xs = ys) = r) := ⟨_, Lib.hid rfl⟩
  rw [hr.out]
  obtain ⟨m0, m1⟩ := two_new w (.cells #[.bool na, .slice A xs.length c, .int .i64 e1] 31) (.cells #[.bool nb, .slice B ys.length d, .int .i64 e2] 31)
  have hW : Below w.heap.size w ((w.alloc (.cells #[.bool na, .slice A xs.length c, .int .i64 e1] 31)).alloc (.cells #[.bool nb, .slice B ys.length d, .int .i64 e2] 31)) := ((Below.refl _ w).alloc (Nat.le_refl _) _).alloc (by simp) _
  by_cases h1 : na = nb
  · subst h1
    by_cases h2 : e1 = e2
    · subst h2
      by_cases h3 : xs.length = ys.length
      · have hne : ((xs.length : Int) != (ys.length : Int)) = false := by rw [h3]; simp
        have HL := Lib.hid h3
        clear h3
        go_enter Tryz.func22, Tryz.ntmps22
        go_upto_region 1 with fail
        generalize ((w.alloc (.cells #[.bool na, .slice A xs.length c, .int .i64 e1] 31)).alloc (.cells #[.bool na, .slice B ys.length d, .int .i64 e1] 31)) = W at m0 m1 hW ⊢
        have haW := ha.below hW hS
        have hbW := hb.below hW hS'
        have p0 : W.cell? ⟨w.heap.size, 0, none⟩ = some (.bool na) := cell_of m0 rfl
        have p1 : W.cell? ⟨w.heap.size, 1, none⟩ = some (.slice A xs.length c) := cell_of m0 rfl
        have p2 : W.cell? ⟨w.heap.size, 2, none⟩ = some (.int .i64 e1) := cell_of m0 rfl
        have p3 : W.cell? ⟨w.heap.size + 1, 0, none⟩ = some (.bool na) := cell_of m1 rfl
        have p4 : W.cell? ⟨w.heap.size + 1, 1, none⟩ = some (.slice B ys.length d) := cell_of m1 rfl
        have p5 : W.cell? ⟨w.heap.size + 1, 2, none⟩ = some (.int .i64 e1) := cell_of m1 rfl
        go_wp2
        go_loopw [5] (fun i wr => ∃ k q : Nat, k ≤ xs.length ∧ (∀ j, j < k → Hid (nth xs j = nth ys j)) ∧ i = .int .i64 (k : Int) ∧ wr = W.drewN q) (fun i _ => xs.length - (intOf i).toNat)
        case atStart => exact ⟨0, 0, Nat.zero_le _, (fun j hj => absurd hj (by omega)), rfl, rfl⟩
        case round =>
          obtain ⟨k, q, hk, ht, rfl, rfl⟩ := hrel
          by_cases h0 : k = xs.length
          · have he : Hid (xs = ys) := by
              show _ = _
              apply List.ext_getElem HL.out
              intro i h1 h2
              have := (ht i (by omega)).out
              rwa [nth_get h1, nth_get h2] at this
            subst h0
            clear ht
            go_wp2
            go_ret
            obtain rfl : r = true := hr.out.symm.trans (decide_eq_true (by simpa using he.out))
            exact ⟨rfl, by first | exact below_drewN hW _ | (simp only [World.drewN_drewN]; exact below_drewN hW _)⟩
          · have hlt : k < xs.length := by omega
            obtain ⟨b1, o1, rfl, _, hc1⟩ := haW.at_ hlt
            obtain ⟨b2, o2, rfl, _, hc2⟩ := hbW.at_ (k := k) (by rw [← HL.out]; omega)
            have hj2 : (k : Int) < (ys.length : Int) := by rw [← HL.out]; omega
            by_cases heq : nth xs k = nth ys k
            · have ht2 : ∀ j, j < k + 1 → Hid (nth xs j = nth ys j) := fun j hj => by
                by_cases e : j = k
                · subst e; exact heq
                · exact ht j (by omega)
              have hbn : (((nth xs k : Nat) : Int) != ((nth ys k : Nat) : Int)) = false := by rw [heq]; simp
              clear ht heq
              have HT := Lib.hid ht2
              clear ht2
              go_wp2
              go_quiet (fail)
              go_wp2
              go_roundw
              case rel => exact ⟨k + 1, _, by omega, HT.out, by go_num, rfl⟩
              case measure => simp [intOf]; omega
            · have he : Hid (¬ xs = ys) := fun e => heq (by rw [e])
              have hbn : (((nth xs k : Nat) : Int) != ((nth ys k : Nat) : Int)) = true := by rw [bne_iff_ne]; omega
              clear ht heq
              go_wp2
              go_quiet (fail)
              go_wp2
              go_ret
              obtain rfl : r = false := hr.out.symm.trans (decide_eq_false (fun h => he.out h.2.2))
              exact ⟨rfl, by first | exact below_drewN hW _ | (simp only [World.drewN_drewN]; exact below_drewN hW _)⟩
      · have hne : ((xs.length : Int) != (ys.length : Int)) = true := by rw [bne_iff_ne]; omega
        have HE : Hid (¬ xs = ys) := fun e => h3 (by rw [e])
        clear h3
        go_enter Tryz.func22, Tryz.ntmps22
        go_upto_region 1 with fail
        generalize ((w.alloc (.cells #[.bool na, .slice A xs.length c, .int .i64 e1] 31)).alloc (.cells #[.bool na, .slice B ys.length d, .int .i64 e1] 31)) = W at m0 m1 hW ⊢
        have p0 : W.cell? ⟨w.heap.size, 0, none⟩ = some (.bool na) := cell_of m0 rfl
        have p1 : W.cell? ⟨w.heap.size, 1, none⟩ = some (.slice A xs.length c) := cell_of m0 rfl
        have p2 : W.cell? ⟨w.heap.size, 2, none⟩ = some (.int .i64 e1) := cell_of m0 rfl
        have p3 : W.cell? ⟨w.heap.size + 1, 0, none⟩ = some (.bool na) := cell_of m1 rfl
        have p4 : W.cell? ⟨w.heap.size + 1, 1, none⟩ = some (.slice B ys.length d) := cell_of m1 rfl
        have p5 : W.cell? ⟨w.heap.size + 1, 2, none⟩ = some (.int .i64 e1) := cell_of m1 rfl
        go_wp2
        go_ret
        obtain rfl : r = false := hr.out.symm.trans (decide_eq_false (fun h => HE.out h.2.2))
        exact ⟨rfl, hW⟩
    · have hne : (e1 != e2) = true := by rw [bne_iff_ne]; exact h2
      have HE := Lib.hid h2
      clear h2
      go_enter Tryz.func22, Tryz.ntmps22
      go_upto_region 1 with fail
      generalize ((w.alloc (.cells #[.bool na, .slice A xs.length c, .int .i64 e1] 31)).alloc (.cells #[.bool na, .slice B ys.length d, .int .i64 e2] 31)) = W at m0 m1 hW ⊢
      have p0 : W.cell? ⟨w.heap.size, 0, none⟩ = some (.bool na) := cell_of m0 rfl
      have p2 : W.cell? ⟨w.heap.size, 2, none⟩ = some (.int .i64 e1) := cell_of m0 rfl
      have p3 : W.cell? ⟨w.heap.size + 1, 0, none⟩ = some (.bool na) := cell_of m1 rfl
      have p5 : W.cell? ⟨w.heap.size + 1, 2, none⟩ = some (.int .i64 e2) := cell_of m1 rfl
      go_wp2
      go_ret
      obtain rfl : r = false := hr.out.symm.trans (decide_eq_false (fun h => HE.out h.2.1))
      exact ⟨rfl, hW⟩
  · have hne : (na != nb) = true := by rw [bne_iff_ne]; exact h1
    have HE := Lib.hid h1
    clear h1
    go_enter Tryz.func22, Tryz.ntmps22
    go_upto_region 1 with fail
    generalize ((w.alloc (.cells #[.bool na, .slice A xs.length c, .int .i64 e1] 31)).alloc (.cells #[.bool nb, .slice B ys.length d, .int .i64 e2] 31)) = W at m0 m1 hW ⊢
    have p0 : W.cell? ⟨w.heap.size, 0, none⟩ = some (.bool na) := cell_of m0 rfl
    have p3 : W.cell? ⟨w.heap.size + 1, 0, none⟩ = some (.bool nb) := cell_of m1 rfl
    go_wp2
    go_ret
    obtain rfl : r = false := hr.out.symm.trans (decide_eq_false (fun h => HE.out h.1))
    exact ⟨rfl, hW⟩
end Go.Proofs.YtpjllcengnolkaaGreatDoor

namespace Go.Proofs.YtpjllcengnolkaaGreatDoor
open Go.RowKit

/-- The sign of the opposite. -/
def ops (nb : Bool) (ys : List Nat) : Bool := !nb && decide (ys ≠ [])

end Go.Proofs.YtpjllcengnolkaaGreatDoor

namespace Go.Proofs.YtpjllcengnolkaaGreatDoor
open Go.RowKit

def p1 (e1 e2 : Int) : Nat := (e1 - min e1 e2).toNat
section
variable {S : Nat → Prop} {n m c d : Nat} {A B : Option Addr} {xs ys : List Nat}
end
end Go.Proofs.YtpjllcengnolkaaGreatDoor


namespace Go.Proofs.YtpjllcengnolkaaGreatDoor
open Go.RowKit

theorem VIn.l32 {w : World} {S : Nat → Prop} {x : VT} {cs : List Value} (h : VIn w S x cs) : ∀ y ∈ partsV x, L32 y.num := by
  induction h with
  | @mk k neg xs e t l ks A LA KA n c ln lc kn kc cs hr hn ht hks hkn hl hln hlc hrow hall ih =>
    intro y hy
    rcases mem_parts.1 hy with rfl | ⟨z, hz, hyz⟩
    · exact hr.l32
    · rw [inner_mk] at hz
      split at hz
      · obtain ⟨i, hi⟩ := List.mem_iff_getElem?.1 hz
        exact ih i z hi y hyz
      · simp at hz
end Go.Proofs.YtpjllcengnolkaaGreatDoor

namespace Go.Proofs.YtpjllcengnolkaaGreatDoor
open Go.RowKit

theorem infoV7 : (Tryz.prog.info? 34).map (fun i => (i.zero, i.size, i.bytes)) = some (some (.agg #[.int .i64 0, .bool false, .slice none 0 0, .int .i64 0, .string ⟨#[]⟩, .slice none 0 0, .slice none 0 0]), 7, 112) := by kernel_rfl
end Go.Proofs.YtpjllcengnolkaaGreatDoor

namespace Go.Proofs.YtpjllcengnolkaaGreatDoor
open Go.RowKit Go.Lib

/-- Texts as cells. -/
def strs (ks : List ByteArray) : List Value := ks.map .string
theorem RdT.cells {w : World} {S : Nat → Prop} {A : Option Addr} {n : Nat} {ks : List ByteArray} (h : RdT w S A n ks) : 0 < n → ∃ b off, A = some ⟨b, off, none⟩ ∧ ∀ j u, (strs ks)[j]? = some u → w.cell? ⟨b, off + j, none⟩ = some u := fun h0 => by
  obtain ⟨b, off, e, _, h2⟩ := h.2 h0
  refine ⟨b, off, e, fun j u hj => ?_⟩
  unfold strs at hj
  rw [List.getElem?_map, Option.map_eq_some_iff] at hj
  obtain ⟨s, hs, rfl⟩ := hj
  exact (h2 j s hs).1
theorem own_mono {w : World} {base base' : Nat} {e : TypeId} {size : Nat} {v : Value} {n : Nat} {xs : List Value} (h : w.ownsRow base e size v n xs) (hb : base' ≤ base) : w.ownsRow base' e size v n xs :=
  ⟨h.1, h.2.imp id fun ⟨g, cap, cur, e1, e2, e3⟩ => ⟨g, cap, cur, e1, Nat.le_trans hb e2, e3⟩⟩
end Go.Proofs.YtpjllcengnolkaaGreatDoor

namespace Go.Proofs.YtpjllcengnolkaaGreatDoor
open Go.RowKit

mutual
/-- How many values stand in a value, whatever its kind. -/
def under : VT → Nat
  | .mk _ _ _ _ _ l _ => underL l
def underL : List VT → Nat
  | [] => 0
  | a :: r => 1 + under a + underL r
end
/-- A row of values that is to be filled in: its slice, and the trees that it holds. -/
structure Row where
  A : Option Addr
  n : Nat
  c : Nat
  l : List VT
def Row.val (r : Row) : Value := .slice r.A r.n r.c
/-- The block of a row that holds something. -/
def Row.at (r : Row) (b : Nat) : Prop := 0 < r.n ∧ r.A = some ⟨b, 0, none⟩
/-- What stands under the values of a row. -/
def unL : List VT → Nat
  | [] => 0
  | a :: r => under a + unL r
def need (st : List Row) : Nat := (st.map fun r => unL r.l).sum
theorem VIn.one {w : World} {S : Nat → Prop} {x : VT} {cs : List Value} (h : VIn w S x cs) : cs.length = 7 ∧ ∀ u ∈ cs, u.oneCell' = true := by
  cases h with
  | mk => exact ⟨rfl, by intro u hu; simp only [List.mem_cons, List.not_mem_nil, or_false] at hu; rcases hu with rfl | rfl | rfl | rfl | rfl | rfl | rfl <;> rfl⟩
/-- A row's cells, one behind the other. -/
theorem RdL.flat {w : World} {S : Nat → Prop} {A : Option Addr} {n : Nat} {l : List VT} (h : RdL w S A n l) :
    ∃ (cv : List Value) (cs : Nat → List Value), cv.length = n * 7 ∧ (∀ i, i < n → (cs i).length = 7 ∧ ∀ j, j < 7 → cv[i * 7 + j]? = (cs i)[j]?) ∧ (0 < n → ∃ b off, A = some ⟨b, off, none⟩ ∧ S b ∧ ∀ j u, cv[j]? = some u → w.cell? ⟨b, off + j, none⟩ = some u) ∧ (∀ u ∈ cv, u.oneCell' = true) ∧ ∀ i x, l[i]? = some x → VIn w S x (cs i) := by
  obtain ⟨h1, _, cs, h3, h4⟩ := h
  have hlen : ∀ i, i < n → (cs i).length = 7 := fun i hi => (h4 i _ (List.getElem?_eq_getElem (by omega))).one.1
  have hcv : ∀ i j, i < n → j < 7 → ((List.range (n * 7)).map fun q => ((cs (q / 7))[q % 7]?).getD undef)[i * 7 + j]? = (cs i)[j]? := fun i j hi hj => by
    have hl := hlen i hi
    rw [List.getElem?_map, List.getElem?_range (by omega)]
    have e1 : (i * 7 + j) / 7 = i := by omega
    have e2 : (i * 7 + j) % 7 = j := by omega
    simp only [Option.map_some, e1, e2]
    rw [List.getElem?_eq_getElem (by omega)]; rfl
  have hat : ∀ q u, ((List.range (n * 7)).map fun q => ((cs (q / 7))[q % 7]?).getD undef)[q]? = some u → q / 7 < n ∧ q % 7 < 7 ∧ (cs (q / 7))[q % 7]? = some u := fun q u hq => by
    have hlt : q < n * 7 := by have := (List.getElem?_eq_some_iff.1 hq).1; simpa using this
    have e0 : q / 7 * 7 + q % 7 = q := by omega
    have h5 := hcv (q / 7) (q % 7) (by omega) (by omega)
    rw [e0, hq] at h5
    exact ⟨by omega, by omega, h5.symm⟩
  refine ⟨_, cs, by simp, fun i hi => ⟨hlen i hi, fun j hj => hcv i j hi hj⟩, fun h0 => ?_, fun u hu => ?_, h4⟩
  · obtain ⟨b, off, e, hS, h5⟩ := h3 h0
    refine ⟨b, off, e, hS, fun q u hq => ?_⟩
    obtain ⟨a1, a2, a3⟩ := hat q u hq
    have := (h5 (q / 7) a1).2 (q % 7) a2
    rw [show q / 7 * 7 + q % 7 = q by omega] at this
    rw [this, a3]
  · obtain ⟨q, hq⟩ := List.mem_iff_getElem?.1 hu
    obtain ⟨a1, a2, a3⟩ := hat q u hq
    exact (h4 (q / 7) _ (List.getElem?_eq_getElem (by omega))).one.2 u (List.mem_of_getElem? a3)
end Go.Proofs.YtpjllcengnolkaaGreatDoor

namespace Go.Proofs.YtpjllcengnolkaaGreatDoor
open Go.RowKit Go.Maps

def kL (s : ByteArray) : Lit := .string s.data.toList
theorem kL_inj {s t : ByteArray} (h : kL s = kL t) : s = t := by
  unfold kL at h
  injection h with h
  exact ByteArray.ext (Array.ext' h)
/-- The last of the first k places at which s stands. -/
def lastAt (ks : List ByteArray) (s : ByteArray) : Nat → Option Nat
  | 0 => none
  | k + 1 => if ks.getD k ⟨#[]⟩ = s then some k else lastAt ks s k
def lastD {H : Type} (ks : List ByteArray) : Nat → DataW H
  | 0 => .map []
  | k + 1 => (lastD ks k).put (kL (ks.getD k ⟨#[]⟩)) (.lit (.int .i64 (k : Int)))
theorem kL_key (s : ByteArray) : WideAt.IsKeyLit (kL s) := by unfold kL; trivial
theorem lastD_tidy {H : Type} (ks : List ByteArray) : ∀ k, Tidy (lastD (H := H) ks k)
  | 0 => tidy_empty
  | k + 1 => (lastD_tidy ks k).put (kL_key _) _
theorem lastD_at {H : Type} (ks : List ByteArray) (s : ByteArray) (z : DataW H) : ∀ k, (lastD ks k).atKey (kL s) z = match lastAt ks s k with | some i => .lit (.int .i64 (i : Int)) | none => z
  | 0 => atKey_of_not_has rfl z
  | k + 1 => by
    unfold lastD lastAt
    by_cases h : ks.getD k ⟨#[]⟩ = s
    · rw [if_pos h, h]
      exact atKey_put_same (lastD_tidy ks k).isMap (kL_key _) _ _
    · rw [if_neg h, atKey_put_other (fun e => h (kL_inj e).symm)]
      exact lastD_at ks s z k
theorem lastD_has {H : Type} (ks : List ByteArray) (s : ByteArray) : ∀ k, Maps.has (lastD (H := H) ks k) (kL s) = (lastAt ks s k).isSome
  | 0 => rfl
  | k + 1 => by
    unfold lastD lastAt
    by_cases h : ks.getD k ⟨#[]⟩ = s
    · rw [if_pos h, h]
      exact has_put_same (lastD_tidy ks k).isMap (kL_key _) _
    · rw [if_neg h, has_put_other (fun e => h (kL_inj e).symm)]
      exact lastD_has ks s k
theorem lastD_size {H : Type} (ks : List ByteArray) : ∀ k, Maps.size (lastD (H := H) ks k) ≤ k
  | 0 => Nat.le_refl _
  | k + 1 => by
    unfold lastD
    rw [size_put (lastD_tidy ks k)]
    have := lastD_size (H := H) ks k
    split <;> omega
end Go.Proofs.YtpjllcengnolkaaGreatDoor

namespace Go.Proofs.YtpjllcengnolkaaGreatDoor
open Go.RowKit Go.Maps

def VT0 : VT := .mk 0 false [] 0 ⟨#[]⟩ [] []
theorem mem_insert {H : Type} {x p : Lit × DataW H} : ∀ {l : List (Lit × DataW H)}, p ∈ DataW.insert x l → p = x ∨ p ∈ l
  | [], h => by simpa [DataW.insert] using h
  | y :: r, h => by
    unfold DataW.insert at h
    split at h
    · simpa using h
    · rcases List.mem_cons.1 h with h | h
      · exact .inr (by simp [h])
      · rcases mem_insert h with h | h
        · exact .inl h
        · exact .inr (by simp [h])
theorem lastD_es {H : Type} (ks : List ByteArray) : ∀ k, ∃ es, lastD (H := H) ks k = .map es ∧ ∀ p ∈ es, ∃ x, p.1 = .string x
  | 0 => ⟨[], rfl, fun p hp => by simp at hp⟩
  | k + 1 => by
    obtain ⟨es, he, h⟩ := lastD_es (H := H) ks k
    unfold lastD
    rw [he]
    refine ⟨_, rfl, fun p hp => ?_⟩
    rcases mem_insert hp with rfl | hp
    · exact ⟨_, rfl⟩
    · exact h p (List.mem_filter.1 hp).1
theorem lastD_nodup {H : Type} (ks : List ByteArray) (k : Nat) : (strKeys (lastD (H := H) ks k)).Nodup := by
  obtain ⟨es, he, h⟩ := lastD_es (H := H) ks k
  obtain ⟨es', he', hp⟩ := lastD_tidy (H := H) ks k
  rw [he] at he'
  injection he' with he'
  subst he'
  rw [he]
  show (es.map fun p => strOf p.1).Nodup
  refine List.pairwise_map.2 (hp.imp_of_mem fun {p q} hp' hq' hne e => hne ?_)
  obtain ⟨a, ha⟩ := h p hp'
  obtain ⟨b, hb⟩ := h q hq'
  rw [ha, hb] at e ⊢
  exact congrArg _ e
theorem lastD_mem {H : Type} (ks : List ByteArray) (k : Nat) (s : ByteArray) : s.data.toList ∈ strKeys (lastD (H := H) ks k) ↔ (lastAt ks s k).isSome = true := by
  rw [← lastD_has (H := H)]
  obtain ⟨es, he, h⟩ := lastD_es (H := H) ks k
  rw [he, has_eq, List.any_eq_true]
  show s.data.toList ∈ es.map (fun p => strOf p.1) ↔ _
  rw [List.mem_map]
  constructor
  · rintro ⟨p, hp, e⟩
    obtain ⟨a, ha⟩ := h p hp
    rw [ha] at e
    refine ⟨p, hp, ?_⟩
    rw [ha]
    have e' : a = s.data.toList := e
    rw [e']
    exact WideAt.sameKey_self (kL_key s)
  · rintro ⟨p, hp, e⟩
    have e' := WideAt.sameKey_eq e
    exact ⟨p, hp, by rw [e']; rfl⟩

/-- The keys, each once, as the sort leaves them. -/
def keysL (ks : List ByteArray) : List (List UInt8) := (strKeys (lastD (H := Unit) ks ks.length)).mergeSort leB
def keysB (ks : List ByteArray) : List ByteArray := (keysL ks).map fun x => ⟨x.toArray⟩
theorem keysB_mem {ks : List ByteArray} {s : ByteArray} : s ∈ keysB ks ↔ (lastAt ks s ks.length).isSome = true := by
  rw [← lastD_mem (H := Unit)]
  unfold keysB keysL
  rw [List.mem_map]
  constructor
  · rintro ⟨x, hx, rfl⟩
    simpa using List.mem_mergeSort.1 hx
  · intro h
    exact ⟨s.data.toList, List.mem_mergeSort.2 h, by simp⟩
theorem keysB_length (ks : List ByteArray) : (keysB ks).length ≤ ks.length := by
  unfold keysB keysL
  rw [List.length_map, List.length_mergeSort]
  have := lastD_size (H := Unit) ks ks.length
  obtain ⟨es, he, _⟩ := lastD_es (H := Unit) ks ks.length
  rw [he] at this ⊢
  show (es.map fun p => strOf p.1).length ≤ _
  rw [List.length_map]
  exact this
theorem lastAt_some {ks : List ByteArray} {s : ByteArray} : ∀ {k i : Nat}, lastAt ks s k = some i → i < k ∧ ks.getD i ⟨#[]⟩ = s ∧ ∀ j, i < j → j < k → ks.getD j ⟨#[]⟩ ≠ s
  | 0, i, h => by simp [lastAt] at h
  | k + 1, i, h => by
    unfold lastAt at h
    split at h
    · rename_i e
      injection h with h
      subst h
      exact ⟨by omega, e, fun j h1 h2 => absurd h1 (by omega)⟩
    · rename_i e
      obtain ⟨h1, h2, h3⟩ := lastAt_some h
      refine ⟨by omega, h2, fun j h4 h5 => ?_⟩
      by_cases hj : j = k
      · subst hj; exact e
      · exact h3 j h4 (by omega)
/-- What stands last with a key. -/
def lastV (ks : List ByteArray) (l : List VT) (s : ByteArray) : VT := match lastAt ks s ks.length with
  | some i => l.getD i VT0
  | none => VT0
/-- The object that is made. -/
def objV (ks : List ByteArray) (l : List VT) : VT := .mk 6 false [] 0 ⟨#[]⟩ ((keysB ks).map (lastV ks l)) (keysB ks)
end Go.Proofs.YtpjllcengnolkaaGreatDoor

namespace Go.Proofs.YtpjllcengnolkaaGreatDoor
open Go.RowKit Go.Maps

theorem keyLaw : Keyed Tryz.prog 9 := string_keyed Tryz.underlying9
theorem zeroI (w : World) : (zeroValue 3).run Tryz.prog w = .ok (.int .i64 0) w := by kernel_rfl
theorem RdT.getD {w : World} {S : Nat → Prop} {K : Option Addr} {n k : Nat} {ks : List ByteArray} (h : RdT w S K n ks) (hk : k < n) : ∃ b off, K = some ⟨b, off, none⟩ ∧ S b ∧ w.cell? ⟨b, off + k, none⟩ = some (.string (ks.getD k ⟨#[]⟩)) ∧ (ks.getD k ⟨#[]⟩).size ≤ 140737488355328 := by
  obtain ⟨b, off, s, e, hS, hs, hc⟩ := h.at_ hk
  have hd : ks.getD k ⟨#[]⟩ = s := by rw [List.getD_eq_getElem?_getD, hs]; rfl
  exact ⟨b, off, e, hS, by rw [hd]; exact hc, by rw [hd]; exact h.size hs⟩
theorem map_keep {w w' : World} {b n : Nat} {D : DataW Unit} (h : w.ownsMap Tryz.prog 9 (plainElem (H := Unit) Tryz.prog 3) b n D) (hk : w'.heap[b]? = w.heap[b]?) : w'.ownsMap Tryz.prog 9 (plainElem (H := Unit) Tryz.prog 3) b n D := by
  obtain ⟨es, clock, hb, F, hs, hD⟩ := h
  exact ⟨es, clock, hk.trans hb, F, hs, hD⟩
set_option maxRecDepth 100000 in
/-- What is looked up is the last place. -/
theorem look_last {w : World} {b n i k : Nat} {ks : List ByteArray} {s : ByteArray} (h : w.ownsMap Tryz.prog 9 (plainElem (H := Unit) Tryz.prog 3) b n (lastD ks k)) (hs : s.size ≤ maxLen) (hi : lastAt ks s k = some i) :
    (Instr.lookup 79 (.map (some b)) (.string s) false).run Tryz.prog w = .ok (.int .i64 (i : Int)) w := by
  obtain ⟨c, hrun, hat, _⟩ := h.lookup_int (t := 79) keyLaw Tryz.underlying79 Tryz.underlying3 (zeroI w) (Go.WideMaps.keyOf_string_mk Tryz.underlying9 hs : keyOf Tryz.prog 9 (.string s) = some (kL s))
  have hat2 : (lastD (H := Unit) ks k).atKey (kL s) (.lit (.int .i64 0)) = .lit (.int .i64 c) := hat
  rw [lastD_at, hi] at hat2
  injection hat2 with hat2
  injection hat2 with _ hat2
  rw [hrun, hat2]
theorem keys_row {w : World} {base n : Nat} {v : Value} {ks : List ByteArray} {ss : List (List UInt8)} (hp : ss.Perm (strKeys (lastD (H := Unit) ks ks.length))) (h : w.ownsRow base 9 1 v ss.length ((ss.mergeSort (fun x y => decide (x ≤ y))).map encStr)) :
    w.ownsRow base 9 1 v (keysB ks).length (strs (keysB ks)) := by
  have h1 : ss.mergeSort (fun x y => decide (x ≤ y)) = keysL ks := mergeSort_of_perm hp
  have h2 : ss.length = (keysB ks).length := by
    unfold keysB
    rw [List.length_map, ← h1, List.length_mergeSort]
  have h3 : (keysL ks).map encStr = strs (keysB ks) := by
    unfold strs keysB
    rw [List.map_map]; rfl
  rw [h1, h2, h3] at h
  exact h
theorem step_append_at {base : Nat} {e : TypeId} {i : TypeInfo} {z : Value} {size bytes n m c : Nat} {v : Value} {xs news : List Value} {ad : Addr} {w : World} {ops : Array Oper} {o : Oper} {a : Act} {K : Act → World → Prop} {Q : Exit → Act → World → Prop} {E : Prop} (hgd : o.guard = none) (s x : Operand) (t : TypeId)
    (ho : o.op = .call { callee := .builtin .append, args := #[s, x], argTypes := #[t, t] })
    (ht : Tryz.prog.underlying t = some (.slice e)) (hi : Tryz.prog.info? e = some i) (hz : i.zero = some z)
    (hsize : i.size = size) (hby : i.bytes = bytes) (hzs : z.cells.size = size) (hsz : 0 < size)
    (hs : a.eval s = v) (hown : w.ownsRow base e size v n xs)
    (hx : a.eval x = .slice (some ad) m c) (hl : news.length = m * size) (hnews : ∀ j u, news[j]? = some u → w.cell? (ad.add j) = some u) (h1 : ∀ u ∈ news, u.oneCell' = true)
    (h63 : n + m ≤ maxLen) (hbytes : (n + m) * bytes ≤ 140737488355328) (hbase : base ≤ w.heap.size)
    (h : ∀ v' w', w'.ownsRow base e size v' (n + m) (xs ++ news) → w.grownBy w' v.ownBlock → (v' = .slice none 0 0 ↔ v = .slice none 0 0 ∧ m = 0) → (v'.ownBlock = v.ownBlock ∨ v'.ownBlock = some w.heap.size) → K (a.put o.dst v') w') :
    if Region.wanted o (yielded ops a.tmps) = true then Oper.wp Tryz.prog o a w K Q else E := by
  have hw : Region.wanted o (yielded ops a.tmps) = true := by simp [Region.wanted, hgd]
  rw [if_pos hw]
  obtain ⟨v', w', hr, h2, h3, h4, h5⟩ := run_append_own_at (P := Tryz.prog) w base t o.type e i z size bytes ht hi hz hsize hby hzs hsz v n xs hown ad m c news hl hnews h1 h63 hbytes hbase
  unfold Oper.wp execOp
  simp only [ho, resolve, invoke, builtin, Sem.run_bind, Sem.run_pure, Result.andThen_ok, List.map_toArray, List.map_cons, List.map_nil, hs, hx, hr]
  exact h v' w' h2 h3 h4 h5
theorem new7 (w : World) (a0 a1 a2 a3 a4 a5 a6 : Value) (t : TypeId) : ∀ j u, [a0, a1, a2, a3, a4, a5, a6][j]? = some u → (w.alloc (.cells #[a0, a1, a2, a3, a4, a5, a6] t)).cell? ((⟨w.heap.size, 0, none⟩ : Addr).add j) = some u := by
  obtain ⟨x0, x1, x2, x3, x4, x5, x6⟩ := box7_of (World.alloc_heap_new w (.cells #[a0, a1, a2, a3, a4, a5, a6] t))
  intro j u h
  rw [Addr.add_lit, Nat.zero_add]
  match j, h with
  | 0, h => injection h with h; subst h; exact x0
  | 1, h => injection h with h; subst h; exact x1
  | 2, h => injection h with h; subst h; exact x2
  | 3, h => injection h with h; subst h; exact x3
  | 4, h => injection h with h; subst h; exact x4
  | 5, h => injection h with h; subst h; exact x5
  | 6, h => injection h with h; subst h; exact x6
/-- The cells of the first j values that are put together. -/
def flatC (cs : Nat → List Value) (ix : Nat → Nat) (j : Nat) : List Value := ((List.range j).map fun q => cs (ix q)).flatten
theorem flatC_succ (cs : Nat → List Value) (ix : Nat → Nat) (j : Nat) : flatC cs ix (j + 1) = flatC cs ix j ++ cs (ix j) := by
  unfold flatC
  rw [List.range_succ]; simp
theorem flatC_length {cs : Nat → List Value} {ix : Nat → Nat} : ∀ {j : Nat}, (∀ q, q < j → (cs (ix q)).length = 7) → (flatC cs ix j).length = j * 7
  | 0, _ => rfl
  | j + 1, h => by
    rw [flatC_succ, List.length_append, flatC_length fun q hq => h q (by omega), h j (by omega)]; omega
theorem flatC_get {cs : Nat → List Value} {ix : Nat → Nat} : ∀ {j : Nat}, (∀ q, q < j → (cs (ix q)).length = 7) → ∀ i t, i < j → t < 7 → (flatC cs ix j)[i * 7 + t]? = (cs (ix i))[t]?
  | 0, _, i, t, hi, _ => absurd hi (by omega)
  | j + 1, h, i, t, hi, ht => by
    have hl := flatC_length (cs := cs) (ix := ix) (j := j) fun q hq => h q (by omega)
    rw [flatC_succ]
    by_cases hj : i = j
    · subst hj
      rw [List.getElem?_append_right (by omega), hl, show i * 7 + t - i * 7 = t by omega]
    · rw [List.getElem?_append_left (by omega)]
      exact flatC_get (fun q hq => h q (by omega)) i t (by omega) ht

end Go.Proofs.YtpjllcengnolkaaGreatDoor
