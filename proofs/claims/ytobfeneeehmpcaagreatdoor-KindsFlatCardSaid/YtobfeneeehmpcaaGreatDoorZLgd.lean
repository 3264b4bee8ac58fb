/-
  Contract of the reference's Check.
  Values that may be, as the reference's Check goes through them. Pure, no program.
-/
import Derived.Test.YtobfeneeehmpcaaGreatDoorZUfirst
import Derived.Test.YtobfeneeehmpcaaGreatDoorZVchk
import Derived.Test.YtobfeneeehmpcaaGreatDoorZDset
import Derived.Test.YtobfeneeehmpcaaGreatDoorZVcm
import Derived.Laws.Concat
import Derived.Test.YtobfeneeehmpcaaGreatDoorZDintc
import Derived.Test.YtobfeneeehmpcaaGreatDoorZNapi
import Derived.PlainAid
import Derived.Test.YtobfeneeehmpcaaGreatDoorZNrefe
import Derived.Deep.AppendLies
import Derived.Deep.RegionHeld3
import Derived.Lib.ItoaNum
import Derived.Test.YtobfeneeehmpcaaGreatDoorZNparse
import Derived.Test.YtobfeneeehmpcaaGreatDoorZVob
import Derived.Test.YtobfeneeehmpcaaGreatDoorZNlimb
import Derived.Test.YtobfeneeehmpcaaGreatDoorZDrck
import Derived.Test.YtobfeneeehmpcaaGreatDoorZRtail
import Derived.Deep.QuietTactic
import Derived.BigQuiet
import Derived.Deep.Cut
import Derived.Deep.CutRange
import Derived.Test.YtobfeneeehmpcaaGreatDoorZRgap
import Derived.Test.YtobfeneeehmpcaaGreatDoorZArgs
import Derived.Test.YtobfeneeehmpcaaGreatDoorZUfst
set_option linter.unusedVariables false
set_option linter.unusedSimpArgs false
namespace Go.Proofs.YtobfeneeehmpcaaGreatDoor
open Go.RowKit Go.Lib

/-- So far: what a text falls into up to a place. -/
structure AtP (L : List UInt8) (p : Nat) (pre : List (List UInt8 × Int)) : Prop where
  cut : pcs L = pre ++ pcs (L.drop p)
  at_ : p = (flat pre).length
  le : p ≤ L.length
theorem AtP.zero (L : List UInt8) : AtP L 0 [] := ⟨rfl, rfl, Nat.zero_le _⟩
theorem drop_ne {L : List UInt8} {p : Nat} (h : p < L.length) : L.drop p ≠ [] := by
  intro e
  have := congrArg List.length e
  rw [List.length_drop, List.length_nil] at this
  omega
theorem AtP.step {L : List UInt8} {p : Nat} {pre : List (List UInt8 × Int)} (h : AtP L p pre) (hp : p < L.length) : AtP L (p + wid (L.drop p)) (pre ++ [((L.drop p).take (wid (L.drop p)), partOf (L.drop p))]) ∧ wid (L.drop p) ≤ L.length - p := by
  have hne := drop_ne hp
  have hw := wid_le hne
  rw [List.length_drop] at hw
  refine ⟨⟨?_, ?_, by omega⟩, hw⟩
  · rw [h.cut, pcs_cons hne, List.drop_drop, List.append_assoc]; rfl
  · unfold flat
    rw [List.flatMap_append, List.length_append]
    show p + _ = (flat pre).length + _
    rw [← h.at_]
    simp only [List.flatMap_cons, List.flatMap_nil, List.append_nil, List.length_take, List.length_drop]
    omega
theorem AtP.end_ {L : List UInt8} {pre : List (List UInt8 × Int)} (h : AtP L L.length pre) : pcs L = pre := by
  have := h.cut
  rw [List.drop_length, pcs_nil, List.append_nil] at this
  exact this
theorem AtP.bad {L : List UInt8} {p : Nat} {pre : List (List UInt8 × Int)} (h : AtP L p pre) (hg : ∀ q ∈ pre, q.2 ≠ -1) (hp : p < L.length) (hb : partOf (L.drop p) = -1) : badAt L = p ∧ errT L = 61 := by
  have hc := h.cut
  rw [pcs_cons (drop_ne hp)] at hc
  constructor
  · unfold badAt
    rw [hc, List.takeWhile_append_of_pos (fun q hq => by simpa using hg q hq), List.takeWhile_cons_of_neg (by simp [hb]), List.append_nil]
    exact h.at_.symm
  · unfold errT
    rw [if_neg]
    intro ht
    rw [isT_iff] at ht
    exact ht ((L.drop p).take (wid (L.drop p)), partOf (L.drop p)) (by rw [hc]; simp) hb
theorem AtP.all {L : List UInt8} {pre : List (List UInt8 × Int)} (h : AtP L L.length pre) (hg : ∀ q ∈ pre, q.2 ≠ -1) : badAt L = L.length ∧ errT L = 0 := by
  have ht : isT L = true := by rw [isT_iff, h.end_]; exact hg
  exact ⟨badAt_text ht, by unfold errT; rw [if_pos ht]⟩
theorem fstP_bad {R : List UInt8} (hb : partOf R = -1) : fstP R = (0, 0) := by unfold fstP; rw [if_pos (.inr hb)]
theorem fstP_good {R : List UInt8} (hne : R ≠ []) (hb : partOf R ≠ -1) : fstP R = (partOf R, wid R) := by unfold fstP; rw [if_neg (fun h => h.elim hne hb)]
theorem mk8_rest (L : List UInt8) (p : Nat) : (mk8 L).extract p L.length = mk8 (L.drop p) := by rw [mk8_mid, List.take_length]

set_option maxRecDepth 100000 in
set_option maxHeartbeats 1000000 in
theorem URCheck_c (L : List UInt8) (w : World) (hs : L.length ≤ 140737488355328) : Calls Tryz.prog 111 #[.string (mk8 L)] w fun e w' => e = .returned (.tuple #[.int .i64 (badAt L : Int), .int .i64 (errT L : Int)]) ∧ Below w.heap.size w w' := by
  have hsz : (mk8 L).size = L.length := mk8_size L
  have hex := mk8_rest L
  have hF := fun p V => First_c (L.drop p) V (by rw [List.length_drop]; omega)
  generalize mk8 L = S at *
  have HEX := Lib.hid hex
  have HF := Lib.hid hF
  clear hex hF
  obtain ⟨B, hB⟩ : ∃ B, B = badAt L := ⟨_, rfl⟩
  obtain ⟨E, hE⟩ : ∃ E, E = errT L := ⟨_, rfl⟩
  rw [← hB, ← hE]
  have HB := Lib.hid hB
  have HE := Lib.hid hE
  clear hB hE
  go_enter Tryz.func111, Tryz.ntmps111
  go_wp2
  go_loopw [4] (fun i wr => ∃ (p : Nat) (pre : List (List UInt8 × Int)), i = .int .i64 (p : Int) ∧ p ≤ L.length ∧ Hid (AtP L p pre) ∧ Hid (∀ q ∈ pre, q.2 ≠ -1) ∧ Below w.heap.size w wr) (fun i _ => L.length - (RowKit.intOf i).toNat)
  case atStart => exact ⟨0, [], rfl, Nat.zero_le _, AtP.zero L, (fun q h => by cases h), Below.refl _ _⟩
  case round =>
    obtain ⟨p, pre, rfl, hp, hat, hgd, hbel⟩ := hrel
    have HBEL := Lib.hid hbel
    clear hbel
    by_cases hlt : p < L.length
    · have hexp := HEX.out p
      by_cases hb : partOf (L.drop p) = -1
      · have hbb := hat.out.bad hgd.out hlt hb
        have h1 := HF.out p wr
        rw [fstP_bad hb] at h1
        have HFP := Lib.hid h1
        obtain rfl : B = p := HB.out.trans hbb.1
        obtain rfl : E = 61 := HE.out.trans hbb.2
        clear hb hbb h1
        go_wp2_with fail
        try rw [hexp]
        refine HFP.out.mono ?_
        rintro e w2 ⟨rfl, hb2⟩
        go_wp2
        go_ret2
        exact ⟨rfl, HBEL.out.trans (hb2.mono HBEL.out.size)⟩
      · obtain ⟨hst, hwl⟩ := hat.out.step hlt
        have h1 := HF.out p wr
        rw [fstP_good (drop_ne hlt) hb] at h1
        have hwg := wid_ge (L.drop p)
        have hg2 : ∀ q ∈ pre ++ [((L.drop p).take (wid (L.drop p)), partOf (L.drop p))], q.2 ≠ -1 := fun q hq => by
          rcases List.mem_append.1 hq with h | h
          · exact hgd.out q h
          · rw [List.mem_singleton] at h; subst h; exact hb
        have HFP := Lib.hid h1
        have HST := Lib.hid hst
        have HG2 := Lib.hid hg2
        clear hb hst h1 hg2
        generalize partOf (L.drop p) = c at *
        generalize wid (L.drop p) = d at *
        have hd0 : ((d : Int) == 0) = false := by rw [beq_eq_false_iff_ne]; omega
        go_wp2_with fail
        try rw [hexp]
        refine HFP.out.mono ?_
        rintro e w2 ⟨rfl, hb2⟩
        go_wp2
        go_roundw
        case rel => exact ⟨p + d, _, by go_num, by omega, HST.out, HG2.out, HBEL.out.trans (hb2.mono HBEL.out.size)⟩
        case measure => simp [RowKit.intOf]; omega
    · obtain rfl : p = L.length := by omega
      have hbb := hat.out.all hgd.out
      obtain rfl : B = L.length := HB.out.trans hbb.1
      obtain rfl : E = 0 := HE.out.trans hbb.2
      clear hbb hlt
      go_wp2
      go_ret2
      exact ⟨rfl, HBEL.out⟩
end Go.Proofs.YtobfeneeehmpcaaGreatDoor

namespace Go.Proofs.YtobfeneeehmpcaaGreatDoor
open Go.RowKit

theorem preL_parts (lv : Nat) : ∀ l : List VT, (preL lv l).map (·.2) = l.flatMap partsV
  | [] => by simp [preL]
  | v :: r => by
    simp only [preL, List.map_append, List.flatMap_cons, preL_parts lv r]
    rw [pre_snd lv 0 v]; rfl
theorem parts_eq (x : VT) : partsV x = x :: x.inner.flatMap partsV := by
  unfold partsV
  rw [pre_eq]
  simp only [List.map_cons]
  rw [preL_parts]; rfl
/-- As many parts as the first k values of a list have. -/
def szL (l : List VT) (k : Nat) : Nat := ((l.take k).flatMap partsV).length
theorem szL_zero (l : List VT) : szL l 0 = 0 := by simp [szL]
theorem szL_succ {l : List VT} {k : Nat} {x : VT} (h : l[k]? = some x) : szL l (k + 1) = szL l k + (partsV x).length := by
  unfold szL
  rw [List.take_add_one, h]
  simp
theorem szL_le (l : List VT) (k : Nat) : szL l k ≤ (l.flatMap partsV).length := by
  unfold szL
  have h : l.flatMap partsV = (l.take k).flatMap partsV ++ (l.drop k).flatMap partsV := by rw [← List.flatMap_append, List.take_append_drop]
  rw [h, List.length_append]; omega
theorem szL_all (l : List VT) : szL l l.length = (l.flatMap partsV).length := by unfold szL; rw [List.take_length]

/-- A value all of whose parts may be by themselves. -/
def Gd (x : VT) : Prop := ∀ y ∈ partsV x, alone y = 0
theorem Gd.own {x : VT} (h : Gd x) : alone x = 0 := h x (by rw [parts_eq]; exact List.mem_cons_self)
theorem Gd.sub {x z : VT} (h : Gd x) (hz : z ∈ x.inner) : Gd z := fun y hy => h y (by rw [parts_eq]; exact List.mem_cons_of_mem _ (List.mem_flatMap.2 ⟨z, hz, hy⟩))
theorem fitV_mk2 (k : Int) (n : Bool) (x : List Nat) (e : Int) (t : ByteArray) (l : List VT) (ks : List ByteArray) : fitV (.mk k n x e t l ks) =
    if k = 3 then okB n x e && decide (t.size + l.length + ks.length = 0)
    else if k = 4 then decide (x.length + l.length + ks.length = 0) && !n && decide (e = 0)
    else if k = 5 then decide (x.length + t.size + ks.length = 0) && !n && decide (e = 0)
    else if k = 6 then decide (ks.length = l.length) && rises ks && decide (x.length + t.size = 0) && !n && decide (e = 0)
    else decide (x.length + t.size + l.length + ks.length = 0) && !n && decide (e = 0) := rfl
theorem ownT_mk (k : Int) (n : Bool) (x : List Nat) (e : Int) (t : ByteArray) (l : List VT) (ks : List ByteArray) : ownT (.mk k n x e t l ks) = if k = 4 then [t] else if k = 6 then ks else [] := rfl
/-- What a value that may be by itself is. -/
theorem alone_zero {x : VT} (h : alone x = 0) : (0 ≤ x.kind ∧ x.kind ≤ 6) ∧ (∀ s ∈ ownT x, isT s.data.toList = true ∧ s.size ≤ 16384) ∧ (ownT x).length ≤ 4096 ∧ x.inner.length ≤ 4096 ∧ fitV x = true := by
  unfold alone at h
  split at h
  · exact absurd h (by decide)
  rename_i h1
  split at h
  · exact absurd h (by decide)
  rename_i h2
  split at h
  · exact absurd h (by decide)
  rename_i h3
  split at h
  · exact absurd h (by decide)
  rename_i h4
  split at h
  · rename_i h5
    refine ⟨by omega, fun s hs => ⟨?_, ?_⟩, by omega, by omega, h5⟩
    · rcases hh : isT s.data.toList with _ | _
      · exact absurd (List.any_eq_true.2 ⟨s, hs, by simp [hh]⟩) h2
      · rfl
    · rcases Nat.lt_or_ge 16384 s.size with h6 | h6
      · exact absurd (List.any_eq_true.2 ⟨s, hs, by simpa using h6⟩) h3
      · exact h6
  · exact absurd h (by decide)
/-- .. field by field. -/
theorem alone_fields {x : VT} (h : alone x = 0) : x.list = x.inner ∧
    (x.kind ≠ 3 → x.num = [] ∧ x.neg = false ∧ x.exp = 0) ∧ (x.kind = 3 → okB x.neg x.num x.exp = true) ∧ (x.kind ≠ 4 → x.text.size = 0) ∧ (x.kind = 4 → isT x.text.data.toList = true ∧ x.text.size ≤ 16384) ∧
    (x.kind ≠ 6 → x.keys = []) ∧ (x.kind = 6 → x.keys.length = x.list.length ∧ rises x.keys = true) ∧ (∀ s ∈ x.keys, isT s.data.toList = true ∧ s.size ≤ 16384) ∧ x.list.length ≤ 4096 ∧ x.keys.length ≤ 4096 ∧ (x.kind < 5 → x.list = []) := by
  obtain ⟨⟨h1, h2⟩, h3, h4, h5, h6⟩ := alone_zero h
  cases x with
  | mk k n xs e t l ks =>
    simp only [VT.kind, VT.list, VT.num, VT.neg, VT.exp, VT.text, VT.keys] at *
    rw [inner_mk] at h5 ⊢
    rw [fitV_mk2] at h6
    rw [ownT_mk] at h3 h4
    by_cases e3 : k = 3
    · subst e3
      rw [if_pos rfl] at h6
      simp only [Bool.and_eq_true, decide_eq_true_eq] at h6
      obtain ⟨h6, h7⟩ := h6
      have hl : l = [] := List.eq_nil_of_length_eq_zero (by omega)
      have hk : ks = [] := List.eq_nil_of_length_eq_zero (by omega)
      subst hl hk
      refine ⟨by simp [hold], fun h => absurd rfl h, fun _ => h6, fun _ => by omega, fun h => absurd h (by decide), fun _ => rfl, fun h => absurd h (by decide), fun s hs => absurd hs (by simp), by simp, by simp, fun _ => rfl⟩
    rw [if_neg e3] at h6
    by_cases e4 : k = 4
    · subst e4
      rw [if_pos rfl] at h6
      simp only [Bool.and_eq_true, decide_eq_true_eq, Bool.not_eq_true'] at h6
      obtain ⟨⟨h6, h7⟩, h8⟩ := h6
      have hl : l = [] := List.eq_nil_of_length_eq_zero (by omega)
      have hk : ks = [] := List.eq_nil_of_length_eq_zero (by omega)
      have hx : xs = [] := List.eq_nil_of_length_eq_zero (by omega)
      subst hl hk hx
      refine ⟨by simp [hold], fun _ => ⟨rfl, h7, h8⟩, fun h => absurd h (by decide), fun h => absurd rfl h, fun _ => h3 t (by simp), fun _ => rfl, fun h => absurd h (by decide), fun s hs => absurd hs (by simp), by simp, by simp, fun _ => rfl⟩
    rw [if_neg e4] at h6
    by_cases e5 : k = 5
    · subst e5
      rw [if_pos rfl] at h6
      simp only [Bool.and_eq_true, decide_eq_true_eq, Bool.not_eq_true'] at h6
      obtain ⟨⟨h6, h7⟩, h8⟩ := h6
      have hk : ks = [] := List.eq_nil_of_length_eq_zero (by omega)
      have hx : xs = [] := List.eq_nil_of_length_eq_zero (by omega)
      subst hk hx
      have hh : hold 5 = true := by decide
      rw [if_pos hh] at h5 ⊢
      refine ⟨rfl, fun _ => ⟨rfl, h7, h8⟩, fun h => absurd h (by decide), fun _ => by omega, fun h => absurd h (by decide), fun _ => rfl, fun h => absurd h (by decide), fun s hs => absurd hs (by simp), h5, by simp, fun h => absurd h (by decide)⟩
    rw [if_neg e5] at h6
    by_cases e6 : k = 6
    · subst e6
      rw [if_pos rfl] at h6
      simp only [Bool.and_eq_true, decide_eq_true_eq, Bool.not_eq_true'] at h6
      obtain ⟨⟨⟨⟨h6, h9⟩, h10⟩, h7⟩, h8⟩ := h6
      have hx : xs = [] := List.eq_nil_of_length_eq_zero (by omega)
      subst hx
      have hh : hold 6 = true := by decide
      rw [if_pos hh] at h5 ⊢
      rw [if_neg (by decide), if_pos rfl] at h3 h4
      refine ⟨rfl, fun _ => ⟨rfl, h7, h8⟩, fun h => absurd h (by decide), fun _ => by omega, fun h => absurd h (by decide), fun h => absurd rfl h, fun _ => ⟨h6, h9⟩, h3, h5, h4, fun h => absurd h (by decide)⟩
    rw [if_neg e6] at h6
    simp only [Bool.and_eq_true, decide_eq_true_eq, Bool.not_eq_true'] at h6
    obtain ⟨⟨h6, h7⟩, h8⟩ := h6
    have hl : l = [] := List.eq_nil_of_length_eq_zero (by omega)
    have hk : ks = [] := List.eq_nil_of_length_eq_zero (by omega)
    have hx : xs = [] := List.eq_nil_of_length_eq_zero (by omega)
    subst hl hk hx
    refine ⟨by simp, fun _ => ⟨rfl, h7, h8⟩, fun h => absurd h e3, fun _ => by omega, fun h => absurd h e4, fun _ => rfl, fun h => absurd h e6, fun s hs => absurd hs (by simp), by simp, by simp, fun _ => rfl⟩

/-- How deep a value goes, as far as is gone into. -/
def mxL : List Nat → Nat
  | [] => 0
  | a :: r => max a (mxL r)
theorem mxL_snoc (l : List Nat) (a : Nat) : mxL (l ++ [a]) = max (mxL l) a := by
  induction l with
  | nil => simp [mxL]
  | cons b r ih => simp only [List.cons_append, mxL, ih]; omega
theorem mxL_le {l : List Nat} {B : Nat} (h : ∀ a ∈ l, a ≤ B) : mxL l ≤ B := by
  induction l with
  | nil => simp [mxL]
  | cons b r ih =>
    have h1 := h b List.mem_cons_self
    have h2 := ih fun a ha => h a (List.mem_cons_of_mem _ ha)
    simp only [mxL]; omega
def dpt : Nat → VT → Nat
  | 0, _ => 0
  | n + 1, x => if hold x.kind then 1 + mxL (x.list.map (dpt n)) else 0
theorem dpt_le : ∀ (n : Nat) (x : VT), dpt n x ≤ n
  | 0, _ => Nat.le_refl _
  | n + 1, x => by
    unfold dpt
    split
    · have := mxL_le (l := x.list.map (dpt n)) (B := n) (fun a ha => by
        obtain ⟨z, -, rfl⟩ := List.mem_map.1 ha
        exact dpt_le n z)
      omega
    · omega
/-- .. of the first k values of a list. -/
def dpL (n : Nat) (l : List VT) (k : Nat) : Nat := mxL ((l.take k).map (dpt n))
theorem dpL_zero (n : Nat) (l : List VT) : dpL n l 0 = 0 := by simp [dpL, mxL]
theorem dpL_succ {n : Nat} {l : List VT} {k : Nat} {x : VT} (h : l[k]? = some x) : dpL n l (k + 1) = max (dpL n l k) (dpt n x) := by
  unfold dpL
  rw [List.take_add_one, h]
  simp only [Option.toList_some, List.map_append, List.map_cons, List.map_nil]
  rw [mxL_snoc]
theorem dpL_le (n : Nat) (l : List VT) (k : Nat) : dpL n l k ≤ n := mxL_le fun a ha => by
  obtain ⟨z, -, rfl⟩ := List.mem_map.1 ha
  exact dpt_le n z
theorem deepL_mem {lv : Nat} {z : VT} : ∀ {l : List VT}, z ∈ l → deepL (pre lv z) ≤ deepL (preL lv l)
  | v :: r, h => by
    simp only [preL]
    rw [deepL_append]
    rcases List.mem_cons.1 h with rfl | h
    · omega
    · have := deepL_mem (lv := lv) h; omega
theorem dpt_deep : ∀ (n lv : Nat) (x : VT), dpt n x = 0 ∨ lv + dpt n x ≤ deepL (pre lv x)
  | 0, _, _ => .inl rfl
  | n + 1, lv, x => by
    unfold dpt
    by_cases h : hold x.kind = true
    · right
      rw [if_pos h, pre_eq]
      have hin : x.inner = x.list := by unfold VT.inner; rw [if_pos h]
      rw [hin]
      simp only [deepL]
      rw [if_pos h]
      have hm : mxL (x.list.map (dpt n)) ≤ max (lv + 1) (deepL (preL (lv + 1) x.list)) - (lv + 1) := mxL_le fun a ha => by
        obtain ⟨z, hz, rfl⟩ := List.mem_map.1 ha
        rcases dpt_deep n (lv + 1) z with h1 | h1
        · omega
        · have := deepL_mem (lv := lv + 1) hz
          omega
      omega
    · left; rw [if_neg h]
theorem okV_gd {x : VT} (h : okV x) : Gd x ∧ (partsV x).length ≤ 16384 ∧ dpt 1000 x ≤ 64 := by
  obtain ⟨h1, h2, h3⟩ := okV_parts h
  refine ⟨h1, h2, ?_⟩
  rcases dpt_deep 1000 0 x with h4 | h4 <;> omega
end Go.Proofs.YtobfeneeehmpcaaGreatDoor
