/-
  What a list's values are; what flattening comes to. Pure, no program.
  An object that is made of its own keys and values is itself. Pure, no program.
  KindsBack, pure: entries and back; turned round twice. Plain lemmas.
  Contract of kinds.text: a text's value.
  Contracts of slices.Index over texts, and of value's Get where the key is there.
  Contract of kinds.Flatten.
-/
import Derived.Test.YtpmdcahomkdfmaaGreatDoorBKfl
import Derived.Test.YtpmdcahomkdfmaaGreatDoorBKwo
import Derived.Test.YtpmdcahomkdfmaaGreatDoorBUbounds
import Derived.Test.YtpmdcahomkdfmaaGreatDoorBUsync
import Derived.Test.YtpmdcahomkdfmaaGreatDoorBVob
set_option linter.unusedVariables false
set_option linter.unusedSimpArgs false
namespace Go.Proofs.YtpmdcahomkdfmaaGreatDoor
open Go.RowKit Go.Lib

mutual
theorem deep_monoK {a b : Nat} (h : a ≤ b) : ∀ x, deepL (pre a x) ≤ deepL (pre b x)
  | .mk k n x e t l ks => by
    have hl := deepL_monoK (a := a + 1) (b := b + 1) (by omega) l
    unfold pre
    split
    · simp only [deepL]; split <;> omega
    · simp only [deepL]; split <;> omega
theorem deepL_monoK {a b : Nat} (h : a ≤ b) : ∀ l, deepL (preL a l) ≤ deepL (preL b l)
  | [] => by simp [preL]
  | v :: r => by
    have h1 := deep_monoK h v
    have h2 := deepL_monoK h r
    simp only [preL, deepL_append]; omega
end
theorem preL_memK {y : VT} {lv : Nat} : ∀ {l : List VT}, y ∈ l → (pre lv y).length ≤ (preL lv l).length ∧ deepL (pre lv y) ≤ deepL (preL lv l)
  | v :: r, h => by
    simp only [preL, List.length_append, deepL_append]
    rcases List.mem_cons.1 h with rfl | h
    · exact ⟨by omega, by omega⟩
    · have := preL_memK (lv := lv) h
      exact ⟨by omega, by omega⟩
theorem firstBadK {l : List (Nat × VT)} (h : ∀ p ∈ l, alone p.2 = 0) : firstBad l = 0 := by
  induction l with
  | nil => rfl
  | cons p r ih =>
    unfold firstBad
    rw [if_pos (h p (by simp))]
    exact ih fun q hq => h q (by simp [hq])
theorem okV_ofK {x : VT} (h1 : ∀ y ∈ partsV x, alone y = 0) (h2 : (partsV x).length ≤ 16384) (h3 : deepL (pre 0 x) ≤ 64) : okV x := by
  have hl : (pre 0 x).length ≤ 16384 := by unfold partsV at h2; rwa [List.length_map] at h2
  have hs : seen x = pre 0 x := List.take_of_length_le (by unfold mostP; omega)
  unfold okV errV
  rw [hs, if_neg (by omega), if_neg (by omega)]
  exact firstBadK fun p hp => h1 _ ((mem_pre (lv := 0)).1 ⟨p.1, hp⟩)
/-- A part of a value that may be may be. -/
theorem okV_elemK {x y : VT} (h : okV x) (hy : y ∈ x.inner) : okV y := by
  obtain ⟨h1, h2, h3⟩ := okV_parts h
  obtain ⟨g1, g2⟩ := preL_memK (lv := 1) hy
  have hx : (pre 0 x).length = 1 + (preL 1 x.inner).length := by rw [pre_eq, List.length_cons, Nat.zero_add]; omega
  have hd : deepL (preL 1 x.inner) ≤ deepL (pre 0 x) := by rw [pre_eq, Nat.zero_add]; simp only [deepL]; omega
  have hl : (pre 0 y).length = (pre 1 y).length := by
    have := congrArg List.length (pre_snd 0 1 y)
    simpa using this
  refine okV_ofK (fun z hz => h1 z (mem_parts.2 (.inr ⟨y, hy, hz⟩))) ?_ ?_
  · unfold partsV at h2 ⊢
    rw [List.length_map] at h2 ⊢
    omega
  · have := deep_monoK (show 0 ≤ 1 by omega) y
    omega
theorem alone_of {x : VT} (h : okV x) : alone x = 0 := (okV_parts h).1 x (mem_parts.2 (.inl rfl))
theorem textK {t : ByteArray} (h : t.size = 0) : t = ⟨#[]⟩ := by
  cases t with
  | mk d => exact congrArg ByteArray.mk (Array.eq_empty_of_size_eq_zero h)
theorem listV_ofK {x : VT} (h : okV x) (h5 : x.kind = 5) : x = listV x.list := by
  have ha := alone_of h
  cases x with
  | mk k n xs e t l ks =>
    have h5 : k = 5 := h5
    subst h5
    unfold alone at ha
    split at ha
    · exact absurd ha (by decide)
    split at ha
    · exact absurd ha (by decide)
    split at ha
    · exact absurd ha (by decide)
    split at ha
    · exact absurd ha (by decide)
    split at ha
    · rename_i hf
      rw [fitV_mk, if_neg (by decide), if_neg (by decide), if_pos rfl] at hf
      simp only [Bool.and_eq_true, decide_eq_true_eq, Bool.not_eq_true'] at hf
      obtain ⟨⟨h1, h2⟩, h3⟩ := hf
      have e1 : xs = [] := List.eq_nil_of_length_eq_zero (by omega)
      have e2 : t = ⟨#[]⟩ := textK (by omega)
      have e3 : ks = [] := List.eq_nil_of_length_eq_zero (by omega)
      subst e1 e2 e3 h2 h3
      rfl
    · exact absurd ha (by decide)
end Go.Proofs.YtpmdcahomkdfmaaGreatDoor

namespace Go.Proofs.YtpmdcahomkdfmaaGreatDoor
open Go.Lib

theorem lt_of_rises {ks : List ByteArray} (h : rises ks = true) : (ks.map fun s => s.data.toList).Pairwise (· < ·) := by
  induction ks with
  | nil => exact List.Pairwise.nil
  | cons a t ih =>
    cases t with
    | nil => simp
    | cons b u =>
      unfold rises at h
      rw [Bool.and_eq_true] at h
      have h1 : a.data.toList < b.data.toList := by
        have := h.1
        rw [bytesLess_eq, decide_eq_true_eq, ByteArray.toList_eq, ByteArray.toList_eq] at this
        exact this
      have h2 := ih h.2
      rw [List.map_cons]
      refine List.Pairwise.cons (fun x hx => ?_) h2
      rw [List.map_cons] at hx h2
      rcases List.mem_cons.1 hx with rfl | hx
      · exact h1
      · exact List.lt_trans h1 (List.rel_of_pairwise_cons h2 hx)
theorem lastAt_ex {ks : List ByteArray} {s : ByteArray} : s ∈ ks → (lastAt ks s ks.length).isSome = true := fun h => by
  cases hx : lastAt ks s ks.length with
  | some i => rfl
  | none =>
    obtain ⟨i, hi, rfl⟩ := List.getElem_of_mem h
    have := lastAt_none hx i hi
    rw [List.getD_eq_getElem?_getD, List.getElem?_eq_getElem hi] at this
    exact absurd rfl this
theorem nodup_of_rises {ks : List ByteArray} (h : rises ks = true) : ks.Nodup := by
  have h1 := lt_of_rises h
  rw [List.pairwise_map] at h1
  exact h1.imp fun {a b} hab e => by rw [e] at hab; exact List.lt_irrefl _ hab
theorem keysB_self {ks : List ByteArray} (h : rises ks = true) : keysB ks = ks := by
  have hp : (keysB ks).Perm ks := (List.perm_ext_iff_of_nodup (nodup_of_rises (keysB_rises ks)) (nodup_of_rises h)).2 fun s => ⟨keysB_in, fun hs => keysB_mem.2 (lastAt_ex hs)⟩
  have h1 := lt_of_rises (keysB_rises ks)
  have h2 := lt_of_rises h
  rw [List.pairwise_map] at h1 h2
  exact hp.eq_of_pairwise (le := fun a b : ByteArray => a.data.toList < b.data.toList) (fun a b _ _ x y => absurd y (List.lt_asymm x)) h1 h2
theorem obj_self {ks : List ByteArray} {l : List VT} (h : rises ks = true) (hl : ks.length = l.length) : objV ks l = .mk 6 false [] 0 ⟨#[]⟩ l ks := by
  unfold objV
  rw [keysB_self h]
  congr 1
  refine List.ext_getElem (by rw [List.length_map]; exact hl) fun i h1 h2 => ?_
  rw [List.getElem_map]
  have hi : i < ks.length := by omega
  have hs := lastAt_ex (List.getElem_mem hi)
  unfold lastV
  cases hx : lastAt ks ks[i] ks.length with
  | none => rw [hx] at hs; cases hs
  | some j =>
    obtain ⟨j1, j2, _⟩ := lastAt_some hx
    rw [List.getD_eq_getElem?_getD, List.getElem?_eq_getElem j1] at j2
    have hj : j = i := (List.getElem_inj (nodup_of_rises h)).1 j2
    subst hj
    show l.getD j VT0 = l[j]
    rw [List.getD_eq_getElem?_getD, List.getElem?_eq_getElem h2]
    rfl
end Go.Proofs.YtpmdcahomkdfmaaGreatDoor

namespace Go.Proofs.YtpmdcahomkdfmaaGreatDoor
open Go.RowKit Go.Lib

/-- An object that may be is made of its keys and values again. -/
theorem obj_okK {x : VT} (h : okV x) (h6 : x.kind = 6) : x = .mk 6 false [] 0 ⟨#[]⟩ x.list x.keys ∧ objV x.keys x.list = x ∧ x.keys.length = x.list.length := by
  have ha := alone_of h
  cases x with
  | mk k n xs e t l ks =>
    have h6 : k = 6 := h6
    subst h6
    unfold alone at ha
    split at ha
    · exact absurd ha (by decide)
    split at ha
    · exact absurd ha (by decide)
    split at ha
    · exact absurd ha (by decide)
    split at ha
    · exact absurd ha (by decide)
    split at ha
    · rename_i hf
      rw [fitV_mk, if_neg (by decide), if_neg (by decide), if_neg (by decide), if_pos rfl] at hf
      simp only [Bool.and_eq_true, decide_eq_true_eq, Bool.not_eq_true'] at hf
      obtain ⟨⟨⟨⟨h1, h4⟩, h5⟩, h2⟩, h3⟩ := hf
      have e1 : xs = [] := List.eq_nil_of_length_eq_zero (by omega)
      have e2 : t = ⟨#[]⟩ := textK (by omega)
      subst e1 e2 h2 h3
      exact ⟨rfl, obj_self h4 h1, h1⟩
    · exact absurd ha (by decide)
def textV (s : ByteArray) : VT := .mk 4 false [] 0 s [] []
def keyS : ByteArray := ⟨#[107, 101, 121]⟩
def valueS : ByteArray := ⟨#[118, 97, 108, 117, 101]⟩
/-- An entry. -/
def entryV (s : ByteArray) (v : VT) : VT := .mk 6 false [] 0 ⟨#[]⟩ [textV s, v] [keyS, valueS]
def entE (x : VT) : Nat := if x.kind = 6 then 0 else 41
def entY (x : VT) : VT := if x.kind = 6 then listV (List.zipWith entryV x.keys x.list) else VT0
/-- A text turned round. -/
def revT (L : List UInt8) : List UInt8 := enc (uchars L).reverse
theorem revT_ok {L : List UInt8} (h : isT L = true) : isT (revT L) = true ∧ revT (revT L) = L ∧ (revT L).length = L.length := by
  have hc := chars_ch h
  have hr : ∀ c ∈ (uchars L).reverse, isCh c := fun c hm => hc c (List.mem_reverse.1 hm)
  have h2 : revT (revT L) = L := by
    unfold revT
    rw [chars_enc hr, List.reverse_reverse, enc_chars h]
  refine ⟨isT_enc hr, h2, ?_⟩
  have hl : ∀ cs : List Int, (enc cs.reverse).length = (enc cs).length := fun cs => by
    unfold enc
    rw [List.length_flatMap, List.length_flatMap, List.map_reverse, List.sum_reverse]
  show (enc (uchars L).reverse).length = _
  rw [hl, enc_chars h]
def revE (x : VT) : Nat := if x.kind = 0 ∨ x.kind = 4 ∨ x.kind = 5 then 0 else 41
def revY (x : VT) : VT := if x.kind = 0 then listV [] else if x.kind = 4 then textV (mk8 (revT x.text.data.toList)) else if x.kind = 5 then listV x.list.reverse else VT0
end Go.Proofs.YtpmdcahomkdfmaaGreatDoor

namespace Go.Proofs.YtpmdcahomkdfmaaGreatDoor
open Go.RowKit Go.Lib

theorem buildTE (s : ByteArray) (w : World) : (Instr.build 28 #[(0, .int .i64 4), (2, .string s)]).run Tryz.prog w = .ok (.agg #[.int .i64 4, .bool false, .slice none 0 0, .int .i64 0, .string s, .slice none 0 0, .slice none 0 0]) w := run_build w 28 _ _ (by kernel_rfl)
set_option maxRecDepth 1000000 in
set_option maxHeartbeats 2000000 in
theorem etext_c (s : ByteArray) (w : World) :
    Calls Tryz.prog 25 #[.string s] w fun e w' => e = .returned (.agg #[.int .i64 4, .bool false, .slice none 0 0, .int .i64 0, .string s, .slice none 0 0, .slice none 0 0]) ∧ Below w.heap.size w w' := by
  obtain ⟨nb, hnb⟩ : ∃ b, w.heap.size = b := ⟨_, rfl⟩
  obtain ⟨w2, hw2⟩ : ∃ w2, w.alloc (.cells #[.int .i64 0, .bool false, .slice none 0 0, .int .i64 0, .string ⟨#[]⟩, .slice none 0 0, .slice none 0 0] 28) = w2 := ⟨_, rfl⟩
  have hb2 : Below nb w w2 := by rw [← hw2]; exact (Below.refl nb w).alloc (by omega) _
  have h1 : w2.heap[nb]? = some (.cells #[.int .i64 0, .bool false, .slice none 0 0, .int .i64 0, .string ⟨#[]⟩, .slice none 0 0, .slice none 0 0] 28) := by
    rw [← hw2, ← hnb]; exact World.alloc_heap_new _ _
  obtain ⟨z0, z1, z2, z3, z4, z5, z6⟩ := box7_of h1
  have fz : ∀ j, w2.frozen? ⟨nb, j, none⟩ = false := fun j => frozen_of_row _ _ j _ _ h1
  have hbu := fun W => buildTE s W
  have HW2 := Lib.hid hw2
  have HB2 := Lib.hid hb2
  rw [hnb]
  clear hw2 hb2 h1
  go_enter Tryz.func25, Tryz.ntmps25
  go_upto_region 1 with fail
  try rw [hnb]
  clear hnb
  rw [HW2.out]
  go_wp2_with fail
  refine bodyPost_ret (v := .agg #[.int .i64 4, .bool false, .slice none 0 0, .int .i64 0, .string s, .slice none 0 0, .slice none 0 0]) (by simp [results, Tryz.results25, go_sem, z0, z1, z2, z3, z4, z5, z6]) rfl ?_
  exact ⟨rfl, below_seven HB2.out (by omega) _ _ _ _ _ _ _⟩
end Go.Proofs.YtpmdcahomkdfmaaGreatDoor

namespace Go.Proofs.YtpmdcahomkdfmaaGreatDoor
open Go.RowKit

theorem ba_beq {a b : ByteArray} : (a.toList == b.toList) = decide (a = b) := by
  by_cases h : a = b
  · subst h; simp
  · rw [decide_eq_false h, beq_eq_false_iff_ne]
    exact fun e => h (ba_eq e)

set_option maxRecDepth 100000 in
set_option maxHeartbeats 1000000 in
theorem index_c {S : Nat → Prop} {A : Option Addr} {n c i : Nat} {ks : List ByteArray} {s : ByteArray} (w : World) (h : RdT w S A n ks) (hn : n ≤ 8796093022208) (hi : ks[i]? = some s) (hlt : ∀ j, j < i → ks[j]? ≠ some s) :
    Calls Tryz.prog 60 #[.slice A n c, .string s] w fun e w' => e = .returned (.int .i64 (i : Int)) ∧ w = w' := by
  have hil := (List.getElem?_eq_some_iff.1 hi).1
  have hkl := h.1
  have HI := Lib.hid hi
  have HLT := Lib.hid hlt
  clear hi hlt
  go_enter Tryz.func60, Tryz.ntmps60
  go_upto_region 2 with fail
  go_loopw [8] (fun v wr => ∃ k : Nat, k ≤ i ∧ v = .int .i64 (k : Int) ∧ wr = w) (fun v _ => i + 1 - (RowKit.intOf v).toNat)
  case atStart => exact ⟨0, Nat.zero_le _, rfl, rfl⟩
  case round =>
    obtain ⟨k, hki, rfl, rfl⟩ := hrel
    obtain ⟨b, off, t, rfl, _, ht, hc⟩ := h.at_ (k := k) (by omega)
    have hlt2 : (k : Int) < (n : Int) := by omega
    have hk0 : (0 : Int) ≤ (k : Int) := by omega
    have hkt : ((k : Int)).toNat = k := by omega
    have hkw : IntKind.i64.wrap ((k : Int) + 1) = (k : Int) + 1 := IntWalk.i64_in _ (by omega)
    by_cases hki2 : k = i
    · subst hki2
      obtain rfl : t = s := by have := HI.out; rw [ht] at this; injection this
      have hq : (t.toList == t.toList) = true := by simp
      go_wp2_with fail
      go_ret
      first | exact ⟨rfl, rfl⟩ | exact ⟨rfl, trivial⟩
    · have hne : s ≠ t := fun e => HLT.out k (by omega) (by rw [ht, e])
      have hq : (s.toList == t.toList) = false := by rw [ba_beq, decide_eq_false hne]
      clear hne ht
      go_wp2_with fail
      go_roundw
      case rel => exact ⟨k + 1, by omega, by go_num, by first | rfl | trivial⟩
      case measure => first | (simp [RowKit.intOf]; omega) | (simp [RowKit.intOf]; omega) | (show _ - _ < _ - _; simp only [RowKit.intOf]; omega)

set_option maxRecDepth 100000 in
set_option maxHeartbeats 4000000 in
theorem get_c {S : Nat → Prop} {x y : VT} {cs : List Value} {s : ByteArray} {i : Nat} (w : World) (hx : VIn w S x cs) (hS : ∀ b, S b → b < w.heap.size) (hk : x.kind = 6) (hi : x.keys[i]? = some s) (hlt : ∀ j, j < i → x.keys[j]? ≠ some s) (hy : x.list[i]? = some y) (hu : under y ≤ 21474836) :
    Calls Tryz.prog 38 #[.agg cs.toArray, .string s] w fun e' w' => ∃ cs', e' = .returned (.tuple #[.agg cs'.toArray, .bool true]) ∧ VIn w' (Own' w.heap.size w') y cs' ∧ Below w.heap.size w w' := by
  obtain ⟨k, neg, xs, e, t, li, ks, rfl⟩ : ∃ k neg xs e t li ks, x = VT.mk k neg xs e t li ks := by cases x; exact ⟨_, _, _, _, _, _, _, rfl⟩
  have hk6 : k = 6 := hk
  subst hk6
  obtain ⟨A, n, c, LA, ln, lc, KA, kn, kc, rfl, a1, a2, a3, a4, a5, a6, a7⟩ := hx.parts
  obtain ⟨bn, bk, bl⟩ := hx.bounds
  have hi2 : ks[i]? = some s := hi
  have hlt2 : ∀ j, j < i → ks[j]? ≠ some s := hlt
  have hy2 : li[i]? = some y := hy
  have hil : i < ln := by have := (List.getElem?_eq_some_iff.1 hy2).1; have := a4.1; omega
  have hik : i < kn := by have := (List.getElem?_eq_some_iff.1 hi2).1; have := a5.1; omega
  clear hk hi hlt hy hx
  have hW : Below w.heap.size w ((w.alloc (.cells #[.int .i64 6, .bool neg, .slice A n c, .int .i64 e, .string t, .slice LA ln lc, .slice KA kn kc] 28)).alloc (.cells #[.int .i64 0, .bool false, .slice none 0 0, .int .i64 0, .string ⟨#[]⟩, .slice none 0 0, .slice none 0 0] 28)) := ((Below.refl _ w).alloc (Nat.le_refl _) _).alloc (by simp) _
  have hm1 : ((w.alloc (.cells #[.int .i64 6, .bool neg, .slice A n c, .int .i64 e, .string t, .slice LA ln lc, .slice KA kn kc] 28)).alloc (.cells #[.int .i64 0, .bool false, .slice none 0 0, .int .i64 0, .string ⟨#[]⟩, .slice none 0 0, .slice none 0 0] 28)).heap[w.heap.size]? = some (.cells #[.int .i64 6, .bool neg, .slice A n c, .int .i64 e, .string t, .slice LA ln lc, .slice KA kn kc] 28) := (Below.heap_alloc _ _ _ (by simp)).trans (World.alloc_heap_new w _)
  have hm2 : ((w.alloc (.cells #[.int .i64 6, .bool neg, .slice A n c, .int .i64 e, .string t, .slice LA ln lc, .slice KA kn kc] 28)).alloc (.cells #[.int .i64 0, .bool false, .slice none 0 0, .int .i64 0, .string ⟨#[]⟩, .slice none 0 0, .slice none 0 0] 28)).heap[w.heap.size + 1]? = some (.cells #[.int .i64 0, .bool false, .slice none 0 0, .int .i64 0, .string ⟨#[]⟩, .slice none 0 0, .slice none 0 0] 28) := by
    have := World.alloc_heap_new (w.alloc (.cells #[.int .i64 6, .bool neg, .slice A n c, .int .i64 e, .string t, .slice LA ln lc, .slice KA kn kc] 28)) (.cells #[.int .i64 0, .bool false, .slice none 0 0, .int .i64 0, .string ⟨#[]⟩, .slice none 0 0, .slice none 0 0] 28)
    rwa [World.size_alloc] at this
  go_enter Tryz.func38, Tryz.ntmps38
  go_upto_region 1 with fail
  generalize ((w.alloc (.cells #[.int .i64 6, .bool neg, .slice A n c, .int .i64 e, .string t, .slice LA ln lc, .slice KA kn kc] 28)).alloc (.cells #[.int .i64 0, .bool false, .slice none 0 0, .int .i64 0, .string ⟨#[]⟩, .slice none 0 0, .slice none 0 0] 28)) = W0 at *
  have hzW := (Array.getElem?_eq_some_iff.1 hm2).1
  have hks0 := a5.stay hW hS
  have hls0 := a4.stay hW hS
  have HX := index_c (c := kc) W0 hks0 (by omega) hi2 hlt2
  obtain ⟨b, off, y', cy, rfl, hSb, hy3, hcl, hcc, hvy⟩ := hls0.at_ hil
  obtain rfl : y' = y := by rw [hy2] at hy3; injection hy3 with h; exact h.symm
  obtain ⟨q0, q1, q2, q3, q4, q5, q6, rfl⟩ := list7 hcl
  have HC := copied_c W0 hvy (fun b hb => Nat.lt_of_lt_of_le (hS b hb) hW.size) hu
  have d0 : W0.cell? ⟨b, off + i * 7, none⟩ = some q0 := hcc 0 (by omega)
  have d1 : W0.cell? ⟨b, off + i * 7 + 1, none⟩ = some q1 := by have := hcc 1 (by omega); rwa [← Nat.add_assoc] at this
  have d2 : W0.cell? ⟨b, off + i * 7 + 2, none⟩ = some q2 := by have := hcc 2 (by omega); rwa [← Nat.add_assoc] at this
  have d3 : W0.cell? ⟨b, off + i * 7 + 3, none⟩ = some q3 := by have := hcc 3 (by omega); rwa [← Nat.add_assoc] at this
  have d4 : W0.cell? ⟨b, off + i * 7 + 4, none⟩ = some q4 := by have := hcc 4 (by omega); rwa [← Nat.add_assoc] at this
  have d5 : W0.cell? ⟨b, off + i * 7 + 5, none⟩ = some q5 := by have := hcc 5 (by omega); rwa [← Nat.add_assoc] at this
  have d6 : W0.cell? ⟨b, off + i * 7 + 6, none⟩ = some q6 := by have := hcc 6 (by omega); rwa [← Nat.add_assoc] at this
  have h1 : (i : Int) < (ln : Int) := by omega
  have h2 : ¬ (i : Int) < 0 := by omega
  have h3 : ¬ (ln : Int) ≤ (i : Int) := by omega
  have h4 : (0 : Int) ≤ (i : Int) := by omega
  have h5 : ((i : Int)).toNat = i := by omega
  have HM2 := Lib.hid hm2
  have HW := Lib.hid hW
  obtain ⟨x0, x1, x2, x3, x4, x5, x6⟩ := box7_of hm1
  clear hcc hm1 hm2 hW hks0 hls0 a1 a2 a3 a4 a5 a6 a7 hvy hy2 hy3 hi2 hlt2
  go_upto_region 3 with fail
  go_wp2_with fail
  refine HX.mono ?_
  rintro e' w1 ⟨rfl, rfl⟩
  go_wp2_with fail
  refine HC.mono ?_
  rintro e' w2 ⟨cs', rfl, hv, hb2⟩
  clear HC HX x0 x1 x2 x3 x4 x5 x6 d0 d1 d2 d3 d4 d5 d6
  obtain ⟨k3, g3, n3, e3, t3, l3, s3, rfl⟩ : ∃ k neg xs e t li ks, y' = VT.mk k neg xs e t li ks := by cases y'; exact ⟨_, _, _, _, _, _, _, rfl⟩
  obtain ⟨A3, m3, c3, LA3, lm3, lc3, KA3, km3, kc3, rfl, _⟩ := hv.parts
  have hmz := (hb2.block _ hzW).trans HM2.out
  obtain ⟨z0, z1, z2, z3, z4, z5, z6⟩ := box7_of hmz
  have fz : ∀ j, w2.frozen? ⟨w.heap.size + 1, j, none⟩ = false := fun j => frozen_of_row w2 _ j _ _ hmz
  have HV := Lib.hid hv
  clear hv hmz
  go_wp2_with fail
  refine bodyPost_ret (v := .tuple #[.agg #[.int .i64 k3, .bool g3, .slice A3 m3 c3, .int .i64 e3, .string t3, .slice LA3 lm3 lc3, .slice KA3 km3 kc3], .bool true]) (by simp [results, Tryz.results38, go_sem, z0, z1, z2, z3, z4, z5, z6]) rfl ?_
  refine ⟨[.int .i64 k3, .bool g3, .slice A3 m3 c3, .int .i64 e3, .string t3, .slice LA3 lm3 lc3, .slice KA3 km3 kc3], rfl, ?_, below_seven (HW.out.trans (hb2.mono HW.out.size)) (by omega) _ _ _ _ _ _ _⟩
  refine (HV.out.keep fun p hp => ?_).more fun b hb => ⟨by have := hb.1; have := HW.out.size; omega, ?_⟩
  · have h1 := hp.1
    exact cell_seven (by omega) _ _ _ _ _ _ _
  · have := hb.2
    simpa [World.setCell] using this
end Go.Proofs.YtpmdcahomkdfmaaGreatDoor

namespace Go.Proofs.YtpmdcahomkdfmaaGreatDoor
open Go.RowKit Go.Lib

theorem buildLK (A : Option Addr) (n c : Nat) (w : World) : (Instr.build 28 #[(0, .int .i64 5), (3, .slice A n c)]).run Tryz.prog w = .ok (.agg #[.int .i64 5, .bool false, .slice none 0 0, .int .i64 0, .string ⟨#[]⟩, .slice A n c, .slice none 0 0]) w := run_build w 28 _ _ (by kernel_rfl)
end Go.Proofs.YtpmdcahomkdfmaaGreatDoor
