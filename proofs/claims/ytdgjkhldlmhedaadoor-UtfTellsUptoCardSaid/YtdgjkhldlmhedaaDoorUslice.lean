/-
  Contract of utf.Slice.
-/
import Derived.Test.YtdgjkhldlmhedaaDoorUwidth
set_option linter.unusedVariables false
set_option linter.unusedSimpArgs false
namespace Go.Proofs.YtdgjkhldlmhedaaDoor
open Go.RowKit Go.Lib

/-- A text of octets. -/
def mk8 (l : List UInt8) : ByteArray := ⟨l.toArray⟩
theorem mk8_L (l : List UInt8) : (mk8 l).data.toList = l := rfl
theorem mk8_size (l : List UInt8) : (mk8 l).size = l.length := by show l.toArray.size = _; simp
theorem mk8_of (s : ByteArray) : mk8 s.data.toList = s := by cases s; simp [mk8]
theorem mk8_drop (l : List UInt8) (p : Nat) : (mk8 l).extract p l.length = mk8 (l.drop p) := by
  have h := extract_L (mk8 l) p
  rw [mk8_size, mk8_L] at h
  rw [← mk8_of ((mk8 l).extract p l.length), h]
theorem mk8_take (l : List UInt8) (p : Nat) : (mk8 l).extract 0 p = mk8 (l.take p) := by
  have h : ((mk8 l).extract 0 p).data.toList = l.take p := by
    rw [ByteArray.data_extract, Array.toList_extract]
    simp [mk8]
  rw [← mk8_of ((mk8 l).extract 0 p), h]

/-- The characters of a text between two places. -/
def sliceT (L : List UInt8) (a b : Int) : List UInt8 :=
  if isT L = true then enc (((chars L).drop (wi (chars L).length a).toNat).take ((bnd2 (chars L).length a b).toNat - (wi (chars L).length a).toNat)) else []
theorem chars_len (L : List UInt8) : (chars L).length = (pcs L).length := by simp [chars]
theorem widthT_enc {cs : List Int} (h : ∀ c ∈ cs, isCh c) (k : Nat) : widthT (enc cs) k = (enc (cs.take k)).length := by
  unfold widthT
  rw [pcs_text h, ← List.map_take]
  unfold flat enc
  rw [List.flatMap_map]
theorem enc_drop (cs : List Int) (k : Nat) : (enc cs).drop (enc (cs.take k)).length = enc (cs.drop k) := by
  conv => lhs; rw [← List.take_append_drop k cs]
  rw [enc_append, List.take_append_drop, List.drop_left]
theorem enc_take (cs : List Int) (k : Nat) : (enc cs).take (enc (cs.take k)).length = enc (cs.take k) := by
  conv => lhs; rw [← List.take_append_drop k cs]
  rw [enc_append, List.take_append_drop, List.take_left]

set_option maxRecDepth 100000 in
set_option maxHeartbeats 1000000 in
theorem Slice_c (L : List UInt8) (a b : Int) (w : World) (hT : Tabs w) (hs : L.length ≤ 140737488355328) (ha : -9223372036854775808 ≤ a ∧ a ≤ 9223372036854775807) (hb : -9223372036854775808 ≤ b ∧ b ≤ 9223372036854775807) :
    Calls Tryd.prog 15 #[.string (mk8 L), .int .i64 a, .int .i64 b] w fun e w' => e = .returned (.tuple #[.string (mk8 (sliceT L a b)), .int .i64 (errT L : Int)]) ∧ Below w.heap.size w w' := by
  have hC := Count_c (mk8 L) w hT (by rw [mk8_size]; exact hs)
  rw [mk8_L] at hC
  by_cases hok : isT L = true
  · obtain ⟨cs, hcs⟩ : ∃ cs, cs = chars L := ⟨_, rfl⟩
    have hch : ∀ c ∈ cs, isCh c := by rw [hcs]; exact chars_ch hok
    have hLe : L = enc cs := by rw [hcs]; exact (enc_chars hok).symm
    have e1 : errT L = 0 := by unfold errT; rw [if_pos hok]
    have e2 : cntT L = cs.length := by unfold cntT; rw [if_pos hok, hcs, chars_len]
    have hnl : cs.length ≤ L.length := by rw [hcs, chars_len]; exact pcs_len L
    obtain ⟨x, hx⟩ : ∃ x : Nat, wi (cs.length : Int) a = (x : Int) := ⟨(wi (cs.length : Int) a).toNat, by have := wi_bound (n := (cs.length : Int)) (p := a) (by omega); omega⟩
    obtain ⟨y, hy⟩ : ∃ y : Nat, bnd2 (cs.length : Int) a b = (y : Int) := ⟨(bnd2 (cs.length : Int) a b).toNat, by have := bnd2_bound (n := (cs.length : Int)) (a := a) (b := b) (by omega); have := wi_bound (n := (cs.length : Int)) (p := a) (by omega); omega⟩
    have hxy : x ≤ y ∧ y ≤ cs.length := by have := bnd2_bound (n := (cs.length : Int)) (a := a) (b := b) (by omega); omega
    have e3 : sliceT L a b = enc ((cs.drop x).take (y - x)) := by
      unfold sliceT
      rw [if_pos hok, ← hcs, hx, hy]
      simp
    have hB := fun W => Bounds_c (cs.length : Int) a b W (by omega) (by omega) ha hb
    rw [hx, hy] at hB
    rw [e1, e2] at hC
    rw [e1, e3]
    have hch2 : ∀ c ∈ cs.drop x, isCh c := fun c hc => hch c (List.mem_of_mem_drop hc)
    obtain ⟨p, hp⟩ : ∃ p, p = (enc (cs.take x)).length := ⟨_, rfl⟩
    obtain ⟨q, hq⟩ : ∃ q, q = (enc ((cs.drop x).take (y - x))).length := ⟨_, rfl⟩
    have hpL : p ≤ L.length := by
      have := congrArg List.length (enc_take cs x)
      rw [List.length_take, ← hp, ← hLe] at this; omega
    have hrl : (L.drop p).length = L.length - p := List.length_drop
    have hqL : q ≤ (L.drop p).length := by
      have h1 : L.drop p = enc (cs.drop x) := by rw [hLe, hp]; exact enc_drop cs x
      have := congrArg List.length (enc_take (cs.drop x) (y - x))
      rw [List.length_take, ← hq, ← h1] at this; omega
    have hW1 := fun W (h : Tabs W) => width_c (mk8 L) x W h (by rw [mk8_size]; exact hs) (by omega)
    have hW2 := fun W (h : Tabs W) => width_c (mk8 (L.drop p)) (y - x) W h (by rw [mk8_size]; omega) (by omega)
    rw [mk8_L] at hW1 hW2
    rw [show widthT L x = p by rw [hLe, widthT_enc hch, hp]] at hW1
    rw [show widthT (L.drop p) (y - x) = q by rw [show L.drop p = enc (cs.drop x) by rw [hLe, hp]; exact enc_drop cs x, widthT_enc hch2, hq]] at hW2
    have hR1 : (mk8 L).extract p L.length = mk8 (L.drop p) := mk8_drop L p
    have hR2 : (mk8 (L.drop p)).extract 0 q = mk8 ((L.drop p).take q) := mk8_take _ _
    have hfin : (L.drop p).take q = enc ((cs.drop x).take (y - x)) := by
      rw [show L.drop p = enc (cs.drop x) by rw [hLe, hp]; exact enc_drop cs x, hq]
      exact enc_take _ _
    rw [hfin] at hR2
    have hCl := fun W => clone_c (mk8 (enc ((cs.drop x).take (y - x)))) W (by rw [mk8_size, ← hq]; omega)
    have hz1 : (mk8 L).size = L.length := mk8_size L
    have hz2 : (mk8 (L.drop p)).size = L.length - p := by rw [mk8_size, hrl]
    rw [hrl] at hqL
    generalize hM : enc ((cs.drop x).take (y - x)) = M at *
    generalize hS1 : mk8 L = S1 at *
    generalize hS2 : mk8 (L.drop p) = S2 at *
    generalize hS3 : mk8 M = S3 at *
    generalize cs.length = n at *
    have hsub : IntKind.i64.wrap ((y : Int) - (x : Int)) = ((y - x : Nat) : Int) := by rw [IntWalk.i64_in _ (by omega)]; omega
    have HT := Lib.hid hT
    have HC := Lib.hid hC
    have HB := Lib.hid hB
    have H1 := Lib.hid hW1
    have H2 := Lib.hid hW2
    have HCL := Lib.hid hCl
    clear hT hC hB hW1 hW2 hCl hM hS1 hS2 hS3 hfin hrl hq hp hch2 e1 e2 e3 hx hy hLe hch hcs hok ha hb
    go_enter Tryd.func15, Tryd.ntmps15
    go_wp2_with fail
    refine HC.out.mono ?_
    rintro e w1 ⟨rfl, hb1⟩
    go_wp2_with fail
    refine (HB.out w1).mono ?_
    rintro e w2 ⟨rfl, hb2⟩
    have hb2 := hb1.trans (hb2.mono hb1.size)
    go_wp2_with fail
    refine (H1.out w2 (HT.out.below hb2)).mono ?_
    rintro e w3 ⟨rfl, hb3⟩
    have hb3 := hb2.trans (hb3.mono hb2.size)
    go_wp2_with fail
    refine (H2.out w3 (HT.out.below hb3)).mono ?_
    rintro e w4 ⟨rfl, hb4⟩
    have hb4 := hb3.trans (hb4.mono hb3.size)
    go_wp2_with fail
    refine (HCL.out w4).mono ?_
    rintro e w5 ⟨rfl, hb5⟩
    have hb5 := hb4.trans (hb5.mono hb4.size)
    go_wp2
    go_ret2
    exact ⟨rfl, hb5⟩
  · have e1 : errT L = 61 := by unfold errT; rw [if_neg hok]
    have e2 : cntT L = 0 := by unfold cntT; rw [if_neg hok]
    have e3 : sliceT L a b = [] := by unfold sliceT; rw [if_neg hok]
    rw [e1, e2] at hC
    rw [e1, e3]
    generalize mk8 L = S1 at *
    clear e1 e2 e3 hok
    go_enter Tryd.func15, Tryd.ntmps15
    go_wp2_with fail
    refine hC.mono ?_
    rintro e w1 ⟨rfl, hb1⟩
    go_wp2
    go_ret2
    exact ⟨rfl, hb1⟩
end Go.Proofs.YtdgjkhldlmhedaaDoor
