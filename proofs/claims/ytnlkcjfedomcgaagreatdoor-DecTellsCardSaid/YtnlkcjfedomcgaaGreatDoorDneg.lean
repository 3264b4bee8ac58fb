/-
  Contracts of dec.Neg and of the reference's Neg.
-/
import Derived.Test.YtnlkcjfedomcgaaGreatDoorDradd
set_option linter.unusedVariables false
set_option linter.unusedSimpArgs false
namespace Go.Proofs.YtnlkcjfedomcgaaGreatDoor
open Go.RowKit

def ngN (neg : Bool) (xs : List Nat) (exp : Int) : Bool := if okB neg xs exp = true then ops neg xs else false
def ngX (neg : Bool) (xs : List Nat) (exp : Int) : Int := if okB neg xs exp = true then exp else 0
def ngZ (neg : Bool) (xs : List Nat) (exp : Int) : List Nat := if okB neg xs exp = true then xs else []
theorem ops_ok {neg : Bool} {xs : List Nat} {exp : Int} (hl : L32 xs) (h : okB neg xs exp = true) : okB (ops neg xs) xs exp = true := by
  rcases okB_cases hl h with ⟨z1, z2, z3⟩ | ⟨z1, _⟩
  · rw [z1, z3]; cases neg <;> decide
  · unfold okB at h ⊢
    have h0 : ¬ xs.length = 0 := fun h0 => by rw [List.eq_nil_of_length_eq_zero h0] at z1; simp [val] at z1
    rw [if_neg h0] at h ⊢
    exact h
theorem answ_ok {e : Ending} {w' : World} {base n c : Nat} {A : Option Addr} {neg : Bool} {xs : List Nat} {exp : Int} (h : okB neg xs exp = true) (he : e = .returned (.tuple #[dv (ops neg xs) A n c exp, .int .i64 0])) (hr : Res w' base A n c xs) : Answ e w' base (ngN neg xs exp) (ngX neg xs exp) (ngZ neg xs exp) (okE neg xs exp) := by
  unfold ngN ngX ngZ okE
  rw [if_pos h, if_pos h, if_pos h, if_pos h]
  exact ⟨A, n, c, he, hr⟩
theorem answ_no {e : Ending} {w' : World} {base : Nat} {neg : Bool} {xs : List Nat} {exp : Int} (h : ¬ okB neg xs exp = true) (he : e = .returned (.tuple #[dv false none 0 0 0, .int .i64 9])) : Answ e w' base (ngN neg xs exp) (ngX neg xs exp) (ngZ neg xs exp) (okE neg xs exp) := by
  unfold ngN ngX ngZ okE
  rw [if_neg h, if_neg h, if_neg h, if_neg h]
  exact ⟨none, 0, 0, he, Res.nil _ _⟩

set_option maxRecDepth 100000 in
set_option maxHeartbeats 1000000 in
theorem DNeg_v {S : Nat → Prop} {n c : Nat} {A : Option Addr} {xs : List Nat} (neg : Bool) (exp : Int) (w : World) (ha : Rd w S A n xs) (hS : ∀ b, S b → b < w.heap.size) (hn : n ≤ 9223372036854775807) :
    Calls Tryz.prog 23 #[dv neg A n c exp] w fun e w' => Answ e w' w.heap.size (ngN neg xs exp) (ngX neg xs exp) (ngZ neg xs exp) (okE neg xs exp) ∧ Below w.heap.size w w' := by
  have hck := fun V (h1 : Rd V S A n xs) hs => DCheck_c (c := c) neg exp V h1 hs hn
  obtain ⟨m0, m1⟩ := two_new w (.cells #[.bool neg, .slice A n c, .int .i64 exp] 24) (.cells #[.bool false, .slice none 0 0, .int .i64 0] 24)
  have hW : Below w.heap.size w ((w.alloc (.cells #[.bool neg, .slice A n c, .int .i64 exp] 24)).alloc (.cells #[.bool false, .slice none 0 0, .int .i64 0] 24)) := ((Below.refl _ w).alloc (Nat.le_refl _) _).alloc (by simp) _
  have hsz : ((w.alloc (.cells #[.bool neg, .slice A n c, .int .i64 exp] 24)).alloc (.cells #[.bool false, .slice none 0 0, .int .i64 0] 24)).heap.size = w.heap.size + 2 := by simp
  have HM0 := Lib.hid m0
  have HM1 := Lib.hid m1
  have hcase : okB neg xs exp = true ∧ okE neg xs exp = 0 ∨ ¬ okB neg xs exp = true ∧ okE neg xs exp = 9 := by
    unfold okE
    by_cases h : okB neg xs exp = true
    · exact .inl ⟨h, if_pos h⟩
    · exact .inr ⟨h, if_neg h⟩
  rcases hcase with ⟨hok, hE⟩ | ⟨hok, hE⟩
  · have hn2 : n ≤ 256 := by rw [← ha.len]; exact (okB_true ha.l32 hok).2.1
    rw [hE] at hck
    have hfin := fun e w' A' n' c' => answ_ok (e := e) (w' := w') (base := w.heap.size) (A := A') (n := n') (c := c') hok
    generalize ngN neg xs exp = N at *
    generalize ngX neg xs exp = X at *
    generalize ngZ neg xs exp = Z at *
    generalize okE neg xs exp = E at *
    unfold dv at hck hfin ⊢
    have HCK := Lib.hid hck
    have HF := Lib.hid hfin
    clear hck hok hE hfin m0 m1
    go_enter Tryz.func23, Tryz.ntmps23
    go_wp2_with fail
    have m0 := HM0.out
    have m1 := HM1.out
    clear HM0 HM1
    generalize ((w.alloc (.cells #[.bool neg, .slice A n c, .int .i64 exp] 24)).alloc (.cells #[.bool false, .slice none 0 0, .int .i64 0] 24)) = W at m0 m1 hW hsz ⊢
    refine (HCK.out W (ha.below hW hS) (fun b h => by have := hS b h; omega)).mono ?_
    rintro e w1 ⟨rfl, hb1⟩
    have m0 := held hb1 (by omega) m0
    have m1 := held hb1 (by omega) m1
    have hw1 := hW.trans (hb1.mono (by omega))
    have hs1 := hb1.size
    obtain ⟨p0, p1, p2⟩ := box3_of m0
    have hO := opposite_c (c := c) neg exp w1 (ha.below hw1 hS) (fun b h => by have := hS b h; have := hw1.size; omega) (by omega)
    unfold dv at hO
    have HO := Lib.hid hO
    clear hO
    go_wp2_with fail
    refine HO.out.mono ?_
    rintro e w2 ⟨A2, c2, rfl, hr2, hb2⟩
    have m1 := held hb2 (by omega) m1
    obtain ⟨y0, y1, y2⟩ := box3_of m1
    have f0 := frozen_of 0 m1
    have f1 := frozen_of 1 m1
    have f2 := frozen_of 2 m1
    have hw2 := hw1.trans (hb2.mono hw1.size)
    have hlR : w.heap.size + 1 < w1.heap.size := by omega
    clear p0 p1 p2
    go_wp2
    refine bodyPost_ret (v := .tuple #[.agg #[.bool (ops neg xs), .slice A2 n c2, .int .i64 exp], .int .i64 0]) (by simp [results, Tryz.results23, go_sem, y0, y1, y2]) rfl ?_
    refine ⟨HF.out _ _ A2 n c2 rfl ?_, ?_⟩
    · exact (((hr2.setOther (p := ⟨w.heap.size + 1, 0, none⟩) hlR _).setOther (p := ⟨w.heap.size + 1, 1, none⟩) hlR _).setOther (p := ⟨w.heap.size + 1, 2, none⟩) hlR _).more hw1.size
    · exact ((hw2.setCell (p := ⟨w.heap.size + 1, 0, none⟩) (by simp) _).setCell (p := ⟨w.heap.size + 1, 1, none⟩) (by simp) _).setCell (p := ⟨w.heap.size + 1, 2, none⟩) (by simp) _
  · rw [hE] at hck
    have hfin := fun e w' => answ_no (e := e) (w' := w') (base := w.heap.size) hok
    generalize ngN neg xs exp = N at *
    generalize ngX neg xs exp = X at *
    generalize ngZ neg xs exp = Z at *
    generalize okE neg xs exp = E at *
    unfold dv at hck hfin ⊢
    have HCK := Lib.hid hck
    have HF := Lib.hid hfin
    clear hck hok hE hfin m0 m1
    go_enter Tryz.func23, Tryz.ntmps23
    go_wp2_with fail
    have m1 := HM1.out
    clear HM0 HM1
    generalize ((w.alloc (.cells #[.bool neg, .slice A n c, .int .i64 exp] 24)).alloc (.cells #[.bool false, .slice none 0 0, .int .i64 0] 24)) = W at m1 hW hsz ⊢
    refine (HCK.out W (ha.below hW hS) (fun b h => by have := hS b h; omega)).mono ?_
    rintro e w1 ⟨rfl, hb1⟩
    have m1 := held hb1 (by omega) m1
    have hw1 := hW.trans (hb1.mono (by omega))
    obtain ⟨y0, y1, y2⟩ := box3_of m1
    have f0 := frozen_of 0 m1
    have f1 := frozen_of 1 m1
    have f2 := frozen_of 2 m1
    go_wp2
    refine bodyPost_ret (v := .tuple #[.agg #[.bool false, .slice none 0 0, .int .i64 0], .int .i64 9]) (by simp [results, Tryz.results23, go_sem, y0, y1, y2]) rfl ?_
    exact ⟨HF.out _ _ rfl, ((hw1.setCell (p := ⟨w.heap.size + 1, 0, none⟩) (by simp) _).setCell (p := ⟨w.heap.size + 1, 1, none⟩) (by simp) _).setCell (p := ⟨w.heap.size + 1, 2, none⟩) (by simp) _⟩

set_option maxRecDepth 100000 in
set_option maxHeartbeats 1000000 in
theorem RNeg_v {S : Nat → Prop} {n c : Nat} {A : Option Addr} {xs : List Nat} (neg : Bool) (exp : Int) (w : World) (ha : Rd w S A n xs) (hS : ∀ b, S b → b < w.heap.size) (hn : n ≤ 9223372036854775807) :
    Calls Tryz.prog 24 #[dv neg A n c exp] w fun e w' => Answ e w' w.heap.size (ngN neg xs exp) (ngX neg xs exp) (ngZ neg xs exp) (okE neg xs exp) ∧ Below w.heap.size w w' := by
  have hck := fun V (h1 : Rd V S A n xs) hs => RCheck_c (c := c) neg exp V h1 hs hn
  obtain ⟨m0, m1⟩ := two_new w (.cells #[.bool neg, .slice A n c, .int .i64 exp] 24) (.cells #[.bool false, .slice none 0 0, .int .i64 0] 24)
  have hW : Below w.heap.size w ((w.alloc (.cells #[.bool neg, .slice A n c, .int .i64 exp] 24)).alloc (.cells #[.bool false, .slice none 0 0, .int .i64 0] 24)) := ((Below.refl _ w).alloc (Nat.le_refl _) _).alloc (by simp) _
  have hsz : ((w.alloc (.cells #[.bool neg, .slice A n c, .int .i64 exp] 24)).alloc (.cells #[.bool false, .slice none 0 0, .int .i64 0] 24)).heap.size = w.heap.size + 2 := by simp
  have HM0 := Lib.hid m0
  have HM1 := Lib.hid m1
  have hcase : okB neg xs exp = true ∧ okE neg xs exp = 0 ∨ ¬ okB neg xs exp = true ∧ okE neg xs exp = 9 := by
    unfold okE
    by_cases h : okB neg xs exp = true
    · exact .inl ⟨h, if_pos h⟩
    · exact .inr ⟨h, if_neg h⟩
  rcases hcase with ⟨hok, hE⟩ | ⟨hok, hE⟩
  · obtain ⟨b1, b2, b3, b4, _, _⟩ := okB_true ha.l32 hok
    have hn2 : n ≤ 256 := by rw [← ha.len]; exact b2
    rw [hE] at hck
    have hfin := fun e w' A' n' c' => answ_ok (e := e) (w' := w') (base := w.heap.size) (A := A') (n := n') (c := c') hok
    obtain ⟨t1, t2, t3, t4⟩ := settle_back (s := ops neg xs) (lo := exp) (Z := val xs) ha.l32 (ops_ok ha.l32 hok) (by omega) (sv_eq _ _ _).symm
    generalize ngN neg xs exp = N at *
    generalize ngX neg xs exp = X at *
    generalize ngZ neg xs exp = Z at *
    generalize okE neg xs exp = E at *
    unfold dv at hck hfin ⊢
    have HCK := Lib.hid hck
    have HF := Lib.hid hfin
    have HOK := Lib.hid hok
    have T1 := Lib.hid t1
    have T2 := Lib.hid t2
    have T3 := Lib.hid t3
    have T4 := Lib.hid t4
    clear hck hok hE hfin m0 m1 t1 t2 t3 t4 b1 b2 b3
    go_enter Tryz.func24, Tryz.ntmps24
    go_wp2_with fail
    have m0 := HM0.out
    have m1 := HM1.out
    clear HM0 HM1
    generalize ((w.alloc (.cells #[.bool neg, .slice A n c, .int .i64 exp] 24)).alloc (.cells #[.bool false, .slice none 0 0, .int .i64 0] 24)) = W at m0 m1 hW hsz ⊢
    refine (HCK.out W (ha.below hW hS) (fun b h => by have := hS b h; omega)).mono ?_
    rintro e w1 ⟨rfl, hb1⟩
    have m0 := held hb1 (by omega) m0
    have m1 := held hb1 (by omega) m1
    have hw1 := hW.trans (hb1.mono (by omega))
    have hs1 := hb1.size
    obtain ⟨p0, p1, p2⟩ := box3_of m0
    have hof := Of_c (c := c) neg exp w1 (ha.below hw1 hS) (fun b h => by have := hS b h; have := hw1.size; omega) hn2
    unfold dv at hof
    unfold nv at hof
    have HOF := Lib.hid hof
    clear hof
    go_wp2_with fail
    refine HOF.out.mono ?_
    rintro e w2 ⟨A2, n2, c2, ds, rfl, hr2, hd2, hv2, hl2, hb2⟩
    have m1 := held hb2 (by omega) m1
    have hw2 := hw1.trans (hb2.mono hw1.size)
    have hs2 := hb2.size
    have hsgn : ops neg ds = ops neg xs := by
      unfold ops
      congr 1
      have he := eq_dOf hd2
      rw [hv2] at he
      have hiff : ds = [] ↔ xs = [] := by
        constructor
        · intro h
          rw [h] at he
          have h3 := dOf_val (val xs)
          rw [← he, dval_nil] at h3
          rcases okB_cases ha.l32 HOK.out with ⟨z, _⟩ | ⟨z, _⟩
          · exact z
          · omega
        · intro h
          rw [he, h]; rfl
      simp only [ne_eq, hiff]
    have hop := ropp_c (A := A2) (c := c2) (ds := ds) neg exp w2 hr2.len
    rw [hsgn] at hop
    unfold nv at hop
    have HOP := Lib.hid hop
    have HD2 := Lib.hid hd2
    have HV2 := Lib.hid hv2
    clear hop hd2 hv2 hsgn p0 p1 p2
    go_wp2_with fail
    refine HOP.out.mono ?_
    rintro e w3 ⟨rfl, hb3⟩
    have m1 := held hb3 (by omega) m1
    have hr3 := hr2.below hb3 (Nat.le_refl _)
    have hw3 := hw2.trans (hb3.mono hw2.size)
    have hs3 := hb3.size
    have hn3 := hr3.n_le
    unfold maxLen at hn3
    have hmade := Made_c (c := c2) (ops neg xs) exp w3 hr3.rd (fun b h => h.2) HD2.out.1 (by omega) hn3.1 (by omega) (by omega)
    rw [HV2.out, T1.out, T2.out, T3.out, T4.out] at hmade
    unfold nv dv at hmade
    have HMADE := Lib.hid hmade
    clear hmade
    go_wp2_with fail
    refine HMADE.out.mono ?_
    rintro e w4 ⟨A4, n4, c4, rfl, hr4, hb4⟩
    have m1 := held hb4 (by omega) m1
    obtain ⟨y0, y1, y2⟩ := box3_of m1
    have f0 := frozen_of 0 m1
    have f1 := frozen_of 1 m1
    have f2 := frozen_of 2 m1
    have hw4 := hw3.trans (hb4.mono hw3.size)
    have hlR : w.heap.size + 1 < w3.heap.size := by omega
    go_wp2
    refine bodyPost_ret (v := .tuple #[.agg #[.bool (ops neg xs), .slice A4 n4 c4, .int .i64 exp], .int .i64 0]) (by simp [results, Tryz.results24, go_sem, y0, y1, y2]) rfl ?_
    refine ⟨HF.out _ _ A4 n4 c4 rfl ?_, ?_⟩
    · exact (((hr4.setOther (p := ⟨w.heap.size + 1, 0, none⟩) hlR _).setOther (p := ⟨w.heap.size + 1, 1, none⟩) hlR _).setOther (p := ⟨w.heap.size + 1, 2, none⟩) hlR _).more hw3.size
    · exact ((hw4.setCell (p := ⟨w.heap.size + 1, 0, none⟩) (by simp) _).setCell (p := ⟨w.heap.size + 1, 1, none⟩) (by simp) _).setCell (p := ⟨w.heap.size + 1, 2, none⟩) (by simp) _
  · rw [hE] at hck
    have hfin := fun e w' => answ_no (e := e) (w' := w') (base := w.heap.size) hok
    generalize ngN neg xs exp = N at *
    generalize ngX neg xs exp = X at *
    generalize ngZ neg xs exp = Z at *
    generalize okE neg xs exp = E at *
    unfold dv at hck hfin ⊢
    have HCK := Lib.hid hck
    have HF := Lib.hid hfin
    clear hck hok hE hfin m0 m1
    go_enter Tryz.func24, Tryz.ntmps24
    go_wp2_with fail
    have m1 := HM1.out
    clear HM0 HM1
    generalize ((w.alloc (.cells #[.bool neg, .slice A n c, .int .i64 exp] 24)).alloc (.cells #[.bool false, .slice none 0 0, .int .i64 0] 24)) = W at m1 hW hsz ⊢
    refine (HCK.out W (ha.below hW hS) (fun b h => by have := hS b h; omega)).mono ?_
    rintro e w1 ⟨rfl, hb1⟩
    have m1 := held hb1 (by omega) m1
    have hw1 := hW.trans (hb1.mono (by omega))
    obtain ⟨y0, y1, y2⟩ := box3_of m1
    have f0 := frozen_of 0 m1
    have f1 := frozen_of 1 m1
    have f2 := frozen_of 2 m1
    go_wp2
    refine bodyPost_ret (v := .tuple #[.agg #[.bool false, .slice none 0 0, .int .i64 0], .int .i64 9]) (by simp [results, Tryz.results24, go_sem, y0, y1, y2]) rfl ?_
    exact ⟨HF.out _ _ rfl, ((hw1.setCell (p := ⟨w.heap.size + 1, 0, none⟩) (by simp) _).setCell (p := ⟨w.heap.size + 1, 1, none⟩) (by simp) _).setCell (p := ⟨w.heap.size + 1, 2, none⟩) (by simp) _⟩
end Go.Proofs.YtnlkcjfedomcgaaGreatDoor
