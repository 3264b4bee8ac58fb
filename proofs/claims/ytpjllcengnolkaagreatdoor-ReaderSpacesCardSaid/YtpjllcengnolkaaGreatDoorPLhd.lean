/-
  Contract of the scan's word and key.
  Contracts of value.Size and of reader's held.
-/
import Derived.Test.YtpjllcengnolkaaGreatDoorPLte
import Derived.Test.YtpjllcengnolkaaGreatDoorPLnm
set_option linter.unusedVariables false
set_option linter.unusedSimpArgs false
namespace Go.Proofs.YtpjllcengnolkaaGreatDoor
open Go.RowKit Go.Lib
variable {B : Nat} {L : List UInt8} {A : Option Addr} {c sb : Nat}

theorem key_c {w : World} {p o : Nat} (E : Env B L A c sb w p o) (hcap : L.length ≤ c) (nth : Nat) (hn : nth ≤ 100000) :
    Calls Tryz.prog 52 #[ptr sb, .int .i64 (nth : Int)] w (Po B L A c sb (fun k => k = sb) o rT w (rKey nth L p)) := by
  have hpn : ∀ (T : Nat) (v : Value) (w : World), (Instr.panic (.iface T v)).run Tryz.prog w = .halt (.panic (.iface T v)) w := fun _ _ _ => rfl
  obtain ⟨R, hR⟩ : ∃ R, rKey nth L p = R := ⟨_, rfl⟩
  rw [hR]
  unfold rKey rAt at hR
  have HE0 := Lib.hid E
  clear E
  go_enter Tryz.func52, Tryz.ntmps52
  go_wp2_with fail
  refine (peek_c HE0.out).mono ?_
  intro e w1 hp
  cases hr : rPeek L p with
  | bad q x =>
    rw [hr] at hp hR
    obtain ⟨rfl, hb⟩ := hp
    go_wp2_with fail
    rw [← (show RR.bad q x = R from hR)]
    exact ⟨rfl, rfl, hb.no⟩
  | ok x q =>
    obtain ⟨rfl, hx, hq⟩ := peek_ok hr
    rw [hr] at hp hR
    obtain ⟨⟨v, rfl, rfl⟩, hE, hb⟩ := hp
    obtain ⟨c0, c1, c2⟩ := hE.cells
    have HE1 := Lib.hid hE
    have HB1 := Lib.hid (hb.no (C := fun k => k = sb))
    clear hE hb HE0 hr
    simp only [RR.bind] at hR
    have hi : ((x.toNat : Int) == 34) = (x == 34) := u8I_eq x 34
    cases hg : (x == 34)
    · rw [hg] at hi
      simp only [hg, Bool.false_eq_true, if_false] at hR
      clear hg
      go_wp2_with fail
      rw [← (show RR.bad p 33 = R from hR)]
      exact ⟨rfl, rfl, HB1.out⟩
    · rw [hg] at hi
      simp only [hg, if_true] at hR
      clear hg
      by_cases h4 : 4096 < nth
      · have h5 : (4096 : Int) < (nth : Int) := by omega
        rw [if_pos h4] at hR
        clear h4
        go_wp2_with fail
        rw [← (show RR.bad p 3 = R from hR)]
        exact ⟨rfl, rfl, HB1.out⟩
      · have h5 : ¬ (4096 : Int) < (nth : Int) := by omega
        rw [if_neg h4] at hR
        clear h4
        go_wp2_with fail
        refine (text_c HE1.out hcap hq).mono ?_
        intro e w2 hp
        cases hr : rText L p with
        | bad q2 y =>
          rw [hr] at hp hR
          obtain ⟨rfl, hb⟩ := hp
          go_wp2_with fail
          rw [← (show RR.bad q2 y = R from hR)]
          exact ⟨rfl, rfl, HB1.out.trans hb⟩
        | ok z q2 =>
          rw [hr] at hp hR
          obtain ⟨⟨v, rfl, rfl⟩, hE, hb⟩ := hp
          have HE3 := Lib.hid hE
          have HB3 := Lib.hid (HB1.out.trans hb)
          clear hE hb
          go_wp2_with fail
          go_ret
          rw [← (show RR.ok z q2 = R from hR)]
          exact ⟨⟨_, rfl, rfl⟩, HE3.out, HB3.out⟩

set_option maxRecDepth 100000 in
set_option maxHeartbeats 1000000 in
theorem word_c {w : World} {p o : Nat} (E : Env B L A c sb w p o) (W : ByteArray) (hW : W.size ≤ 10) (kk : Int) :
    Calls Tryz.prog 40 #[ptr sb, .string W, .agg #[.int .i64 kk, .bool false, .slice none 0 0, .int .i64 0, .string ⟨#[]⟩, .slice none 0 0, .slice none 0 0]] w (Po B L A c sb (fun k => k = sb) o (fun _ _ v => v = .agg #[.int .i64 kk, .bool false, .slice none 0 0, .int .i64 0, .string ⟨#[]⟩, .slice none 0 0, .slice none 0 0]) w (rWord W.data.toList L p)) := by
  obtain ⟨R, hR⟩ : ∃ R, rWord W.data.toList L p = R := ⟨_, rfl⟩
  rw [hR]
  have hfit := E.fits
  have hlt := E.lt
  obtain ⟨NB, hNB⟩ : ∃ N, w.heap.size = N := ⟨_, rfl⟩
  have hb0 := ((But.refl (fun k => k = sb) w).alloc (.cells #[.int .i64 kk, .bool false, .slice none 0 0, .int .i64 0, .string ⟨#[]⟩, .slice none 0 0, .slice none 0 0] 34)).alloc (.cells #[.int .i64 0, .bool false, .slice none 0 0, .int .i64 0, .string ⟨#[]⟩, .slice none 0 0, .slice none 0 0] 34)
  have hE0 := E.stay (((But.refl (fun _ => False) _).alloc (.cells #[.int .i64 kk, .bool false, .slice none 0 0, .int .i64 0, .string ⟨#[]⟩, .slice none 0 0, .slice none 0 0] 34)).alloc (.cells #[.int .i64 0, .bool false, .slice none 0 0, .int .i64 0, .string ⟨#[]⟩, .slice none 0 0, .slice none 0 0] 34)) (fun _ _ h => h) (fun h => h)
  have hn2 := World.alloc_heap_new (w.alloc (.cells #[.int .i64 kk, .bool false, .slice none 0 0, .int .i64 0, .string ⟨#[]⟩, .slice none 0 0, .slice none 0 0] 34)) (.cells #[.int .i64 0, .bool false, .slice none 0 0, .int .i64 0, .string ⟨#[]⟩, .slice none 0 0, .slice none 0 0] 34)
  have hn1 := (Below.heap_alloc (w.alloc (.cells #[.int .i64 kk, .bool false, .slice none 0 0, .int .i64 0, .string ⟨#[]⟩, .slice none 0 0, .slice none 0 0] 34)) (.cells #[.int .i64 0, .bool false, .slice none 0 0, .int .i64 0, .string ⟨#[]⟩, .slice none 0 0, .slice none 0 0] 34) w.heap.size (by simp)).trans (World.alloc_heap_new w _)
  rw [World.size_alloc] at hn2
  rw [hNB] at hn1 hn2
  have HR := Lib.hid hR
  have HNB := Lib.hid hNB
  have HLT := Lib.hid hlt
  clear E hR hlt
  go_enter Tryz.func40, Tryz.ntmps40
  go_wp2_with fail
  try rw [hNB]
  clear hNB
  generalize ((w.alloc (.cells #[.int .i64 kk, .bool false, .slice none 0 0, .int .i64 0, .string ⟨#[]⟩, .slice none 0 0, .slice none 0 0] 34)).alloc (.cells #[.int .i64 0, .bool false, .slice none 0 0, .int .i64 0, .string ⟨#[]⟩, .slice none 0 0, .slice none 0 0] 34)) = w0 at *
  obtain ⟨o1, ho1⟩ : ∃ o : Obj, (.cells #[.int .i64 kk, .bool false, .slice none 0 0, .int .i64 0, .string ⟨#[]⟩, .slice none 0 0, .slice none 0 0] 34) = o := ⟨_, rfl⟩
  obtain ⟨o2, ho2⟩ : ∃ o : Obj, (.cells #[.int .i64 0, .bool false, .slice none 0 0, .int .i64 0, .string ⟨#[]⟩, .slice none 0 0, .slice none 0 0] 34) = o := ⟨_, rfl⟩
  rw [ho1] at hn1
  rw [ho2] at hn2
  have HO1 := Lib.hid ho1
  have HO2 := Lib.hid ho2
  have HN1 := Lib.hid hn1
  have HN2 := Lib.hid hn2
  have HB0 := Lib.hid hb0
  have HE0 := Lib.hid hE0
  clear ho1 ho2 hn1 hn2 hb0 hE0
  go_loopw [10] (fun i wr => ∃ j q : Nat, i = .int .i64 (j : Int) ∧ j ≤ W.size ∧ Hid (rWord (W.data.toList.drop j) L q = R) ∧ Hid (Env B L A c sb wr q o) ∧ Hid (But (fun k => k = sb) w wr) ∧ Hid (wr.heap[NB]? = some o1) ∧ Hid (wr.heap[NB + 1]? = some o2)) (fun i _ => W.size - (RowKit.intOf i).toNat)
  case atStart => exact ⟨0, p, rfl, by omega, HR, HE0, HB0, HN1, HN2⟩
  case round =>
    obtain ⟨j, q, rfl, hj, hr, hE, hB, h1, h2⟩ := hrel
    clear HR HE0 HB0 HN1 HN2
    by_cases hjW : j < W.size
    · have hlt : (j : Int) < (W.size : Int) := by omega
      have hj0 : (0 : Int) ≤ (j : Int) := by omega
      have hjt : ((j : Int)).toNat = j := by omega
      have hjw : IntKind.i64.wrap ((j : Int) + 1) = (j : Int) + 1 := IntWalk.i64_in _ (by omega)
      have hdr : W.data.toList.drop j = W[j] :: W.data.toList.drop (j + 1) := by
        rw [List.drop_eq_getElem_cons (by rw [Array.length_toList]; exact hjW)]
        congr 1
      have hr1 := hr.out
      rw [hdr] at hr1
      obtain ⟨x, hx⟩ : ∃ x, W[j] = x := ⟨_, rfl⟩
      rw [hx] at hr1
      have HX := Lib.hid hx
      clear hdr hr hx
      go_wp2_with fail
      rw [HX.out]
      refine (one_c x wr).mono ?_
      rintro e' v1 ⟨rfl, hv⟩
      have hBv : But (fun _ => False) wr v1 := by rw [hv]; exact (But.refl _ _).alloc _
      have hcl : v1.cell? ⟨wr.heap.size, 0, none⟩ = some (.int .u8 (x.toNat : Int)) := by rw [hv]; exact cell_at3 (World.alloc_heap_new wr _) rfl
      have hEv := hE.out.stay hBv (fun _ _ h => h) (fun h => h)
      clear hv
      go_wp2_with fail
      refine (needOne_c hEv x hcl).mono ?_
      intro e w2 hp
      cases hrn : rNeed (· == x) L q with
      | bad q2 y =>
        rw [hrn] at hp
        unfold rWord rAt at hr1
        rw [hrn] at hr1
        obtain ⟨rfl, hb⟩ := hp
        go_wp2_with fail
        rw [← (show RR.bad q2 y = R from hr1)]
        exact ⟨rfl, rfl, hB.out.trans (hBv.no.trans hb)⟩
      | ok u q2 =>
        rw [hrn] at hp
        unfold rWord rAt at hr1
        rw [hrn] at hr1
        obtain ⟨⟨v, rfl, rfl⟩, hE2, hb⟩ := hp
        have hbb : But (fun k => k = sb) wr w2 := hBv.no.trans hb
        have HE2 := Lib.hid hE2
        have HB2 := Lib.hid (hB.out.trans hbb)
        have HN1 := Lib.hid ((hbb.block NB (Array.getElem?_eq_some_iff.1 h1.out).1 (fun h => by have := HNB.out; have := HLT.out; omega)).trans h1.out)
        have HN2 := Lib.hid ((hbb.block (NB + 1) (Array.getElem?_eq_some_iff.1 h2.out).1 (fun h => by have := HNB.out; have := HLT.out; omega)).trans h2.out)
        have HR1 := Lib.hid (show rWord (W.data.toList.drop (j + 1)) L q2 = R from hr1)
        clear hE2 hb hbb hBv hcl hEv hr1 hrn hE hB h1 h2
        go_wp2_with fail
        go_roundw
        case rel => exact ⟨j + 1, q2, by go_num, by omega, HR1, HE2, HB2, HN1, HN2⟩
        case measure => simp [RowKit.intOf]; omega
    · obtain rfl : j = W.size := by omega
      have hlt : ¬ (W.size : Int) < (W.size : Int) := by omega
      have hr1 := hr.out
      rw [List.drop_of_length_le (by rw [Array.length_toList]; exact Nat.le_refl _)] at hr1
      clear hr
      go_wp2_with fail
      refine (apart_c hE.out).mono ?_
      intro e w2 hp
      cases hrn : rApart L q with
      | bad q2 y =>
        rw [hrn] at hp
        unfold rWord at hr1
        rw [hrn] at hr1
        obtain ⟨rfl, hb⟩ := hp
        go_wp2_with fail
        rw [← hr1]
        exact ⟨rfl, rfl, hB.out.trans hb.no⟩
      | ok u q2 =>
        rw [hrn] at hp
        unfold rWord at hr1
        rw [hrn] at hr1
        obtain ⟨⟨v, rfl, rfl⟩, hE2, hb⟩ := hp
        have HE2 := Lib.hid hE2
        have HB2 := Lib.hid (hB.out.trans (hb.no (C := fun k => k = sb)))
        have hn1 := (hb.block NB (Array.getElem?_eq_some_iff.1 h1.out).1 (fun h => h)).trans h1.out
        have hn2 := (hb.block (NB + 1) (Array.getElem?_eq_some_iff.1 h2.out).1 (fun h => h)).trans h2.out
        rw [← HO1.out] at hn1
        rw [← HO2.out] at hn2
        obtain ⟨x0, x1, x2, x3, x4, x5, x6⟩ := box7_of hn1
        obtain ⟨y0, y1, y2, y3, y4, y5, y6⟩ := box7_of hn2
        have fz : ∀ i, w2.frozen? ⟨NB + 1, i, none⟩ = false ∨ True := fun i => .inr trivial
        have f0 : w2.frozen? ⟨NB + 1, 0, none⟩ = false := by simp [World.frozen?, hn2]
        have f1 : w2.frozen? ⟨NB + 1, 1, none⟩ = false := by simp [World.frozen?, hn2]
        have f2 : w2.frozen? ⟨NB + 1, 2, none⟩ = false := by simp [World.frozen?, hn2]
        have f3 : w2.frozen? ⟨NB + 1, 3, none⟩ = false := by simp [World.frozen?, hn2]
        have f4 : w2.frozen? ⟨NB + 1, 4, none⟩ = false := by simp [World.frozen?, hn2]
        have f5 : w2.frozen? ⟨NB + 1, 5, none⟩ = false := by simp [World.frozen?, hn2]
        have f6 : w2.frozen? ⟨NB + 1, 6, none⟩ = false := by simp [World.frozen?, hn2]
        have HR1 := Lib.hid hr1
        clear hE2 hb hr1 hrn hE hB h1 h2 hn1 hn2 fz
        go_wp2_with fail
        have hC : But (fun k => k = sb) w (((((((w2.setCell ⟨NB + 1, 0, none⟩ (.int .i64 kk)).setCell ⟨NB + 1, 1, none⟩ (.bool false)).setCell ⟨NB + 1, 2, none⟩ (.slice none 0 0)).setCell ⟨NB + 1, 3, none⟩ (.int .i64 0)).setCell ⟨NB + 1, 4, none⟩ (.string ⟨#[]⟩)).setCell ⟨NB + 1, 5, none⟩ (.slice none 0 0)).setCell ⟨NB + 1, 6, none⟩ (.slice none 0 0)) := by
          have hnb : w.heap.size ≤ NB + 1 := by have := HNB.out; omega
          exact ((((((HB2.out.setCell (p := ⟨NB + 1, 0, none⟩) (.inr hnb) _).setCell (p := ⟨NB + 1, 1, none⟩) (.inr hnb) _).setCell (p := ⟨NB + 1, 2, none⟩) (.inr hnb) _).setCell (p := ⟨NB + 1, 3, none⟩) (.inr hnb) _).setCell (p := ⟨NB + 1, 4, none⟩) (.inr hnb) _).setCell (p := ⟨NB + 1, 5, none⟩) (.inr hnb) _).setCell (p := ⟨NB + 1, 6, none⟩) (.inr hnb) _
        have hD : But (fun k => k = NB + 1) w2 (((((((w2.setCell ⟨NB + 1, 0, none⟩ (.int .i64 kk)).setCell ⟨NB + 1, 1, none⟩ (.bool false)).setCell ⟨NB + 1, 2, none⟩ (.slice none 0 0)).setCell ⟨NB + 1, 3, none⟩ (.int .i64 0)).setCell ⟨NB + 1, 4, none⟩ (.string ⟨#[]⟩)).setCell ⟨NB + 1, 5, none⟩ (.slice none 0 0)).setCell ⟨NB + 1, 6, none⟩ (.slice none 0 0)) :=
          But.setCell (C := fun k => k = NB + 1) (But.setCell (C := fun k => k = NB + 1) (But.setCell (C := fun k => k = NB + 1) (But.setCell (C := fun k => k = NB + 1) (But.setCell (C := fun k => k = NB + 1) (But.setCell (C := fun k => k = NB + 1) (But.setCell (C := fun k => k = NB + 1) (But.refl _ _) (p := ⟨NB + 1, 0, none⟩) (.inl rfl) _) (p := ⟨NB + 1, 1, none⟩) (.inl rfl) _) (p := ⟨NB + 1, 2, none⟩) (.inl rfl) _) (p := ⟨NB + 1, 3, none⟩) (.inl rfl) _) (p := ⟨NB + 1, 4, none⟩) (.inl rfl) _) (p := ⟨NB + 1, 5, none⟩) (.inl rfl) _) (p := ⟨NB + 1, 6, none⟩) (.inl rfl) _
        have hE3 := HE2.out.stay hD (fun k hk h => by have := HE2.out.base; have := HNB.out; have := HLT.out; omega) (fun h => by have := HNB.out; have := HLT.out; omega)
        refine bodyPost_ret (v := .agg #[.int .i64 kk, .bool false, .slice none 0 0, .int .i64 0, .string ⟨#[]⟩, .slice none 0 0, .slice none 0 0]) (by simp [results, Tryz.results40, go_sem, y0, y1, y2, y3, y4, y5, y6]) rfl ?_
        rw [← HR1.out]
        exact ⟨⟨_, rfl, rfl⟩, hE3, hC⟩
end Go.Proofs.YtpjllcengnolkaaGreatDoor

namespace Go.Proofs.YtpjllcengnolkaaGreatDoor
open Go.RowKit Go.Lib

set_option maxRecDepth 100000 in
set_option maxHeartbeats 1000000 in
theorem Size_c {S : Nat → Prop} {x : VT} {cs : List Value} (w : World) (hx : VIn w S x cs) (hS : ∀ b, S b → b < w.heap.size) :
    Calls Tryz.prog 70 #[.agg cs.toArray] w fun e w' => e = .returned (.int .i64 ((min 1048576 (seen x).length : Nat) : Int)) ∧ Below w.heap.size w w' := by
  have HX := Lib.hid hx
  have HS := Lib.hid hS
  clear hS
  obtain ⟨k, neg, xs, e, t, li, ks, hxk⟩ : ∃ k neg xs e t li ks, x = VT.mk k neg xs e t li ks := by cases x; exact ⟨_, _, _, _, _, _, _, rfl⟩
  rw [hxk] at hx
  obtain ⟨A, n, c, LA, ln, lc, KA, kn, kc, rfl, -⟩ := hx.parts
  clear hx hxk
  have hb := (But.refl (fun _ => False) w).alloc (.cells #[.int .i64 k, .bool neg, .slice A n c, .int .i64 e, .string t, .slice LA ln lc, .slice KA kn kc] 34)
  have hm := World.alloc_heap_new w (.cells #[.int .i64 k, .bool neg, .slice A n c, .int .i64 e, .string t, .slice LA ln lc, .slice KA kn kc] 34)
  obtain ⟨M, hM⟩ : ∃ M : Nat, M = 1048576 := ⟨_, rfl⟩
  have hc := fun V (hV : But (fun _ => False) w V) => size_c M V (HX.out.keep fun p hp => hV.cell (HS.out _ hp) (fun h => h)) (fun b hb => Nat.lt_of_lt_of_le (HS.out b hb) hV.size) (by omega) (by omega)
  obtain ⟨R, hR⟩ : ∃ R : Nat, min M (seen x).length = R := ⟨_, rfl⟩
  rw [hR] at hc
  rw [← hM, hR]
  rw [hM] at hc
  have HC := Lib.hid hc
  clear hc hR hM
  go_enter Tryz.func70, Tryz.ntmps70
  go_upto_region 1 with fail
  obtain ⟨nb, hnb⟩ : ∃ b, w.heap.size = b := ⟨_, rfl⟩
  rw [hnb] at hm
  try rw [hnb]
  generalize (w.alloc (.cells #[.int .i64 k, .bool neg, .slice A n c, .int .i64 e, .string t, .slice LA ln lc, .slice KA kn kc] 34)) = w1 at *
  obtain ⟨x0, x1, x2, x3, x4, x5, x6⟩ := box7_of hm
  go_wp2_with fail
  refine (HC.out w1 hb).mono ?_
  rintro e' w2 ⟨rfl, hb2⟩
  go_wp2_with fail
  go_ret
  refine ⟨rfl, ?_⟩
  exact (hb.below (Nat.le_refl _) (fun _ _ h => h)).trans (hb2.mono hb.size)

set_option maxRecDepth 100000 in
set_option maxHeartbeats 1000000 in
theorem held_c {S : Nat → Prop} {x : VT} {cs : List Value} (w : World) (f : Nat) (hx : VIn w S x cs) (hS : ∀ b, S b → b < w.heap.size) :
    Calls Tryz.prog 50 #[.int .i64 (f : Int), .agg cs.toArray] w fun e w' => e = (if 16384 < (seen x).length then Flt f 3 else .returned (.agg cs.toArray)) ∧ But (fun _ => False) w w' := by
  have hpn : ∀ (T : Nat) (v : Value) (w : World), (Instr.panic (.iface T v)).run Tryz.prog w = .halt (.panic (.iface T v)) w := fun _ _ _ => rfl
  have HX := Lib.hid hx
  have HS := Lib.hid hS
  clear hS
  obtain ⟨k, neg, xs, e, t, li, ks, hxk⟩ : ∃ k neg xs e t li ks, x = VT.mk k neg xs e t li ks := by cases x; exact ⟨_, _, _, _, _, _, _, rfl⟩
  rw [hxk] at hx
  obtain ⟨A, n, c, LA, ln, lc, KA, kn, kc, rfl, -⟩ := hx.parts
  clear hx hxk
  have hb := ((But.refl (fun _ => False) w).alloc (.cells #[.int .i64 k, .bool neg, .slice A n c, .int .i64 e, .string t, .slice LA ln lc, .slice KA kn kc] 34)).alloc (.cells #[.int .i64 0, .bool false, .slice none 0 0, .int .i64 0, .string ⟨#[]⟩, .slice none 0 0, .slice none 0 0] 34)
  have hn2 := World.alloc_heap_new (w.alloc (.cells #[.int .i64 k, .bool neg, .slice A n c, .int .i64 e, .string t, .slice LA ln lc, .slice KA kn kc] 34)) (.cells #[.int .i64 0, .bool false, .slice none 0 0, .int .i64 0, .string ⟨#[]⟩, .slice none 0 0, .slice none 0 0] 34)
  have hn1 := (Below.heap_alloc (w.alloc (.cells #[.int .i64 k, .bool neg, .slice A n c, .int .i64 e, .string t, .slice LA ln lc, .slice KA kn kc] 34)) (.cells #[.int .i64 0, .bool false, .slice none 0 0, .int .i64 0, .string ⟨#[]⟩, .slice none 0 0, .slice none 0 0] 34) w.heap.size (by simp)).trans (World.alloc_heap_new w _)
  rw [World.size_alloc] at hn2
  have hc := fun V (hV : But (fun _ => False) w V) => Size_c V (HX.out.keep fun p hp => hV.cell (HS.out _ hp) (fun h => h)) (fun b hb => Nat.lt_of_lt_of_le (HS.out b hb) hV.size)
  obtain ⟨Q, hQ⟩ : ∃ Q : Nat, (seen x).length = Q := ⟨_, rfl⟩
  obtain ⟨R, hR⟩ : ∃ R : Nat, min 1048576 (seen x).length = R := ⟨_, rfl⟩
  rw [hR] at hc
  rw [hQ] at hR ⊢
  have HC := Lib.hid hc
  have hlt : (16384 : Int) < (R : Int) ↔ 16384 < Q := by omega
  clear hc hR hQ
  obtain ⟨nb, hnb⟩ : ∃ b, w.heap.size = b := ⟨_, rfl⟩
  rw [hnb] at hn1 hn2
  by_cases h16 : 16384 < Q
  all_goals
    first | rw [if_pos h16] | rw [if_neg h16]
    first | have h17 := hlt.2 h16 | have h17 : ¬ (16384 : Int) < (R : Int) := fun h => h16 (hlt.1 h)
    clear h16 hlt
    go_enter Tryz.func50, Tryz.ntmps50
    go_upto_region 1 with fail
    try rw [hnb]
    generalize ((w.alloc (.cells #[.int .i64 k, .bool neg, .slice A n c, .int .i64 e, .string t, .slice LA ln lc, .slice KA kn kc] 34)).alloc (.cells #[.int .i64 0, .bool false, .slice none 0 0, .int .i64 0, .string ⟨#[]⟩, .slice none 0 0, .slice none 0 0] 34)) = w1 at *
    obtain ⟨x0, x1, x2, x3, x4, x5, x6⟩ := box7_of hn1
    go_wp2_with fail
    refine (HC.out w1 hb).mono ?_
    rintro e' w2 ⟨rfl, hb2⟩
    have hB2 := hb.trans (But.of (C := fun _ => False) hb2)
    have h1 := (hb2.block nb (Array.getElem?_eq_some_iff.1 hn1).1).trans hn1
    have h2 := (hb2.block (nb + 1) (Array.getElem?_eq_some_iff.1 hn2).1).trans hn2
    clear x0 x1 x2 x3 x4 x5 x6 hn1 hn2 hb hb2
    obtain ⟨x0, x1, x2, x3, x4, x5, x6⟩ := box7_of h1
    obtain ⟨y0, y1, y2, y3, y4, y5, y6⟩ := box7_of h2
    have f0 : w2.frozen? ⟨nb + 1, 0, none⟩ = false := by simp [World.frozen?, h2]
    have f1 : w2.frozen? ⟨nb + 1, 1, none⟩ = false := by simp [World.frozen?, h2]
    have f2 : w2.frozen? ⟨nb + 1, 2, none⟩ = false := by simp [World.frozen?, h2]
    have f3 : w2.frozen? ⟨nb + 1, 3, none⟩ = false := by simp [World.frozen?, h2]
    have f4 : w2.frozen? ⟨nb + 1, 4, none⟩ = false := by simp [World.frozen?, h2]
    have f5 : w2.frozen? ⟨nb + 1, 5, none⟩ = false := by simp [World.frozen?, h2]
    have f6 : w2.frozen? ⟨nb + 1, 6, none⟩ = false := by simp [World.frozen?, h2]
    have HB2 := Lib.hid hB2
    clear hB2 h1 h2
    go_wp2_with fail
    first
      | exact ⟨rfl, rfl, HB2.out⟩
      | (refine bodyPost_ret (v := .agg #[.int .i64 k, .bool neg, .slice A n c, .int .i64 e, .string t, .slice LA ln lc, .slice KA kn kc]) (by simp [results, Tryz.results50, go_sem, y0, y1, y2, y3, y4, y5, y6]) rfl ?_
         exact ⟨rfl, ((((((HB2.out.setCell (p := ⟨nb + 1, 0, none⟩) (.inr (by show _ ≤ nb + 1; omega)) _).setCell (p := ⟨nb + 1, 1, none⟩) (.inr (by show _ ≤ nb + 1; omega)) _).setCell (p := ⟨nb + 1, 2, none⟩) (.inr (by show _ ≤ nb + 1; omega)) _).setCell (p := ⟨nb + 1, 3, none⟩) (.inr (by show _ ≤ nb + 1; omega)) _).setCell (p := ⟨nb + 1, 4, none⟩) (.inr (by show _ ≤ nb + 1; omega)) _).setCell (p := ⟨nb + 1, 5, none⟩) (.inr (by show _ ≤ nb + 1; omega)) _).setCell (p := ⟨nb + 1, 6, none⟩) (.inr (by show _ ≤ nb + 1; omega)) _⟩)
end Go.Proofs.YtpjllcengnolkaaGreatDoor
